/- Texts of ours, one behind the other: Rd Dk Bos Bl BlNumWalks BoxV LowKit FixWalks SealWalks CheckDWalks DiskChkWalks RCellE RFixOnly RUnfixOnly -/
import Derived.Test.YtbakgobgjfhhhaaDoorPsaa
import Derived.Deep.OwnRows
import Derived.Laws.Rows
import Derived.OwnWalk
import Derived.Test.YtbakgobgjfhhhaaDoorPsab
import Derived.WalkMore
import Derived.RegionTactic
import Derived.Test.YtbakgobgjfhhhaaDoorPsaf
import Derived.Laws.IdiomStrings
import Derived.Laws.BytesArg

/- A slice that can be read, whatever its elements are: by its cells. -/
namespace Go.Proofs.YtbakgobgjfhhhaaDoor
open Go.RowKit

/-- the answer says just that -/
def IffB (b : Bool) (p : Prop) : Prop := b = true ↔ p
theorem IffB.t {p : Prop} (h : p) : IffB true p := ⟨fun _ => h, fun _ => rfl⟩
theorem IffB.f {p : Prop} (h : ¬ p) : IffB false p := ⟨fun e => (by cases e), fun e => absurd e h⟩
theorem IffB.yes {b : Bool} {p : Prop} (h : IffB b p) (hp : p) : b = true := h.2 hp
theorem IffB.no {b : Bool} {p : Prop} (h : IffB b p) (hp : ¬ p) : b = false := by
  cases b with
  | false => rfl
  | true => exact absurd (h.1 rfl) hp
theorem IffB.congr {b : Bool} {p q : Prop} (h : IffB b p) (e : p ↔ q) : IffB b q := h.trans e
theorem addR (b off k : Nat) : (⟨b, off, none⟩ : Addr).add k = ⟨b, off + k, none⟩ := by unfold Addr.add; split <;> simp_all
/-- n elements of so many cells each lie there -/
structure Rd (w : World) (a0 : Option Addr) (n size : Nat) (xs : List Value) : Prop where
  len : xs.length = n * size
  at' : 0 < n → ∃ b off, a0 = some ⟨b, off, none⟩ ∧ b < w.heap.size ∧ ∀ j u, xs[j]? = some u → w.cell? ⟨b, off + j, none⟩ = some u
theorem Rd.below {w w' : World} {a0 : Option Addr} {n size : Nat} {xs : List Value} (h : Rd w a0 n size xs) (hb : Below w.heap.size w w') : Rd w' a0 n size xs :=
  ⟨h.len, fun hp => by
    obtain ⟨b, off, h1, h2, h3⟩ := h.at' hp
    exact ⟨b, off, h1, Nat.lt_of_lt_of_le h2 hb.size, fun j u hj => (hb.cell (p := ⟨b, off + j, none⟩) h2).trans (h3 j u hj)⟩⟩
theorem Rd.nil (w : World) (a0 : Option Addr) (size : Nat) : Rd w a0 0 size [] := ⟨by simp, fun h => by omega⟩
theorem Rd.of_none {w : World} {n size : Nat} {xs : List Value} (h : Rd w Option.none n size xs) : n = 0 := by
  refine Classical.byContradiction fun hn => ?_
  obtain ⟨b, off, e, _⟩ := h.at' (by omega)
  cases e
theorem Rd.news {w : World} {ad : Addr} {n size : Nat} {xs : List Value} (h : Rd w (some ad) n size xs) : ∀ j u, xs[j]? = some u → w.cell? (ad.add j) = some u := by
  intro j u hj
  have hlt : j < n * size := by rw [← h.len]; exact (List.getElem?_eq_some_iff.1 hj).1
  have hn : 0 < n := by
    rcases Nat.eq_zero_or_pos n with h0 | h0
    · subst h0; rw [Nat.zero_mul] at hlt; omega
    · exact h0
  obtain ⟨b, off, e, _, hc⟩ := h.at' hn
  cases e
  rw [addR]; exact hc j u hj
theorem Rd.pre {w : World} {a0 : Option Addr} {n size : Nat} {xs : List Value} (h : Rd w a0 n size xs) (m : Nat) (hm : m ≤ n) : Rd w a0 m size (xs.take (m * size)) := by
  have hle : m * size ≤ n * size := Nat.mul_le_mul_right _ hm
  refine ⟨by rw [List.length_take, h.len]; omega, fun hp => ?_⟩
  obtain ⟨b, off, h1, h2, h3⟩ := h.at' (by omega)
  refine ⟨b, off, h1, h2, fun j u hj => h3 j u ?_⟩
  have hlt := (List.getElem?_eq_some_iff.1 hj).1
  rw [List.length_take] at hlt
  rwa [List.getElem?_take_of_lt (by omega)] at hj
theorem Rd.of_own {w : World} {N n size : Nat} {e : TypeId} {v : Value} {xs : List Value} (h : w.ownsRow N e size v n xs) :
    ∃ ao cap, v = .slice ao n cap ∧ n ≤ cap ∧ cap ≤ maxLen ∧ (ao = none → cap = 0) ∧ Rd w ao n size xs := by
  have hl := h.1
  rcases h.2 with ⟨rfl, rfl⟩ | ⟨g, cap, cur, rfl, _, hg, h1, h2, _, _⟩
  · exact ⟨_, _, rfl, Nat.le_refl _, Nat.zero_le _, fun _ => rfl, ⟨hl, fun hp => by omega⟩⟩
  · refine ⟨_, _, rfl, h1, h2, (fun e => by cases e), ⟨hl, fun _ => ⟨g, 0, rfl, (Array.getElem?_eq_some_iff.1 hg).1, fun j u hj => ?_⟩⟩⟩
    have := h.cells (g := g) rfl j u hj
    rwa [addR] at this

/-- texts as cells -/
def stC (C : List ByteArray) : List Value := C.map .string
theorem stC_length (C : List ByteArray) : (stC C).length = C.length := by simp [stC]
theorem stC_at (C : List ByteArray) (i : Nat) (h : i < C.length) : (stC C)[i]? = some (.string (C.getD i ⟨#[]⟩)) := by
  unfold stC
  rw [List.getElem?_map, List.getD_eq_getElem?_getD, List.getElem?_eq_getElem h]; rfl
theorem stC_one (C : List ByteArray) : ∀ u ∈ stC C, u.oneCell' = true := by
  intro u hu
  obtain ⟨s, _, rfl⟩ := List.mem_map.1 hu
  rfl
theorem stC_snoc (C : List ByteArray) (s : ByteArray) : stC (C ++ [s]) = stC C ++ [.string s] := by simp [stC]
theorem stC_set (C : List ByteArray) (i : Nat) (s : ByteArray) : stC (C.set i s) = (stC C).set i (.string s) := by simp [stC, List.map_set]
/-- Booleans as cells -/
def boC (K : List Bool) : List Value := K.map .bool
theorem boC_length (K : List Bool) : (boC K).length = K.length := by simp [boC]
theorem boC_at (K : List Bool) (i : Nat) (h : i < K.length) : (boC K)[i]? = some (.bool (K.getD i false)) := by
  unfold boC
  rw [List.getElem?_map, List.getD_eq_getElem?_getD, List.getElem?_eq_getElem h]; rfl
theorem boC_one (K : List Bool) : ∀ u ∈ boC K, u.oneCell' = true := by
  intro u hu
  obtain ⟨s, _, rfl⟩ := List.mem_map.1 hu
  rfl
end Go.Proofs.YtbakgobgjfhhhaaDoor

/- Disks in memory. -/
namespace Go.Proofs.YtbakgobgjfhhhaaDoor
open Go.RowKit

def pt2 (p : Pt) : List Value := [.int .i64 p.pl, .string p.tx]
def ptC (P : List Pt) : List Value := P.flatMap pt2
theorem ptC_length (P : List Pt) : (ptC P).length = P.length * 2 := by
  induction P with
  | nil => rfl
  | cons m t ih => rw [ptC, List.flatMap_cons, List.length_append, ← ptC, ih]; simp [pt2]; omega
theorem ptC_snoc (P : List Pt) (p : Pt) : ptC (P ++ [p]) = ptC P ++ pt2 p := by simp [ptC]
theorem ptC_at (P : List Pt) : ∀ i (_ : i < P.length), (ptC P)[i * 2]? = some (.int .i64 (P.getD i noPt).pl) ∧ (ptC P)[i * 2 + 1]? = some (.string (P.getD i noPt).tx) := by
  induction P with
  | nil => intro i h; simp at h
  | cons m t ih =>
    intro i h
    have e : ptC (m :: t) = .int .i64 m.pl :: .string m.tx :: ptC t := by simp [ptC, pt2]
    rw [e]
    cases i with
    | zero => exact ⟨rfl, rfl⟩
    | succ i =>
      have := ih i (by simpa using h)
      rw [show (i + 1) * 2 = i * 2 + 1 + 1 by omega]
      simp only [List.getElem?_cons_succ, List.getD_cons_succ]
      exact this
theorem ptC_one (P : List Pt) : ∀ u ∈ ptC P, u.oneCell' = true := by
  intro u hu
  obtain ⟨p, _, hp⟩ := List.mem_flatMap.1 hu
  simp only [pt2, List.mem_cons, List.not_mem_nil, or_false] at hp
  rcases hp with rfl | rfl <;> rfl
def op3 (o : Opp) : List Value := [.int .i64 o.kd, .int .i64 o.pl, .string o.tx]
def opC (l : List Opp) : List Value := l.flatMap op3
theorem opC_length (P : List Opp) : (opC P).length = P.length * 3 := by
  induction P with
  | nil => rfl
  | cons m t ih => rw [opC, List.flatMap_cons, List.length_append, ← opC, ih]; simp [op3]; omega
theorem opC_snoc (P : List Opp) (p : Opp) : opC (P ++ [p]) = opC P ++ op3 p := by simp [opC]
theorem opC_at (P : List Opp) : ∀ i (_ : i < P.length), (opC P)[i * 3]? = some (.int .i64 (P.getD i noOp).kd) ∧ (opC P)[i * 3 + 1]? = some (.int .i64 (P.getD i noOp).pl) ∧ (opC P)[i * 3 + 2]? = some (.string (P.getD i noOp).tx) := by
  induction P with
  | nil => intro i h; simp at h
  | cons m t ih =>
    intro i h
    have e : opC (m :: t) = .int .i64 m.kd :: .int .i64 m.pl :: .string m.tx :: opC t := by simp [opC, op3]
    rw [e]
    cases i with
    | zero => exact ⟨rfl, rfl, rfl⟩
    | succ i =>
      have := ih i (by simpa using h)
      rw [show (i + 1) * 3 = i * 3 + 1 + 1 + 1 by omega]
      simp only [List.getElem?_cons_succ, List.getD_cons_succ]
      exact this
theorem opC_one (P : List Opp) : ∀ u ∈ opC P, u.oneCell' = true := by
  intro u hu
  obtain ⟨p, _, hp⟩ := List.mem_flatMap.1 hu
  simp only [op3, List.mem_cons, List.not_mem_nil, or_false] at hp
  rcases hp with rfl | rfl | rfl <;> rfl
/-- numbers that an int holds -/
def PtB (P : List Pt) : Prop := ∀ p ∈ P, -9223372036854775808 ≤ p.pl ∧ p.pl ≤ 9223372036854775807
def OpB (P : List Opp) : Prop := ∀ p ∈ P, (-9223372036854775808 ≤ p.kd ∧ p.kd ≤ 9223372036854775807) ∧ (-9223372036854775808 ≤ p.pl ∧ p.pl ≤ 9223372036854775807)
/-- a disk that can be read -/
structure Dk (w : World) (a0 : Option Addr) (n : Nat) (a1 : Option Addr) (m : Nat) (C : List ByteArray) (P : List Pt) : Prop where
  nC : C.length = n
  mP : P.length = m
  nB : n ≤ 8796093022208
  mB : m ≤ 5864062014805
  rc : Rd w a0 n 1 (stC C)
  rp : Rd w a1 m 2 (ptC P)
  pB : PtB P
  sB : ∀ s ∈ C, s.size ≤ 140737488355328
  tB : ∀ p ∈ P, p.tx.size ≤ 140737488355328
theorem Dk.below {w w' : World} {a0 : Option Addr} {n : Nat} {a1 : Option Addr} {m : Nat} {C : List ByteArray} {P : List Pt} (h : Dk w a0 n a1 m C P) (hb : Below w.heap.size w w') : Dk w' a0 n a1 m C P :=
  ⟨h.nC, h.mP, h.nB, h.mB, h.rc.below hb, h.rp.below hb, h.pB, h.sB, h.tB⟩
theorem Dk.drew {w : World} {a0 : Option Addr} {n : Nat} {a1 : Option Addr} {m : Nat} {C : List ByteArray} {P : List Pt} (h : Dk w a0 n a1 m C P) : Dk w.drew a0 n a1 m C P := h.below ((Below.refl _ w).drew)
theorem Dk.cell {w : World} {a0 : Option Addr} {n : Nat} {a1 : Option Addr} {m : Nat} {C : List ByteArray} {P : List Pt} (h : Dk w a0 n a1 m C P) (k : Nat) (hk : k < n) :
    ∃ b off, a0 = some ⟨b, off, none⟩ ∧ b < w.heap.size ∧ w.cell? ⟨b, off + k, none⟩ = some (.string (C.getD k ⟨#[]⟩)) := by
  obtain ⟨b, off, e, hb, hc⟩ := h.rc.at' (by omega)
  exact ⟨b, off, e, hb, hc k _ (stC_at C k (by rw [h.nC]; exact hk))⟩
theorem Dk.put {w : World} {a0 : Option Addr} {n : Nat} {a1 : Option Addr} {m : Nat} {C : List ByteArray} {P : List Pt} (h : Dk w a0 n a1 m C P) (k : Nat) (hk : k < m) :
    ∃ b off, a1 = some ⟨b, off, none⟩ ∧ b < w.heap.size ∧ w.cell? ⟨b, off + k * 2, none⟩ = some (.int .i64 (P.getD k noPt).pl) ∧ w.cell? ⟨b, off + k * 2 + 1, none⟩ = some (.string (P.getD k noPt).tx) := by
  obtain ⟨b, off, e, hb, hc⟩ := h.rp.at' (by omega)
  have := ptC_at P k (by rw [h.mP]; exact hk)
  exact ⟨b, off, e, hb, hc _ _ this.1, by have := hc _ _ this.2; rwa [← Nat.add_assoc] at this⟩
end Go.Proofs.YtbakgobgjfhhhaaDoor

/- Booleans that came in as a slice. -/
namespace Go.Proofs.YtbakgobgjfhhhaaDoor
open Go.RowKit

/-- Booleans that came in as a slice -/
structure Bos (w : World) (a0 : Option Addr) (k : Nat) (K : List Bool) : Prop where
  nK : K.length = k
  kB : k ≤ 140737488355328
  rk : Rd w a0 k 1 (boC K)
theorem Bos.below {w w' : World} {a0 : Option Addr} {k : Nat} {K : List Bool} (h : Bos w a0 k K) (hb : Below w.heap.size w w') : Bos w' a0 k K := ⟨h.nK, h.kB, h.rk.below hb⟩
theorem Bos.drew {w : World} {a0 : Option Addr} {k : Nat} {K : List Bool} (h : Bos w a0 k K) : Bos w.drew a0 k K := h.below ((Below.refl _ w).drew)
theorem Bos.keptN {w w' : World} {N : Nat} {a0 : Option Addr} {k : Nat} {K : List Bool} (h : Bos w a0 k K) (hb : Below N w w') (ha : 0 < k → ∀ a, a0 = some a → a.block < N) : Bos w' a0 k K :=
  ⟨h.nK, h.kB, h.rk.len, fun hp => by
    obtain ⟨b, off, h1, h2, h3⟩ := h.rk.at' hp
    have hl : b < N := ha hp _ h1
    exact ⟨b, off, h1, Nat.lt_of_lt_of_le h2 hb.size, fun j u hj => (hb.cell (p := ⟨b, off + j, none⟩) hl).trans (h3 j u hj)⟩⟩
theorem Bos.low {w : World} {a0 : Option Addr} {k : Nat} {K : List Bool} (h : Bos w a0 k K) : 0 < k → ∀ a, a0 = some a → a.block < w.heap.size := fun hp a ha => by
  obtain ⟨b, off, h1, h2, _⟩ := h.rk.at' hp
  rw [h1] at ha
  cases ha
  exact h2
theorem keepL_out (K : List Bool) (i : Nat) (h : K.length ≤ i) : keepL K i = false := by
  unfold keepL
  rw [List.getD_eq_getElem?_getD, List.getElem?_eq_none h]; rfl
end Go.Proofs.YtbakgobgjfhhhaaDoor

/- Blobs in memory. -/
namespace Go.Proofs.YtbakgobgjfhhhaaDoor
open Go.RowKit

def bl4 (b : Blb) : List Value := [.int .i64 b.kd, .int .i64 b.io, .int .i64 b.nt, .string b.tx]
def blC (l : List Blb) : List Value := l.flatMap bl4
theorem blC_length (P : List Blb) : (blC P).length = P.length * 4 := by
  induction P with
  | nil => rfl
  | cons m t ih => rw [blC, List.flatMap_cons, List.length_append, ← blC, ih]; simp [bl4]; omega
theorem blC_snoc (P : List Blb) (p : Blb) : blC (P ++ [p]) = blC P ++ bl4 p := by simp [blC]
theorem blC_app (P Q : List Blb) : blC (P ++ Q) = blC P ++ blC Q := by simp [blC]
theorem blC_at (P : List Blb) : ∀ i (_ : i < P.length), (blC P)[i * 4]? = some (.int .i64 (P.getD i noBl).kd) ∧ (blC P)[i * 4 + 1]? = some (.int .i64 (P.getD i noBl).io) ∧ (blC P)[i * 4 + 2]? = some (.int .i64 (P.getD i noBl).nt) ∧ (blC P)[i * 4 + 3]? = some (.string (P.getD i noBl).tx) := by
  induction P with
  | nil => intro i h; simp at h
  | cons m t ih =>
    intro i h
    have e : blC (m :: t) = .int .i64 m.kd :: .int .i64 m.io :: .int .i64 m.nt :: .string m.tx :: blC t := by simp [blC, bl4]
    rw [e]
    cases i with
    | zero => exact ⟨rfl, rfl, rfl, rfl⟩
    | succ i =>
      have := ih i (by simpa using h)
      rw [show (i + 1) * 4 = i * 4 + 1 + 1 + 1 + 1 by omega]
      simp only [List.getElem?_cons_succ, List.getD_cons_succ]
      exact this
theorem blC_one (P : List Blb) : ∀ u ∈ blC P, u.oneCell' = true := by
  intro u hu
  obtain ⟨p, _, hp⟩ := List.mem_flatMap.1 hu
  simp only [bl4, List.mem_cons, List.not_mem_nil, or_false] at hp
  rcases hp with rfl | rfl | rfl | rfl <;> rfl
/-- numbers that an int holds, texts that there may be -/
structure BlB (b : Blb) : Prop where
  k : -9223372036854775808 ≤ b.kd ∧ b.kd ≤ 9223372036854775807
  i : -9223372036854775808 ≤ b.io ∧ b.io ≤ 9223372036854775807
  n : -9223372036854775808 ≤ b.nt ∧ b.nt ≤ 9223372036854775807
  t : b.tx.size ≤ 140737488355328
/-- blobs that can be read -/
structure Bls (w : World) (a0 : Option Addr) (n cap : Nat) (l : List Blb) : Prop where
  nL : l.length = n
  nB : n ≤ 8796093022208
  rd : Rd w a0 n 4 (blC l)
  bB : ∀ b ∈ l, BlB b
  kc : n ≤ cap
  km : cap ≤ maxLen
  nc : a0 = none → cap = 0
theorem Bls.below {w w' : World} {a0 : Option Addr} {n cap : Nat} {l : List Blb} (h : Bls w a0 n cap l) (hb : Below w.heap.size w w') : Bls w' a0 n cap l := ⟨h.nL, h.nB, h.rd.below hb, h.bB, h.kc, h.km, h.nc⟩
theorem Bls.drew {w : World} {a0 : Option Addr} {n cap : Nat} {l : List Blb} (h : Bls w a0 n cap l) : Bls w.drew a0 n cap l := h.below ((Below.refl _ w).drew)
theorem Bls.at {w : World} {a0 : Option Addr} {n cap : Nat} {l : List Blb} (h : Bls w a0 n cap l) (k : Nat) (hk : k < n) :
    ∃ b off, a0 = some ⟨b, off, none⟩ ∧ b < w.heap.size ∧ w.cell? ⟨b, off + k * 4, none⟩ = some (.int .i64 (l.getD k noBl).kd) ∧ w.cell? ⟨b, off + k * 4 + 1, none⟩ = some (.int .i64 (l.getD k noBl).io) ∧ w.cell? ⟨b, off + k * 4 + 2, none⟩ = some (.int .i64 (l.getD k noBl).nt) ∧ w.cell? ⟨b, off + k * 4 + 3, none⟩ = some (.string (l.getD k noBl).tx) := by
  obtain ⟨b, off, e, hb, hc⟩ := h.rd.at' (by omega)
  have := blC_at l k (by rw [h.nL]; exact hk)
  exact ⟨b, off, e, hb, hc _ _ this.1, by have := hc _ _ this.2.1; rwa [← Nat.add_assoc] at this, by have := hc _ _ this.2.2.1; rwa [← Nat.add_assoc] at this, by have := hc _ _ this.2.2.2; rwa [← Nat.add_assoc] at this⟩
/-- from the m-th on: the address as it is sliced -/
theorem Bls.suf {w : World} {b off n cap : Nat} {l : List Blb} (h : Bls w (some ⟨b, off, none⟩) n cap l) (m : Nat) (hm : m ≤ n) (a : Option Addr) (ha : m < n → a = some ⟨b, off + m * 4, none⟩) (hn : a = none → cap - m = 0) : Bls w a (n - m) (cap - m) (l.drop m) := by
  have hlen : (l.drop m).length = n - m := by rw [List.length_drop, h.nL]
  refine ⟨hlen, by have := h.nB; omega, ⟨by rw [blC_length, hlen], fun hp => ?_⟩, fun b hb => h.bB b (List.mem_of_mem_drop hb), by have := h.kc; omega, by have := h.km; omega, hn⟩
  obtain ⟨b', off', e, hb, hc⟩ := h.rd.at' (by omega)
  cases e
  refine ⟨b, off + m * 4, ha (by omega), hb, fun j u hj => ?_⟩
  have e : blC l = blC (l.take m) ++ blC (l.drop m) := by rw [← blC_app, List.take_append_drop]
  have hl : (blC (l.take m)).length = m * 4 := by rw [blC_length, List.length_take, h.nL, Nat.min_eq_left hm]
  have := hc (m * 4 + j) u (by rw [e, List.getElem?_append_right (by omega), hl, Nat.add_sub_cancel_left]; exact hj)
  rwa [← Nat.add_assoc] at this
theorem Bls.pre {w : World} {a0 : Option Addr} {n cap : Nat} {l : List Blb} (h : Bls w a0 n cap l) (m : Nat) (hm : m ≤ n) : Bls w a0 m cap (l.take m) := by
  have hl : (l.take m).length = m := by rw [List.length_take, h.nL, Nat.min_eq_left hm]
  refine ⟨hl, by have := h.nB; omega, ⟨by rw [blC_length, hl], fun hp => ?_⟩, fun b hb => h.bB b (List.mem_of_mem_take hb), by have := h.kc; omega, h.km, h.nc⟩
  obtain ⟨b, off, e, hb, hc⟩ := h.rd.at' (by omega)
  refine ⟨b, off, e, hb, fun j u hj => hc j u ?_⟩
  have e2 : blC l = blC (l.take m) ++ blC (l.drop m) := by rw [← blC_app, List.take_append_drop]
  rw [e2, List.getElem?_append_left (List.getElem?_eq_some_iff.1 hj).1]; exact hj
/-- resliced from the m-th on -/
theorem Bls.reslice {w : World} {a : Option Addr} {n c : Nat} {l : List Blb} (h : Bls w a n c l) (m : Nat) (hm : m ≤ n) : Bls w (if c = m then a else a.map (·.add (m * 4))) (n - m) (c - m) (l.drop m) := by
  by_cases hc : c = m
  · rw [if_pos hc]
    have hk := h.kc
    have e1 : n - m = 0 := by omega
    have e2 : c - m = 0 := by omega
    have e3 : l.drop m = [] := List.drop_of_length_le (by rw [h.nL]; omega)
    rw [e1, e2, e3]
    exact ⟨rfl, by omega, Rd.nil _ _ _, fun b hb => by simp at hb, by omega, by omega, fun _ => rfl⟩
  · rw [if_neg hc]
    have hk := h.kc
    match a, h with
    | none, h => exact absurd (h.nc rfl) (by omega)
    | some ad, h =>
      by_cases hn : 0 < n
      · obtain ⟨b, off, e, _⟩ := h.rd.at' hn
        cases e
        exact h.suf m hm _ (fun _ => by show some (Addr.add _ _) = _; rw [addR]) (fun e => by simp at e)
      · have hm0 : m = 0 := by omega
        subst hm0
        have e3 : l = [] := List.length_eq_zero_iff.1 (by rw [h.nL]; omega)
        subst e3
        have hn0 : n = 0 := by omega
        subst hn0
        exact ⟨rfl, by omega, Rd.nil _ _ _, fun b hb => by simp at hb, by omega, by have := h.km; omega, fun e => by simp at e⟩
theorem drop_at' {l : List Blb} {k n : Nat} (hl : l.length = n) (h : k < n) : l.drop k = l.getD k noBl :: l.drop (k + 1) := by
  rw [List.drop_eq_getElem_cons (by omega), List.getD_eq_getElem?_getD, List.getElem?_eq_getElem (by omega)]; rfl
theorem getD_memB {l : List Blb} {k n : Nat} (hl : l.length = n) (h : k < n) : l.getD k noBl ∈ l := by
  rw [List.getD_eq_getElem?_getD, List.getElem?_eq_getElem (by omega)]; exact List.getElem_mem _
end Go.Proofs.YtbakgobgjfhhhaaDoor

/- What blob.numbersOf answers. -/
namespace Go.Proofs.YtbakgobgjfhhhaaDoor
open Go.RowKit

set_option maxRecDepth 20000 in
theorem numK_any (k : Int) (w : World) : Calls Tryd.prog 81 #[.int .i64 k] w fun e w' => e = .returned (.int .i64 (numK k)) ∧ w' = w := by
  by_cases h1 : k = 1
  · subst h1
    go_enter Tryd.func81, Tryd.ntmps81
    go_wp2_with fail
    go_ret
    exact ⟨rfl, rfl⟩
  · have t1 : (k == 1) = false := by rw [beq_eq_false_iff_ne]; exact h1
    by_cases h2 : k = 2
    · subst h2
      go_enter Tryd.func81, Tryd.ntmps81
      go_wp2_with fail
      go_ret
      exact ⟨rfl, rfl⟩
    · have t2 : (k == 2) = false := by rw [beq_eq_false_iff_ne]; exact h2
      by_cases h3 : k = 3
      · subst h3
        go_enter Tryd.func81, Tryd.ntmps81
        go_wp2_with fail
        go_ret
        exact ⟨rfl, rfl⟩
      · have t3 : (k == 3) = false := by rw [beq_eq_false_iff_ne]; exact h3
        have hq : Hid (numK k = 0) := by show _ = _; unfold numK; rw [if_neg h1, if_neg (by omega)]
        clear h1 h2 h3
        go_enter Tryd.func81, Tryd.ntmps81
        go_wp2_with fail
        go_ret
        exact ⟨by rw [hq.out]; rfl, rfl⟩
end Go.Proofs.YtbakgobgjfhhhaaDoor

/- A value of several cells in a block of its own, whatever its cells are. -/
namespace Go.Proofs.YtbakgobgjfhhhaaDoor
open Go.RowKit

/-- cells in a block of their own, which may be written -/
structure BoxV (w : World) (g : Nat) (vs : List Value) : Prop where
  c : ∀ j u, vs[j]? = some u → w.cell? ⟨g, j, none⟩ = some u
  f : ∀ j, j < vs.length → w.frozen? ⟨g, j, none⟩ = false
  lt : g < w.heap.size
theorem boxV_new (w : World) (vs : List Value) (t : TypeId) : BoxV (w.alloc (.cells vs.toArray t)) w.heap.size vs := by
  refine ⟨fun j u hj => ?_, fun j _ => ?_, by simp⟩
  · rw [World.cell?_alloc_new]; simpa using hj
  · unfold World.frozen?
    rw [heap_alloc_new]
    rfl
theorem BoxV.keptN {w w' : World} {g N : Nat} {vs : List Value} (h : BoxV w g vs) (hb : Below N w w') (hg : g < N) : BoxV w' g vs :=
  ⟨fun j u hj => (hb.cell (p := ⟨g, j, none⟩) hg).trans (h.c j u hj), fun j hj => (World.frozen?_of_block (w := w) (a := ⟨g, j, none⟩) (hb.block g hg)).trans (h.f j hj), Nat.lt_of_lt_of_le h.lt hb.size⟩
theorem BoxV.below {w w' : World} {g : Nat} {vs : List Value} (h : BoxV w g vs) (hb : Below w.heap.size w w') : BoxV w' g vs := h.keptN hb h.lt
theorem BoxV.drew {w : World} {g : Nat} {vs : List Value} (h : BoxV w g vs) : BoxV w.drew g vs := ⟨h.c, h.f, h.lt⟩
theorem BoxV.alloc {w : World} {g : Nat} {vs : List Value} (h : BoxV w g vs) (o : Obj) : BoxV (w.alloc o) g vs := h.below ((Below.refl _ w).alloc (Nat.le_refl _) o)
theorem BoxV.grown {w w' : World} {g : Nat} {vs : List Value} {r : Option Nat} (h : BoxV w g vs) (hg : w.grownBy w' r) (hr : r ≠ some g) : BoxV w' g vs := by
  have hb : w'.heap[g]? = w.heap[g]? := hg.block g h.lt (fun e => hr e.symm)
  exact ⟨fun j u hj => (World.cell?_of_block (w := w) (w' := w') (a := ⟨g, j, none⟩) hb).trans (h.c j u hj), fun j hj => (World.frozen?_of_block (w := w) (w' := w') (a := ⟨g, j, none⟩) hb).trans (h.f j hj), Nat.lt_of_lt_of_le h.lt hg.size⟩
/-- one cell written -/
theorem BoxV.set {w : World} {g : Nat} {vs : List Value} (h : BoxV w g vs) (k : Nat) (x : Value) (hk : k < vs.length) : BoxV (w.setCell ⟨g, k, none⟩ x) g (vs.set k x) := by
  refine ⟨fun j u hj => ?_, fun j hj => ?_, by simpa [World.setCell] using h.lt⟩
  · rw [List.getElem?_set] at hj
    by_cases e : k = j
    · subst e
      rw [if_pos rfl, if_pos hk] at hj
      cases hj
      exact World.cell?_setCell_same _ _ _ (u := vs[k]) (h.c k _ (List.getElem?_eq_getElem hk))
    · rw [if_neg e] at hj
      rw [World.cell?_setCell_other _ _ _ _ (by simp only [ne_eq, Addr.mk.injEq, not_and]; intro _ h; exact absurd h (by omega))]
      exact h.c j u hj
  · rw [World.frozen?_setCell]
    exact h.f j (by simpa using hj)
/-- a cell of another block written -/
theorem BoxV.other {w : World} {g : Nat} {vs : List Value} (h : BoxV w g vs) (a : Addr) (x : Value) (ha : a.block ≠ g) : BoxV (w.setCell a x) g vs := by
  refine ⟨fun j u hj => ?_, fun j hj => ?_, by simpa [World.setCell] using h.lt⟩
  · rw [World.cell?_setCell_other _ _ _ _ (by intro e; rw [e] at ha; exact ha rfl)]
    exact h.c j u hj
  · rw [World.frozen?_setCell]; exact h.f j hj
theorem BoxV.set4 {w : World} {g : Nat} {a b c d : Value} (h : BoxV w g [a, b, c, d]) (a' b' c' d' : Value) : BoxV ((((w.setCell ⟨g, 0, none⟩ a').setCell ⟨g, 1, none⟩ b').setCell ⟨g, 2, none⟩ c').setCell ⟨g, 3, none⟩ d') g [a', b', c', d'] :=
  (((h.set 0 a' (by simp)).set 1 b' (by simp)).set 2 c' (by simp)).set 3 d' (by simp)
/-- the whole of it, loaded -/
theorem load_boxV {P : Program} {t : TypeId} {w : World} {g : Nat} {vs : List Value} {n : Nat} (h : BoxV w g vs) (hn : vs.length = n) (hs : (P.info? t).map (·.size) = some n) (hagg : (isAgg t).run P w = .ok true w) : (loadVar t ⟨g, 0, none⟩).run P w = .ok (.agg vs.toArray) w := by
  have hl := run_loadCells_list (P := P) w ⟨g, 0, none⟩ vs (fun j v hv => by
    rw [show (⟨g, 0, none⟩ : Addr).add j = ⟨g, j, none⟩ by unfold Addr.add; split <;> simp_all]
    exact h.c j v hv)
  obtain ⟨i, hi, hs⟩ := Option.map_eq_some_iff.1 hs
  rw [hn] at hl
  simp [loadVar, Sem.run_bind, hagg, sizeOf, typeInfo, hi, hs, hl]
theorem results_boxV3 {P : Program} {t : TypeId} {fn : Func} {p q r : Tmp} (h : fn.results = #[.cell p t, .tmp q, .tmp r]) (tmps : Array Value) (w : World) (g n : Nat) (vs : List Value) (u v : Value) (hp : tmps.getD p undef = .pointer (some ⟨g, 0, none⟩)) (hq : tmps.getD q undef = u) (hr : tmps.getD r undef = v) (hb : BoxV w g vs) (hn : vs.length = n) (hs : (P.info? t).map (·.size) = some n) (hagg : (isAgg t).run P w = .ok true w) :
    (results fn tmps).run P w = .ok (.tuple #[.agg vs.toArray, u, v]) w := by
  have hp' : tmps[p]?.getD undef = .pointer (some ⟨g, 0, none⟩) := by simpa using hp
  have hq' : tmps[q]?.getD undef = u := by simpa using hq
  have hr' : tmps[r]?.getD undef = v := by simpa using hr
  simp [results, h, hp', hq', hr', asAddr, load_boxV hb hn hs hagg]
end Go.Proofs.YtbakgobgjfhhhaaDoor

/- Lists whose block is not below another. -/
namespace Go.Proofs.YtbakgobgjfhhhaaDoor
open Go.RowKit

/-- a list's block is not below -/
def LowA (N : Nat) (a : Option Addr) : Prop := ∀ q, a = some q → N ≤ q.block
theorem LowA.mono {N M : Nat} {a : Option Addr} (h : LowA N a) (hm : M ≤ N) : LowA M a := fun q hq => Nat.le_trans hm (h q hq)
theorem LowA.none (N : Nat) : LowA N Option.none := fun q hq => by cases hq
theorem low_own {w : World} {N size n c m : Nat} {e : TypeId} {a : Option Addr} {xs : List Value} (h : w.ownsRow N e size (.slice a n c) m xs) : LowA N a := by
  intro q hq
  rcases h.2 with ⟨h1, _⟩ | ⟨g, cap, cur, h1, h2, _⟩
  · cases h1; cases hq
  · cases h1; cases hq; exact h2
/-- a cell below the lists' blocks is written -/
theorem Rd.setLow {X : World} {a : Option Addr} {n size : Nat} {xs : List Value} (h : Rd X a n size xs) {N : Nat} (hl : LowA N a) {p : Addr} (hp : p.block < N) (v : Value) : Rd (X.setCell p v) a n size xs :=
  ⟨h.len, fun h0 => by
    obtain ⟨b, off, h1, h2, h3⟩ := h.at' h0
    refine ⟨b, off, h1, by simpa [World.setCell] using h2, fun j u hj => ?_⟩
    have hN := hl _ h1
    rw [World.cell?_setCell_other _ _ _ _ (by intro e; rw [e] at hp; exact absurd hp (Nat.not_lt.2 hN))]
    exact h3 j u hj⟩
end Go.Proofs.YtbakgobgjfhhhaaDoor

/- What num.Fix answers. -/
namespace Go.Proofs.YtbakgobgjfhhhaaDoor
open Go.RowKit

theorem infoByteF : (Tryd.prog.info? 5).map (fun i => (i.zero, i.size, i.bytes)) = some (some (.int .u8 0), 1, 1) := by kernel_rfl
theorem byt_noughts (w : World) (n : Nat) (t : TypeId) : Byt (w.alloc (.cells (madeCells #[.int .u8 0] n) t)) w.heap.size (List.replicate n 0) := by
  refine ⟨fun j hj => ?_, fun j hj => ?_⟩
  · rw [List.length_replicate] at hj
    rw [World.cell?_alloc_new]
    simp [madeCells, hj, Nat.mod_one, List.getD_eq_getElem?_getD]
  · unfold World.frozen?
    rw [heap_alloc_new]
    rfl
theorem fix_byte (n k : Nat) : (n : Int) / 2 ^ (8 * k) % 256 = ((UInt8.ofNat (n / 256 ^ k)).toNat : Int) := by
  rw [cast_div_pow, pow2_8, UInt8.toNat_ofNat']
  omega
theorem Byt.set' {w : World} {g : Nat} {l : List UInt8} (h : Byt w g l) (n : Nat) (hn : n < l.length) (x : UInt8) : Byt (w.setCell ⟨g, n, none⟩ (.int .u8 (x.toNat : Int))) g (l.set n x) := by
  have := h.set n hn x
  exact ⟨this.cell, this.open'⟩

set_option maxHeartbeats 400000 in
theorem fix_no (n : Nat) (v : Int) (w : World) (h : v < 1 ∨ 8 < v) :
    Calls Tryd.prog 24 #[.int .u64 n, .int .i64 v] w fun e w' => e = .returned (.string ⟨#[]⟩) ∧ w' = w := by
  rcases h with h | h
  · go_enter Tryd.func24, Tryd.ntmps24
    go_wp2
    go_ret
    exact ⟨rfl, rfl⟩
  · have h1 : ¬ v < 1 := by omega
    go_enter Tryd.func24, Tryd.ntmps24
    go_wp2
    go_ret
    exact ⟨rfl, rfl⟩

set_option maxHeartbeats 800000 in
theorem fix_in (n m : Nat) (w : World) (h1 : 1 ≤ m) (h8 : m ≤ 8) :
    Calls Tryd.prog 24 #[.int .u64 n, .int .i64 m] w fun e w' => e = .returned (.string ⟨(fixB n m).toArray⟩) ∧ Below w.heap.size w w' := by
  have t1 : decide ((m : Int) < 1) = false := decide_eq_false (by omega)
  have t2 : decide ((8 : Int) < m) = false := decide_eq_false (by omega)
  have hmk := fun w => run_make_row' (P := Tryd.prog) 88 5 (.int .u8 0) 1 Tryd.underlying88 infoByteF rfl .i64 .i64 m (by omega) (by omega) w
  go_enter Tryd.func24, Tryd.ntmps24
  go_wp2_with fail
  clear hmk t1 t2
  go_loopw [17] (fun i wr => ∃ k : Nat, k ≤ m ∧ i = .int .i64 k ∧ Below w.heap.size w wr ∧ Byt wr w.heap.size (fixP n m k)) (fun i _ => m - (intOf i).toNat)
  case atStart => exact ⟨0, Nat.zero_le _, rfl, (Below.refl _ _).alloc (Nat.le_refl _) _, by rw [fixP_zero]; exact byt_noughts _ _ _⟩
  case round =>
    obtain ⟨k, hk, rfl, hbl, hy⟩ := hrel
    have HB := Hid.mk' hbl
    have HY := Hid.mk' hy
    clear hbl hy
    by_cases hlt : k < m
    · obtain ⟨q, eq⟩ : ∃ q, Hid (m - 1 - k = q) := ⟨_, Hid.mk' rfl⟩
      have hq : (m : Int) - 1 - k = (q : Int) := by rw [← eq.out]; omega
      have hqm : q < m := by rw [← eq.out]; omega
      have hln : q < (fixP n m k).length := by rw [fixP_length _ _ _ hk]; exact hqm
      have hcc := HY.out.cell q hln
      have hff := HY.out.open' q hln
      have hfb := fix_byte n k
      obtain ⟨z, ez⟩ : ∃ z, Hid (UInt8.ofNat (n / 256 ^ k) = z) := ⟨_, Hid.mk' rfl⟩
      rw [ez.out] at hfb
      have hst := HY.out.set' q hln z
      have hs2 := fixP_step n m k hlt
      rw [eq.out, ez.out] at hs2
      rw [hs2] at hst
      have HS := Hid.mk' hst
      clear hst hs2 hln
      go_wp2_with fail
      go_roundw
      case rel => exact ⟨k + 1, by omega, by go_num, (HB.out.setCell (Nat.le_refl _) _), HS.out⟩
      case measure => simp [intOf]; omega
    · have hcs := byt_string HY.out m m (fixP_length _ _ _ hk)
      have hkm : Hid (fixP n m k = fixB n m) := by show _ = _; rw [show k = m by omega, fixP_all]
      go_wp2_with fail
      go_ret
      refine ⟨?_, HB.out⟩
      rw [← hkm.out]
      rfl

end Go.Proofs.YtbakgobgjfhhhaaDoor

/- What seal.Seal answers. -/
namespace Go.Proofs.YtbakgobgjfhhhaaDoor
open Go.RowKit

theorem tab_belowS {w w' : World} (h : Tab w) (hb : Below w.heap.size w w') : Tab w' := fun i hi => by
  rw [hb.cell (p := ⟨0, i, none⟩) (block_lt_of_cell (h i hi))]; exact h i hi
theorem below_boxS {w : World} (v : Array Value) (t : TypeId) : Below w.heap.size w (w.alloc (.cells v t)) := (Below.refl _ w).alloc (Nat.le_refl _) _
/-- a list of bytes as a text -/
def txS (l : List UInt8) : ByteArray := ⟨l.toArray⟩
theorem txS_size (l : List UInt8) : (txS l).size = l.length := rfl
theorem txS_list (l : List UInt8) : (txS l).data.toList = l := rfl
theorem txS_app (a b : List UInt8) : txS a ++ txS b = txS (a ++ b) := by
  apply bytes_ext
  simp only [ByteArray.data_append, Array.toList_append]
  rfl
theorem txS_of (s : ByteArray) : txS s.data.toList = s := bytes_ext rfl
set_option maxRecDepth 20000 in
set_option maxHeartbeats 800000 in
theorem may_any (k n : Int) (w : World) : Calls Tryd.prog 51 #[.int .i64 k, .int .i64 n] w fun e w' => e = .returned (.bool (mayS k n)) ∧ w' = w := by
  by_cases h1 : k = 1
  · subst h1
    by_cases h2 : 0 ≤ n
    · have t2 : decide ((0 : Int) ≤ n) = true := decide_eq_true h2
      by_cases h3 : n ≤ 2147483647
      · have t3 : decide (n ≤ (2147483647 : Int)) = true := decide_eq_true h3
        have hq : Hid (mayS 1 n = true) := (mayS_iff 1 n).2 ⟨.inl rfl, h2, h3⟩
        clear h2 h3
        go_enter Tryd.func51, Tryd.ntmps51
        go_wp2_with fail
        go_ret
        exact ⟨by rw [hq.out]; rfl, rfl⟩
      · have t3 : decide (n ≤ (2147483647 : Int)) = false := decide_eq_false h3
        have hq : Hid (mayS 1 n = false) := decide_eq_false (fun h => h3 h.2.2)
        clear h2 h3
        go_enter Tryd.func51, Tryd.ntmps51
        go_wp2_with fail
        go_ret
        exact ⟨by rw [hq.out]; rfl, rfl⟩
    · have t2 : decide ((0 : Int) ≤ n) = false := decide_eq_false h2
      have hq : Hid (mayS 1 n = false) := decide_eq_false (fun h => h2 h.2.1)
      clear h2
      go_enter Tryd.func51, Tryd.ntmps51
      go_wp2_with fail
      go_ret
      exact ⟨by rw [hq.out]; rfl, rfl⟩
  · have t1 : (k == 1) = false := by rw [beq_eq_false_iff_ne]; exact h1
    by_cases h1' : k = 2
    · subst h1'
      by_cases h2 : 0 ≤ n
      · have t2 : decide ((0 : Int) ≤ n) = true := decide_eq_true h2
        by_cases h3 : n ≤ 2147483647
        · have t3 : decide (n ≤ (2147483647 : Int)) = true := decide_eq_true h3
          have hq : Hid (mayS 2 n = true) := (mayS_iff 2 n).2 ⟨.inr rfl, h2, h3⟩
          clear h1 h2 h3
          go_enter Tryd.func51, Tryd.ntmps51
          go_wp2_with fail
          go_ret
          exact ⟨by rw [hq.out]; rfl, rfl⟩
        · have t3 : decide (n ≤ (2147483647 : Int)) = false := decide_eq_false h3
          have hq : Hid (mayS 2 n = false) := decide_eq_false (fun h => h3 h.2.2)
          clear h1 h2 h3
          go_enter Tryd.func51, Tryd.ntmps51
          go_wp2_with fail
          go_ret
          exact ⟨by rw [hq.out]; rfl, rfl⟩
      · have t2 : decide ((0 : Int) ≤ n) = false := decide_eq_false h2
        have hq : Hid (mayS 2 n = false) := decide_eq_false (fun h => h2 h.2.1)
        clear h1 h2
        go_enter Tryd.func51, Tryd.ntmps51
        go_wp2_with fail
        go_ret
        exact ⟨by rw [hq.out]; rfl, rfl⟩
    · have t2 : (k == 2) = false := by rw [beq_eq_false_iff_ne]; exact h1'
      have hq : Hid (mayS k n = false) := decide_eq_false (fun h => by rcases h.1 with h | h; exact h1 h; exact h1' h)
      clear h1 h1'
      go_enter Tryd.func51, Tryd.ntmps51
      go_wp2_with fail
      go_ret
      exact ⟨by rw [hq.out]; rfl, rfl⟩
theorem four_string_at (a b c d : Int) (w : World) (g : Nat) (h0 : w.cell? ⟨g, 0, none⟩ = some (.int .u8 a)) (h1 : w.cell? ⟨g, 1, none⟩ = some (.int .u8 b)) (h2 : w.cell? ⟨g, 2, none⟩ = some (.int .u8 c)) (h3 : w.cell? ⟨g, 3, none⟩ = some (.int .u8 d)) :
    (convert 88 9 (.slice (some ⟨g, 0, none⟩) 4 4)).run Tryd.prog w = .ok (.string (strOfNums [a, b, c, d])) w :=
  run_convert_bytes_arg (P := Tryd.prog) w 88 5 Tryd.underlying88 Tryd.underlying5 g 0 4 4 [a, b, c, d] rfl
    (fun i hi => by
      rcases (by omega : i = 0 ∨ i = 1 ∨ i = 2 ∨ i = 3) with rfl | rfl | rfl | rfl
      · simpa using h0
      · simpa using h1
      · simpa using h2
      · simpa using h3) 9 Tryd.underlying9
set_option maxRecDepth 20000 in
set_option maxHeartbeats 800000 in
theorem sumof_any (s : ByteArray) (w : World) (hs : s.size ≤ 1048576) (hT : Tab w) :
    Calls Tryd.prog 52 #[.string s] w fun e w' => e = .returned (.string (txS (leC s.data.toList))) ∧ Below w.heap.size w w' := by
  obtain ⟨c, hc⟩ : ∃ c, Hid (sumC s.data.toList = c) := ⟨_, Hid.mk' rfl⟩
  have hle : Hid (leC s.data.toList = [byteAt c 0, byteAt c 1, byteAt c 2, byteAt c 3]) := by show _ = _; unfold leC; rw [hc.out]
  have hb : Hid (strOfNums [B c % 256, B c / 256 % 256, B c / 65536 % 256, B c / 16777216] = txS [byteAt c 0, byteAt c 1, byteAt c 2, byteAt c 3]) := by
    have h := bytes_of c
    have h0 := B_nonneg c
    have h1 := B_lt c
    rw [show B c / 16777216 % 256 = B c / 16777216 by omega] at h
    exact h
  have hcv := four_string_at (B c % 256) (B c / 256 % 256) (B c / 65536 % 256) (B c / 16777216)
  have h0 := B_nonneg c
  have h1 := B_lt c
  have hsum := Hid.mk' (fun w (h : Tab w) => sum_any s w (by unfold maxLen; omega) h)
  rw [hle.out]
  rw [hc.out] at hsum
  go_enter Tryd.func52, Tryd.ntmps52
  go_wp2_with fail
  refine (hsum.out w hT).mono ?_
  rintro e w1 ⟨rfl, rfl⟩
  go_wp2_with fail
  go_ret
  exact ⟨by rw [← hb.out]; rfl, below_boxS _ _⟩
theorem fixS1 (n : Nat) (w : World) : Calls Tryd.prog 24 #[.int .u64 n, .int .i64 1] w fun e w' => e = .returned (.string (txS (fixB n 1))) ∧ Below w.heap.size w w' := fix_in n 1 w (by omega) (by omega)
theorem fixS2 (n : Nat) (w : World) : Calls Tryd.prog 24 #[.int .u64 n, .int .i64 2] w fun e w' => e = .returned (.string (txS (fixB n 2))) ∧ Below w.heap.size w w' := fix_in n 2 w (by omega) (by omega)
theorem fixS4 (n : Nat) (w : World) : Calls Tryd.prog 24 #[.int .u64 n, .int .i64 4] w fun e w' => e = .returned (.string (txS (fixB n 4))) ∧ Below w.heap.size w w' := fix_in n 4 w (by omega) (by omega)
theorem bod_text (k n : Nat) (b : ByteArray) : txS (fixB k 1) ++ txS (fixB n 4) ++ txS (fixB b.size 2) ++ b = txS (bodS k n b.data.toList) := by
  apply bytes_ext
  simp only [ByteArray.data_append, Array.toList_append]
  unfold bodS
  rw [show b.data.toList.length = b.size by rw [Array.length_toList]; rfl]
  rfl
/-- what Seal answers -/
def SlAns (k n : Int) (b : ByteArray) (e : Ending) : Prop :=
  (selE k n b.size = 0 ∧ e = .returned (.tuple #[.string (txS (selS k.toNat n.toNat b.data.toList)), .int .i64 0])) ∨ (∃ q, q ≠ 0 ∧ Hid (selE k n b.size = q) ∧ e = .returned (.tuple #[.string ⟨#[]⟩, .int .i64 q]))
set_option maxRecDepth 20000 in
set_option maxHeartbeats 1600000 in
theorem seal_any (k n : Int) (b : ByteArray) (w : World) (hT : Tab w) (_hb : b.size ≤ 140737488355328) :
    Calls Tryd.prog 23 #[.int .i64 k, .int .i64 n, .string b] w fun e w' => SlAns k n b e ∧ Below w.heap.size w w' := by
  by_cases hm : mayS k n = true
  · have hd : Hid (selE k n b.size = if 1000 < b.size then 2 else 0) := by show _ = _; unfold selE; rw [if_pos hm]
    obtain ⟨hk, hn0, hn1⟩ := (mayS_iff k n).1 hm
    have hmay := Hid.mk' (fun w => may_any k n w)
    rw [hm] at hmay
    clear hm
    by_cases hz : 1000 < b.size
    · have hq : Hid (selE k n b.size = 2) := by show _ = _; rw [hd.out, if_pos hz]
      go_enter Tryd.func23, Tryd.ntmps23
      go_wp2_with fail
      refine (hmay.out _).mono ?_
      rintro e w1 ⟨rfl, rfl⟩
      go_wp2_with fail
      go_ret2
      exact ⟨.inr ⟨2, by decide, hq.out, rfl⟩, Below.refl _ _⟩
    · have hq : Hid (selE k n b.size = 0) := by show _ = _; rw [hd.out, if_neg hz]
      have hz' : b.size ≤ 1000 := by omega
      obtain ⟨k', rfl⟩ := Int.eq_ofNat_of_zero_le (show 0 ≤ k by omega)
      obtain ⟨n', rfl⟩ := Int.eq_ofNat_of_zero_le hn0
      have e1 : IntKind.u64.wrap (k' : Int) = k' := by rw [IntKind.wrap_u64]; omega
      have e2 : IntKind.u64.wrap (n' : Int) = n' := by rw [IntKind.wrap_u64]; omega
      have e3 : IntKind.u64.wrap (b.size : Int) = (b.size : Int) := by rw [IntKind.wrap_u64]; omega
      have hbt := Hid.mk' (bod_text k' n' b)
      have hsl : Hid (txS (bodS k' n' b.data.toList) ++ txS (leC (bodS k' n' b.data.toList)) = txS (selS k' n' b.data.toList)) := txS_app _ _
      have HT := Hid.mk' hT
      have s1 : (txS (fixB k' 1)).size = 1 := by rw [txS_size, fixB_length]
      have s2 : (txS (fixB n' 4)).size = 4 := by rw [txS_size, fixB_length]
      have s3 : (txS (fixB b.size 2)).size = 2 := by rw [txS_size, fixB_length]
      have s4 : (txS (bodS k' n' b.data.toList)).size = 7 + b.size := by rw [txS_size, bodS_len, Array.length_toList]; rfl
      have s5 : (txS (leC (bodS k' n' b.data.toList))).size = 4 := rfl
      have c1 := Hid.mk' (fun w => fixS1 k' w)
      have c2 := Hid.mk' (fun w => fixS4 n' w)
      have c3 := Hid.mk' (fun w => fixS2 b.size w)
      have c4 := Hid.mk' (fun w => sumof_any (txS (bodS k' n' b.data.toList)) w (by rw [s4]; omega))
      rw [txS_list] at c4
      obtain ⟨x1, hx1⟩ : ∃ x, Hid (txS (fixB k' 1) = x) := ⟨_, Hid.mk' rfl⟩
      obtain ⟨x2, hx2⟩ : ∃ x, Hid (txS (fixB n' 4) = x) := ⟨_, Hid.mk' rfl⟩
      obtain ⟨x3, hx3⟩ : ∃ x, Hid (txS (fixB b.size 2) = x) := ⟨_, Hid.mk' rfl⟩
      obtain ⟨x4, hx4⟩ : ∃ x, Hid (txS (bodS k' n' b.data.toList) = x) := ⟨_, Hid.mk' rfl⟩
      obtain ⟨x5, hx5⟩ : ∃ x, Hid (txS (leC (bodS k' n' b.data.toList)) = x) := ⟨_, Hid.mk' rfl⟩
      rw [hx1.out] at s1 hbt c1
      rw [hx2.out] at s2 hbt c2
      rw [hx3.out] at s3 hbt c3
      rw [hx4.out] at s4 hbt hsl c4
      rw [hx5.out] at s5 hsl c4
      have hbt' := hbt.out
      have hsl' := hsl.out
      clear hk hn0 hn1 hz hd hx1 hx2 hx3 hx4 hx5
      go_enter Tryd.func23, Tryd.ntmps23
      go_wp2_with fail
      refine (hmay.out _).mono ?_
      rintro e w1 ⟨rfl, rfl⟩
      go_wp2_with fail
      refine (c1.out _).mono ?_
      rintro e w2 ⟨rfl, hb2⟩
      have HB2 := Hid.mk' hb2
      clear hb2
      go_wp2_with fail
      refine (c2.out _).mono ?_
      rintro e w3 ⟨rfl, hb3⟩
      have HB3 := Hid.mk' (HB2.out.trans (hb3.mono HB2.out.size))
      clear hb3
      go_wp2_with fail
      refine (c3.out _).mono ?_
      rintro e w4 ⟨rfl, hb4⟩
      have HB4 := Hid.mk' (HB3.out.trans (hb4.mono HB3.out.size))
      clear hb4
      go_wp2_with fail
      refine (c4.out w4 (tab_belowS HT.out HB4.out)).mono ?_
      rintro e w5 ⟨rfl, hb5⟩
      have HB5 := Hid.mk' (HB4.out.trans (hb5.mono HB4.out.size))
      clear hb5
      go_wp2_with fail
      go_ret2
      exact ⟨.inl ⟨hq.out, rfl⟩, HB5.out⟩
  · have hmf : mayS k n = false := by cases h : mayS k n with | true => exact absurd h hm | false => rfl
    have hq : Hid (selE k n b.size = 1) := by show _ = _; unfold selE; rw [if_neg hm]
    have hmay := Hid.mk' (fun w => may_any k n w)
    rw [hmf] at hmay
    clear hm hmf
    go_enter Tryd.func23, Tryd.ntmps23
    go_wp2_with fail
    refine (hmay.out _).mono ?_
    rintro e w1 ⟨rfl, rfl⟩
    go_wp2_with fail
    go_ret2
    exact ⟨.inr ⟨1, by decide, hq.out, rfl⟩, Below.refl _ _⟩
/-- what Seal answers, as one value -/
def slT (k n : Int) (b : ByteArray) : ByteArray := if selE k n b.size = 0 then txS (selS k.toNat n.toNat b.data.toList) else ⟨#[]⟩
theorem sl_ans {k n : Int} {b : ByteArray} {e : Ending} (h : SlAns k n b e) : e = .returned (.tuple #[.string (slT k n b), .int .i64 (selE k n b.size)]) := by
  rcases h with ⟨h, rfl⟩ | ⟨q, hq, h, rfl⟩
  · unfold slT; rw [h, if_pos rfl]
  · unfold slT; rw [h.out, if_neg hq]
end Go.Proofs.YtbakgobgjfhhhaaDoor

/- What disk.Check answers. -/
namespace Go.Proofs.YtbakgobgjfhhhaaDoor
open Go.RowKit

theorem bcell {W w1 : World} (hb : Below W.heap.size W w1) : (∀ b o, b < W.heap.size → w1.cell? ⟨b, o, none⟩ = W.cell? ⟨b, o, none⟩) ∧ (∀ b o, b < W.heap.size → w1.frozen? ⟨b, o, none⟩ = W.frozen? ⟨b, o, none⟩) :=
  ⟨fun b o h => hb.cell (p := ⟨b, o, none⟩) h, fun b o h => hb.frozen (p := ⟨b, o, none⟩) h⟩
theorem boxD2 {w wr : World} {v0 v1 : Value} {t : TypeId} (h : Below (w.heap.size + 1) (w.alloc (.cells #[v0, v1] t)) wr) : wr.cell? ⟨w.heap.size, 0, none⟩ = some v0 ∧ wr.cell? ⟨w.heap.size, 1, none⟩ = some v1 ∧ w.heap.size < wr.heap.size := by
  have hs := h.size
  have hs2 : (w.alloc (.cells #[v0, v1] t)).heap.size = w.heap.size + 1 := by simp
  rw [hs2] at hs
  refine ⟨(h.cell (p := ⟨w.heap.size, 0, none⟩) (by simp)).trans ?_, (h.cell (p := ⟨w.heap.size, 1, none⟩) (by simp)).trans ?_, by omega⟩
  · rw [World.cell?_alloc_new]; rfl
  · rw [World.cell?_alloc_new]; rfl
theorem below_boxD {w w1 : World} (v : Array Value) (t : TypeId) (h : Below (w.heap.size + 1) (w.alloc (.cells v t)) w1) : Below w.heap.size w w1 :=
  ((Below.refl _ w).alloc (Nat.le_refl _) (.cells v t)).trans (h.mono (by omega))
theorem cell_set1 {W : World} {p a : Addr} {x v : Value} (h : W.cell? p = some x) (h1 : p.block ≠ a.block) : (W.setCell a v).cell? p = some x := by
  rw [World.cell?_setCell_other _ _ _ _ (by intro e; rw [e] at h1; exact h1 rfl)]
  exact h
theorem cell_set2 {W : World} {p a b : Addr} {x v u : Value} (h : W.cell? p = some x) (h1 : p.block ≠ a.block) (h2 : p.block ≠ b.block) : ((W.setCell a v).setCell b u).cell? p = some x := by
  rw [World.cell?_setCell_other _ _ _ _ (by intro e; rw [e] at h2; exact h2 rfl), World.cell?_setCell_other _ _ _ _ (by intro e; rw [e] at h1; exact h1 rfl)]
  exact h
def hasB (n : Nat) (x : Int) : Bool := decide (0 ≤ x ∧ x < (n : Int))
set_option maxRecDepth 20000 in
set_option maxHeartbeats 800000 in
theorem has_any (a0 a1 : Option Addr) (n c m d : Nat) (x : Int) (w : World) (_hn : n ≤ 8796093022208) :
    Calls Tryd.prog 63 #[.agg #[.slice a0 n c, .slice a1 m d], .int .i64 x] w fun e w' => e = .returned (.bool (hasB n x)) ∧ Below w.heap.size w w' := by
  have hB : Hid (Below w.heap.size w (w.alloc (.cells #[.slice a0 n c, .slice a1 m d] 39))) := (Below.refl _ _).alloc (Nat.le_refl _) _
  by_cases h0 : 0 ≤ x
  · have t0 : decide (0 ≤ x) = true := decide_eq_true h0
    by_cases h1 : x < (n : Int)
    · have t1 : decide (x < (n : Int)) = true := decide_eq_true h1
      have hb : Hid (hasB n x = true) := decide_eq_true ⟨h0, h1⟩
      go_enter Tryd.func63, Tryd.ntmps63
      go_wp2_with fail
      go_ret
      exact ⟨by rw [hb.out]; rfl, hB.out⟩
    · have t1 : decide (x < (n : Int)) = false := decide_eq_false h1
      have hb : Hid (hasB n x = false) := decide_eq_false (fun h => h1 h.2)
      go_enter Tryd.func63, Tryd.ntmps63
      go_wp2_with fail
      go_ret
      exact ⟨by rw [hb.out]; rfl, hB.out⟩
  · have t0 : decide (0 ≤ x) = false := decide_eq_false h0
    have hb : Hid (hasB n x = false) := decide_eq_false (fun h => h0 h.1)
    go_enter Tryd.func63, Tryd.ntmps63
    go_wp2_with fail
    go_ret
    exact ⟨by rw [hb.out]; rfl, hB.out⟩
theorem hasB_put (n : Nat) (p : Pt) : hasB n p.pl = decide (putE n p ≠ 1) := by
  unfold hasB
  rcases putE_cases n p with ⟨h, h1⟩ | ⟨h, h1⟩ | ⟨h, h1⟩
  · rw [h, decide_eq_true (by omega)]; rfl
  · rw [h, decide_eq_false (by omega)]; rfl
  · rw [h, decide_eq_true (by omega)]; rfl
set_option maxRecDepth 20000 in
set_option maxHeartbeats 800000 in
theorem cput_any (a0 a1 : Option Addr) (n c m d : Nat) (p : Pt) (w : World) (hn : n ≤ 8796093022208) :
    Calls Tryd.prog 62 #[.agg #[.slice a0 n c, .slice a1 m d], .agg #[.int .i64 p.pl, .string p.tx]] w fun e w' => e = .returned (.int .i64 (putE n p)) ∧ Below w.heap.size w w' := by
  obtain ⟨x, s⟩ := p
  have hp := putE_cases n ⟨x, s⟩
  obtain ⟨q, hq⟩ : ∃ q, Hid (putE n ⟨x, s⟩ = q) := ⟨_, Hid.mk' rfl⟩
  have hh := hasB_put n ⟨x, s⟩
  rw [hq.out] at hp hh ⊢
  simp only at hp hh ⊢
  go_enter Tryd.func62, Tryd.ntmps62
  go_wp2_with fail
  refine (has_any a0 a1 n c m d x _ hn).mono ?_
  rintro e w1 ⟨rfl, hb1⟩
  have HB1 : Hid (Below w.heap.size w w1) := ((((Below.refl _ w).alloc (Nat.le_refl _) _).alloc (by simp) _).trans (hb1.mono (by simp; omega)))
  obtain ⟨hc, hf⟩ := bcell hb1
  have hz : w.heap.size + 1 < w1.heap.size := by have := hb1.size; simp at this; omega
  rw [hh]
  clear hb1 hh
  rcases hp with ⟨rfl, h1⟩ | ⟨rfl, h1⟩ | ⟨rfl, h1⟩
  · have t1 : decide (¬ (0 : Int) = 1) = true := rfl
    have t2 : s.size ≤ 1024 := by omega
    clear h1
    go_wp2_with fail
    go_ret
    exact ⟨rfl, HB1.out⟩
  · clear h1
    go_wp2_with fail
    go_ret
    exact ⟨rfl, HB1.out⟩
  · have t2 : 1024 < s.size := by omega
    clear h1
    go_wp2_with fail
    go_ret
    exact ⟨rfl, HB1.out⟩
end Go.Proofs.YtbakgobgjfhhhaaDoor

/- What disk.Check answers: the loops. -/
namespace Go.Proofs.YtbakgobgjfhhhaaDoor
open Go.RowKit

set_option maxRecDepth 20000 in
set_option maxHeartbeats 1600000 in
theorem dchk_any (a0 a1 : Option Addr) (n c m d : Nat) (C : List ByteArray) (P : List Pt) (w : World) (h : Dk w a0 n a1 m C P) :
    Calls Tryd.prog 36 #[.agg #[.slice a0 n c, .slice a1 m d]] w fun e w' => e = .returned (.int .i64 (chkD C P)) ∧ Below w.heap.size w w' := by
  have nB := h.nB
  have mB := h.mB
  have HK := Hid.mk' h
  have HB0 : Hid (Below w.heap.size w (w.alloc (.cells #[.slice a0 n c, .slice a1 m d] 39))) := (Below.refl _ _).alloc (Nat.le_refl _) _
  have hN := Hid.mk' h.nC
  clear h
  by_cases h1 : n < 1
  · have hc : Hid (chkD C P = 1) := by show _ = _; unfold chkD; rw [hN.out, if_pos (.inl h1)]
    have t1 : decide ((n : Int) < 1) = true := decide_eq_true (by omega)
    go_enter Tryd.func36, Tryd.ntmps36
    go_wp2_with fail
    go_ret
    exact ⟨by rw [hc.out]; rfl, HB0.out⟩
  by_cases h2 : 128 < n
  · have hc : Hid (chkD C P = 1) := by show _ = _; unfold chkD; rw [hN.out, if_pos (.inr h2)]
    have t1 : decide ((n : Int) < 1) = false := decide_eq_false (by omega)
    go_enter Tryd.func36, Tryd.ntmps36
    go_wp2_with fail
    go_ret
    exact ⟨by rw [hc.out]; rfl, HB0.out⟩
  have hc : Hid (chkD C P = if celE C = 0 then (if putsE n P = 0 then (if 400 < m then 2 else 0) else putsE n P) else celE C) := by
    show _ = _; unfold chkD; rw [hN.out, HK.out.mP, if_neg (by omega)]
  have t1 : decide ((n : Int) < 1) = false := decide_eq_false (by omega)
  go_enter Tryd.func36, Tryd.ntmps36
  go_wp2_with fail
  clear t1
  go_loop [21] (fun i => ∃ k : Nat, k ≤ n ∧ i = .int .i64 k ∧ celE (C.drop k) = celE C) (fun i => n - (intOf i).toNat)
  case atStart => exact ⟨0, Nat.zero_le _, rfl, rfl⟩
  case round =>
    obtain ⟨k, hk, rfl, hcel⟩ := hrel
    have HC := Hid.mk' hcel
    clear hcel
    by_cases hlt : k < n
    · obtain ⟨b, off, rfl, hb, hcl⟩ := HK.out.cell k hlt
      have hdr := drop_at C k ⟨#[]⟩ (by rw [hN.out]; exact hlt)
      generalize C.getD k ⟨#[]⟩ = s at *
      by_cases hs : 1024 < s.size
      · have he : Hid (celE C = 2) := by show _ = _; rw [← HC.out, hdr, celE, if_pos hs]
        clear hdr
        go_wp2_with fail
        go_ret
        exact ⟨by rw [hc.out, he.out]; rfl, HB0.out⟩
      · have hs' : s.size ≤ 1024 := by omega
        have HC1 : Hid (celE (C.drop (k + 1)) = celE C) := by show _ = _; rw [← HC.out, hdr, celE, if_neg hs]
        clear hdr hs
        go_wp2_with fail
        go_round
        case rel => exact ⟨k + 1, by omega, by go_num, HC1.out⟩
        case measure => simp [intOf]; omega
    · have he : Hid (celE C = 0) := by
        show _ = _
        rw [← HC.out, List.drop_of_length_le (by rw [hN.out]; omega)]; rfl
      have hw0 : (w.alloc (.cells #[.slice a0 n c, .slice a1 m d] 39)).heap.size = w.heap.size + 1 := by simp
      have HK0 := Hid.mk' (HK.out.below HB0.out)
      go_wp2_with fail
      go_loopw [32] (fun i wr => ∃ k : Nat, k ≤ m ∧ i = .int .i64 k ∧ putsE n (P.drop k) = putsE n P ∧ Below (w.heap.size + 1) (w.alloc (.cells #[.slice a0 n c, .slice a1 m d] 39)) wr) (fun i _ => m - (intOf i).toNat)
      case atStart => exact ⟨0, Nat.zero_le _, rfl, rfl, Below.refl _ _⟩
      case round =>
        obtain ⟨k, hk, rfl, hput, hbl⟩ := hrel
        have HP := Hid.mk' hput
        have HB := Hid.mk' hbl
        obtain ⟨d0, d1, hz⟩ := boxD2 hbl
        clear hput hbl
        by_cases hlt : k < m
        · obtain ⟨b, off, rfl, hb, hx, hs⟩ := (HK0.out.below (by rw [hw0]; exact HB.out)).put k hlt
          have hdr := drop_at P k noPt (by rw [HK.out.mP]; exact hlt)
          generalize P.getD k noPt = p at *
          obtain ⟨x, s⟩ := p
          simp only at hx hs
          have hpe : Hid (putsE n P = if putE n ⟨x, s⟩ = 0 then putsE n (P.drop (k + 1)) else putE n ⟨x, s⟩) := by show _ = _; rw [← HP.out, hdr, putsE]
          clear hdr
          go_wp2_with fail
          refine (cput_any a0 (some ⟨b, off, none⟩) n c m d ⟨x, s⟩ _ nB).mono ?_
          rintro e w2 ⟨rfl, hb2⟩
          have HB2 : Hid (Below (w.heap.size + 1) (w.alloc (.cells #[.slice a0 n c, .slice (some ⟨b, off, none⟩) m d] 39)) w2) := HB.out.trans ((((Below.refl _ wr).alloc (Nat.le_refl _) _).trans (hb2.mono (by simp))).mono (by omega))
          obtain ⟨hcc, hff⟩ := bcell hb2
          have hz2 : wr.heap.size < w2.heap.size := by have := hb2.size; simp at this; omega
          have hpc := putE_cases n ⟨x, s⟩
          generalize putE n ⟨x, s⟩ = q at *
          have HQ := Hid.mk' hpc
          have hq0 : 0 ≤ q ∧ q ≤ 2 := by omega
          clear hb2 hpc
          by_cases h0 : q = 0
          · subst h0
            have HP1 : Hid (putsE n (P.drop (k + 1)) = putsE n P) := by show _ = _; rw [hpe.out, if_pos rfl]
            go_wp2_with fail
            go_roundw
            case rel => exact ⟨k + 1, by omega, by go_num, HP1.out, HB2.out⟩
            case measure => simp [intOf]; omega
          · have he2 : Hid (chkD C P = q) := by show _ = _; rw [hc.out, if_pos he.out, hpe.out, if_neg h0, if_neg h0]
            have tq : (q != 0) = true := by rw [bne_iff_ne]; exact h0
            go_wp2_with fail
            go_ret
            exact ⟨by rw [he2.out]; rfl, below_boxD _ _ HB2.out⟩
        · have hp0 : Hid (putsE n P = 0) := by
            show _ = _
            rw [← HP.out, List.drop_of_length_le (by rw [HK.out.mP]; omega)]; rfl
          by_cases h4 : 400 < m
          · have he2 : Hid (chkD C P = 2) := by show _ = _; rw [hc.out, if_pos he.out, if_pos hp0.out, if_pos h4]
            go_wp2_with fail
            go_ret
            exact ⟨by rw [he2.out]; rfl, below_boxD _ _ HB.out⟩
          · have he2 : Hid (chkD C P = 0) := by show _ = _; rw [hc.out, if_pos he.out, if_pos hp0.out, if_neg h4]
            have h4' : m ≤ 400 := by omega
            clear h4
            go_wp2_with fail
            go_ret
            exact ⟨by rw [he2.out]; rfl, below_boxD _ _ HB.out⟩
end Go.Proofs.YtbakgobgjfhhhaaDoor

/- What linenref.Cell answers: every write lands. -/
namespace Go.Proofs.YtbakgobgjfhhhaaDoor
open Go.RowKit

set_option maxRecDepth 20000 in
set_option maxHeartbeats 400000 in
theorem keepE_any (i : Nat) (w : World) :
    Calls Tryd.prog 40 #[.int .i64 (i : Int)] w fun e w' => e = .returned (.bool (allL i)) ∧ w' = w := by
  go_enter Tryd.func40, Tryd.ntmps40
  go_wp2_with fail
  go_ret
  exact ⟨rfl, rfl⟩

set_option maxRecDepth 20000 in
set_option maxHeartbeats 1600000 in
theorem rcellE_any (a0 a1 : Option Addr) (n c m d : Nat) (C : List ByteArray) (P : List Pt) (y : Nat) (w : World) (h : Dk w a0 n a1 m C P) (hy : y < n) :
    Calls Tryd.prog 39 #[.agg #[.slice a0 n c, .slice a1 m d], .int .i64 (y : Int), .func (.func 40) #[] #[]] w fun e w' => e = .returned (.string (cellL allL (y : Int) P 0 (C.getD y ⟨#[]⟩))) ∧ Below w.heap.size w w' := by
  have HB0 : Hid (Below w.heap.size w (w.alloc (.cells #[.slice a0 n c, .slice a1 m d] 39))) := (Below.refl _ _).alloc (Nat.le_refl _) _
  have HK := Hid.mk' h
  have nB := h.nB
  have mB := h.mB
  have hN := Hid.mk' h.nC
  have hM := Hid.mk' h.mP
  clear h
  obtain ⟨b, off, rfl, hb, hx⟩ := (HK.out.below HB0.out).cell y hy
  obtain ⟨s0, hs0⟩ : ∃ s, Hid (C.getD y ⟨#[]⟩ = s) := ⟨_, Hid.mk' rfl⟩
  rw [hs0.out] at hx ⊢
  obtain ⟨T, hT⟩ : ∃ T, Hid (cellL allL (y : Int) P 0 s0 = T) := ⟨_, Hid.mk' rfl⟩
  rw [hT.out]
  go_enter Tryd.func39, Tryd.ntmps39
  go_wp2_with fail
  clear hx hb
  go_loopw [7, 18] (fun t i wr => ∃ (k : Nat) (s : ByteArray), k ≤ m ∧ i = .int .i64 k ∧ t = .string s ∧ cellL allL (y : Int) (P.drop k) k s = T ∧ Below w.heap.size w wr) (fun _ i _ => m - (intOf i).toNat)
  case atStart => exact ⟨0, s0, Nat.zero_le _, rfl, rfl, hT.out, HB0.out⟩
  case round =>
    obtain ⟨k, s, hk, rfl, rfl, hce, hbl⟩ := hrel
    have HC := Hid.mk' hce
    have HB := Hid.mk' hbl
    have hzr := hbl.size
    clear hce hbl
    by_cases hlt : k < m
    · obtain ⟨b2, off2, rfl, hb2, hx1, hx2⟩ := (HK.out.below HB.out).put k hlt
      have hdr := drop_at P k noPt (by rw [hM.out]; exact hlt)
      generalize P.getD k noPt = p at *
      obtain ⟨z, t⟩ := p
      simp only at hx1 hx2
      have HC1 : Hid (cellL allL (y : Int) (P.drop (k + 1)) (k + 1) (if z = (y : Int) ∧ allL k = true then t else s) = T) := by
        have h := HC.out
        rw [hdr, cellL] at h; exact h
      have HBa : Hid (Below w.heap.size w (wr.alloc (.cells #[.int .i64 z, .string t] 99))) := HB.out.alloc hzr _
      clear hdr
      by_cases hzy : z = (y : Int)
      · subst hzy
        have tz : ((y : Int) == (y : Int)) = true := by simp
        go_wp2_with fail
        obtain ⟨wa, hwa⟩ : ∃ x, Hid (wr.alloc (.cells #[.int .i64 (y : Int), .string t] 99) = x) := ⟨_, Hid.mk' rfl⟩
        have cb1 : (wr.alloc (.cells #[.int .i64 (y : Int), .string t] 99)).cell? ⟨wr.heap.size, 1, none⟩ = some (.string t) := by rw [World.cell?_alloc_new]; rfl
        rw [hwa.out] at HBa cb1 ⊢
        refine (keepE_any k _).mono ?_
        rintro e w2 ⟨rfl, hw2⟩; obtain rfl := hw2.symm
        obtain ⟨q, hq⟩ : ∃ q, Hid (allL k = q) := ⟨_, Hid.mk' rfl⟩
        rw [hq.out]
        rw [hq.out] at HC1
        cases q with
        | true =>
          have HC2 : Hid (cellL allL (y : Int) (P.drop (k + 1)) (k + 1) t = T) := by
            have h := HC1.out
            rw [if_pos (by simp)] at h; exact h
          go_wp2_with fail
          go_roundw
          case rel => exact ⟨k + 1, _, by omega, by go_num, rfl, HC2.out, HBa.out⟩
          case measure => simp [intOf]; omega
        | false =>
          have HC2 : Hid (cellL allL (y : Int) (P.drop (k + 1)) (k + 1) s = T) := by
            have h := HC1.out
            rw [if_neg (by simp)] at h; exact h
          go_wp2_with fail
          go_roundw
          case rel => exact ⟨k + 1, _, by omega, by go_num, rfl, HC2.out, HBa.out⟩
          case measure => simp [intOf]; omega
      · have HC2 : Hid (cellL allL (y : Int) (P.drop (k + 1)) (k + 1) s = T) := by
          have h := HC1.out
          rw [if_neg (fun h => hzy h.1)] at h; exact h
        have tz : (z == (y : Int)) = false := by rw [beq_eq_false_iff_ne]; exact hzy
        clear hzy
        go_wp2_with fail
        go_roundw
        case rel => exact ⟨k + 1, _, by omega, by go_num, rfl, HC2.out, HBa.out⟩
        case measure => simp [intOf]; omega
    · have hfin : Hid (s = T) := by
        show _ = _
        rw [← HC.out, List.drop_of_length_le (by rw [hM.out]; omega)]; rfl
      go_wp2_with fail
      go_ret
      exact ⟨by rw [← hfin.out]; rfl, HB.out⟩
end Go.Proofs.YtbakgobgjfhhhaaDoor

/- What linenref.Fix answers. -/
namespace Go.Proofs.YtbakgobgjfhhhaaDoor
open Go.RowKit

set_option maxHeartbeats 400000 in
theorem rfix_no (n : Nat) (v : Int) (w : World) (h : v < 1 ∨ 8 < v) :
    Calls Tryd.prog 27 #[.int .u64 n, .int .i64 v] w fun e w' => e = .returned (.string ⟨#[]⟩) ∧ w' = w := by
  rcases h with h | h
  · go_enter Tryd.func27, Tryd.ntmps27
    go_wp2
    go_ret
    exact ⟨rfl, rfl⟩
  · have h1 : ¬ v < 1 := by omega
    go_enter Tryd.func27, Tryd.ntmps27
    go_wp2
    go_ret
    exact ⟨rfl, rfl⟩

set_option maxHeartbeats 800000 in
theorem rfix_in (n m : Nat) (w : World) (hn : n < 18446744073709551616) (h1 : 1 ≤ m) (h8 : m ≤ 8) :
    Calls Tryd.prog 27 #[.int .u64 n, .int .i64 m] w fun e w' => e = .returned (.string ⟨(fixB n m).toArray⟩) ∧ Below w.heap.size w w' := by
  have t1 : decide ((m : Int) < 1) = false := decide_eq_false (by omega)
  have t2 : decide ((8 : Int) < m) = false := decide_eq_false (by omega)
  go_enter Tryd.func27, Tryd.ntmps27
  go_wp2_with fail
  clear t1 t2
  go_loopw [0, 5, 13] (fun x t i wr => ∃ k : Nat, k ≤ m ∧ i = .int .i64 k ∧ x = .int .u64 (n / 256 ^ k : Nat) ∧ t = .string ⟨(fixB n k).toArray⟩ ∧ Below w.heap.size w wr) (fun _ _ i _ => m - (intOf i).toNat)
  case atStart => exact ⟨0, Nat.zero_le _, rfl, by simp, rfl, Below.refl _ _⟩
  case round =>
    obtain ⟨k, hk, rfl, rfl, rfl, hbl⟩ := hrel
    have HB := Hid.mk' hbl
    have hsz := hbl.size
    clear hbl
    by_cases hlt : k < m
    · have hcv := one_string wr ((n / 256 ^ k : Nat) % 256 : Int)
      have hdl : n / 256 ^ k < 18446744073709551616 := Nat.lt_of_le_of_lt (Nat.div_le_self _ _) hn
      have hD := Hid.mk' (div256 n k)
      have hF : Hid (fixB n (k + 1) = UInt8.ofNat (n / 256 ^ k) :: fixB n k) := rfl
      have hll : (fixB n k).length ≤ 8 := by rw [fixB_length]; omega
      generalize n / 256 ^ k = q at *
      generalize fixB n k = l at *
      have hoc := Hid.mk' (one_cat q l)
      have hos := one_size ((q : Int) % 256)
      generalize strOfNums [(q : Int) % 256] = t at *
      go_wp2_with fail
      go_roundw
      case rel => exact ⟨k + 1, by omega, by go_num, by rw [hD.out]; go_num, by rw [hF.out, hoc.out], HB.out.alloc hsz _⟩
      case measure => simp [intOf]; omega
    · have hkm := Hid.mk' (show k = m by omega)
      go_wp2_with fail
      go_ret
      refine ⟨?_, HB.out⟩
      rw [hkm.out]
      rfl

end Go.Proofs.YtbakgobgjfhhhaaDoor

/- What linenref.Unfix answers. -/
namespace Go.Proofs.YtbakgobgjfhhhaaDoor
open Go.RowKit

theorem mul_le255 (b p : Nat) (hb : b < 256) : b * p ≤ 255 * p := Nat.mul_le_mul_right _ (by omega)
set_option maxHeartbeats 400000 in
theorem runfix_large (s : ByteArray) (w : World) (h : 8 < s.size) (_hs : s.size ≤ 140737488363520) :
    Calls Tryd.prog 33 #[.string s] w fun e w' => e = .returned (.tuple #[.int .u64 0, .int .i64 2]) ∧ w' = w := by
  go_enter Tryd.func33, Tryd.ntmps33
  go_wp2
  go_ret2
  exact ⟨rfl, rfl⟩
set_option maxHeartbeats 400000 in
theorem runfix_in (s : ByteArray) (w : World) (h : s.size ≤ 8) :
    Calls Tryd.prog 33 #[.string s] w fun e w' => e = .returned (.tuple #[.int .u64 (unfN s.data.toList : Nat), .int .i64 0]) ∧ w' = w := by
  have t2 : decide ((8 : Int) < s.size) = false := decide_eq_false (by omega)
  go_enter Tryd.func33, Tryd.ntmps33
  go_wp2_with fail
  clear t2
  go_loop [4, 5, 6] (fun t x i => ∃ k : Nat, k ≤ s.size ∧ i = .int .i64 ((k : Int) - 1) ∧ t = .int .u64 (unfN (s.data.toList.drop k) : Nat) ∧ x = .int .u64 (IntKind.u64.wrap ((256 ^ (s.size - k) : Nat) : Int))) (fun _ _ i => (intOf i + 1).toNat)
  case atStart => exact ⟨s.size, Nat.le_refl _, rfl, by rw [List.drop_of_length_le (by rw [Array.length_toList]; exact Nat.le_refl _)]; rfl, by simp; rfl⟩
  case round =>
    obtain ⟨k, hk, rfl, rfl, rfl⟩ := hrel
    by_cases hlt : 0 < k
    · obtain ⟨j, rfl⟩ : ∃ j, k = j + 1 := ⟨k - 1, by omega⟩
      have hst := Hid.mk' (unf_drop s j (by omega))
      have hb := s[j].toNat_lt
      have hm := mul_le255 s[j].toNat (256 ^ (s.size - 1 - j)) s[j].toNat_lt
      have hp := pow256_lt (s.size - 1 - j) (by omega)
      have hu : unfN (s.data.toList.drop (j + 1)) < 72057594037927936 := by
        have h1 := unfN_lt (s.data.toList.drop (j + 1))
        have h2 : 256 ^ (s.data.toList.drop (j + 1)).length ≤ 256 ^ 7 := Nat.pow_le_pow_right (by decide) (by simp; omega)
        omega
      have hpn : Hid ((256 ^ (s.size - j) : Nat) = 256 ^ (s.size - 1 - j) * 256) := by show _ = _; rw [show s.size - j = (s.size - 1 - j) + 1 by omega, Nat.pow_succ]
      rw [show s.size - (j + 1) = s.size - 1 - j by omega]
      rw [wrap_u64_of ((256 ^ (s.size - 1 - j) : Nat) : Int) (by omega) (by omega)]
      rw [show (((j + 1 : Nat) : Int) - 1) = (j : Int) by omega]
      have hwm : IntKind.u64.wrap ((s[j].toNat : Int) * ((256 ^ (s.size - 1 - j) : Nat) : Int)) = ((s[j].toNat * 256 ^ (s.size - 1 - j) : Nat) : Int) := by
        rw [← Int.natCast_mul]; exact wrap_u64_of _ (by omega) (by omega)
      have hjb : j < s.size := by omega
      generalize s[j].toNat * 256 ^ (s.size - 1 - j) = y at *
      generalize 256 ^ (s.size - 1 - j) = p at *
      generalize unfN (s.data.toList.drop (j + 1)) = m at *
      go_wp2_with fail
      go_round
      case rel => exact ⟨j, by omega, rfl, by rw [hst.out]; exact int_eq (by omega), by rw [hpn.out]; exact int_eq (by rw [Int.natCast_mul]; rfl)⟩
      case measure => simp [intOf]
    · have hk0 : Hid (k = 0) := by show _ = _; omega
      go_wp2_with fail
      go_ret2
      refine ⟨?_, rfl⟩
      rw [hk0.out]
      rfl
end Go.Proofs.YtbakgobgjfhhhaaDoor
