/- Places and ints in memory. -/
import Derived.Test.YtbakgobgjfhhhaaDoorRd
import Derived.Test.YtbakgobgjfhhhaaDoorPlMath
import Derived.BigQuiet
namespace Go.Proofs.YtbakgobgjfhhhaaDoor
open Go.RowKit

def pl2 (p : Pla) : List Value := [.int .i64 p.cl, .int .i64 p.nh]
def plC (l : List Pla) : List Value := l.flatMap pl2
def inC (l : List Int) : List Value := l.map (.int .i64)
theorem plC_length (P : List Pla) : (plC P).length = P.length * 2 := by
  induction P with
  | nil => rfl
  | cons m t ih => rw [plC, List.flatMap_cons, List.length_append, ← plC, ih]; simp [pl2]; omega
theorem inC_length (P : List Int) : (inC P).length = P.length := by simp [inC]
theorem plC_snoc (P : List Pla) (p : Pla) : plC (P ++ [p]) = plC P ++ pl2 p := by simp [plC]
theorem inC_snoc (P : List Int) (p : Int) : inC (P ++ [p]) = inC P ++ [.int .i64 p] := by simp [inC]
theorem plC_at (P : List Pla) : ∀ i (_ : i < P.length), (plC P)[i * 2]? = some (.int .i64 (P.getD i noPl).cl) ∧ (plC P)[i * 2 + 1]? = some (.int .i64 (P.getD i noPl).nh) := by
  induction P with
  | nil => intro i h; simp at h
  | cons m t ih =>
    intro i h
    have e : plC (m :: t) = .int .i64 m.cl :: .int .i64 m.nh :: plC t := by simp [plC, pl2]
    rw [e]
    cases i with
    | zero => exact ⟨rfl, rfl⟩
    | succ i =>
      have := ih i (by simpa using h)
      rw [show (i + 1) * 2 = i * 2 + 1 + 1 by omega]
      simp only [List.getElem?_cons_succ, List.getD_cons_succ]
      exact this
theorem inC_at (P : List Int) (i : Nat) (h : i < P.length) : (inC P)[i]? = some (.int .i64 (P.getD i 0)) := by
  rw [inC, List.getElem?_map, List.getD_eq_getElem?_getD, List.getElem?_eq_getElem h]; rfl
theorem plC_one (P : List Pla) : ∀ u ∈ plC P, u.oneCell' = true := by
  intro u hu
  obtain ⟨p, _, hp⟩ := List.mem_flatMap.1 hu
  simp only [pl2, List.mem_cons, List.not_mem_nil, or_false] at hp
  rcases hp with rfl | rfl <;> rfl
theorem inC_one (P : List Int) : ∀ u ∈ inC P, u.oneCell' = true := by
  intro u hu
  obtain ⟨p, _, rfl⟩ := List.mem_map.1 hu
  rfl
/-- numbers that an int holds -/
def I64 (x : Int) : Prop := -9223372036854775808 ≤ x ∧ x ≤ 9223372036854775807
structure PlaB (p : Pla) : Prop where
  c : I64 p.cl
  n : I64 p.nh
/-- places that can be read -/
structure Pls (w : World) (a0 : Option Addr) (n cap : Nat) (l : List Pla) : Prop where
  nL : l.length = n
  nB : n ≤ 8796093022208
  rd : Rd w a0 n 2 (plC l)
  bB : ∀ b ∈ l, PlaB b
  kc : n ≤ cap
  km : cap ≤ maxLen
  nc : a0 = none → cap = 0
/-- ints that can be read -/
structure Its (w : World) (a0 : Option Addr) (n cap : Nat) (l : List Int) : Prop where
  nL : l.length = n
  nB : n ≤ 17592186044416
  rd : Rd w a0 n 1 (inC l)
  bB : ∀ b ∈ l, I64 b
  kc : n ≤ cap
  km : cap ≤ maxLen
  nc : a0 = none → cap = 0
theorem Pls.below {w w' : World} {a0 : Option Addr} {n cap : Nat} {l : List Pla} (h : Pls w a0 n cap l) (hb : Below w.heap.size w w') : Pls w' a0 n cap l := ⟨h.nL, h.nB, h.rd.below hb, h.bB, h.kc, h.km, h.nc⟩
theorem Its.below {w w' : World} {a0 : Option Addr} {n cap : Nat} {l : List Int} (h : Its w a0 n cap l) (hb : Below w.heap.size w w') : Its w' a0 n cap l := ⟨h.nL, h.nB, h.rd.below hb, h.bB, h.kc, h.km, h.nc⟩
theorem Pls.at {w : World} {a0 : Option Addr} {n cap : Nat} {l : List Pla} (h : Pls w a0 n cap l) (k : Nat) (hk : k < n) :
    ∃ b off, a0 = some ⟨b, off, none⟩ ∧ b < w.heap.size ∧ w.cell? ⟨b, off + k * 2, none⟩ = some (.int .i64 (l.getD k noPl).cl) ∧ w.cell? ⟨b, off + k * 2 + 1, none⟩ = some (.int .i64 (l.getD k noPl).nh) := by
  obtain ⟨b, off, e, hb, hc⟩ := h.rd.at' (by omega)
  have := plC_at l k (by rw [h.nL]; exact hk)
  exact ⟨b, off, e, hb, hc _ _ this.1, by have := hc _ _ this.2; rwa [← Nat.add_assoc] at this⟩
theorem Its.at {w : World} {a0 : Option Addr} {n cap : Nat} {l : List Int} (h : Its w a0 n cap l) (k : Nat) (hk : k < n) :
    ∃ b off, a0 = some ⟨b, off, none⟩ ∧ b < w.heap.size ∧ w.cell? ⟨b, off + k, none⟩ = some (.int .i64 (l.getD k 0)) := by
  obtain ⟨b, off, e, hb, hc⟩ := h.rd.at' (by omega)
  exact ⟨b, off, e, hb, hc _ _ (inC_at l k (by rw [h.nL]; exact hk))⟩
theorem drop_atPl {α : Type} (l : List α) (k : Nat) (d : α) (h : k < l.length) : l.drop k = l.getD k d :: l.drop (k + 1) := by
  rw [List.drop_eq_getElem_cons h, List.getD_eq_getElem?_getD, List.getElem?_eq_getElem h]; rfl
theorem getD_memPl {α : Type} {l : List α} {k : Nat} (d : α) (h : k < l.length) : l.getD k d ∈ l := by
  rw [List.getD_eq_getElem?_getD, List.getElem?_eq_getElem h]; exact List.getElem_mem _
theorem below_dP (w : World) (q : Nat) {B : Nat} : Below B w (w.drewN q) := ⟨rfl, rfl, rfl, Nat.le_refl _, fun _ _ => rfl⟩
theorem below_d1 (w : World) {B : Nat} : Below B w w.drew := ⟨rfl, rfl, rfl, Nat.le_refl _, fun _ _ => rfl⟩
theorem below_boxP {w : World} (v : Array Value) (t : TypeId) : Below w.heap.size w (w.alloc (.cells v t)) := (Below.refl _ w).alloc (Nat.le_refl _) _
theorem pls_own {w : World} {N : Nat} {v : Value} {n : Nat} {L : List Pla} (h : w.ownsRow N 67 2 v n (plC L)) (hl : L.length = n) (hn : n ≤ 8796093022208) (hb : ∀ b ∈ L, PlaB b) : ∃ ao cap, v = .slice ao n cap ∧ Pls w ao n cap L := by
  obtain ⟨ao, cap, hv, h1, h2, h3, hr⟩ := Rd.of_own h
  exact ⟨ao, cap, hv, hl, hn, hr, hb, h1, h2, h3⟩
theorem its_own {w : World} {N : Nat} {v : Value} {n : Nat} {L : List Int} (h : w.ownsRow N 3 1 v n (inC L)) (hl : L.length = n) (hn : n ≤ 17592186044416) (hb : ∀ b ∈ L, I64 b) : ∃ ao cap, v = .slice ao n cap ∧ Its w ao n cap L := by
  obtain ⟨ao, cap, hv, h1, h2, h3, hr⟩ := Rd.of_own h
  exact ⟨ao, cap, hv, hl, hn, hr, hb, h1, h2, h3⟩
theorem pls_none (w : World) : Pls w none 0 0 [] := ⟨rfl, by omega, Rd.nil _ _ _, fun b hb => by simp at hb, by omega, by omega, fun _ => rfl⟩
theorem its_none (w : World) : Its w none 0 0 [] := ⟨rfl, by omega, Rd.nil _ _ _, fun b hb => by simp at hb, by omega, by omega, fun _ => rfl⟩
/-- a place that was boxed -/
structure BxPl (X : World) (g : Nat) (p : Pla) : Prop where
  c0 : X.cell? ⟨g, 0, none⟩ = some (.int .i64 p.cl)
  c1 : X.cell? ⟨g, 1, none⟩ = some (.int .i64 p.nh)
  lt : g < X.heap.size
theorem bxPl (w : World) (p : Pla) (t : TypeId) : BxPl (w.alloc (.cells #[.int .i64 p.cl, .int .i64 p.nh] t)) w.heap.size p := by
  refine ⟨?_, ?_, by simp⟩ <;> (rw [World.cell?_alloc_new]; rfl)
theorem BxPl.below {X Y : World} {g : Nat} {p : Pla} (h : BxPl X g p) (hb : Below X.heap.size X Y) : BxPl Y g p :=
  ⟨(hb.cell (p := ⟨g, 0, none⟩) h.lt).trans h.c0, (hb.cell (p := ⟨g, 1, none⟩) h.lt).trans h.c1, Nat.lt_of_lt_of_le h.lt hb.size⟩
end Go.Proofs.YtbakgobgjfhhhaaDoor
