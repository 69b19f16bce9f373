/- Texts of ours, one behind the other: Pl PlRightWalks RPlaceWalks RRightWalks EqualL EqualN SameImWalks -/
import Derived.Test.YtbakgobgjfhhhaaDoorPmad
import Derived.Test.YtbakgobgjfhhhaaDoorPmab
import Derived.BigQuiet
import Derived.Test.YtbakgobgjfhhhaaDoorPmaa
import Derived.BigRegion
import Derived.Deep.QuietTactic

/- Places and ints in memory. -/
namespace Go.Proofs.YtbakgobgjfhhhaaDoor
open Go.RowKit

def pl2 (p : Pla) : List Value := [.int .i64 p.cl, .int .i64 p.nh]
def plC (l : List Pla) : List Value := l.flatMap pl2
def inC (l : List Int) : List Value := l.map (.int .i64)
theorem plC_length (P : List Pla) : (plC P).length = P.length * 2 := by
  induction P with
  | nil => rfl
  | cons m t ih => rw [plC, List.flatMap_cons, List.length_append, ← plC, ih]; simp [pl2]; omega
theorem inC_length (P : List Int) : (inC P).length = P.length := by simp [inC]
theorem plC_snoc (P : List Pla) (p : Pla) : plC (P ++ [p]) = plC P ++ pl2 p := by simp [plC]
theorem inC_snoc (P : List Int) (p : Int) : inC (P ++ [p]) = inC P ++ [.int .i64 p] := by simp [inC]
theorem plC_at (P : List Pla) : ∀ i (_ : i < P.length), (plC P)[i * 2]? = some (.int .i64 (P.getD i noPl).cl) ∧ (plC P)[i * 2 + 1]? = some (.int .i64 (P.getD i noPl).nh) := by
  induction P with
  | nil => intro i h; simp at h
  | cons m t ih =>
    intro i h
    have e : plC (m :: t) = .int .i64 m.cl :: .int .i64 m.nh :: plC t := by simp [plC, pl2]
    rw [e]
    cases i with
    | zero => exact ⟨rfl, rfl⟩
    | succ i =>
      have := ih i (by simpa using h)
      rw [show (i + 1) * 2 = i * 2 + 1 + 1 by omega]
      simp only [List.getElem?_cons_succ, List.getD_cons_succ]
      exact this
theorem inC_at (P : List Int) (i : Nat) (h : i < P.length) : (inC P)[i]? = some (.int .i64 (P.getD i 0)) := by
  rw [inC, List.getElem?_map, List.getD_eq_getElem?_getD, List.getElem?_eq_getElem h]; rfl
theorem plC_one (P : List Pla) : ∀ u ∈ plC P, u.oneCell' = true := by
  intro u hu
  obtain ⟨p, _, hp⟩ := List.mem_flatMap.1 hu
  simp only [pl2, List.mem_cons, List.not_mem_nil, or_false] at hp
  rcases hp with rfl | rfl <;> rfl
theorem inC_one (P : List Int) : ∀ u ∈ inC P, u.oneCell' = true := by
  intro u hu
  obtain ⟨p, _, rfl⟩ := List.mem_map.1 hu
  rfl
/-- numbers that an int holds -/
def I64 (x : Int) : Prop := -9223372036854775808 ≤ x ∧ x ≤ 9223372036854775807
structure PlaB (p : Pla) : Prop where
  c : I64 p.cl
  n : I64 p.nh
/-- places that can be read -/
structure Pls (w : World) (a0 : Option Addr) (n cap : Nat) (l : List Pla) : Prop where
  nL : l.length = n
  nB : n ≤ 8796093022208
  rd : Rd w a0 n 2 (plC l)
  bB : ∀ b ∈ l, PlaB b
  kc : n ≤ cap
  km : cap ≤ maxLen
  nc : a0 = none → cap = 0
/-- ints that can be read -/
structure Its (w : World) (a0 : Option Addr) (n cap : Nat) (l : List Int) : Prop where
  nL : l.length = n
  nB : n ≤ 17592186044416
  rd : Rd w a0 n 1 (inC l)
  bB : ∀ b ∈ l, I64 b
  kc : n ≤ cap
  km : cap ≤ maxLen
  nc : a0 = none → cap = 0
theorem Pls.below {w w' : World} {a0 : Option Addr} {n cap : Nat} {l : List Pla} (h : Pls w a0 n cap l) (hb : Below w.heap.size w w') : Pls w' a0 n cap l := ⟨h.nL, h.nB, h.rd.below hb, h.bB, h.kc, h.km, h.nc⟩
theorem Its.below {w w' : World} {a0 : Option Addr} {n cap : Nat} {l : List Int} (h : Its w a0 n cap l) (hb : Below w.heap.size w w') : Its w' a0 n cap l := ⟨h.nL, h.nB, h.rd.below hb, h.bB, h.kc, h.km, h.nc⟩
theorem Pls.at {w : World} {a0 : Option Addr} {n cap : Nat} {l : List Pla} (h : Pls w a0 n cap l) (k : Nat) (hk : k < n) :
    ∃ b off, a0 = some ⟨b, off, none⟩ ∧ b < w.heap.size ∧ w.cell? ⟨b, off + k * 2, none⟩ = some (.int .i64 (l.getD k noPl).cl) ∧ w.cell? ⟨b, off + k * 2 + 1, none⟩ = some (.int .i64 (l.getD k noPl).nh) := by
  obtain ⟨b, off, e, hb, hc⟩ := h.rd.at' (by omega)
  have := plC_at l k (by rw [h.nL]; exact hk)
  exact ⟨b, off, e, hb, hc _ _ this.1, by have := hc _ _ this.2; rwa [← Nat.add_assoc] at this⟩
theorem Its.at {w : World} {a0 : Option Addr} {n cap : Nat} {l : List Int} (h : Its w a0 n cap l) (k : Nat) (hk : k < n) :
    ∃ b off, a0 = some ⟨b, off, none⟩ ∧ b < w.heap.size ∧ w.cell? ⟨b, off + k, none⟩ = some (.int .i64 (l.getD k 0)) := by
  obtain ⟨b, off, e, hb, hc⟩ := h.rd.at' (by omega)
  exact ⟨b, off, e, hb, hc _ _ (inC_at l k (by rw [h.nL]; exact hk))⟩
theorem drop_atPl {α : Type} (l : List α) (k : Nat) (d : α) (h : k < l.length) : l.drop k = l.getD k d :: l.drop (k + 1) := by
  rw [List.drop_eq_getElem_cons h, List.getD_eq_getElem?_getD, List.getElem?_eq_getElem h]; rfl
theorem getD_memPl {α : Type} {l : List α} {k : Nat} (d : α) (h : k < l.length) : l.getD k d ∈ l := by
  rw [List.getD_eq_getElem?_getD, List.getElem?_eq_getElem h]; exact List.getElem_mem _
theorem below_dP (w : World) (q : Nat) {B : Nat} : Below B w (w.drewN q) := ⟨rfl, rfl, rfl, Nat.le_refl _, fun _ _ => rfl⟩
theorem below_d1 (w : World) {B : Nat} : Below B w w.drew := ⟨rfl, rfl, rfl, Nat.le_refl _, fun _ _ => rfl⟩
theorem below_boxP {w : World} (v : Array Value) (t : TypeId) : Below w.heap.size w (w.alloc (.cells v t)) := (Below.refl _ w).alloc (Nat.le_refl _) _
theorem pls_own {w : World} {N : Nat} {v : Value} {n : Nat} {L : List Pla} (h : w.ownsRow N 67 2 v n (plC L)) (hl : L.length = n) (hn : n ≤ 8796093022208) (hb : ∀ b ∈ L, PlaB b) : ∃ ao cap, v = .slice ao n cap ∧ Pls w ao n cap L := by
  obtain ⟨ao, cap, hv, h1, h2, h3, hr⟩ := Rd.of_own h
  exact ⟨ao, cap, hv, hl, hn, hr, hb, h1, h2, h3⟩
theorem its_own {w : World} {N : Nat} {v : Value} {n : Nat} {L : List Int} (h : w.ownsRow N 3 1 v n (inC L)) (hl : L.length = n) (hn : n ≤ 17592186044416) (hb : ∀ b ∈ L, I64 b) : ∃ ao cap, v = .slice ao n cap ∧ Its w ao n cap L := by
  obtain ⟨ao, cap, hv, h1, h2, h3, hr⟩ := Rd.of_own h
  exact ⟨ao, cap, hv, hl, hn, hr, hb, h1, h2, h3⟩
theorem pls_none (w : World) : Pls w none 0 0 [] := ⟨rfl, by omega, Rd.nil _ _ _, fun b hb => by simp at hb, by omega, by omega, fun _ => rfl⟩
theorem its_none (w : World) : Its w none 0 0 [] := ⟨rfl, by omega, Rd.nil _ _ _, fun b hb => by simp at hb, by omega, by omega, fun _ => rfl⟩
/-- a place that was boxed -/
structure BxPl (X : World) (g : Nat) (p : Pla) : Prop where
  c0 : X.cell? ⟨g, 0, none⟩ = some (.int .i64 p.cl)
  c1 : X.cell? ⟨g, 1, none⟩ = some (.int .i64 p.nh)
  lt : g < X.heap.size
theorem bxPl (w : World) (p : Pla) (t : TypeId) : BxPl (w.alloc (.cells #[.int .i64 p.cl, .int .i64 p.nh] t)) w.heap.size p := by
  refine ⟨?_, ?_, by simp⟩ <;> (rw [World.cell?_alloc_new]; rfl)
theorem BxPl.below {X Y : World} {g : Nat} {p : Pla} (h : BxPl X g p) (hb : Below X.heap.size X Y) : BxPl Y g p :=
  ⟨(hb.cell (p := ⟨g, 0, none⟩) h.lt).trans h.c0, (hb.cell (p := ⟨g, 1, none⟩) h.lt).trans h.c1, Nat.lt_of_lt_of_le h.lt hb.size⟩
end Go.Proofs.YtbakgobgjfhhhaaDoor

/- What inode.IsNone, inode.Right and linenref.Right answer. -/
namespace Go.Proofs.YtbakgobgjfhhhaaDoor
open Go.RowKit

set_option maxRecDepth 20000 in
theorem none_any (p : Pla) (w : World) :
    Calls Tryd.prog 74 #[.agg #[.int .i64 p.cl, .int .i64 p.nh]] w fun e w' => e = .returned (.bool (nonB p)) ∧ Below w.heap.size w w' := by
  obtain ⟨c, n⟩ := p
  have HB := Hid.mk' (below_boxP (w := w) #[.int .i64 c, .int .i64 n] 67)
  simp only at *
  by_cases h1 : c = 0
  · subst h1
    by_cases h2 : n = 0
    · subst h2
      go_enter Tryd.func74, Tryd.ntmps74
      go_wp2_with fail
      go_ret
      exact ⟨rfl, HB.out⟩
    · have t2 : (n == 0) = false := by rw [beq_eq_false_iff_ne]; exact h2
      have hc : Hid (nonB ⟨0, n⟩ = false) := decide_eq_false (fun h => h2 h.2)
      clear h2
      go_enter Tryd.func74, Tryd.ntmps74
      go_wp2_with fail
      go_ret
      exact ⟨by rw [hc.out]; rfl, HB.out⟩
  · have t1 : (c == 0) = false := by rw [beq_eq_false_iff_ne]; exact h1
    have hc : Hid (nonB ⟨c, n⟩ = false) := decide_eq_false (fun h => h1 h.1)
    clear h1
    go_enter Tryd.func74, Tryd.ntmps74
    go_wp2_with fail
    go_ret
    exact ⟨by rw [hc.out]; rfl, HB.out⟩-- RIGHT

set_option maxRecDepth 20000 in
set_option maxHeartbeats 800000 in
theorem right_any (p : Pla) (w : World) :
    Calls Tryd.prog 66 #[.agg #[.int .i64 p.cl, .int .i64 p.nh]] w fun e w' => e = .returned (.bool (rtB p)) ∧ Below w.heap.size w w' := by
  have HN := Hid.mk' (fun X => none_any p X)
  have HX := Hid.mk' (bxPl w p 67)
  obtain ⟨c, n⟩ := p
  simp only at HX ⊢ HN
  have HB := Hid.mk' (below_boxP (w := w) #[.int .i64 c, .int .i64 n] 67)
  obtain ⟨W0, hW0⟩ : ∃ W, Hid (w.alloc (.cells #[.int .i64 c, .int .i64 n] 67) = W) := ⟨_, Hid.mk' rfl⟩
  rw [hW0.out] at HX HB
  have c0 := HX.out.c0
  have c1 := HX.out.c1
  simp only at c0 c1
  by_cases h0 : c = 0 ∧ n = 0
  · obtain ⟨rfl, rfl⟩ := h0
    have hn : Hid (nonB ⟨0, 0⟩ = true) := rfl
    have hc : Hid (rtB ⟨0, 0⟩ = true) := rfl
    go_enter Tryd.func66, Tryd.ntmps66
    go_wp2_with fail
    rw [hW0.out]
    go_wp2_with fail
    refine (HN.out _).mono ?_
    rintro e w1 ⟨rfl, hb⟩
    rw [hn.out]
    have hx1 := HX.out.below hb
    have c0 := hx1.c0
    have c1 := hx1.c1
    simp only at c0 c1
    have HB1 := Hid.mk' (HB.out.trans (hb.mono HB.out.size))
    clear hx1 hb
    go_wp2_with fail
    go_ret
    exact ⟨by rw [hc.out]; rfl, HB1.out⟩
  have hn : Hid (nonB ⟨c, n⟩ = false) := decide_eq_false h0
  by_cases h1 : 2 ≤ c
  rotate_left
  · have t1 : decide ((2 : Int) ≤ c) = false := decide_eq_false h1
    have hc : Hid (rtB ⟨c, n⟩ = false) := rtB_no (fun h => by simp only at h; rcases h with h | h <;> omega)
    clear h0 h1
    go_enter Tryd.func66, Tryd.ntmps66
    go_wp2_with fail
    rw [hW0.out]
    go_wp2_with fail
    refine (HN.out _).mono ?_
    rintro e w1 ⟨rfl, hb⟩
    rw [hn.out]
    have hx1 := HX.out.below hb
    have c0 := hx1.c0
    have c1 := hx1.c1
    simp only at c0 c1
    have HB1 := Hid.mk' (HB.out.trans (hb.mono HB.out.size))
    clear hx1 hb
    go_wp2_with fail
    go_ret
    exact ⟨by rw [hc.out]; rfl, HB1.out⟩
  have t1 : decide ((2 : Int) ≤ c) = true := decide_eq_true h1
  by_cases h2 : c < 128
  rotate_left
  · have t2 : decide (c < (128 : Int)) = false := decide_eq_false h2
    have hc : Hid (rtB ⟨c, n⟩ = false) := rtB_no (fun h => by simp only at h; rcases h with h | h <;> omega)
    clear h0 h1 h2
    go_enter Tryd.func66, Tryd.ntmps66
    go_wp2_with fail
    rw [hW0.out]
    go_wp2_with fail
    refine (HN.out _).mono ?_
    rintro e w1 ⟨rfl, hb⟩
    rw [hn.out]
    have hx1 := HX.out.below hb
    have c0 := hx1.c0
    have c1 := hx1.c1
    simp only at c0 c1
    have HB1 := Hid.mk' (HB.out.trans (hb.mono HB.out.size))
    clear hx1 hb
    go_wp2_with fail
    go_ret
    exact ⟨by rw [hc.out]; rfl, HB1.out⟩
  have t2 : decide (c < (128 : Int)) = true := decide_eq_true h2
  by_cases h3 : 0 ≤ n
  rotate_left
  · have t3 : decide ((0 : Int) ≤ n) = false := decide_eq_false h3
    have hc : Hid (rtB ⟨c, n⟩ = false) := rtB_no (fun h => by simp only at h; rcases h with h | h <;> omega)
    clear h0 h1 h2 h3
    go_enter Tryd.func66, Tryd.ntmps66
    go_wp2_with fail
    rw [hW0.out]
    go_wp2_with fail
    refine (HN.out _).mono ?_
    rintro e w1 ⟨rfl, hb⟩
    rw [hn.out]
    have hx1 := HX.out.below hb
    have c0 := hx1.c0
    have c1 := hx1.c1
    simp only at c0 c1
    have HB1 := Hid.mk' (HB.out.trans (hb.mono HB.out.size))
    clear hx1 hb
    go_wp2_with fail
    go_ret
    exact ⟨by rw [hc.out]; rfl, HB1.out⟩
  have t3 : decide ((0 : Int) ≤ n) = true := decide_eq_true h3
  by_cases h4 : n < 40
  rotate_left
  · have t4 : decide (n < (40 : Int)) = false := decide_eq_false h4
    have hc : Hid (rtB ⟨c, n⟩ = false) := rtB_no (fun h => by simp only at h; rcases h with h | h <;> omega)
    clear h0 h1 h2 h3 h4
    go_enter Tryd.func66, Tryd.ntmps66
    go_wp2_with fail
    rw [hW0.out]
    go_wp2_with fail
    refine (HN.out _).mono ?_
    rintro e w1 ⟨rfl, hb⟩
    rw [hn.out]
    have hx1 := HX.out.below hb
    have c0 := hx1.c0
    have c1 := hx1.c1
    simp only at c0 c1
    have HB1 := Hid.mk' (HB.out.trans (hb.mono HB.out.size))
    clear hx1 hb
    go_wp2_with fail
    go_ret
    exact ⟨by rw [hc.out]; rfl, HB1.out⟩
  have t4 : decide (n < (40 : Int)) = true := decide_eq_true h4
  have hc : Hid (rtB ⟨c, n⟩ = true) := rtB_yes (by simp only; omega)
  clear h0 h1 h2 h3 h4
  go_enter Tryd.func66, Tryd.ntmps66
  go_wp2_with fail
  rw [hW0.out]
  go_wp2_with fail
  refine (HN.out _).mono ?_
  rintro e w1 ⟨rfl, hb⟩
  rw [hn.out]
  have hx1 := HX.out.below hb
  have c0 := hx1.c0
  have c1 := hx1.c1
  simp only at c0 c1
  have HB1 := Hid.mk' (HB.out.trans (hb.mono HB.out.size))
  clear hx1 hb
  go_wp2_with fail
  go_ret
  exact ⟨by rw [hc.out]; rfl, HB1.out⟩
end Go.Proofs.YtbakgobgjfhhhaaDoor

/- What inode.ReadPlace and inode.readNumber answer. -/
namespace Go.Proofs.YtbakgobgjfhhhaaDoor
open Go.RowKit

theorem infoSzPl : (Tryd.prog.info? 67).map (·.size) = some 2 := by kernel_rfl
theorem aggPl (w : World) : (isAgg 67).run Tryd.prog w = .ok true w := by
  unfold isAgg
  rw [Sem.run_bind, run_underlying Tryd.underlying67 w]
  rfl
theorem ext_listP (s : ByteArray) (a : Nat) : (s.extract a s.size).data.toList = s.data.toList.drop a := by
  rw [ByteArray.data_extract]
  simp only [Array.toList_extract, List.extract_eq_take_drop]
  exact List.take_of_length_le (by simp)
theorem ext_sizeP (s : ByteArray) (a : Nat) : (s.extract a s.size).size = s.size - a := by simp
theorem ext_preP (s : ByteArray) (a : Nat) : (s.extract 0 a).data.toList = s.data.toList.take a := by
  rw [ByteArray.data_extract]
  simp only [Array.toList_extract, List.extract_eq_take_drop, List.drop_zero, Nat.sub_zero]
/-- what ReadPlace answers -/
def RdPl (t : ByteArray) (e : Ending) : Prop :=
  (∃ x y r, t.data.toList = x :: y :: r.data.toList ∧ rtB (rpl x y) = true ∧ e = .returned (.tuple #[.agg #[.int .i64 x.toNat, .int .i64 y.toNat], .string r, .bool true])) ∨
  ((∀ x y r, t.data.toList = x :: y :: r → rtB (rpl x y) = false) ∧ e = .returned (.tuple #[.agg #[.int .i64 0, .int .i64 0], .string ⟨#[]⟩, .bool false]))
theorem BoxV.set2 {w : World} {g : Nat} {a b : Value} (h : BoxV w g [a, b]) (a' b' : Value) : BoxV ((w.setCell ⟨g, 0, none⟩ a').setCell ⟨g, 1, none⟩ b') g [a', b'] :=
  (h.set 0 a' (by simp)).set 1 b' (by simp)
set_option maxRecDepth 20000 in
set_option maxHeartbeats 1600000 in
theorem rdplace_any (t : ByteArray) (w : World) (ht : t.size ≤ 140737488355328) :
    Calls Tryd.prog 60 #[.string t] w fun e w' => RdPl t e ∧ Below w.heap.size w w' := by
  have HX := Hid.mk' (boxV_new w [.int .i64 0, .int .i64 0] 67)
  have HB := Hid.mk' (below_boxP (w := w) #[.int .i64 0, .int .i64 0] 67)
  have hl : t.data.toList.length = t.size := by rw [Array.length_toList]; rfl
  by_cases h3 : t.size < 2
  · have hn : Hid (∀ x y r, t.data.toList = x :: y :: r → rtB (rpl x y) = false) := by
      intro x y r h
      rw [h] at hl; simp at hl; omega
    have HX2 := Hid.mk' (HX.out.set2 (.int .i64 0) (.int .i64 0))
    clear hl
    go_enter Tryd.func60, Tryd.ntmps60
    go_wp2_with fail
    refine bodyPost_ret (results_boxV3 rfl _ _ w.heap.size 2 _ _ _ rfl rfl rfl HX.out rfl infoSzPl (aggPl _)) rfl ⟨.inr ⟨hn.out, rfl⟩, HB.out⟩
  have h0n : 0 < t.size := by omega
  have h1n : 1 < t.size := by omega
  obtain ⟨W0, hW0⟩ : ∃ W, Hid (w.alloc (.cells #[.int .i64 0, .int .i64 0] 67) = W) := ⟨_, Hid.mk' rfl⟩
  obtain ⟨r, hr⟩ : ∃ r, Hid (t.extract 2 t.size = r) := ⟨_, Hid.mk' rfl⟩
  obtain ⟨x, hx⟩ : ∃ x, Hid (t[0]'h0n = x) := ⟨_, Hid.mk' rfl⟩
  obtain ⟨y, hy⟩ : ∃ x, Hid (t[1]'h1n = x) := ⟨_, Hid.mk' rfl⟩
  have htl : Hid (t.data.toList = x :: y :: r.data.toList) := by
    show _ = _
    rw [← hr.out, ext_listP, ← hx.out, ← hy.out]
    have e0 := List.drop_eq_getElem_cons (l := t.data.toList) (i := 0) (by rw [hl]; omega)
    have e1 := List.drop_eq_getElem_cons (l := t.data.toList) (i := 1) (by rw [hl]; omega)
    rw [List.drop_zero] at e0
    rw [e0, e1]; rfl
  have hr' := hr.out
  have hx' := hx.out
  have hy' := hy.out
  have hlx := x.toNat_lt
  have hly := y.toNat_lt
  have ex0 : IntKind.i64.wrap (x.toNat : Int) = x.toNat := by rw [IntKind.wrap_i64]; omega
  have ey0 : IntKind.i64.wrap (y.toNat : Int) = y.toNat := by rw [IntKind.wrap_i64]; omega
  have n2 : ¬ (t.size : Int) < 2 := by omega
  have i0 : (0 : Int) < (t.size : Int) := by omega
  have i1 : (1 : Int) < (t.size : Int) := by omega
  have i2 : (2 : Int) ≤ (t.size : Int) := by omega
  have HR := Hid.mk' (fun w => right_any (rpl x y) w)
  obtain ⟨q, hq⟩ : ∃ q, Hid (rtB (rpl x y) = q) := ⟨_, Hid.mk' rfl⟩
  rw [hq.out] at HR
  simp only [rpl] at HR
  clear hl h3
  go_enter Tryd.func60, Tryd.ntmps60
  go_wp2_with fail
  rw [hW0.out] at HX HB ⊢
  have hz0 : w.heap.size ≤ W0.heap.size := HB.out.size
  have hlt0 := HX.out.lt
  have hgb := boxV_new W0 [.int .i64 (x.toNat : Int), .int .i64 (y.toNat : Int)] 67
  have hgb := hgb.drew
  have hxb := (HX.out.alloc (.cells #[.int .i64 (x.toNat : Int), .int .i64 (y.toNat : Int)] 67)).drew
  have hbb := (HB.out.alloc hz0 (.cells #[.int .i64 (x.toNat : Int), .int .i64 (y.toNat : Int)] 67)).drew
  go_region
  obtain ⟨W1, hW1⟩ : ∃ W, Hid ((W0.alloc (.cells #[.int .i64 (x.toNat : Int), .int .i64 (y.toNat : Int)] 67)).drew = W) := ⟨_, Hid.mk' rfl⟩
  have hgb2 : BoxV W1 W0.heap.size [.int .i64 (x.toNat : Int), .int .i64 (y.toNat : Int)] := by rw [← hW1.out]; exact hgb
  have hxb2 : BoxV W1 w.heap.size [.int .i64 0, .int .i64 0] := by rw [← hW1.out]; exact hxb
  have hbb2 : Below w.heap.size w W1 := by rw [← hW1.out]; exact hbb
  have HG := Hid.mk' hgb2
  have HX1 := Hid.mk' hxb2
  have HB1 := Hid.mk' hbb2
  have c0 := hgb2.c 0 _ rfl
  have c1 := hgb2.c 1 _ rfl
  clear hgb hxb hbb hgb2 hxb2 hbb2
  rw [hW1.out]
  go_wp2_with fail
  refine (HR.out _).mono ?_
  rintro e w2 ⟨rfl, hb⟩
  have HG2 := Hid.mk' (HG.out.below hb)
  have HX2 := Hid.mk' (HX1.out.below hb)
  have HB2 := Hid.mk' (HB1.out.trans (hb.mono HB1.out.size))
  have c0 := HG2.out.c 0 _ rfl
  have c1 := HG2.out.c 1 _ rfl
  have d0 := HX2.out.c 0 _ rfl
  have d1 := HX2.out.c 1 _ rfl
  have f0 := HX2.out.f 0 (by simp)
  have f1 := HX2.out.f 1 (by simp)
  clear hb
  have hne : W0.heap.size ≠ w.heap.size := by omega
  have hBS : ∀ a b, Below w.heap.size w (((w2).setCell ⟨w.heap.size, 0, none⟩ a).setCell ⟨w.heap.size, 1, none⟩ b) := fun a b => (HB2.out.setCell (Nat.le_refl _) _).setCell (Nat.le_refl _) _
  have HBS := Hid.mk' hBS
  clear hBS
  cases q with
  | false =>
    have hn : Hid (∀ x y r, t.data.toList = x :: y :: r → rtB (rpl x y) = false) := by
      intro x' y' r' h
      rw [htl.out] at h
      simp only [List.cons.injEq] at h
      obtain ⟨rfl, rfl, _⟩ := h
      exact hq.out
    have HXX := HX2.out.set2 (.int .i64 0) (.int .i64 0)
    go_wp2_with fail
    refine bodyPost_ret (results_boxV3 rfl _ _ w.heap.size 2 _ _ _ rfl rfl rfl HXX rfl infoSzPl (aggPl _)) rfl ⟨.inr ⟨hn.out, rfl⟩, HBS.out _ _⟩
  | true =>
    have HXX := ((HX2.out.drew).set2 (.int .i64 (x.toNat : Int)) (.int .i64 (y.toNat : Int)))
    have hBS2 : Below w.heap.size w (((w2.drew).setCell ⟨w.heap.size, 0, none⟩ (.int .i64 (x.toNat : Int))).setCell ⟨w.heap.size, 1, none⟩ (.int .i64 (y.toNat : Int))) := ((HB2.out.drew).setCell (Nat.le_refl _) _).setCell (Nat.le_refl _) _
    go_wp2_with fail
    go_region
    trace_state
    go_wp2_with fail
    refine bodyPost_ret (results_boxV3 rfl _ _ w.heap.size 2 _ _ _ rfl rfl rfl HXX rfl infoSzPl (aggPl _)) rfl ⟨.inl ⟨x, y, r, htl.out, hq.out, rfl⟩, hBS2⟩
end Go.Proofs.YtbakgobgjfhhhaaDoor

/- What linenref.Right answers. -/
namespace Go.Proofs.YtbakgobgjfhhhaaDoor
open Go.RowKit

set_option maxRecDepth 20000 in
set_option maxHeartbeats 800000 in
theorem rright_any (p : Pla) (w : World) :
    Calls Tryd.prog 68 #[.agg #[.int .i64 p.cl, .int .i64 p.nh]] w fun e w' => e = .returned (.bool (rtB p)) ∧ Below w.heap.size w w' := by
  obtain ⟨_⟩ : True := trivial
  have HX := Hid.mk' (bxPl w p 67)
  obtain ⟨c, n⟩ := p
  simp only at HX ⊢
  have HB := Hid.mk' (below_boxP (w := w) #[.int .i64 c, .int .i64 n] 67)
  obtain ⟨W0, hW0⟩ : ∃ W, Hid (w.alloc (.cells #[.int .i64 c, .int .i64 n] 67) = W) := ⟨_, Hid.mk' rfl⟩
  rw [hW0.out] at HX HB
  have c0 := HX.out.c0
  have c1 := HX.out.c1
  simp only at c0 c1
  by_cases h0 : c = 0 ∧ n = 0
  · obtain ⟨rfl, rfl⟩ := h0
    have hc : Hid (rtB ⟨0, 0⟩ = true) := rfl
    go_enter Tryd.func68, Tryd.ntmps68
    go_wp2_with fail
    rw [hW0.out]
    have HB1 := HB
    go_wp2_with fail
    go_ret
    exact ⟨by rw [hc.out]; rfl, HB1.out⟩
  have HE : Hid (c = 0 → ¬ n = 0) := fun a b => h0 ⟨a, b⟩
  by_cases h1 : 2 ≤ c
  rotate_left
  · have t1 : decide ((2 : Int) ≤ c) = false := decide_eq_false h1
    have hc : Hid (rtB ⟨c, n⟩ = false) := rtB_no (fun h => by simp only at h; rcases h with h | h <;> omega)
    clear h0 h1
    by_cases hz : c = 0
    · have t8 : (n == 0) = false := by rw [beq_eq_false_iff_ne]; exact HE.out hz
      subst hz
      go_enter Tryd.func68, Tryd.ntmps68
      go_wp2_with fail
      rw [hW0.out]
      have HB1 := HB
      go_wp2_with fail
      go_ret
      exact ⟨by rw [hc.out]; rfl, HB1.out⟩
    · have t9 : (c == 0) = false := by rw [beq_eq_false_iff_ne]; exact hz
      clear hz
      go_enter Tryd.func68, Tryd.ntmps68
      go_wp2_with fail
      rw [hW0.out]
      have HB1 := HB
      go_wp2_with fail
      go_ret
      exact ⟨by rw [hc.out]; rfl, HB1.out⟩
  have t1 : decide ((2 : Int) ≤ c) = true := decide_eq_true h1
  by_cases h2 : c ≤ 127
  rotate_left
  · have t2 : decide (c ≤ (127 : Int)) = false := decide_eq_false h2
    have hc : Hid (rtB ⟨c, n⟩ = false) := rtB_no (fun h => by simp only at h; rcases h with h | h <;> omega)
    clear h0 h1 h2
    by_cases hz : c = 0
    · have t8 : (n == 0) = false := by rw [beq_eq_false_iff_ne]; exact HE.out hz
      subst hz
      exact absurd t1 (by decide)
    · have t9 : (c == 0) = false := by rw [beq_eq_false_iff_ne]; exact hz
      clear hz
      go_enter Tryd.func68, Tryd.ntmps68
      go_wp2_with fail
      rw [hW0.out]
      have HB1 := HB
      go_wp2_with fail
      go_ret
      exact ⟨by rw [hc.out]; rfl, HB1.out⟩
  have t2 : decide (c ≤ (127 : Int)) = true := decide_eq_true h2
  by_cases h3 : 0 ≤ n
  rotate_left
  · have t3 : decide ((0 : Int) ≤ n) = false := decide_eq_false h3
    have hc : Hid (rtB ⟨c, n⟩ = false) := rtB_no (fun h => by simp only at h; rcases h with h | h <;> omega)
    clear h0 h1 h2 h3
    by_cases hz : c = 0
    · have t8 : (n == 0) = false := by rw [beq_eq_false_iff_ne]; exact HE.out hz
      subst hz
      exact absurd t1 (by decide)
    · have t9 : (c == 0) = false := by rw [beq_eq_false_iff_ne]; exact hz
      clear hz
      go_enter Tryd.func68, Tryd.ntmps68
      go_wp2_with fail
      rw [hW0.out]
      have HB1 := HB
      go_wp2_with fail
      go_ret
      exact ⟨by rw [hc.out]; rfl, HB1.out⟩
  have t3 : decide ((0 : Int) ≤ n) = true := decide_eq_true h3
  by_cases h4 : n ≤ 39
  rotate_left
  · have t4 : decide (n ≤ (39 : Int)) = false := decide_eq_false h4
    have hc : Hid (rtB ⟨c, n⟩ = false) := rtB_no (fun h => by simp only at h; rcases h with h | h <;> omega)
    clear h0 h1 h2 h3 h4
    by_cases hz : c = 0
    · have t8 : (n == 0) = false := by rw [beq_eq_false_iff_ne]; exact HE.out hz
      subst hz
      exact absurd t1 (by decide)
    · have t9 : (c == 0) = false := by rw [beq_eq_false_iff_ne]; exact hz
      clear hz
      go_enter Tryd.func68, Tryd.ntmps68
      go_wp2_with fail
      rw [hW0.out]
      have HB1 := HB
      go_wp2_with fail
      go_ret
      exact ⟨by rw [hc.out]; rfl, HB1.out⟩
  have t4 : decide (n ≤ (39 : Int)) = true := decide_eq_true h4
  have hc : Hid (rtB ⟨c, n⟩ = true) := rtB_yes (by simp only; omega)
  clear h0 h1 h2 h3 h4
  by_cases hz : c = 0
  · have t8 : (n == 0) = false := by rw [beq_eq_false_iff_ne]; exact HE.out hz
    subst hz
    exact absurd t1 (by decide)
  · have t9 : (c == 0) = false := by rw [beq_eq_false_iff_ne]; exact hz
    clear hz
    go_enter Tryd.func68, Tryd.ntmps68
    go_wp2_with fail
    rw [hW0.out]
    have HB1 := HB
    go_wp2_with fail
    go_ret
    exact ⟨by rw [hc.out]; rfl, HB1.out⟩
end Go.Proofs.YtbakgobgjfhhhaaDoor

/- What slices.Equal answers of two slices of places. -/
namespace Go.Proofs.YtbakgobgjfhhhaaDoor
open Go.RowKit

theorem drewN_addL (w : World) (q r : Nat) : (w.drewN q).drewN r = w.drewN (q + r) := by simp [World.drewN, Nat.add_assoc]
theorem toList_injL {s t : ByteArray} (h : s.toList = t.toList) : s = t := by
  rw [ByteArray.toList_eq, ByteArray.toList_eq] at h
  exact bytes_ext h
theorem drop_eqL {α : Type} (l m : List α) (k : Nat) (d : α) (h1 : k < l.length) (h2 : k < m.length) : l.drop k = m.drop k ↔ l.getD k d = m.getD k d ∧ l.drop (k + 1) = m.drop (k + 1) := by
  rw [drop_atPl l k d h1, drop_atPl m k d h2, List.cons.injEq]

set_option maxRecDepth 20000 in
set_option maxHeartbeats 800000 in
theorem equalL_any (a1 a2 : Option Addr) (n1 c1 n2 c2 : Nat) (C1 C2 : List Pla) (w : World) (h1 : Rd w a1 n1 2 (plC C1)) (h2 : Rd w a2 n2 2 (plC C2)) (l1 : C1.length = n1) (l2 : C2.length = n2) (b1 : n1 ≤ 8796093022208) (b2 : n2 ≤ 8796093022208) :
    Calls Tryd.prog 34 #[.slice a1 n1 c1, .slice a2 n2 c2] w fun e w' => (∃ b, e = .returned (.bool b) ∧ IffB b (C1 = C2)) ∧ ∃ q, w' = w.drewN q := by
  have K1 := Hid.mk' h1
  have K2 := Hid.mk' h2
  have L1 := Hid.mk' l1
  have L2 := Hid.mk' l2
  clear h1 h2 l1 l2
  by_cases hn : n1 = n2
  · subst hn
    have ht : ((n1 : Int) != (n1 : Int)) = false := by simp
    go_enter Tryd.func34, Tryd.ntmps34
    go_wp2_with fail
    go_loopw [13] (fun i wr => ∃ k q : Nat, k ≤ n1 ∧ i = .int .i64 k ∧ (C1.drop k = C2.drop k ↔ C1 = C2) ∧ wr = w.drewN q) (fun i _ => n1 - (intOf i).toNat)
    case atStart => exact ⟨0, 0, Nat.zero_le _, rfl, Iff.rfl, rfl⟩
    case round =>
      obtain ⟨k, q, hk, rfl, hs, rfl⟩ := hrel
      have HS := Hid.mk' hs
      clear hs
      by_cases hlt : k < n1
      · obtain ⟨g1, o1, rfl, _, d1⟩ := K1.out.at' (by omega)
        obtain ⟨g2, o2, rfl, _, d2⟩ := K2.out.at' (by omega)
        have HD := Hid.mk' (drop_eqL C1 C2 k noPl (by rw [L1.out]; exact hlt) (by rw [L2.out]; exact hlt))
        have E1 := plC_at C1 k (by rw [L1.out]; exact hlt)
        have E2 := plC_at C2 k (by rw [L2.out]; exact hlt)
        have e10 := d1 _ _ E1.1
        have e11 := d1 _ _ E1.2
        have e20 := d2 _ _ E2.1
        have e21 := d2 _ _ E2.2
        rw [← Nat.add_assoc] at e11
        rw [← Nat.add_assoc] at e21
        clear E1 E2
        generalize C1.getD k noPl = x at *
        generalize C2.getD k noPl = y at *
        clear d1 d2
        by_cases hfg : x = y
        · subst hfg
          obtain ⟨x0, x1⟩ := x
          simp only at e10 e11 e20 e21
          have t0 : (x0 == x0) = true := by simp
          have t1 : (x1 == x1) = true := by simp
          have HS2 : Hid (C1.drop (k + 1) = C2.drop (k + 1) ↔ C1 = C2) := by
            show _ ↔ _
            rw [← HS.out, HD.out]
            exact ⟨fun h => ⟨rfl, h⟩, fun h => h.2⟩
          go_wp2_with fail
          go_quiet (fail)
          go_wp2_with fail
          go_roundw
          case rel => exact ⟨k + 1, _, by omega, by go_num, HS2.out, rfl⟩
          case measure => simp [intOf]; omega
        · have hno : Hid (¬ C1 = C2) := by
            show ¬ _
            rw [← HS.out, HD.out]
            exact fun h => hfg h.1
          obtain ⟨x0, x1⟩ := x
          obtain ⟨y0, y1⟩ := y
          simp only at e10 e11 e20 e21
          by_cases hq0 : x0 = y0
          rotate_left
          · have t0 : (x0 == y0) = false := by rw [beq_eq_false_iff_ne]; exact hq0
            clear hfg hq0
            go_wp2_with fail
            go_quiet (fail)
            go_wp2_with fail
            go_ret
            exact ⟨⟨false, rfl, IffB.f hno.out⟩, _, drewN_addL _ _ _⟩
          subst hq0
          have t0 : (x0 == x0) = true := by simp
          have hq1 : ¬ x1 = y1 := fun h => hfg (by rw [h])
          have t1 : (x1 == y1) = false := by rw [beq_eq_false_iff_ne]; exact hq1
          clear hfg hq1
          go_wp2_with fail
          go_quiet (fail)
          go_wp2_with fail
          go_ret
          exact ⟨⟨false, rfl, IffB.f hno.out⟩, _, drewN_addL _ _ _⟩
      · have hyes : Hid (C1 = C2) := HS.out.1 (by rw [List.drop_of_length_le (by rw [L1.out]; omega), List.drop_of_length_le (by rw [L2.out]; omega)])
        go_wp2_with fail
        go_ret
        exact ⟨⟨true, rfl, IffB.t hyes.out⟩, _, rfl⟩
  · have ht : ((n1 : Int) != (n2 : Int)) = true := by rw [bne_iff_ne]; omega
    have hno : Hid (¬ C1 = C2) := fun e => hn (by rw [← L1.out, ← L2.out, e])
    clear hn
    go_enter Tryd.func34, Tryd.ntmps34
    go_wp2_with fail
    go_ret
    exact ⟨⟨false, rfl, IffB.f hno.out⟩, 0, rfl⟩
end Go.Proofs.YtbakgobgjfhhhaaDoor

/- What slices.Equal answers of two slices of ints, by their cells. -/
namespace Go.Proofs.YtbakgobgjfhhhaaDoor
open Go.RowKit

theorem drewN_addN (w : World) (q r : Nat) : (w.drewN q).drewN r = w.drewN (q + r) := by simp [World.drewN, Nat.add_assoc]
theorem toList_injN {s t : ByteArray} (h : s.toList = t.toList) : s = t := by
  rw [ByteArray.toList_eq, ByteArray.toList_eq] at h
  exact bytes_ext h
theorem drop_eqN {α : Type} (l m : List α) (k : Nat) (d : α) (h1 : k < l.length) (h2 : k < m.length) : l.drop k = m.drop k ↔ l.getD k d = m.getD k d ∧ l.drop (k + 1) = m.drop (k + 1) := by
  rw [drop_atPl l k d h1, drop_atPl m k d h2, List.cons.injEq]

set_option maxRecDepth 20000 in
set_option maxHeartbeats 800000 in
theorem equalN_any (a1 a2 : Option Addr) (n1 c1 n2 c2 : Nat) (C1 C2 : List Int) (w : World) (h1 : Rd w a1 n1 1 (inC C1)) (h2 : Rd w a2 n2 1 (inC C2)) (l1 : C1.length = n1) (l2 : C2.length = n2) (b1 : n1 ≤ 17592186044416) (b2 : n2 ≤ 17592186044416) :
    Calls Tryd.prog 35 #[.slice a1 n1 c1, .slice a2 n2 c2] w fun e w' => (∃ b, e = .returned (.bool b) ∧ IffB b (C1 = C2)) ∧ ∃ q, w' = w.drewN q := by
  have K1 := Hid.mk' h1
  have K2 := Hid.mk' h2
  have L1 := Hid.mk' l1
  have L2 := Hid.mk' l2
  clear h1 h2 l1 l2
  by_cases hn : n1 = n2
  · subst hn
    have ht : ((n1 : Int) != (n1 : Int)) = false := by simp
    go_enter Tryd.func35, Tryd.ntmps35
    go_wp2_with fail
    go_loopw [13] (fun i wr => ∃ k q : Nat, k ≤ n1 ∧ i = .int .i64 k ∧ (C1.drop k = C2.drop k ↔ C1 = C2) ∧ wr = w.drewN q) (fun i _ => n1 - (intOf i).toNat)
    case atStart => exact ⟨0, 0, Nat.zero_le _, rfl, Iff.rfl, rfl⟩
    case round =>
      obtain ⟨k, q, hk, rfl, hs, rfl⟩ := hrel
      have HS := Hid.mk' hs
      clear hs
      by_cases hlt : k < n1
      · obtain ⟨g1, o1, rfl, _, d1⟩ := K1.out.at' (by omega)
        obtain ⟨g2, o2, rfl, _, d2⟩ := K2.out.at' (by omega)
        have HD := Hid.mk' (drop_eqN C1 C2 k 0 (by rw [L1.out]; exact hlt) (by rw [L2.out]; exact hlt))
        have e1 := d1 k _ (inC_at C1 k (by rw [L1.out]; exact hlt))
        have e2 := d2 k _ (inC_at C2 k (by rw [L2.out]; exact hlt))
        generalize C1.getD k 0 = x at *
        generalize C2.getD k 0 = y at *
        clear d1 d2
        by_cases hfg : x = y
        · subst hfg
          have t0 : (x == x) = true := by simp
          have t1 : (x != x) = false := by simp
          have HS2 : Hid (C1.drop (k + 1) = C2.drop (k + 1) ↔ C1 = C2) := by
            show _ ↔ _
            rw [← HS.out, HD.out]
            exact ⟨fun h => ⟨rfl, h⟩, fun h => h.2⟩
          go_wp2_with fail
          go_quiet (fail)
          go_wp2_with fail
          go_roundw
          case rel => exact ⟨k + 1, _, by omega, by go_num, HS2.out, rfl⟩
          case measure => simp [intOf]; omega
        · have hno : Hid (¬ C1 = C2) := by
            show ¬ _
            rw [← HS.out, HD.out]
            exact fun h => hfg h.1
          have t0 : (x == y) = false := by rw [beq_eq_false_iff_ne]; exact hfg
          have t1 : (x != y) = true := by rw [bne_iff_ne]; exact hfg
          clear hfg
          go_wp2_with fail
          go_quiet (fail)
          go_wp2_with fail
          go_ret
          exact ⟨⟨false, rfl, IffB.f hno.out⟩, _, drewN_addN _ _ _⟩
      · have hyes : Hid (C1 = C2) := HS.out.1 (by rw [List.drop_of_length_le (by rw [L1.out]; omega), List.drop_of_length_le (by rw [L2.out]; omega)])
        go_wp2_with fail
        go_ret
        exact ⟨⟨true, rfl, IffB.t hyes.out⟩, _, rfl⟩
  · have ht : ((n1 : Int) != (n2 : Int)) = true := by rw [bne_iff_ne]; omega
    have hno : Hid (¬ C1 = C2) := fun e => hn (by rw [← L1.out, ← L2.out, e])
    clear hn
    go_enter Tryd.func35, Tryd.ntmps35
    go_wp2_with fail
    go_ret
    exact ⟨⟨false, rfl, IffB.f hno.out⟩, 0, rfl⟩
end Go.Proofs.YtbakgobgjfhhhaaDoor

/- What linenref.SameImap answers of the same. -/
namespace Go.Proofs.YtbakgobgjfhhhaaDoor
open Go.RowKit

set_option maxRecDepth 20000 in
set_option maxHeartbeats 1600000 in
theorem sameim_yes (a0 : Option Addr) (n c : Nat) (a1 : Option Addr) (m e : Nat) (b0 : Option Addr) (n2 c2 : Nat) (b1 : Option Addr) (m2 e2 : Nat) (P : List Pla) (G : List Int) (w : World) (h1 : Pls w a0 n c P) (h2 : Its w a1 m e G) (h3 : Pls w b0 n2 c2 P) (h4 : Its w b1 m2 e2 G) :
    Calls Tryd.prog 13 #[.agg #[.slice a0 n c, .slice a1 m e], .agg #[.slice b0 n2 c2, .slice b1 m2 e2]] w fun z w' => z = .returned (.bool true) ∧ Below w.heap.size w w' := by
  have hba := below_boxP (w := w) #[.slice a0 n c, .slice a1 m e] 25
  have hB : Below w.heap.size w ((w.alloc (.cells #[.slice a0 n c, .slice a1 m e] 25)).alloc (.cells #[.slice b0 n2 c2, .slice b1 m2 e2] 25)) := hba.alloc hba.size _
  have hv1 := (boxV_new w [.slice a0 n c, .slice a1 m e] 25).alloc (.cells #[.slice b0 n2 c2, .slice b1 m2 e2] 25)
  have hv2 := boxV_new (w.alloc (.cells #[.slice a0 n c, .slice a1 m e] 25)) [.slice b0 n2 c2, .slice b1 m2 e2] 25
  rw [show (w.alloc (.cells #[.slice a0 n c, .slice a1 m e] 25)).heap.size = w.heap.size + 1 by simp] at hv2
  obtain ⟨W0, hW0⟩ : ∃ W, Hid ((w.alloc (.cells #[.slice a0 n c, .slice a1 m e] 25)).alloc (.cells #[.slice b0 n2 c2, .slice b1 m2 e2] 25) = W) := ⟨_, Hid.mk' rfl⟩
  have HB : Hid (Below w.heap.size w W0) := by rw [← hW0.out]; exact hB
  have HV1 : Hid (BoxV W0 w.heap.size [.slice a0 n c, .slice a1 m e]) := by rw [← hW0.out]; exact hv1
  have HV2 : Hid (BoxV W0 (w.heap.size + 1) [.slice b0 n2 c2, .slice b1 m2 e2]) := by rw [← hW0.out]; exact hv2
  have H1 := Hid.mk' (h1.below HB.out)
  have H2 := Hid.mk' (h2.below HB.out)
  have H3 := Hid.mk' (h3.below HB.out)
  have H4 := Hid.mk' (h4.below HB.out)
  have k1 := h1.nB
  have k2 := h2.nB
  have k3 := h3.nB
  have k4 := h4.nB
  clear hba hB hv1 hv2 h1 h2 h3 h4
  go_enter Tryd.func13, Tryd.ntmps13
  go_wp2_with fail
  rw [hW0.out]
  refine (equalL_any a0 b0 n c n2 c2 P P W0 H1.out.rd H3.out.rd H1.out.nL H3.out.nL k1 k3).mono ?_
  rintro z w3 ⟨⟨v, rfl, hv⟩, r, rfl⟩
  rw [hv.yes rfl]
  have p1 := (HV1.out.below (below_dP W0 r)).c 1 _ rfl
  have q1 := (HV2.out.below (below_dP W0 r)).c 1 _ rfl
  go_wp2_with fail
  refine (equalN_any a1 b1 m e m2 e2 G G (W0.drewN r) (H2.out.rd.below (below_dP W0 r)) (H4.out.rd.below (below_dP W0 r)) H2.out.nL H4.out.nL k2 k4).mono ?_
  rintro z w4 ⟨⟨v2, rfl, hv2⟩, r2, rfl⟩
  rw [hv2.yes rfl]
  go_wp2_with fail
  go_ret
  exact ⟨rfl, HB.out.trans (below_dP _ _)⟩
end Go.Proofs.YtbakgobgjfhhhaaDoor
