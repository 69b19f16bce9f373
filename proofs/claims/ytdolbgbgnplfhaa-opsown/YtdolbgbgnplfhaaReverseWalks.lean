/- What slices.Reverse does to a row of ops. -/
import Derived.Test.YtdolbgbgnplfhaaOps
import Derived.Test.YtdolbgbgnplfhaaGrownKit
import Derived.BigRegion
import Derived.Deep.OwnRows
namespace Go.Proofs.Ytdolbgbgnplfhaa
open Go.RowKit

/-- a row of ops in a block of its own, which may be written -/
structure RowOp (w : World) (g n : Nat) (f : Nat → Opp) : Prop where
  c0 : ∀ i, i < n → w.cell? ⟨g, i * 3, none⟩ = some (.int .i64 (f i).kd)
  c1 : ∀ i, i < n → w.cell? ⟨g, i * 3 + 1, none⟩ = some (.int .i64 (f i).pl)
  c2 : ∀ i, i < n → w.cell? ⟨g, i * 3 + 2, none⟩ = some (.string (f i).tx)
  f0 : ∀ i, i < n → w.frozen? ⟨g, i * 3, none⟩ = false
  f1 : ∀ i, i < n → w.frozen? ⟨g, i * 3 + 1, none⟩ = false
  f2 : ∀ i, i < n → w.frozen? ⟨g, i * 3 + 2, none⟩ = false
  lt : g < w.heap.size
def set3 (w : World) (g k : Nat) (x : Opp) : World := ((w.setCell ⟨g, k * 3, none⟩ (.int .i64 x.kd)).setCell ⟨g, k * 3 + 1, none⟩ (.int .i64 x.pl)).setCell ⟨g, k * 3 + 2, none⟩ (.string x.tx)
theorem set3_other (w : World) (g k : Nat) (x : Opp) (j : Nat) (h : j < k * 3 ∨ k * 3 + 2 < j) : (set3 w g k x).cell? ⟨g, j, none⟩ = w.cell? ⟨g, j, none⟩ := by
  unfold set3
  rw [World.cell?_setCell_other _ _ _ _ (by intro e; simp only [Addr.mk.injEq] at e; omega), World.cell?_setCell_other _ _ _ _ (by intro e; simp only [Addr.mk.injEq] at e; omega), World.cell?_setCell_other _ _ _ _ (by intro e; simp only [Addr.mk.injEq] at e; omega)]
theorem set3_frozen (w : World) (g k : Nat) (x : Opp) (j : Nat) : (set3 w g k x).frozen? ⟨g, j, none⟩ = w.frozen? ⟨g, j, none⟩ := by
  unfold set3
  rw [World.frozen?_setCell, World.frozen?_setCell, World.frozen?_setCell]
theorem RowOp.set {w : World} {g n : Nat} {f : Nat → Opp} (h : RowOp w g n f) (k : Nat) (hk : k < n) (x : Opp) : RowOp (set3 w g k x) g n (fun i => if i = k then x else f i) := by
  refine ⟨fun i hi => ?_, fun i hi => ?_, fun i hi => ?_, fun i hi => ?_, fun i hi => ?_, fun i hi => ?_, by simpa [set3, World.setCell] using h.lt⟩
  · by_cases e : i = k
    · subst e
      rw [if_pos rfl]
      unfold set3
      rw [World.cell?_setCell_other _ _ _ _ (by intro e; simp only [Addr.mk.injEq] at e; omega), World.cell?_setCell_other _ _ _ _ (by intro e; simp only [Addr.mk.injEq] at e; omega)]
      exact World.cell?_setCell_same _ _ _ (h.c0 i hi)
    · rw [if_neg e, set3_other _ _ _ _ _ (by omega)]; exact h.c0 i hi
  · by_cases e : i = k
    · subst e
      rw [if_pos rfl]
      unfold set3
      rw [World.cell?_setCell_other _ _ _ _ (by intro e; simp only [Addr.mk.injEq] at e; omega)]
      exact World.cell?_setCell_same _ _ _ (u := .int .i64 (f i).pl) (by rw [World.cell?_setCell_other _ _ _ _ (by intro e; simp only [Addr.mk.injEq] at e; omega)]; exact h.c1 i hi)
    · rw [if_neg e, set3_other _ _ _ _ _ (by omega)]; exact h.c1 i hi
  · by_cases e : i = k
    · subst e
      rw [if_pos rfl]
      unfold set3
      exact World.cell?_setCell_same _ _ _ (u := .string (f i).tx) (by rw [World.cell?_setCell_other _ _ _ _ (by intro e; simp only [Addr.mk.injEq] at e; omega), World.cell?_setCell_other _ _ _ _ (by intro e; simp only [Addr.mk.injEq] at e; omega)]; exact h.c2 i hi)
    · rw [if_neg e, set3_other _ _ _ _ _ (by omega)]; exact h.c2 i hi
  · rw [set3_frozen]; exact h.f0 i hi
  · rw [set3_frozen]; exact h.f1 i hi
  · rw [set3_frozen]; exact h.f2 i hi
theorem RowOp.congr {w : World} {g n : Nat} {f f' : Nat → Opp} (h : RowOp w g n f) (he : ∀ i, i < n → f i = f' i) : RowOp w g n f' :=
  ⟨fun i hi => by rw [← he i hi]; exact h.c0 i hi, fun i hi => by rw [← he i hi]; exact h.c1 i hi, fun i hi => by rw [← he i hi]; exact h.c2 i hi, h.f0, h.f1, h.f2, h.lt⟩
theorem RowOp.drew {w : World} {g n : Nat} {f : Nat → Opp} (h : RowOp w g n f) : RowOp w.drew g n f := ⟨h.c0, h.c1, h.c2, h.f0, h.f1, h.f2, h.lt⟩
/-- the first k and the last k have changed places -/
def revF (n : Nat) (f : Nat → Opp) (k : Nat) : Nat → Opp := fun i => if i < k ∨ n - k ≤ i then f (n - 1 - i) else f i
theorem revF_zero (n : Nat) (f : Nat → Opp) (i : Nat) (h : i < n) : revF n f 0 i = f i := by
  unfold revF; rw [if_neg (by omega)]
theorem revF_end (n : Nat) (f : Nat → Opp) (k i : Nat) (h : i < n) (hk : n ≤ 2 * k + 1) : revF n f k i = f (n - 1 - i) := by
  unfold revF
  by_cases e : i < k ∨ n - k ≤ i
  · rw [if_pos e]
  · rw [if_neg e]
    have : n - 1 - i = i := by omega
    rw [this]
theorem revF_step (n : Nat) (f : Nat → Opp) (k j : Nat) (hj : j + k + 1 = n) (h : k < j) (i : Nat) (hi : i < n) :
    (if i = j then revF n f k k else if i = k then revF n f k j else revF n f k i) = revF n f (k + 1) i := by
  have e1 : revF n f k k = f k := by unfold revF; rw [if_neg (by omega)]
  have e2 : revF n f k j = f j := by unfold revF; rw [if_neg (by omega)]
  rw [e1, e2]
  unfold revF
  by_cases h1 : i = j
  · rw [if_pos h1, if_pos (by omega)]
    exact congrArg f (by omega)
  · rw [if_neg h1]
    by_cases h2 : i = k
    · rw [if_pos h2, if_pos (by omega)]
      exact congrArg f (by omega)
    · rw [if_neg h2]
      by_cases h3 : i < k ∨ n - k ≤ i
      · rw [if_pos h3, if_pos (by omega)]
      · rw [if_neg h3, if_neg (by omega)]
theorem RowOp.turn {w : World} {g n : Nat} {f : Nat → Opp} {k j : Nat} (h : RowOp w g n (revF n f k)) (hj : j + k + 1 = n) (hlt : k < j) {x y : Opp} (hx : revF n f k k = x) (hy : revF n f k j = y) :
    RowOp (set3 (set3 w g k y) g j x) g n (revF n f (k + 1)) :=
  ((h.set k (by omega) y).set j (by omega) x).congr fun i hi => by
    rw [← revF_step n f k j hj hlt i hi, hx, hy]
theorem grown_set3 {w wr : World} {g : Nat} (h : w.grownBy wr (some g)) (k j : Nat) (x y : Opp) : w.grownBy (set3 (set3 wr g k y) g j x) (some g) := by
  unfold set3
  exact grown_swap (grown_swap (grown_swap h _ _ _ _) _ _ _ _) _ _ _ _

set_option maxRecDepth 20000 in
set_option maxHeartbeats 2000000 in
theorem reverse_row (g n cap : Nat) (f : Nat → Opp) (w : World) (hR : RowOp w g n f) (hn : n ≤ 8796093022208) :
    Calls Try.prog 37 #[.slice (some ⟨g, 0, none⟩) n cap] w fun e w' => e = .returned (.tuple #[]) ∧ RowOp w' g n (fun i => f (n - 1 - i)) ∧ w.grownBy w' (some g) := by
  have HR := Hid.mk' hR
  clear hR
  go_enter Try.func37, Try.ntmps37
  go_wp2_with fail
  go_loopw [2, 3] (fun iv jv wr => ∃ k : Nat, k ≤ n ∧ iv = .int .i64 (k : Int) ∧ jv = .int .i64 ((n : Int) - 1 - (k : Int)) ∧ RowOp wr g n (revF n f k) ∧ w.grownBy wr (some g)) (fun iv _ _ => n - (intOf iv).toNat)
  case atStart => exact ⟨0, Nat.zero_le _, rfl, by go_num, HR.out.congr (fun i hi => (revF_zero n f i hi).symm), grown_refl _ _⟩
  case round =>
    clear HR
    obtain ⟨k, hk, rfl, rfl, hrow, hgr⟩ := hrel
    have HR := Hid.mk' hrow
    have HGr := Hid.mk' hgr
    clear hrow hgr
    by_cases hlt : k + 1 < n - k
    · obtain ⟨j, hj⟩ : ∃ j, Hid (j + k + 1 = n) := ⟨n - k - 1, Hid.mk' (by omega)⟩
      have ej : (n : Int) - 1 - (k : Int) = (j : Int) := by have := hj.out; omega
      rw [ej]
      have hkj : k < j := by have := hj.out; omega
      have hkn : k < n := by omega
      have hjn : j < n := by have := hj.out; omega
      have a0 := HR.out.c0 k hkn
      have a1 := HR.out.c1 k hkn
      have a2 := HR.out.c2 k hkn
      have b0 := HR.out.c0 j hjn
      have b1 := HR.out.c1 j hjn
      have b2 := HR.out.c2 j hjn
      have af0 := HR.out.f0 k hkn
      have af1 := HR.out.f1 k hkn
      have af2 := HR.out.f2 k hkn
      have bf0 := HR.out.f0 j hjn
      have bf1 := HR.out.f1 j hjn
      have bf2 := HR.out.f2 j hjn
      obtain ⟨x, hx⟩ : ∃ x, revF n f k k = x := ⟨_, rfl⟩
      obtain ⟨y, hy⟩ : ∃ y, revF n f k j = y := ⟨_, rfl⟩
      have HS := Hid.mk' (HR.out.turn hj.out hkj hx hy)
      have HG2 := Hid.mk' (grown_set3 HGr.out k j x y)
      rw [hx] at a0 a1 a2
      rw [hy] at b0 b1 b2
      clear hx hy hlt
      obtain ⟨x0, x1, x2⟩ := x
      obtain ⟨y0, y1, y2⟩ := y
      simp only [set3] at HS HG2
      simp only at a0 a1 a2 b0 b1 b2
      have i0 : (0 : Int) ≤ (k : Int) := by omega
      have i1 : (k : Int) < (n : Int) := by omega
      have j0 : (0 : Int) ≤ (j : Int) := by omega
      have j1 : (j : Int) < (n : Int) := by omega
      have wi : IntKind.i64.wrap (k : Int) = (k : Int) := by rw [IntKind.wrap_i64]; omega
      have wj : IntKind.i64.wrap (j : Int) = (j : Int) := by rw [IntKind.wrap_i64]; omega
      go_wp2_with fail
      go_region
      all_goals
        go_wp2_with fail
        go_roundw
        case rel => exact ⟨k + 1, by omega, by go_num, by have := hj.out; go_num, HS.out.drew, grown_drew HG2.out⟩
        case measure => simp [intOf]; omega
    · have hfin := Hid.mk' (HR.out.congr (fun i hi => revF_end n f k i hi (by omega)))
      go_wp2_with fail
      go_end0
      exact ⟨rfl, hfin.out, HGr.out⟩
set_option maxHeartbeats 800000 in
theorem reverse_nil (w : World) : Calls Try.prog 37 #[.slice none 0 0] w fun e w' => e = .returned (.tuple #[]) ∧ w' = w := by
  go_enter Try.func37, Try.ntmps37
  go_wp2_with fail
  go_loopw [2, 3] (fun iv jv wr => iv = .int .i64 0 ∧ jv = .int .i64 (-1) ∧ wr = w) (fun _ _ _ => 0)
  case atStart => exact ⟨rfl, rfl, rfl⟩
  case round =>
    obtain ⟨rfl, rfl, rfl⟩ := hrel
    go_wp2_with fail
    go_end0
    exact ⟨rfl, rfl⟩
theorem rowop_of_own {w : World} {N n : Nat} {g cap : Nat} {R : List Opp} (h : w.ownsRow N 29 3 (.slice (some ⟨g, 0, none⟩) n cap) n (opC R)) (hn : R.length = n) : RowOp w g n (fun i => R.getD i noOp) ∧ N ≤ g ∧ n ≤ cap ∧ cap ≤ maxLen := by
  rcases h.2 with ⟨h0, _⟩ | ⟨g', cap', cur, hv, hb, hg, k1, k2, _, _⟩
  · cases h0
  · cases hv
    refine ⟨⟨fun i hi => ?_, fun i hi => ?_, fun i hi => ?_, fun i hi => ?_, fun i hi => ?_, fun i hi => ?_, (Array.getElem?_eq_some_iff.1 hg).1⟩, hb, k1, k2⟩
    · rw [h.cellAt (i * 3) (by omega), (opC_at R i (by omega)).1]
    · rw [h.cellAt (i * 3 + 1) (by omega), (opC_at R i (by omega)).2.1]
    · rw [h.cellAt (i * 3 + 2) (by omega), (opC_at R i (by omega)).2.2]
    all_goals
      unfold World.frozen?
      rw [hg]; rfl
theorem rd_of_rowop {w : World} {g n : Nat} {R : List Opp} (h : RowOp w g n (fun i => R.getD (n - 1 - i) noOp)) (hn : R.length = n) : Rd w (some ⟨g, 0, none⟩) n 3 (opC R.reverse) := by
  have hl : R.reverse.length = n := by rw [List.length_reverse, hn]
  refine ⟨by rw [opC_length, hl], fun hp => ⟨g, 0, rfl, h.lt, fun j u hj => ?_⟩⟩
  have hlt : j < n * 3 := by
    have := (List.getElem?_eq_some_iff.1 hj).1
    rw [opC_length, hl] at this; exact this
  obtain ⟨i, r, hr, rfl⟩ : ∃ i r, r < 3 ∧ j = i * 3 + r := ⟨j / 3, j % 3, by omega, by omega⟩
  have hi : i < n := by omega
  have hg : R.reverse.getD i noOp = R.getD (n - 1 - i) noOp := by
    rw [List.getD_eq_getElem?_getD, List.getElem?_reverse (by omega), hn, ← List.getD_eq_getElem?_getD]
  obtain ⟨e0, e1, e2⟩ := opC_at R.reverse i (by omega)
  rw [hg] at e0 e1 e2
  rw [Nat.zero_add]
  rcases (by omega : r = 0 ∨ r = 1 ∨ r = 2) with rfl | rfl | rfl
  · rw [Nat.add_zero] at hj ⊢
    rw [e0] at hj; cases hj; exact h.c0 i hi
  · rw [e1] at hj; cases hj; exact h.c1 i hi
  · rw [e2] at hj; cases hj; exact h.c2 i hi
theorem reverse_any (v : Value) (N n : Nat) (R : List Opp) (w : World) (h : w.ownsRow N 29 3 v n (opC R)) (hn : R.length = n) (hb : n ≤ 8796093022208) (hN : N ≤ w.heap.size) :
    Calls Try.prog 37 #[v] w fun e w' => e = .returned (.tuple #[]) ∧ (∃ ao cap, v = .slice ao n cap ∧ Rd w' ao n 3 (opC R.reverse) ∧ n ≤ cap ∧ cap ≤ maxLen ∧ (ao = none → cap = 0)) ∧ w.grownBy w' v.ownBlock := by
  rcases h.2 with ⟨rfl, rfl⟩ | ⟨g, cap, cur, rfl, _⟩
  · refine (reverse_nil w).mono ?_
    rintro e w' ⟨rfl, rfl⟩
    obtain rfl := List.length_eq_zero_iff.1 hn
    exact ⟨rfl, ⟨none, 0, rfl, Rd.nil _ _ _, Nat.le_refl _, Nat.zero_le _, fun _ => rfl⟩, grown_refl _ _⟩
  · obtain ⟨h1, h2, h3, h4⟩ := rowop_of_own h hn
    refine (reverse_row g n cap _ w h1 hb).mono ?_
    rintro e w' ⟨rfl, hr, hg⟩
    exact ⟨rfl, ⟨_, cap, rfl, rd_of_rowop hr hn, h3, h4, fun e => by cases e⟩, hg⟩
end Go.Proofs.Ytdolbgbgnplfhaa
