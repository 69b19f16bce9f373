import Derived.Test.YtcalbicfnhoklaaDoorMsac
import Derived.Test.YtcalbicfnhoklaaDoorSwapCoins
import Derived.Deep.RegionHeld3

/- The order of coins, by what they cost. -/
namespace Go.Proofs.YtcalbicfnhoklaaDoor
open Go.RowKit

set_option maxHeartbeats 400000 in
theorem keyC_at (c : Int) (p : Bool) (w : World) :
    Calls Tryd.prog 77 #[.agg #[.int .i64 c, .bool p]] w fun e w' => e = .returned (.int .i64 c) ∧ w' = w.alloc (.cells #[.int .i64 c, .bool p] 126) := by
  go_enter Tryd.func77, Tryd.ntmps77
  go_wp2_with fail
  go_ret
  exact ⟨rfl, rfl⟩

set_option maxRecDepth 20000 in
set_option maxHeartbeats 2000000 in
theorem cmpC_at (kb : Nat) (c d : Int) (p q : Bool) (w : World) (hk : w.cell? ⟨kb, 0, none⟩ = some (.func (.func 77) #[] #[])) (hl : kb < w.heap.size) :
    Calls Tryd.prog 87 #[.agg #[.int .i64 c, .bool p], .agg #[.int .i64 d, .bool q], .pointer (some ⟨kb, 0, none⟩)] w fun e w' => e = .returned (.int .i64 (cmpV c d)) ∧ Below w.heap.size w w' := by
  go_enter Tryd.func87, Tryd.ntmps87
  go_wp2_with fail
  obtain ⟨W, hW⟩ : ∃ W, Hid ((w.alloc (.cells #[.int .i64 c, .bool p] 126)).alloc (.cells #[.int .i64 d, .bool q] 126) = W) := ⟨_, Hid.mk' rfl⟩
  have HB : Hid (Below w.heap.size w W) := by rw [← hW.out]; exact ((Below.refl _ _).alloc (Nat.le_refl _) _).alloc (by simp) _
  have k0 : W.cell? ⟨kb, 0, none⟩ = some (.func (.func 77) #[] #[]) := (HB.out.cell (p := ⟨kb, 0, none⟩) hl).trans hk
  have c0 : W.cell? ⟨w.heap.size, 0, none⟩ = some (.int .i64 c) := by rw [← hW.out]; rw [World.cell?_alloc_lt _ _ _ (by simp)]; simp
  have c1 : W.cell? ⟨w.heap.size, 1, none⟩ = some (.bool p) := by rw [← hW.out]; rw [World.cell?_alloc_lt _ _ _ (by simp), World.cell?_alloc_new]; rfl
  have d0 : W.cell? ⟨w.heap.size + 1, 0, none⟩ = some (.int .i64 d) := by
    rw [← hW.out]
    have e : w.heap.size + 1 = (w.alloc (.cells #[.int .i64 c, .bool p] 126)).heap.size := by simp
    rw [e, World.cell?_alloc_new]; rfl
  have d1 : W.cell? ⟨w.heap.size + 1, 1, none⟩ = some (.bool q) := by
    rw [← hW.out]
    have e : w.heap.size + 1 = (w.alloc (.cells #[.int .i64 c, .bool p] 126)).heap.size := by simp
    rw [e, World.cell?_alloc_new]; rfl
  rw [hW.out]
  have hWs := HB.out.size
  clear hk
  go_region_held3 (fun X => X.cell? ⟨kb, 0, none⟩ = some (.func (.func 77) #[] #[]) ∧ X.cell? ⟨w.heap.size, 0, none⟩ = some (.int .i64 c) ∧ X.cell? ⟨w.heap.size, 1, none⟩ = some (.bool p) ∧ X.cell? ⟨w.heap.size + 1, 0, none⟩ = some (.int .i64 d) ∧ X.cell? ⟨w.heap.size + 1, 1, none⟩ = some (.bool q)) (go_keep) (first | (go_at_call 77; refine (keyC_at _ _ _).mono ?_; rintro e w' ⟨rfl, rfl⟩) | (go_at_call 85; refine (compare_int _ _ _).mono ?_; rintro e w' ⟨rfl, rfl⟩) | fail)
  all_goals
    go_wp2_with fail
    go_ret
    exact ⟨rfl, ((HB.out.alloc hWs _).alloc (by simp; omega) _).drew⟩
/-- a row of coins that is sorted, as it stands -/
structure CoRow (w wr : World) (g n : Nat) (s : Nat → Int × Bool) : Prop where
  row : RowCo wr g n s
  gr : w.grownBy wr (some g)
/-- what the order reads -/
structure OrdC (w : World) (g kb : Nat) : Prop where
  k : w.cell? ⟨kb, 0, none⟩ = some (.func (.func 77) #[] #[])
  kl : kb < w.heap.size
  kg : kb ≠ g
theorem OrdC.grown {w w' : World} {g kb : Nat} (h : OrdC w g kb) (hg : w.grownBy w' (some g)) : OrdC w' g kb :=
  ⟨(World.cell?_of_block (hg.block kb h.kl (by simpa using h.kg))).trans h.k, Nat.lt_of_lt_of_le h.kl hg.size, h.kg⟩
theorem CoRow.below {w wr w' : World} {g n : Nat} {s : Nat → Int × Bool} (h : CoRow w wr g n s) (hb : Below wr.heap.size wr w') : CoRow w w' g n s := by
  have cel : ∀ p : Nat, w'.cell? ⟨g, p, none⟩ = wr.cell? ⟨g, p, none⟩ := fun p => hb.cell (p := ⟨g, p, none⟩) h.row.lt
  have fro : ∀ p : Nat, w'.frozen? ⟨g, p, none⟩ = wr.frozen? ⟨g, p, none⟩ := fun p => World.frozen?_of_block (hb.block g h.row.lt)
  refine ⟨⟨fun i hi => (cel _).trans (h.row.c0 i hi), fun i hi => (cel _).trans (h.row.c1 i hi), fun i hi => (fro _).trans (h.row.f0 i hi), fun i hi => (fro _).trans (h.row.f1 i hi), Nat.lt_of_lt_of_le h.row.lt hb.size⟩, grown_trans h.gr ⟨hb.os, hb.tape, hb.output, hb.size, fun k hk _ => hb.block k hk⟩⟩
theorem CoRow.drew {w wr : World} {g n : Nat} {s : Nat → Int × Bool} (h : CoRow w wr g n s) : CoRow w wr.drew g n s := ⟨h.row.drew, grown_drew h.gr⟩
theorem CoRow.swap {w wr : World} {g n : Nat} {s : Nat → Int × Bool} (h : CoRow w wr g n s) (i j : Nat) (hi : i < n) (hj : j < n) :
    CoRow w ((((wr.setCell ⟨g, i * 2, none⟩ (.int .i64 (s j).1)).setCell ⟨g, i * 2 + 1, none⟩ (.bool (s j).2)).setCell ⟨g, j * 2, none⟩ (.int .i64 (s i).1)).setCell ⟨g, j * 2 + 1, none⟩ (.bool (s i).2)).drew g n (swF s i j) :=
  ⟨(h.row.swap i j hi hj).drew, grown_drew (grown_swap4 h.gr _ _ _ _ _ _ _ _)⟩
end Go.Proofs.YtcalbicfnhoklaaDoor
