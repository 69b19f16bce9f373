/- What disk.copyOfPut answers. -/
import Derived.Test.YtdhjadgmdmdnjaaCheckDWalks
import Derived.Test.YtdhjadgmdmdnjaaCloneText
import Derived.Test.YtdhjadgmdmdnjaaBox2
import Derived.Deep.RegionHeld3
namespace Go.Proofs.Ytdhjadgmdmdnjaa
open Go.RowKit

set_option maxRecDepth 20000 in
set_option maxHeartbeats 800000 in
theorem coput_any (x : Int) (s : ByteArray) (w : World) (hs : s.size ≤ 140737488355328) :
    Calls Try.prog 55 #[.agg #[.int .i64 x, .string s]] w fun e w' => e = .returned (.agg #[.int .i64 x, .string s]) ∧ Below w.heap.size w w' := by
  go_enter Try.func55, Try.ntmps55
  go_wp2_with fail
  have c0 : ((w.alloc (.cells #[.int .i64 x, .string s] 46)).alloc (.cells #[.int .i64 0, .string ⟨#[]⟩] 46)).cell? ⟨w.heap.size, 0, none⟩ = some (.int .i64 x) := by simp
  have c1 : ((w.alloc (.cells #[.int .i64 x, .string s] 46)).alloc (.cells #[.int .i64 0, .string ⟨#[]⟩] 46)).cell? ⟨w.heap.size, 1, none⟩ = some (.string s) := by simp
  have hlt : w.heap.size < ((w.alloc (.cells #[.int .i64 x, .string s] 46)).alloc (.cells #[.int .i64 0, .string ⟨#[]⟩] 46)).heap.size := by simp; omega
  have hne : w.heap.size ≠ w.heap.size + 1 := by omega
  have HBx : Hid (Box2 ((w.alloc (.cells #[.int .i64 x, .string s] 46)).alloc (.cells #[.int .i64 0, .string ⟨#[]⟩] 46)) (w.heap.size + 1) (.int .i64 0) (.string ⟨#[]⟩)) := by
    have h := box2_new (w.alloc (.cells #[.int .i64 x, .string s] 46)) (.int .i64 0) (.string ⟨#[]⟩) 46
    rw [show (w.alloc (.cells #[.int .i64 x, .string s] 46)).heap.size = w.heap.size + 1 by simp] at h
    exact h
  have HB0 : Hid (Below w.heap.size w ((w.alloc (.cells #[.int .i64 x, .string s] 46)).alloc (.cells #[.int .i64 0, .string ⟨#[]⟩] 46))) := ((Below.refl _ w).alloc (Nat.le_refl _) _).alloc (by simp) _
  have hlt0 : w.heap.size ≤ ((w.alloc (.cells #[.int .i64 x, .string s] 46)).alloc (.cells #[.int .i64 0, .string ⟨#[]⟩] 46)).heap.size := Nat.le_of_lt hlt
  go_region_held3 (fun X => X.cell? ⟨w.heap.size, 0, none⟩ = some (.int .i64 x) ∧ X.cell? ⟨w.heap.size, 1, none⟩ = some (.string s)) (first | exact ⟨c0, c1⟩ | exact ⟨e0, e1⟩ | exact ⟨cell_set2 e0 hne hne, cell_set2 e1 hne hne⟩) ((go_at_call 36; refine (tclone_any s _ hs).mono ?_; rintro e w1 ⟨rfl, hb⟩; have e0 := (hb.cell (p := ⟨w.heap.size, 0, none⟩) hlt).trans c0; have e1 := (hb.cell (p := ⟨w.heap.size, 1, none⟩) hlt).trans c1; have HX := Hid.mk' (HBx.out.drew.below hb); have x0 := HX.out.c0; have x1 := HX.out.c1; have y0 := HX.out.f0; have y1 := HX.out.f1; have HB := Hid.mk' (HB0.out.drew.trans (hb.mono (by exact hlt0))); clear hb))
  go_wp2_with fail
  refine bodyPost_ret (results_put rfl _ _ (w.heap.size + 1) (.int .i64 x) (.string s) rfl (HX.out.set _ _)) rfl ⟨rfl, ?_⟩
  exact (HB.out.setCell (by simp) _).setCell (by simp) _
end Go.Proofs.Ytdhjadgmdmdnjaa
