/- The law SumForces, walked. -/
import Derived.Test.YtjfkbkhfnnmbnacDoorMoreWalks
import Derived.Test.YtjfkbkhfnnmbnacDoorForceWalks
import Derived.Lib.SliceRun
namespace Go.Proofs.YtjfkbkhfnnmbnacDoor
open Go.RowKit

theorem tab_alloc {w : World} (h : Tab w) (o : Obj) : Tab (w.alloc o) := fun i hi => Lib.cell?_alloc_some o (h i hi)

theorem force_str (a c : BitVec 32) (w : World) :
    Calls Tryd.prog 4 #[.int .u32 (B a), .int .u32 (B c)] w fun e w' => ∃ t : ByteArray, e = .returned (.string t) ∧ t.data.toList = forceL a c ∧ ∃ C, w' = w.alloc (.cells C 5) :=
  (force_any a c w).mono fun e w' ⟨he, hw⟩ => ⟨_, he, by simp, hw⟩

theorem list_four (s : ByteArray) (h : s.size = 4) : ∃ b0 b1 b2 b3, s.data.toList = [b0, b1, b2, b3] := by
  have hl : s.data.toList.length = 4 := by simpa using h
  match s.data.toList, hl with
  | [b0, b1, b2, b3], _ => exact ⟨b0, b1, b2, b3, rfl⟩

set_option maxHeartbeats 400000 in
theorem sumForces_at (c want : BitVec 32) (s : ByteArray) (w : World) (hs : s.size ≤ maxLen) (hT : Tab w) :
    Calls Tryd.prog 3 #[.int .u32 (B c), .int .u32 (B want), .string s] w fun e w' => e = .returned (.bool true) ∧ Grown w w' := by
  by_cases h4 : s.size = 4
  · have n4 : ((s.size : Int) != 4) = false := by rw [h4]; rfl
    go_enter Tryd.func3, Tryd.ntmps3
    go_wp2_with fail
    refine (force_str _ _ _).mono ?_
    rintro e w1 ⟨t, rfl, ht, C, rfl⟩
    have hsz : t.size = 4 := by
      have := congrArg List.length ht
      simpa [forceL] using this
    have n5 : ((t.size : Int) != 4) = false := by rw [hsz]; rfl
    have hm := Hid.mk' (show moreC c t.data.toList = want by rw [ht, force_makes])
    have hT1 : Tab (w.alloc (.cells C 5)) := tab_alloc hT _
    have hTH := Hid.mk' hT1
    clear ht hT1
    go_wp2_with fail
    refine (more_any c t _ (by unfold maxLen; omega) hTH.out).mono ?_
    rintro e w' ⟨rfl, rfl⟩
    rw [hm.out]
    go_wp2_with fail
    refine (more_any c s _ hs hTH.out).mono ?_
    rintro e w' ⟨rfl, rfl⟩
    go_wp2_with fail
    refine (force_str _ _ _).mono ?_
    rintro e w1 ⟨t2, rfl, ht2, C2, rfl⟩
    have hts : t2 = s := by
      obtain ⟨b0, b1, b2, b3, hb⟩ := list_four s h4
      rw [hb, force_one, ← hb] at ht2
      exact bytes_ext ht2
    subst hts
    clear ht2
    go_wp2_with fail
    go_ret
    exact ⟨rfl, (Grown.refl _).alloc _ _ |>.alloc _ _⟩
  · have n4 : ((s.size : Int) != 4) = true := by simp; omega
    go_enter Tryd.func3, Tryd.ntmps3
    go_wp2_with fail
    refine (force_str _ _ _).mono ?_
    rintro e w1 ⟨t, rfl, ht, C, rfl⟩
    have hsz : t.size = 4 := by
      have := congrArg List.length ht
      simpa [forceL] using this
    have n5 : ((t.size : Int) != 4) = false := by rw [hsz]; rfl
    have hm := Hid.mk' (show moreC c t.data.toList = want by rw [ht, force_makes])
    have hT1 : Tab (w.alloc (.cells C 5)) := tab_alloc hT _
    have hTH := Hid.mk' hT1
    clear ht hT1
    go_wp2_with fail
    refine (more_any c t _ (by unfold maxLen; omega) hTH.out).mono ?_
    rintro e w' ⟨rfl, rfl⟩
    rw [hm.out]
    go_wp2_with fail
    go_ret
    exact ⟨rfl, (Grown.refl _).alloc _ _⟩

theorem sumForces_walk (a0 : Int) (a1 : Int) (a2 : ByteArray) (w0 : (Lit.int .u32 a0).wf = true) (w1 : (Lit.int .u32 a1).wf = true) (w2 : a2.size ≤ maxLen) (w : World) (hT : Tab w) :
    Calls Tryd.prog 3 #[.int .u32 a0, .int .u32 a1, .string a2] w fun e w' => e = .returned (.bool true) ∧ Grown w w' := by
  obtain ⟨n, rfl, hn⟩ := u32_nat w0
  obtain ⟨m, rfl, hm⟩ := u32_nat w1
  rw [B_of n hn, B_of m hm]
  exact sumForces_at _ _ a2 w w2 hT
end Go.Proofs.YtjfkbkhfnnmbnacDoor
