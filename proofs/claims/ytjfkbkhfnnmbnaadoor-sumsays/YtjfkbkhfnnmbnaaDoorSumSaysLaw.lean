/- The law SumSays, walked. -/
import Derived.Test.YtjfkbkhfnnmbnaaDoorSumWalks
import Derived.Test.YtjfkbkhfnnmbnaaDoorRSumWalks
namespace Go.Proofs.YtjfkbkhfnnmbnaaDoor
open Go.RowKit

theorem rsum_zero (s : ByteArray) (w : World) (hs : s.size ≤ maxLen) :
    Calls Tryd.prog 5 #[.int .u32 0, .string s] w fun e w' => e = .returned (.int .u32 (B (sumC s.data.toList))) ∧ w' = w :=
  rsum_any 0 s w hs

set_option maxHeartbeats 400000 in
theorem sumSays_at (c : BitVec 32) (s : ByteArray) (w : World) (hs : s.size ≤ maxLen) (hT : Tab w) :
    Calls Tryd.prog 3 #[.int .u32 (B c), .string s] w fun e w' => e = .returned (.bool true) ∧ Grown w w' := by
  go_enter Tryd.func3, Tryd.ntmps3
  go_wp2_with fail
  refine (sum_any _ _ hs hT).mono ?_
  rintro e w' ⟨rfl, rfl⟩
  go_wp2_with fail
  refine (rsum_zero _ _ hs).mono ?_
  rintro e w' ⟨rfl, rfl⟩
  go_wp2_with fail
  refine (more_any _ _ _ hs hT).mono ?_
  rintro e w' ⟨rfl, rfl⟩
  go_wp2_with fail
  refine (rsum_any _ _ _ hs).mono ?_
  rintro e w' ⟨rfl, rfl⟩
  go_wp2_with fail
  go_ret
  exact ⟨rfl, Grown.refl _⟩

theorem sumSays_walk (a0 : Int) (a1 : ByteArray) (w0 : (Lit.int .u32 a0).wf = true) (w1 : a1.size ≤ maxLen) (w : World) (hT : Tab w) :
    Calls Tryd.prog 3 #[.int .u32 a0, .string a1] w fun e w' => e = .returned (.bool true) ∧ Grown w w' := by
  obtain ⟨n, rfl, hn⟩ := u32_nat w0
  rw [B_of n hn]
  exact sumSays_at _ a1 w w1 hT
end Go.Proofs.YtjfkbkhfnnmbnaaDoor
