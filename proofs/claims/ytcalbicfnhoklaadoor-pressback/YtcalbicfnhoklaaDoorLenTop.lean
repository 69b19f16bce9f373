import Derived.Test.YtcalbicfnhoklaaDoorLenWalks
import Derived.Test.YtcalbicfnhoklaaDoorMsac
import Derived.Test.YtcalbicfnhoklaaDoorMsae

/- What math/bits.Len answers of a small number. -/
namespace Go.Proofs.YtcalbicfnhoklaaDoor
open Go.RowKit

set_option maxHeartbeats 400000 in
theorem len_lo (x : Nat) (w : World) (h0 : 0 < x) (h1 : x < 512) :
    Calls Tryd.prog 35 #[.int .u64 (x : Int)] w fun e w' => e = .returned (.int .i64 ((lgN x + 1 : Nat) : Int)) ∧ w' = w := by
  have hL := (lg_is ⟨x, h1⟩ h0).1
  simp only at hL
  go_enter Tryd.func35, Tryd.ntmps35
  go_wp2_with fail
  refine (len64_lo (x : Int) w (by omega) (by omega)).mono ?_
  rintro e w' ⟨rfl, rfl⟩
  rw [Int.toNat_natCast, hL]
  go_wp2_with fail
  go_ret
  exact ⟨rfl, rfl⟩
end Go.Proofs.YtcalbicfnhoklaaDoor
