/- What num.Zag answers. -/
import Derived.Test.YticigfleieeooaaZigWalks
namespace Go.Proofs.Yticigfleieeooaa
open Go.RowKit

set_option maxHeartbeats 400000 in
theorem zag_any (u : Nat) (w : World) (h2 : u < 18446744073709551616) :
    Calls Try.prog 13 #[.int .u64 u] w fun e w' => e = .returned (.int .i64 (zagI u)) ∧ w' = w := by
  by_cases h : u % 2 = 1
  · have hz := Hid.mk' (zag_odd u h)
    have ht : ((u : Int) % 2 == 1) = true := by rw [beq_iff_eq]; omega
    go_enter Try.func13, Try.ntmps13
    go_wp2
    go_ret
    exact ⟨ret_int (by rw [hz.out]; omega), rfl⟩
  · have hz := Hid.mk' (zag_even u h)
    have ht : ((u : Int) % 2 == 1) = false := by rw [beq_eq_false_iff_ne]; omega
    go_enter Try.func13, Try.ntmps13
    go_wp2
    go_ret
    exact ⟨ret_int (by rw [hz.out]; omega), rfl⟩
end Go.Proofs.Yticigfleieeooaa
