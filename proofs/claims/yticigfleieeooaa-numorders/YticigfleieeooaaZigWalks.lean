/- What num.Zig answers. -/
import Derived.Test.YticigfleieeooaaBase
import Derived.Test.YticigfleieeooaaFlipMath
namespace Go.Proofs.Yticigfleieeooaa
open Go.RowKit

def zigN (n : Int) : Nat := if n < 0 then 2 * (-(n + 1)).toNat + 1 else 2 * n.toNat
def zagI (u : Nat) : Int := if u % 2 = 1 then -((u / 2 : Nat) : Int) - 1 else ((u / 2 : Nat) : Int)
theorem zig_or (m : Int) (h0 : 0 ≤ m) (h : m < 9223372036854775808) : bits .or .u64 (m * 2) 1 = 2 * m + 1 := by
  obtain ⟨k, rfl⟩ := Int.eq_ofNat_of_zero_le h0
  rw [show (k : Int) * 2 = ((2 * k : Nat) : Int) by omega, show (1 : Int) = ((1 : Nat) : Int) from rfl, u64_or_nat _ _ (by omega) (by omega), or_even _ _ (by omega)]
  omega
theorem zig_neg (n : Int) (h : n < 0) : (zigN n : Int) = 2 * (-(n + 1)) + 1 := by unfold zigN; rw [if_pos h]; omega
theorem zig_pos (n : Int) (h : ¬ n < 0) : (zigN n : Int) = 2 * n := by unfold zigN; rw [if_neg h]; omega
theorem zag_odd (u : Nat) (h : u % 2 = 1) : zagI u = -((u / 2 : Nat) : Int) - 1 := by unfold zagI; rw [if_pos h]
theorem zag_even (u : Nat) (h : ¬ u % 2 = 1) : zagI u = ((u / 2 : Nat) : Int) := by unfold zagI; rw [if_neg h]
theorem zig_zag (u : Nat) : zigN (zagI u) = u := by
  have := Nat.mod_two_eq_zero_or_one u
  unfold zagI zigN
  split <;> split <;> omega
theorem zag_zig (n : Int) : zagI (zigN n) = n := by
  unfold zagI zigN
  split <;> split <;> omega
theorem zig_lt (n : Int) (h1 : -9223372036854775808 ≤ n) (h2 : n ≤ 9223372036854775807) : zigN n < 18446744073709551616 := by
  unfold zigN; split <;> omega
theorem zag_bd (u : Nat) (h : u < 18446744073709551616) : -9223372036854775808 ≤ zagI u ∧ zagI u ≤ 9223372036854775807 := by
  unfold zagI; split <;> omega

set_option maxHeartbeats 400000 in
theorem zig_any (n : Int) (w : World) (h1 : -9223372036854775808 ≤ n) (h2 : n ≤ 9223372036854775807) :
    Calls Try.prog 12 #[.int .i64 n] w fun e w' => e = .returned (.int .u64 (zigN n : Nat)) ∧ w' = w := by
  by_cases h : n < 0
  · have hz := Hid.mk' (zig_neg n h)
    go_enter Try.func12, Try.ntmps12
    go_wp2
    go_ret
    exact ⟨ret_int (by rw [hz.out]; exact zig_or _ (by omega) (by omega)), rfl⟩
  · have hz := Hid.mk' (zig_pos n h)
    go_enter Try.func12, Try.ntmps12
    go_wp2
    go_ret
    exact ⟨ret_int (by rw [hz.out]; omega), rfl⟩
end Go.Proofs.Yticigfleieeooaa
