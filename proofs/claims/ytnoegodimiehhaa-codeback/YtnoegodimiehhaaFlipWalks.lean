/- What bits.Flip answers: the lowest bits in turned order. -/
import Derived.Test.YtnoegodimiehhaaBase
import Derived.Test.YtnoegodimiehhaaFlipMath
namespace Go.Proofs.Ytnoegodimiehhaa
open Go.RowKit

set_option maxHeartbeats 400000 in
theorem flip_lo (n : Nat) (v : Int) (w : World) (_h1 : -9223372036854775808 ≤ v) (hv : v < 0) :
    Calls Try.prog 22 #[.int .u64 n, .int .i64 v] w fun e w' => e = .returned (.int .u64 0) ∧ w' = w := by
  go_enter Try.func22, Try.ntmps22
  go_wp2
  go_loop [0, 5, 10] (fun _ t i => i = .int .i64 0 ∧ t = .int .u64 0) (fun _ _ _ => 0)
  case atStart => exact ⟨rfl, rfl⟩
  case round =>
    obtain ⟨rfl, rfl⟩ := hrel
    go_wp2
    go_ret
    exact ⟨rfl, rfl⟩

set_option maxHeartbeats 400000 in
theorem flip_in (n m : Nat) (v : Int) (w : World) (hn : n < 18446744073709551616) (hm : m ≤ 64) (h2 : v < 9223372036854775808)
    (hv : (64 < v ∧ m = 64) ∨ v = m) :
    Calls Try.prog 22 #[.int .u64 n, .int .i64 v] w fun e w' => e = .returned (.int .u64 (rv n m : Nat)) ∧ w' = w := by
  rcases hv with ⟨hv, hm0⟩ | rfl
  case' inl => have hm1 : 64 ≤ m := by omega
  case' inl => clear hm0
  all_goals
    go_enter Try.func22, Try.ntmps22
    go_wp2
    go_loop [0, 5, 10] (fun x t i => ∃ k : Nat, k ≤ m ∧ i = .int .i64 k ∧ t = .int .u64 (rv n k : Nat) ∧ x = .int .u64 (n / 2 ^ k : Nat)) (fun _ _ i => m - (intOf i).toNat)
    case atStart => exact ⟨0, Nat.zero_le _, rfl, rfl, by simp⟩
    case round =>
      obtain ⟨k, hk, rfl, rfl, rfl⟩ := hrel
      by_cases hlt : k < m
      · go_wp2
        go_round
        case rel => exact ⟨k + 1, by omega, by go_num, int_eq (flip_round n k hn (by omega)), int_eq (flip_shift n k)⟩
        case measure => simp [intOf]; omega
      · go_wp2
        go_ret
        exact ⟨ret_int (by rw [show k = m by omega]), rfl⟩

end Go.Proofs.Ytnoegodimiehhaa
