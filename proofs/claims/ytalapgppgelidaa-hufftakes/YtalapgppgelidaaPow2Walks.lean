/- What linenref.Pow2 answers. -/
import Derived.Test.YtalapgppgelidaaBase
import Derived.Test.YtalapgppgelidaaFlipMath
namespace Go.Proofs.Ytalapgppgelidaa
open Go.RowKit

theorem two_pow_le (k : Nat) (h : k ≤ 61) : 2 ^ k ≤ 2305843009213693952 := by
  have : 2 ^ k ≤ 2 ^ 61 := Nat.pow_le_pow_right (by decide) h
  omega
set_option maxHeartbeats 400000 in
theorem pow2_any (n : Nat) (w : World) (hn : n ≤ 61) :
    Calls Try.prog 11 #[.int .i64 n] w fun e w' => e = .returned (.int .i64 (2 ^ n : Nat)) ∧ w' = w := by
  go_enter Try.func11, Try.ntmps11
  go_wp2_with fail
  go_loop [3, 5] (fun t i => ∃ k : Nat, k ≤ n ∧ i = .int .i64 k ∧ t = .int .i64 (2 ^ k : Nat)) (fun _ i => n - (intOf i).toNat)
  case atStart => exact ⟨0, Nat.zero_le _, rfl, rfl⟩
  case round =>
    obtain ⟨k, hk, rfl, rfl⟩ := hrel
    have hp := two_pow_le k (by omega)
    have hs := Hid.mk' (Nat.pow_succ (n := 2) (m := k))
    by_cases hlt : k < n
    · generalize 2 ^ k = p at *
      go_wp2_with fail
      go_round
      case rel => exact ⟨k + 1, by omega, by go_num, by rw [hs.out]; go_num⟩
      case measure => simp [intOf]; omega
    · have hkn := Hid.mk' (show k = n by omega)
      go_wp2_with fail
      go_ret
      exact ⟨ret_int (by rw [hkn.out]), rfl⟩
end Go.Proofs.Ytalapgppgelidaa
