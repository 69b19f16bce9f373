/- What linenref.Flip answers: the lowest bits in turned order. -/
import Derived.Test.YtbakgobgjfhhhaaDoorBase
import Derived.Test.YtbakgobgjfhhhaaDoorFlipMath
namespace Go.Proofs.YtbakgobgjfhhhaaDoor
open Go.RowKit

set_option maxHeartbeats 400000 in
theorem rflip_lo (n : Nat) (v : Int) (w : World) (_h1 : -9223372036854775808 ≤ v) (hv : v < 0) :
    Calls Tryd.prog 76 #[.int .u64 n, .int .i64 v] w fun e w' => e = .returned (.int .u64 0) ∧ w' = w := by
  go_enter Tryd.func76, Tryd.ntmps76
  go_wp2
  go_loop [5, 12] (fun t i => i = .int .i64 0 ∧ t = .int .u64 0) (fun _ _ => 0)
  case atStart => exact ⟨rfl, rfl⟩
  case round =>
    obtain ⟨rfl, rfl⟩ := hrel
    go_wp2
    go_ret
    exact ⟨rfl, rfl⟩

set_option maxHeartbeats 400000 in
theorem rflip_hi (n : Nat) (v : Int) (w : World) (hn : n < 18446744073709551616) (_h2 : v < 9223372036854775808) (hv : 64 < v) :
    Calls Tryd.prog 76 #[.int .u64 n, .int .i64 v] w fun e w' => e = .returned (.int .u64 (rv n 64 : Nat)) ∧ w' = w := by
  go_enter Tryd.func76, Tryd.ntmps76
  go_wp2
  go_loop [5, 12] (fun t i => ∃ k : Nat, k ≤ 64 ∧ i = .int .i64 k ∧ t = .int .u64 (ru n 64 k : Nat)) (fun _ i => 64 - (intOf i).toNat)
  case atStart => exact ⟨0, Nat.zero_le _, rfl, by rw [ru_zero]; rfl⟩
  case round =>
    obtain ⟨k, hk, rfl, rfl⟩ := hrel
    by_cases hlt : k < 64
    · rcases Nat.mod_two_eq_zero_or_one (n / 2 ^ k) with hb | hb
      · have ht := bit_no n k hn hb
        have hs := Hid.mk' (ru_skip n 64 k hlt hb)
        clear hb
        go_wp2
        go_round
        case rel => exact ⟨k + 1, by omega, by go_num, by rw [hs.out]⟩
        case measure => simp [intOf]; omega
      · have ht := bit_yes n k hn hb
        have hs := Hid.mk' (rflip_round n 64 k hlt (by omega) hb)
        clear hb
        go_wp2
        go_round
        case rel => exact ⟨k + 1, by omega, by go_num, int_eq hs.out⟩
        case measure => simp [intOf]; omega
    · go_wp2
      go_ret
      exact ⟨ret_int (by rw [show k = 64 by omega, ru_end]), rfl⟩

set_option maxHeartbeats 400000 in
theorem rflip_in (n m : Nat) (w : World) (hn : n < 18446744073709551616) (hm : m ≤ 64) :
    Calls Tryd.prog 76 #[.int .u64 n, .int .i64 m] w fun e w' => e = .returned (.int .u64 (rv n m : Nat)) ∧ w' = w := by
  have t1 : decide ((m : Int) < 0) = false := by simp
  have t2 : decide ((64 : Int) < m) = false := by simp; omega
  go_enter Tryd.func76, Tryd.ntmps76
  go_wp2
  go_loop [5, 12] (fun t i => ∃ k : Nat, k ≤ m ∧ i = .int .i64 k ∧ t = .int .u64 (ru n m k : Nat)) (fun _ i => m - (intOf i).toNat)
  case atStart => exact ⟨0, Nat.zero_le _, rfl, by rw [ru_zero]; rfl⟩
  case round =>
    obtain ⟨k, hk, rfl, rfl⟩ := hrel
    by_cases hlt : k < m
    · rcases Nat.mod_two_eq_zero_or_one (n / 2 ^ k) with hb | hb
      · have ht := bit_no n k hn hb
        have hs := Hid.mk' (ru_skip n m k hlt hb)
        clear hb
        go_wp2
        go_round
        case rel => exact ⟨k + 1, by omega, by go_num, by rw [hs.out]⟩
        case measure => simp [intOf]; omega
      · have ht := bit_yes n k hn hb
        have hs := Hid.mk' (rflip_round n m k hlt hm hb)
        clear hb
        go_wp2
        go_round
        case rel => exact ⟨k + 1, by omega, by go_num, int_eq hs.out⟩
        case measure => simp [intOf]; omega
    · go_wp2
      go_ret
      exact ⟨ret_int (by rw [show k = m by omega, ru_end]), rfl⟩

end Go.Proofs.YtbakgobgjfhhhaaDoor
