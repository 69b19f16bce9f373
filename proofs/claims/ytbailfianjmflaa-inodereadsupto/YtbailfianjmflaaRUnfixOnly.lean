/- What linenref.Unfix answers. -/
import Derived.Test.YtbailfianjmflaaBase
import Derived.Test.YtbailfianjmflaaFixMath
import Derived.Deep.OwnRows
import Derived.RegionTactic
namespace Go.Proofs.Ytbailfianjmflaa
open Go.RowKit

theorem mul_le255 (b p : Nat) (hb : b < 256) : b * p ≤ 255 * p := Nat.mul_le_mul_right _ (by omega)
set_option maxHeartbeats 400000 in
theorem runfix_large (s : ByteArray) (w : World) (h : 8 < s.size) (_hs : s.size ≤ 140737488363520) :
    Calls Try.prog 38 #[.string s] w fun e w' => e = .returned (.tuple #[.int .u64 0, .int .i64 2]) ∧ w' = w := by
  go_enter Try.func38, Try.ntmps38
  go_wp2
  go_ret2
  exact ⟨rfl, rfl⟩
set_option maxHeartbeats 400000 in
theorem runfix_in (s : ByteArray) (w : World) (h : s.size ≤ 8) :
    Calls Try.prog 38 #[.string s] w fun e w' => e = .returned (.tuple #[.int .u64 (unfN s.data.toList : Nat), .int .i64 0]) ∧ w' = w := by
  have t2 : decide ((8 : Int) < s.size) = false := decide_eq_false (by omega)
  go_enter Try.func38, Try.ntmps38
  go_wp2_with fail
  clear t2
  go_loop [4, 5, 6] (fun t x i => ∃ k : Nat, k ≤ s.size ∧ i = .int .i64 ((k : Int) - 1) ∧ t = .int .u64 (unfN (s.data.toList.drop k) : Nat) ∧ x = .int .u64 (IntKind.u64.wrap ((256 ^ (s.size - k) : Nat) : Int))) (fun _ _ i => (intOf i + 1).toNat)
  case atStart => exact ⟨s.size, Nat.le_refl _, rfl, by rw [List.drop_of_length_le (by rw [Array.length_toList]; exact Nat.le_refl _)]; rfl, by simp; rfl⟩
  case round =>
    obtain ⟨k, hk, rfl, rfl, rfl⟩ := hrel
    by_cases hlt : 0 < k
    · obtain ⟨j, rfl⟩ : ∃ j, k = j + 1 := ⟨k - 1, by omega⟩
      have hst := Hid.mk' (unf_drop s j (by omega))
      have hb := s[j].toNat_lt
      have hm := mul_le255 s[j].toNat (256 ^ (s.size - 1 - j)) s[j].toNat_lt
      have hp := pow256_lt (s.size - 1 - j) (by omega)
      have hu : unfN (s.data.toList.drop (j + 1)) < 72057594037927936 := by
        have h1 := unfN_lt (s.data.toList.drop (j + 1))
        have h2 : 256 ^ (s.data.toList.drop (j + 1)).length ≤ 256 ^ 7 := Nat.pow_le_pow_right (by decide) (by simp; omega)
        omega
      have hpn : Hid ((256 ^ (s.size - j) : Nat) = 256 ^ (s.size - 1 - j) * 256) := by show _ = _; rw [show s.size - j = (s.size - 1 - j) + 1 by omega, Nat.pow_succ]
      rw [show s.size - (j + 1) = s.size - 1 - j by omega]
      rw [wrap_u64_of ((256 ^ (s.size - 1 - j) : Nat) : Int) (by omega) (by omega)]
      rw [show (((j + 1 : Nat) : Int) - 1) = (j : Int) by omega]
      have hwm : IntKind.u64.wrap ((s[j].toNat : Int) * ((256 ^ (s.size - 1 - j) : Nat) : Int)) = ((s[j].toNat * 256 ^ (s.size - 1 - j) : Nat) : Int) := by
        rw [← Int.natCast_mul]; exact wrap_u64_of _ (by omega) (by omega)
      have hjb : j < s.size := by omega
      generalize s[j].toNat * 256 ^ (s.size - 1 - j) = y at *
      generalize 256 ^ (s.size - 1 - j) = p at *
      generalize unfN (s.data.toList.drop (j + 1)) = m at *
      go_wp2_with fail
      go_round
      case rel => exact ⟨j, by omega, rfl, by rw [hst.out]; exact int_eq (by omega), by rw [hpn.out]; exact int_eq (by rw [Int.natCast_mul]; rfl)⟩
      case measure => simp [intOf]
    · have hk0 : Hid (k = 0) := by show _ = _; omega
      go_wp2_with fail
      go_ret2
      refine ⟨?_, rfl⟩
      rw [hk0.out]
      rfl
end Go.Proofs.Ytbailfianjmflaa
