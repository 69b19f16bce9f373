/- What num.Unfix answers. -/
import Derived.Test.YtbailfianjmflaaBase
import Derived.Test.YtbailfianjmflaaFixMath
namespace Go.Proofs.Ytbailfianjmflaa
open Go.RowKit

set_option maxHeartbeats 400000 in
theorem unfix_large (s : ByteArray) (w : World) (h : 8 < s.size) (_hs : s.size ≤ 140737488363520) :
    Calls Try.prog 47 #[.string s] w fun e w' => e = .returned (.tuple #[.int .u64 0, .int .i64 2]) ∧ w' = w := by
  go_enter Try.func47, Try.ntmps47
  go_wp2
  go_ret2
  exact ⟨rfl, rfl⟩
theorem unf_take_lt (s : ByteArray) (k : Nat) (hk : k < 8) : unfN (s.data.toList.take k) < 72057594037927936 := by
  have h1 := unfN_lt (s.data.toList.take k)
  have h2 : (s.data.toList.take k).length ≤ k := List.length_take_le _ _
  have h3 : 256 ^ (s.data.toList.take k).length ≤ 256 ^ 7 := Nat.pow_le_pow_right (by decide) (by omega)
  omega
set_option maxHeartbeats 400000 in
theorem unfix_in (s : ByteArray) (w : World) (h : s.size ≤ 8) :
    Calls Try.prog 47 #[.string s] w fun e w' => e = .returned (.tuple #[.int .u64 (unfN s.data.toList : Nat), .int .i64 0]) ∧ w' = w := by
  have t2 : decide ((8 : Int) < s.size) = false := decide_eq_false (by omega)
  go_enter Try.func47, Try.ntmps47
  go_wp2_with fail
  clear t2
  go_loop [4, 11] (fun t i => ∃ k : Nat, k ≤ s.size ∧ i = .int .i64 k ∧ t = .int .u64 (unfN (s.data.toList.take k) : Nat)) (fun _ i => s.size - (intOf i).toNat)
  case atStart => exact ⟨0, Nat.zero_le _, rfl, rfl⟩
  case round =>
    obtain ⟨k, hk, rfl, rfl⟩ := hrel
    by_cases hlt : k < s.size
    · have hst := Hid.mk' (unf_step s k hlt)
      have hor := Hid.mk' <| unf_or (unfN (s.data.toList.take k)) s[k].toNat (unf_take_lt s k (by omega)) s[k].toNat_lt
      generalize unfN (s.data.toList.take k) = m at *
      go_wp2_with fail
      go_round
      case rel => exact ⟨k + 1, by omega, by go_num, by rw [hst.out]; exact int_eq hor.out⟩
      case measure => simp [intOf]; omega
    · have hkm : Hid (s.data.toList.take k = s.data.toList) := by
        show _ = _
        rw [List.take_of_length_le (by rw [Array.length_toList]; show s.size ≤ k; omega)]
      go_wp2_with fail
      go_ret2
      refine ⟨?_, rfl⟩
      rw [hkm.out]
      rfl
end Go.Proofs.Ytbailfianjmflaa
