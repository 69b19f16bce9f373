/- What linenref.Fix and linenref.Unfix answer: what num's do. -/
import Derived.Test.YtgecdldahgfncaaFixWalks
import Derived.Test.YtgecdldahgfncaaUnfixWalks
import Derived.Test.YtgecdldahgfncaaOneText
namespace Go.Proofs.Ytgecdldahgfncaa
open Go.RowKit

set_option maxHeartbeats 400000 in
theorem rfix_no (n : Nat) (v : Int) (w : World) (h : v < 1 ∨ 8 < v) :
    Calls Try.prog 20 #[.int .u64 n, .int .i64 v] w fun e w' => e = .returned (.string ⟨#[]⟩) ∧ w' = w := by
  rcases h with h | h
  · go_enter Try.func20, Try.ntmps20
    go_wp2
    go_ret
    exact ⟨rfl, rfl⟩
  · have h1 : ¬ v < 1 := by omega
    go_enter Try.func20, Try.ntmps20
    go_wp2
    go_ret
    exact ⟨rfl, rfl⟩

set_option maxHeartbeats 800000 in
theorem rfix_in (n m : Nat) (w : World) (hn : n < 18446744073709551616) (h1 : 1 ≤ m) (h8 : m ≤ 8) :
    Calls Try.prog 20 #[.int .u64 n, .int .i64 m] w fun e w' => e = .returned (.string ⟨(fixB n m).toArray⟩) ∧ Below w.heap.size w w' := by
  have t1 : decide ((m : Int) < 1) = false := decide_eq_false (by omega)
  have t2 : decide ((8 : Int) < m) = false := decide_eq_false (by omega)
  go_enter Try.func20, Try.ntmps20
  go_wp2_with fail
  clear t1 t2
  go_loopw [0, 5, 13] (fun x t i wr => ∃ k : Nat, k ≤ m ∧ i = .int .i64 k ∧ x = .int .u64 (n / 256 ^ k : Nat) ∧ t = .string ⟨(fixB n k).toArray⟩ ∧ Below w.heap.size w wr) (fun _ _ i _ => m - (intOf i).toNat)
  case atStart => exact ⟨0, Nat.zero_le _, rfl, by simp, rfl, Below.refl _ _⟩
  case round =>
    obtain ⟨k, hk, rfl, rfl, rfl, hbl⟩ := hrel
    have HB := Hid.mk' hbl
    have hsz := hbl.size
    clear hbl
    by_cases hlt : k < m
    · have hcv := one_string wr ((n / 256 ^ k : Nat) % 256 : Int)
      have hdl : n / 256 ^ k < 18446744073709551616 := Nat.lt_of_le_of_lt (Nat.div_le_self _ _) hn
      have hD := Hid.mk' (div256 n k)
      have hF : Hid (fixB n (k + 1) = UInt8.ofNat (n / 256 ^ k) :: fixB n k) := rfl
      have hll : (fixB n k).length ≤ 8 := by rw [fixB_length]; omega
      generalize n / 256 ^ k = q at *
      generalize fixB n k = l at *
      have hoc := Hid.mk' (one_cat q l)
      have hos := one_size ((q : Int) % 256)
      generalize strOfNums [(q : Int) % 256] = t at *
      go_wp2_with fail
      go_roundw
      case rel => exact ⟨k + 1, by omega, by go_num, by rw [hD.out]; go_num, by rw [hF.out, hoc.out], HB.out.alloc hsz _⟩
      case measure => simp [intOf]; omega
    · have hkm := Hid.mk' (show k = m by omega)
      go_wp2_with fail
      go_ret
      refine ⟨?_, HB.out⟩
      rw [hkm.out]
      rfl

theorem mul_le255 (b p : Nat) (hb : b < 256) : b * p ≤ 255 * p := Nat.mul_le_mul_right _ (by omega)
set_option maxHeartbeats 400000 in
theorem runfix_large (s : ByteArray) (w : World) (h : 8 < s.size) (_hs : s.size ≤ 140737488363520) :
    Calls Try.prog 18 #[.string s] w fun e w' => e = .returned (.tuple #[.int .u64 0, .int .i64 2]) ∧ w' = w := by
  go_enter Try.func18, Try.ntmps18
  go_wp2
  go_ret2
  exact ⟨rfl, rfl⟩
set_option maxHeartbeats 400000 in
theorem runfix_in (s : ByteArray) (w : World) (h : s.size ≤ 8) :
    Calls Try.prog 18 #[.string s] w fun e w' => e = .returned (.tuple #[.int .u64 (unfN s.data.toList : Nat), .int .i64 0]) ∧ w' = w := by
  have t2 : decide ((8 : Int) < s.size) = false := decide_eq_false (by omega)
  go_enter Try.func18, Try.ntmps18
  go_wp2_with fail
  clear t2
  go_loop [4, 5, 6] (fun t x i => ∃ k : Nat, k ≤ s.size ∧ i = .int .i64 ((k : Int) - 1) ∧ t = .int .u64 (unfN (s.data.toList.drop k) : Nat) ∧ x = .int .u64 (IntKind.u64.wrap ((256 ^ (s.size - k) : Nat) : Int))) (fun _ _ i => (intOf i + 1).toNat)
  case atStart => exact ⟨s.size, Nat.le_refl _, rfl, by rw [List.drop_of_length_le (by rw [Array.length_toList]; exact Nat.le_refl _)]; rfl, by simp; rfl⟩
  case round =>
    obtain ⟨k, hk, rfl, rfl, rfl⟩ := hrel
    by_cases hlt : 0 < k
    · obtain ⟨j, rfl⟩ : ∃ j, k = j + 1 := ⟨k - 1, by omega⟩
      have hst := Hid.mk' (unf_drop s j (by omega))
      have hb := s[j].toNat_lt
      have hm := mul_le255 s[j].toNat (256 ^ (s.size - 1 - j)) s[j].toNat_lt
      have hp := pow256_lt (s.size - 1 - j) (by omega)
      have hu : unfN (s.data.toList.drop (j + 1)) < 72057594037927936 := by
        have h1 := unfN_lt (s.data.toList.drop (j + 1))
        have h2 : 256 ^ (s.data.toList.drop (j + 1)).length ≤ 256 ^ 7 := Nat.pow_le_pow_right (by decide) (by simp; omega)
        omega
      have hpn : Hid ((256 ^ (s.size - j) : Nat) = 256 ^ (s.size - 1 - j) * 256) := by show _ = _; rw [show s.size - j = (s.size - 1 - j) + 1 by omega, Nat.pow_succ]
      rw [show s.size - (j + 1) = s.size - 1 - j by omega]
      rw [wrap_u64_of ((256 ^ (s.size - 1 - j) : Nat) : Int) (by omega) (by omega)]
      rw [show (((j + 1 : Nat) : Int) - 1) = (j : Int) by omega]
      have hwm : IntKind.u64.wrap ((s[j].toNat : Int) * ((256 ^ (s.size - 1 - j) : Nat) : Int)) = ((s[j].toNat * 256 ^ (s.size - 1 - j) : Nat) : Int) := by
        rw [← Int.natCast_mul]; exact wrap_u64_of _ (by omega) (by omega)
      have hjb : j < s.size := by omega
      generalize s[j].toNat * 256 ^ (s.size - 1 - j) = y at *
      generalize 256 ^ (s.size - 1 - j) = p at *
      generalize unfN (s.data.toList.drop (j + 1)) = m at *
      go_wp2_with fail
      go_round
      case rel => exact ⟨j, by omega, rfl, by rw [hst.out]; exact int_eq (by omega), by rw [hpn.out]; exact int_eq (by rw [Int.natCast_mul]; rfl)⟩
      case measure => simp [intOf]
    · have hk0 : Hid (k = 0) := by show _ = _; omega
      go_wp2_with fail
      go_ret2
      refine ⟨?_, rfl⟩
      rw [hk0.out]
      rfl
end Go.Proofs.Ytgecdldahgfncaa
