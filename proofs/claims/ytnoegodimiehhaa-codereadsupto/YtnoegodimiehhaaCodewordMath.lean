/- A code's bits, one by one. -/
import Derived.Test.YtnoegodimiehhaaBitsKit
import Derived.Test.YtnoegodimiehhaaFlipMath
namespace Go.Proofs.Ytnoegodimiehhaa
open Go.RowKit

theorem rv_bit (c y k : Nat) (h : k < y) : rv c y / 2 ^ k % 2 = c / 2 ^ (y - 1 - k) % 2 := by
  have h1 := rv_testBit c y k
  rw [decide_eq_true h, Bool.true_and, Nat.testBit_eq_decide_div_mod_eq, Nat.testBit_eq_decide_div_mod_eq] at h1
  exact two_bits _ _ h1
theorem bitsC_length (X k : Nat) : (bitsC X k).length = k := by simp [bitsC]
theorem bitsC_at (X k i : Nat) (h : i < k) : (bitsC X k)[i]? = some (.int .i64 ((X / 2 ^ i % 2 : Nat) : Int)) := by simp [bitsC, h]
theorem bitsC_one (X k : Nat) : ∀ u ∈ bitsC X k, u.oneCell' = true := by
  intro u hu
  obtain ⟨j, _, rfl⟩ := List.mem_map.1 hu
  rfl
theorem or_lo_bit (X V T i : Nat) (h : i < T) : (X ||| V * 2 ^ T) / 2 ^ i % 2 = X / 2 ^ i % 2 := by
  apply two_bits
  rw [← Nat.testBit_eq_decide_div_mod_eq, ← Nat.testBit_eq_decide_div_mod_eq, Nat.testBit_or, Nat.mul_comm, Nat.testBit_two_pow_mul, decide_eq_false (by omega)]
  simp
theorem or_hi_bit (X V T i : Nat) (hX : X < 2 ^ T) : (X ||| V * 2 ^ T) / 2 ^ (T + i) % 2 = V / 2 ^ i % 2 := by
  apply two_bits
  rw [← Nat.testBit_eq_decide_div_mod_eq, ← Nat.testBit_eq_decide_div_mod_eq, Nat.testBit_or, Nat.mul_comm, Nat.testBit_two_pow_mul, decide_eq_true (by omega), Nat.testBit_lt_two_pow (Nat.lt_of_lt_of_le hX (Nat.pow_le_pow_right (by decide) (by omega)))]
  simp
theorem bitsC_cat (X V T y : Nat) (hX : X < 2 ^ T) : bitsC X T ++ bitsC V y = bitsC (X ||| V * 2 ^ T) (T + y) := by
  apply List.ext_getElem?
  intro i
  by_cases h1 : i < T
  · rw [List.getElem?_append_left (by rw [bitsC_length]; exact h1), bitsC_at _ _ _ h1, bitsC_at _ _ _ (by omega), or_lo_bit _ _ _ _ h1]
  · obtain ⟨j, rfl⟩ : ∃ j, i = T + j := ⟨i - T, by omega⟩
    rw [List.getElem?_append_right (by rw [bitsC_length]; omega), bitsC_length, Nat.add_sub_cancel_left]
    by_cases h2 : j < y
    · rw [bitsC_at _ _ _ h2, bitsC_at _ _ _ (by omega), or_hi_bit _ _ _ _ hX]
    · rw [List.getElem?_eq_none (by rw [bitsC_length]; omega), List.getElem?_eq_none (by rw [bitsC_length]; omega)]
end Go.Proofs.Ytnoegodimiehhaa
