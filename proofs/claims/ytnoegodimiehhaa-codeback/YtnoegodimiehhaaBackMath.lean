/- Plain facts: what was packed is what is read. No Go in sight. -/
import Derived.Test.YtnoegodimiehhaaReadMath
namespace Go.Proofs.Ytnoegodimiehhaa

theorem txtN_append (l m : List UInt8) : txtN (l ++ m) = txtN l + 2 ^ (8 * l.length) * txtN m := by
  induction l with
  | nil => simp [txtN]
  | cons b l ih =>
    simp only [List.cons_append, txtN, ih, List.length_cons]
    rw [show 8 * (l.length + 1) = 8 * l.length + 8 by omega, Nat.pow_add, Nat.mul_add]
    have : 256 * (2 ^ (8 * l.length) * txtN m) = 2 ^ (8 * l.length) * 2 ^ 8 * txtN m := by
      rw [Nat.mul_assoc, Nat.mul_left_comm 256]
    omega
theorem packN_lt (V : Nat → Nat) (W : Nat → Int) (k : Nat) (h : ∀ i, i < k → errP (V i) (W i) = 0) : packN V W k < 2 ^ widSum W k := by
  induction k with
  | zero => simp [packN, widSum]
  | succ k ih =>
    have h1 := ih fun i hi => h i (by omega)
    have hv := (ok_wid _ _ (h k (by omega))).2.2
    simp only [packN, widSum]
    refine Nat.or_lt_two_pow (Nat.lt_of_lt_of_le h1 (Nat.pow_le_pow_right (by decide) (by omega))) ?_
    rw [Nat.pow_add, Nat.mul_comm]
    exact Nat.mul_lt_mul_of_pos_left hv (Nat.two_pow_pos _)
theorem packN_bit (V : Nat → Nat) (W : Nat → Int) (k j t : Nat) (h : ∀ i, i < k → errP (V i) (W i) = 0) (hj : j < k) (ht : t < (W j).toNat) : (packN V W k).testBit (widSum W j + t) = (V j).testBit t := by
  induction k with
  | zero => omega
  | succ k ih =>
    rw [packN, Nat.testBit_or, Nat.mul_comm, Nat.testBit_two_pow_mul]
    by_cases e : j = k
    · subst e
      have hl := packN_lt V W j fun i hi => h i (by omega)
      rw [Nat.testBit_lt_two_pow (Nat.lt_of_lt_of_le hl (Nat.pow_le_pow_right (by decide) (by omega)))]
      simp
    · have hm := widSum_mono W (j + 1) (k - (j + 1))
      rw [show j + 1 + (k - (j + 1)) = k by omega] at hm
      simp only [widSum] at hm
      rw [ih (fun i hi => h i (by omega)) (by omega)]
      simp [show ¬ widSum W k ≤ widSum W j + t by omega]
/-- what is read of a packed text, whatever stands behind -/
theorem back_get (V : Nat → Nat) (W : Nat → Int) (k j : Nat) (more : List UInt8) (h : ∀ i, i < k → errP (V i) (W i) = 0) (hj : j < k) :
    getN (txtN (bytesOf (packN V W k) ((widSum W k + 7) / 8) ++ more)) (widSum W j) (W j).toNat = V j := by
  have hv := (ok_wid _ _ (h j hj)).2.2
  have hm := widSum_mono W (j + 1) (k - (j + 1))
  rw [show j + 1 + (k - (j + 1)) = k by omega] at hm
  simp only [widSum] at hm
  apply Nat.eq_of_testBit_eq
  intro t
  unfold getN
  rw [Nat.testBit_mod_two_pow, Nat.testBit_div_two_pow]
  by_cases ht : t < (W j).toNat
  · have hx : t + widSum W j < widSum W k := by omega
    obtain ⟨q, r, hr, hqr⟩ : ∃ q r, r < 8 ∧ t + widSum W j = 8 * q + r := ⟨(t + widSum W j) / 8, (t + widSum W j) % 8, by omega, by omega⟩
    have hq : q < (widSum W k + 7) / 8 := by omega
    rw [hqr, txtN_bit _ _ _ hr, List.getD_eq_getElem?_getD, List.getElem?_append_left (by rw [bytesOf_length]; exact hq), ← List.getD_eq_getElem?_getD, bytesOf_getD _ _ _ hq, byte_bit _ _ _ hr, ← hqr, Nat.add_comm, packN_bit V W k j t h hj ht]
    simp [ht]
  · simp only [ht, decide_false, Bool.false_and]
    exact (Nat.testBit_lt_two_pow (Nat.lt_of_lt_of_le hv (Nat.pow_le_pow_right (by decide) (by omega)))).symm
end Go.Proofs.Ytnoegodimiehhaa
