/- Pieces one behind the other. -/
import Derived.Test.YtnoegodimiehhaaPackMath
namespace Go.Proofs.Ytnoegodimiehhaa

def cat {α : Type} (n : Nat) (f g : Nat → α) : Nat → α := fun i => if i < n then f i else g (i - n)
theorem cat_lo {α : Type} (n : Nat) (f g : Nat → α) (i : Nat) (h : i < n) : cat n f g i = f i := if_pos h
theorem cat_hi {α : Type} (n : Nat) (f g : Nat → α) (i : Nat) : cat n f g (n + i) = g i := by
  unfold cat
  rw [if_neg (by omega), Nat.add_sub_cancel_left]
theorem widSum_same (W W' : Nat → Int) (k : Nat) (h : ∀ i, i < k → W i = W' i) : widSum W k = widSum W' k := by
  induction k with
  | zero => rfl
  | succ k ih => simp only [widSum]; rw [ih fun i hi => h i (by omega), h k (by omega)]
theorem widSum_cat (W1 W2 : Nat → Int) (n k : Nat) : widSum (cat n W1 W2) (n + k) = widSum W1 n + widSum W2 k := by
  induction k with
  | zero => simp only [Nat.add_zero, widSum]; exact widSum_same _ _ _ fun i hi => cat_lo _ _ _ _ hi
  | succ k ih => rw [← Nat.add_assoc]; simp only [widSum]; rw [ih, cat_hi]; omega
theorem packN_same (V V' : Nat → Nat) (W W' : Nat → Int) (k : Nat) (h : ∀ i, i < k → V i = V' i ∧ W i = W' i) : packN V W k = packN V' W' k := by
  induction k with
  | zero => rfl
  | succ k ih =>
    simp only [packN]
    rw [ih fun i hi => h i (by omega), (h k (by omega)).1, widSum_same W W' k fun i hi => (h i (by omega)).2]
theorem or_mul_pow (a b s : Nat) : (a ||| b) * 2 ^ s = a * 2 ^ s ||| b * 2 ^ s := by
  apply Nat.eq_of_testBit_eq
  intro i
  simp only [Nat.testBit_or, Nat.testBit_mul_two_pow]
  cases decide (s ≤ i) <;> simp
theorem packN_cat (V1 V2 : Nat → Nat) (W1 W2 : Nat → Int) (n k : Nat) :
    packN (cat n V1 V2) (cat n W1 W2) (n + k) = packN V1 W1 n ||| packN V2 W2 k * 2 ^ widSum W1 n := by
  induction k with
  | zero =>
    simp only [Nat.add_zero, packN, Nat.zero_mul, Nat.or_zero]
    exact packN_same _ _ _ _ _ fun i hi => ⟨cat_lo _ _ _ _ hi, cat_lo _ _ _ _ hi⟩
  | succ k ih =>
    rw [← Nat.add_assoc]
    simp only [packN]
    rw [ih, cat_hi, widSum_cat, or_mul_pow, Nat.or_assoc, Nat.mul_assoc, ← Nat.pow_add, Nat.add_comm (widSum W2 k)]
theorem err_cat (V1 V2 : Nat → Nat) (W1 W2 : Nat → Int) (n k : Nat) :
    (∀ i, i < n + k → errP (cat n V1 V2 i) (cat n W1 W2 i) = 0) ↔ (∀ i, i < n → errP (V1 i) (W1 i) = 0) ∧ (∀ i, i < k → errP (V2 i) (W2 i) = 0) := by
  constructor
  · intro h
    refine ⟨fun i hi => ?_, fun i hi => ?_⟩
    · have := h i (by omega)
      rwa [cat_lo _ _ _ _ hi, cat_lo _ _ _ _ hi] at this
    · have := h (n + i) (by omega)
      rwa [cat_hi, cat_hi] at this
  · rintro ⟨h1, h2⟩ i hi
    by_cases hn : i < n
    · rw [cat_lo _ _ _ _ hn, cat_lo _ _ _ _ hn]; exact h1 i hn
    · obtain ⟨j, rfl⟩ : ∃ j, i = n + j := ⟨i - n, by omega⟩
      rw [cat_hi, cat_hi]; exact h2 j (by omega)
theorem packE_zero (len : Nat) (V : Nat → Nat) (W : Nat → Int) : packE len V W = 0 ↔ (∀ i, i < len → errP (V i) (W i) = 0) ∧ widSum W len ≤ 65536 := by
  constructor
  · intro h
    unfold packE at h
    split at h
    · rename_i h0
      split at h
      · cases h
      · exact ⟨firstErr_of V W len h0, by omega⟩
    · rename_i h0; exact absurd h h0
  · rintro ⟨h1, h2⟩
    exact (pack_ok len V W h1 h2).1
theorem bytes_cat (A B q r : Nat) (hA : A < 2 ^ (8 * q)) : bytesOf (A ||| B * 2 ^ (8 * q)) (q + r) = bytesOf A q ++ bytesOf B r := by
  refine list_ext _ _ (q + r) (bytesOf_length _ _) (by simp [bytesOf_length]) fun j hj => ?_
  rw [bytesOf_getD _ _ _ hj]
  apply byte_ext
  intro t ht
  rw [byte_bit _ _ _ ht, Nat.testBit_or, Nat.testBit_mul_two_pow]
  by_cases hq : j < q
  · rw [List.getD_eq_getElem?_getD, List.getElem?_append_left (by rw [bytesOf_length]; exact hq), ← List.getD_eq_getElem?_getD, bytesOf_getD _ _ _ hq, byte_bit _ _ _ ht]
    have : decide (8 * q ≤ 8 * j + t) = false := decide_eq_false (by omega)
    rw [this]; simp
  · obtain ⟨i, rfl⟩ : ∃ i, j = q + i := ⟨j - q, by omega⟩
    rw [List.getD_eq_getElem?_getD, List.getElem?_append_right (by rw [bytesOf_length]; omega), bytesOf_length, Nat.add_sub_cancel_left, ← List.getD_eq_getElem?_getD, bytesOf_getD _ _ _ (by omega), byte_bit _ _ _ ht]
    have h1 : A.testBit (8 * (q + i) + t) = false := Nat.testBit_lt_two_pow (Nat.lt_of_lt_of_le hA (Nat.pow_le_pow_right (by omega) (by omega)))
    have h2 : decide (8 * q ≤ 8 * (q + i) + t) = true := decide_eq_true (by omega)
    rw [h1, h2, show 8 * (q + i) + t - 8 * q = 8 * i + t by omega]
    simp
theorem packN_lt' (V : Nat → Nat) (W : Nat → Int) (k : Nat) (h : ∀ i, i < k → errP (V i) (W i) = 0) : packN V W k < 2 ^ widSum W k := by
  induction k with
  | zero => simp [packN, widSum]
  | succ k ih =>
    have h1 := ih fun i hi => h i (by omega)
    have h2 := ok_wid _ _ (h k (by omega))
    simp only [packN, widSum]
    apply Nat.or_lt_two_pow
    · exact Nat.lt_of_lt_of_le h1 (Nat.pow_le_pow_right (by omega) (by omega))
    · rw [Nat.add_comm (widSum W k), Nat.pow_add]
      exact Nat.mul_lt_mul_of_pos_right h2.2.2 (Nat.two_pow_pos _)

/-- the law itself, of what is answered -/
theorem join_bad (V1 V2 : Nat → Nat) (W1 W2 : Nat → Int) (n k : Nat) (h : packE n V1 W1 ≠ 0 ∨ packE k V2 W2 ≠ 0) : packE (n + k) (cat n V1 V2) (cat n W1 W2) ≠ 0 := by
  intro h0
  have h1 := (packE_zero _ _ _).1 h0
  have h2 := (err_cat V1 V2 W1 W2 n k).1 h1.1
  have h3 := h1.2
  rw [widSum_cat] at h3
  rcases h with h | h
  · exact h ((packE_zero _ _ _).2 ⟨h2.1, by omega⟩)
  · exact h ((packE_zero _ _ _).2 ⟨h2.2, by omega⟩)
theorem join_good (V1 V2 : Nat → Nat) (W1 W2 : Nat → Int) (n k : Nat) (h1 : packE n V1 W1 = 0) (h2 : packE k V2 W2 = 0) (h8 : widSum W1 n % 8 = 0) :
    (packE (n + k) (cat n V1 V2) (cat n W1 W2) = 0 ∧ packS (n + k) (cat n V1 V2) (cat n W1 W2) = packS n V1 W1 ++ packS k V2 W2) ∨
    (packE (n + k) (cat n V1 V2) (cat n W1 W2) = 2 ∧ 8192 < (packS n V1 W1).length + (packS k V2 W2).length) := by
  have e1 := (packE_zero _ _ _).1 h1
  have e2 := (packE_zero _ _ _).1 h2
  have s1 := (pack_ok n V1 W1 e1.1 e1.2).2
  have s2 := (pack_ok k V2 W2 e2.1 e2.2).2
  have ec := (err_cat V1 V2 W1 W2 n k).2 ⟨e1.1, e2.1⟩
  rw [s1, s2]
  by_cases hT : widSum W1 n + widSum W2 k ≤ 65536
  · left
    have s3 := pack_ok (n + k) (cat n V1 V2) (cat n W1 W2) ec (by rw [widSum_cat]; exact hT)
    refine ⟨s3.1, ?_⟩
    rw [s3.2, packN_cat, widSum_cat]
    have hq : widSum W1 n = 8 * (widSum W1 n / 8) := by omega
    have hlt := packN_lt' V1 W1 n e1.1
    generalize widSum W1 n / 8 = q at *
    rw [hq] at hlt ⊢
    rw [show (8 * q + widSum W2 k + 7) / 8 = q + (widSum W2 k + 7) / 8 by omega, show (8 * q + 7) / 8 = q by omega]
    exact bytes_cat _ _ _ _ hlt
  · right
    refine ⟨(pack_much _ _ _ ec (by rw [widSum_cat]; omega)).1, ?_⟩
    rw [bytesOf_length, bytesOf_length]
    omega

/-- the widths' sum, of which only the last three bits are kept -/
def tot8 (W : Nat → Int) : Nat → Nat
  | 0 => 0
  | k + 1 => (tot8 W k + (W k % 8).toNat) % 8
theorem tot8_lt (W : Nat → Int) (k : Nat) : tot8 W k < 8 := by
  cases k with
  | zero => simp [tot8]
  | succ k => exact Nat.mod_lt _ (by omega)
theorem tot8_sum (W : Nat → Int) (k : Nat) (h : ∀ i, i < k → 0 ≤ W i) : tot8 W k = widSum W k % 8 := by
  induction k with
  | zero => rfl
  | succ k ih =>
    have h1 := ih fun i hi => h i (by omega)
    have h2 := h k (by omega)
    simp only [tot8, widSum]
    omega
/-- the piece that fills the last byte -/
theorem pad_ok (V : Nat → Nat) (W : Nat → Int) (n : Nat) (h0 : packE (n + 1) (cat n V (fun _ => 0)) (cat n W (fun _ => 8 - (tot8 W n : Int))) = 0) :
    widSum (cat n W (fun _ => 8 - (tot8 W n : Int))) (n + 1) % 8 = 0 := by
  have h1 := (err_cat _ _ _ _ _ _).1 ((packE_zero _ _ _).1 h0).1
  have h2 := tot8_sum W n fun i hi => (ok_wid _ _ (h1.1 i hi)).1
  have h3 := tot8_lt W n
  rw [widSum_cat]
  simp only [widSum]
  omega
theorem pad_none (V : Nat → Nat) (W : Nat → Int) (n : Nat) (ht : tot8 W n = 0) (h0 : packE n V W = 0) : widSum W n % 8 = 0 := by
  have h2 := tot8_sum W n fun i hi => (ok_wid _ _ (((packE_zero _ _ _).1 h0).1 i hi)).1
  omega
end Go.Proofs.Ytnoegodimiehhaa
