/- Plain facts on pieces laid one behind the other. No Go in sight. -/
import Derived.Test.YtganplceeapjcaaFlipMath
namespace Go.Proofs.Ytganplceeapjcaa

/-- is a width one -/
def widB (wd : Int) : Bool := decide (0 ≤ wd ∧ wd ≤ 64)
/-- a piece's error: 1 a width that is none, 2 a number that has no room -/
def errP (v : Nat) (wd : Int) : Int := if widB wd = false then 1 else if v / 2 ^ wd.toNat = 0 then 0 else 2

theorem errP_wid (v : Nat) (wd : Int) (h : ¬ (0 ≤ wd ∧ wd ≤ 64)) : errP v wd = 1 := by
  unfold errP widB; rw [decide_eq_false h, if_pos rfl]
theorem errP_large (v : Nat) (wd : Int) (h : 0 ≤ wd ∧ wd ≤ 64) (h2 : v / 2 ^ wd.toNat ≠ 0) : errP v wd = 2 := by
  unfold errP widB; rw [decide_eq_true h, if_neg (by decide), if_neg h2]
theorem errP_ok (v : Nat) (wd : Int) (h : 0 ≤ wd ∧ wd ≤ 64) (h2 : v / 2 ^ wd.toNat = 0) : errP v wd = 0 := by
  unfold errP widB; rw [decide_eq_true h, if_neg (by decide), if_pos h2]

/-- the number R as n bytes, the lowest first -/
def bytesOf (R n : Nat) : List UInt8 := (List.range n).map fun j => UInt8.ofNat (R / 2 ^ (8 * j))
theorem bytesOf_length (R n : Nat) : (bytesOf R n).length = n := by simp [bytesOf]
theorem bytesOf_getD (R n j : Nat) (h : j < n) : (bytesOf R n).getD j 0 = UInt8.ofNat (R / 2 ^ (8 * j)) := by
  simp [bytesOf, List.getD_eq_getElem?_getD, h]
theorem byte_bit (R j t : Nat) (ht : t < 8) : (UInt8.ofNat (R / 2 ^ (8 * j))).toNat.testBit t = R.testBit (8 * j + t) := by
  rw [UInt8.toNat_ofNat', Nat.testBit_mod_two_pow, Nat.testBit_div_two_pow]
  simp [ht, Nat.add_comm]
theorem byte_ext (a b : UInt8) (h : ∀ t, t < 8 → a.toNat.testBit t = b.toNat.testBit t) : a = b := by
  apply UInt8.toNat_inj.1
  apply Nat.eq_of_testBit_eq
  intro i
  by_cases hi : i < 8
  · exact h i hi
  · have ha : a.toNat < 2 ^ i := Nat.lt_of_lt_of_le a.toNat_lt (by
      have : 2 ^ 8 ≤ 2 ^ i := Nat.pow_le_pow_right (by decide) (by omega)
      omega)
    have hb : b.toNat < 2 ^ i := Nat.lt_of_lt_of_le b.toNat_lt (by
      have : 2 ^ 8 ≤ 2 ^ i := Nat.pow_le_pow_right (by decide) (by omega)
      omega)
    rw [Nat.testBit_lt_two_pow ha, Nat.testBit_lt_two_pow hb]
theorem list_ext (a b : List UInt8) (n : Nat) (ha : a.length = n) (hb : b.length = n) (h : ∀ j, j < n → a.getD j 0 = b.getD j 0) : a = b := by
  apply List.ext_getElem (by omega)
  intro j h1 h2
  have := h j (by omega)
  rw [List.getD_eq_getElem?_getD, List.getD_eq_getElem?_getD, List.getElem?_eq_getElem h1, List.getElem?_eq_getElem h2] at this
  simpa using this
/-- a byte's worth of v goes into byte x/8 -/
def more8 (R v d x : Nat) : Nat := R ||| (v / 2 ^ d % 2 ^ (8 - x % 8)) * 2 ^ x
theorem more8_bit (R v d x k : Nat) : (more8 R v d x).testBit k = (R.testBit k || (decide (x ≤ k ∧ k < x + (8 - x % 8)) && v.testBit (d + (k - x)))) := by
  unfold more8
  rw [Nat.testBit_or, Nat.mul_comm, Nat.testBit_two_pow_mul, Nat.testBit_mod_two_pow, Nat.testBit_div_two_pow]
  by_cases h : x ≤ k
  · by_cases h2 : k - x < 8 - x % 8
    · simp [h, h2, show k < x + (8 - x % 8) by omega, Nat.add_comm]
    · simp [h, h2, show ¬ k < x + (8 - x % 8) by omega]
  · simp [h]
theorem put_byte (R v d x n : Nat) :
    bytesOf (more8 R v d x) n = (bytesOf R n).set (x / 8) ((bytesOf R n).getD (x / 8) 0 ||| UInt8.ofNat (v / 2 ^ d * 2 ^ (x % 8))) := by
  apply list_ext _ _ n (bytesOf_length _ _) (by rw [List.length_set, bytesOf_length])
  intro j hj
  rw [bytesOf_getD _ _ _ hj]
  by_cases e : j = x / 8
  · subst e
    rw [List.getD_eq_getElem?_getD, List.getElem?_set_self (by rw [bytesOf_length]; exact hj), bytesOf_getD _ _ _ hj]
    apply byte_ext
    intro t ht
    rw [byte_bit _ _ _ ht, more8_bit]
    simp only [Option.getD_some, UInt8.toNat_or, Nat.testBit_or, byte_bit _ _ _ ht]
    congr 1
    rw [UInt8.toNat_ofNat', Nat.testBit_mod_two_pow, Nat.mul_comm (v / 2 ^ d), Nat.testBit_two_pow_mul, Nat.testBit_div_two_pow]
    by_cases h : x % 8 ≤ t
    · have e1 : decide (x ≤ 8 * (x / 8) + t ∧ 8 * (x / 8) + t < x + (8 - x % 8)) = true := decide_eq_true (by omega)
      have e2 : d + (8 * (x / 8) + t - x) = t - x % 8 + d := by omega
      rw [e1, e2]
      simp [ht, h]
    · simp [h, show ¬ x ≤ 8 * (x / 8) + t by omega]
  · rw [List.getD_eq_getElem?_getD, List.getElem?_set_ne (by omega), ← List.getD_eq_getElem?_getD, bytesOf_getD _ _ _ hj]
    apply byte_ext
    intro t ht
    rw [byte_bit _ _ _ ht, byte_bit _ _ _ ht, more8_bit]
    simp [show ¬ (x ≤ 8 * j + t ∧ 8 * j + t < x + (8 - x % 8)) by omega]
/-- the number behind d bits of v, from place a on -/
def laidN (R v d a : Nat) : Nat := R ||| (v % 2 ^ d) * 2 ^ a
theorem laidN_bit (R v d a k : Nat) : (laidN R v d a).testBit k = (R.testBit k || (decide (a ≤ k ∧ k < a + d) && v.testBit (k - a))) := by
  unfold laidN
  rw [Nat.testBit_or, Nat.mul_comm, Nat.testBit_two_pow_mul, Nat.testBit_mod_two_pow]
  by_cases h : a ≤ k
  · by_cases h2 : k - a < d
    · simp [h, h2, show k < a + d by omega]
    · simp [h, h2, show ¬ k < a + d by omega]
  · simp [h]
theorem laid_step (R v d a : Nat) : more8 (laidN R v d a) v d (a + d) = laidN R v (d + (8 - (a + d) % 8)) a := by
  apply Nat.eq_of_testBit_eq
  intro k
  rw [more8_bit, laidN_bit, laidN_bit, Bool.or_assoc]
  congr 1
  by_cases h1 : a ≤ k ∧ k < a + d
  · simp [h1, show ¬ (a + d ≤ k) by omega, show k < a + (d + (8 - (a + d) % 8)) by omega]
  · by_cases h2 : a + d ≤ k ∧ k < a + d + (8 - (a + d) % 8)
    · simp [show ¬ k < a + d by omega, h2, show a ≤ k by omega, show k < a + (d + (8 - (a + d) % 8)) by omega, show d + (k - (a + d)) = k - a by omega]
    · simp [h1, h2, show ¬ (a ≤ k ∧ k < a + (d + (8 - (a + d) % 8))) by omega]
theorem laid_zero (R v a : Nat) : laidN R v 0 a = R := by simp [laidN, Nat.mod_one]
theorem laid_all (R v d wd a : Nat) (hv : v < 2 ^ wd) (hd : wd ≤ d) : laidN R v d a = R ||| v * 2 ^ a := by
  unfold laidN; rw [Nat.mod_eq_of_lt (Nat.lt_of_lt_of_le hv (Nat.pow_le_pow_right (by decide) hd))]
/-! ### pieces by their places -/
def widSum (W : Nat → Int) : Nat → Nat
  | 0 => 0
  | k + 1 => widSum W k + (W k).toNat
def packN (V : Nat → Nat) (W : Nat → Int) : Nat → Nat
  | 0 => 0
  | k + 1 => packN V W k ||| V k * 2 ^ widSum W k
def firstErr (V : Nat → Nat) (W : Nat → Int) : Nat → Int
  | 0 => 0
  | k + 1 => if firstErr V W k = 0 then errP (V k) (W k) else firstErr V W k
def packE (len : Nat) (V : Nat → Nat) (W : Nat → Int) : Int := if firstErr V W len = 0 then (if 65536 < widSum W len then 2 else 0) else firstErr V W len
def packS (len : Nat) (V : Nat → Nat) (W : Nat → Int) : List UInt8 := if packE len V W = 0 then bytesOf (packN V W len) ((widSum W len + 7) / 8) else []
theorem firstErr_ok (V : Nat → Nat) (W : Nat → Int) (k : Nat) (h : ∀ i, i < k → errP (V i) (W i) = 0) : firstErr V W k = 0 := by
  induction k with
  | zero => rfl
  | succ k ih => rw [firstErr, if_pos (ih fun i hi => h i (by omega)), h k (by omega)]
theorem firstErr_of (V : Nat → Nat) (W : Nat → Int) (k : Nat) (h : firstErr V W k = 0) : ∀ i, i < k → errP (V i) (W i) = 0 := by
  induction k with
  | zero => intro i hi; omega
  | succ k ih =>
    rw [firstErr] at h
    split at h
    · rename_i h0
      intro i hi
      rcases Nat.lt_succ_iff_lt_or_eq.1 hi with h1 | rfl
      · exact ih h0 i h1
      · exact h
    · rename_i h0; exact absurd h h0
theorem firstErr_bad (V : Nat → Nat) (W : Nat → Int) (k m : Nat) (h : ∀ i, i < k → errP (V i) (W i) = 0) (hk : errP (V k) (W k) ≠ 0) : firstErr V W (k + 1 + m) = errP (V k) (W k) := by
  induction m with
  | zero => rw [Nat.add_zero, firstErr, if_pos (firstErr_ok V W k h)]
  | succ m ih => rw [← Nat.add_assoc, firstErr, if_neg (by rw [ih]; exact hk), ih]
theorem pack_bad (len : Nat) (V : Nat → Nat) (W : Nat → Int) (k : Nat) (hl : k < len) (h : ∀ i, i < k → errP (V i) (W i) = 0) (hk : errP (V k) (W k) ≠ 0) : packE len V W = errP (V k) (W k) ∧ packS len V W = [] := by
  have e := firstErr_bad V W k (len - (k + 1)) h hk
  rw [show k + 1 + (len - (k + 1)) = len by omega] at e
  have h1 : packE len V W = errP (V k) (W k) := by unfold packE; rw [e, if_neg hk]
  exact ⟨h1, by unfold packS; rw [h1, if_neg hk]⟩
theorem pack_much (len : Nat) (V : Nat → Nat) (W : Nat → Int) (h : ∀ i, i < len → errP (V i) (W i) = 0) (hT : 65536 < widSum W len) : packE len V W = 2 ∧ packS len V W = [] := by
  have h1 : packE len V W = 2 := by unfold packE; rw [firstErr_ok V W len h, if_pos rfl, if_pos hT]
  exact ⟨h1, by unfold packS; rw [h1]; rfl⟩
theorem pack_ok (len : Nat) (V : Nat → Nat) (W : Nat → Int) (h : ∀ i, i < len → errP (V i) (W i) = 0) (hT : widSum W len ≤ 65536) : packE len V W = 0 ∧ packS len V W = bytesOf (packN V W len) ((widSum W len + 7) / 8) := by
  have h1 : packE len V W = 0 := by unfold packE; rw [firstErr_ok V W len h, if_pos rfl, if_neg (by omega)]
  exact ⟨h1, by unfold packS; rw [h1]; rfl⟩
theorem ok_wid (v : Nat) (wd : Int) (h : errP v wd = 0) : 0 ≤ wd ∧ wd ≤ 64 ∧ v < 2 ^ wd.toNat := by
  unfold errP widB at h
  by_cases h1 : 0 ≤ wd ∧ wd ≤ 64
  · rw [decide_eq_true h1, if_neg (by decide)] at h
    by_cases h2 : v / 2 ^ wd.toNat = 0
    · refine ⟨h1.1, h1.2, ?_⟩
      rcases Nat.lt_or_ge v (2 ^ wd.toNat) with h3 | h3
      · exact h3
      · have := Nat.div_pos h3 (Nat.two_pow_pos _); omega
    · rw [if_neg h2] at h; cases h
  · rw [decide_eq_false h1, if_pos rfl] at h; cases h
theorem widSum_le (V : Nat → Nat) (W : Nat → Int) (k : Nat) (h : ∀ i, i < k → errP (V i) (W i) = 0) : widSum W k ≤ 64 * k := by
  induction k with
  | zero => simp [widSum]
  | succ k ih =>
    have h1 := ih fun i hi => h i (by omega)
    have h2 := ok_wid _ _ (h k (by omega))
    simp only [widSum]; omega
theorem widSum_mono (W : Nat → Int) (k m : Nat) : widSum W k ≤ widSum W (k + m) := by
  induction m with
  | zero => exact Nat.le_refl _
  | succ m ih => rw [← Nat.add_assoc, widSum]; omega
end Go.Proofs.Ytganplceeapjcaa
