/- Plain facts on the codes themselves. No Go in sight. -/
import Derived.Test.YtganplceeapjcaaRFillMath
namespace Go.Proofs.Ytganplceeapjcaa

/-- how many of the first k have length t -/
def cnt (W : Nat → Int) (t : Nat) : Nat → Nat
  | 0 => 0
  | k + 1 => cnt W t k + if W k = (t : Int) then 1 else 0
theorem cnt_le (W : Nat → Int) (t k : Nat) : cnt W t k ≤ k := by
  induction k with
  | zero => simp [cnt]
  | succ k ih => simp only [cnt]; split <;> omega
theorem cnt_yes (W : Nat → Int) (t k : Nat) (h : W k = (t : Int)) : cnt W t (k + 1) = cnt W t k + 1 := by simp only [cnt]; rw [if_pos h]
theorem cnt_no (W : Nat → Int) (t k : Nat) (h : ¬ W k = (t : Int)) : cnt W t (k + 1) = cnt W t k := by simp only [cnt]; rw [if_neg h]; rfl
theorem eqN_cnt (W : Nat → Int) (t k : Nat) (h0 : 0 < t) : eqN W t k = cnt W t k * 2 ^ (15 - t) := by
  induction k with
  | zero => simp [cnt, eqN, sumP]
  | succ k ih =>
    by_cases h : W k = (t : Int)
    · rw [eqN_yes W t k h h0, cnt_yes W t k h, ih, Nat.add_mul, Nat.one_mul]
    · rw [eqN_no W t k (by omega), cnt_no W t k h, ih]
/-- the next code behind length t -/
def nx (W : Nat → Int) (len : Nat) : Nat → Nat
  | 0 => 0
  | t + 1 => 2 * nx W len t + cnt W (t + 1) len
def codeAt (W : Nat → Int) (len i : Nat) : Nat → Nat
  | 0 => 0
  | t + 1 => 2 * nx W len t + cnt W (t + 1) i
/-- the code of sign i -/
def codeN (W : Nat → Int) (len i : Nat) : Nat := codeAt W len i (W i).toNat
/-- what those of length t at most take -/
def lowN (W : Nat → Int) (t len : Nat) : Nat := sumP W (fun _ x => decide (x ≤ (t : Int))) len
theorem lowN_zero (W : Nat → Int) (len : Nat) : lowN W 0 len = 0 := sumP_none W _ len fun i _ h => decide_eq_false (by omega)
theorem lowN_succ (W : Nat → Int) (t len : Nat) : lowN W (t + 1) len = lowN W t len + eqN W (t + 1) len := by
  refine sumP_add W _ _ _ len fun i _ h0 => ?_
  simp only [decide_eq_true_eq]
  omega
theorem lowN_le (W : Nat → Int) (t len : Nat) : lowN W t len ≤ fillN W len := sumP_mono W _ _ len fun _ _ _ => rfl
theorem lowN_all (W : Nat → Int) (len : Nat) (h : ∀ i, i < len → lenB (W i) = true) : lowN W 15 len = fillN W len := by
  refine sumP_congr W _ _ len fun i hi _ => ?_
  have := len_of (h i hi)
  exact decide_eq_true (by omega)
theorem two_pow_split (t : Nat) (h : t < 15) : 2 ^ (15 - t) = 2 * 2 ^ (15 - (t + 1)) := by
  rw [show 15 - t = (15 - (t + 1)) + 1 by omega, Nat.pow_succ, Nat.mul_comm]
theorem nx_low (W : Nat → Int) (len t : Nat) (ht : t ≤ 15) : nx W len t * 2 ^ (15 - t) = lowN W t len := by
  induction t with
  | zero => simp [nx, lowN_zero]
  | succ t ih =>
    have h := ih (by omega)
    rw [lowN_succ, eqN_cnt W (t + 1) len (by omega), nx, Nat.add_mul, ← h, two_pow_split t (by omega)]
    congr 1
    rw [Nat.mul_comm 2 (nx W len t), Nat.mul_assoc]
theorem nx_le (W : Nat → Int) (len t : Nat) (ht : t ≤ 15) (hF : fillN W len ≤ 32768) : nx W len t ≤ 32768 := by
  have h1 := nx_low W len t ht
  have h2 := lowN_le W t len
  have h3 : nx W len t * 1 ≤ nx W len t * 2 ^ (15 - t) := Nat.mul_le_mul_left _ (Nat.two_pow_pos _)
  omega
/-- what those ahead of sign i take, of the first k -/
def ahead (W : Nat → Int) (i k : Nat) : Nat := sumP W (fun j x => decide (x < W i) || (decide (x = W i) && decide (j < i))) k
theorem sumP_cut (W : Nat → Int) (p : Nat → Int → Bool) (i len : Nat) (h : i ≤ len) : sumP W (fun j x => p j x && decide (j < i)) len = sumP W p i := by
  induction len with
  | zero => rw [show i = 0 by omega]; rfl
  | succ n ih =>
    by_cases e : i = n + 1
    · subst e
      exact sumP_congr W _ _ (n + 1) fun j hj _ => by simp [hj]
    · rw [sumP, ih (by omega)]
      simp [show ¬ n < i by omega]
theorem ahead_code (W : Nat → Int) (len i t : Nat) (hi : i < len) (hw : W i = ((t + 1 : Nat) : Int)) (ht : t + 1 ≤ 15) : ahead W i len = codeN W len i * 2 ^ (15 - (t + 1)) := by
  have e : ahead W i len = lowN W t len + sumP W (fun j x => decide (x = ((t + 1 : Nat) : Int)) && decide (j < i)) len := by
    unfold ahead
    rw [hw]
    refine sumP_add W _ _ _ len fun j _ h0 => ?_
    simp only [Bool.or_eq_true, Bool.and_eq_true, decide_eq_true_eq]
    omega
  rw [e, sumP_cut W _ i len (by omega)]
  have e2 : sumP W (fun _ x => decide (x = ((t + 1 : Nat) : Int))) i = eqN W (t + 1) i := rfl
  have e3 : codeN W len i = 2 * nx W len t + cnt W (t + 1) i := by unfold codeN; rw [hw]; rfl
  rw [e2, e3, eqN_cnt W (t + 1) i (by omega), ← nx_low W len t (by omega), Nat.add_mul, two_pow_split t (by omega)]
  congr 1
  rw [Nat.mul_comm 2 (nx W len t), Nat.mul_assoc]
theorem ahead_code' (W : Nat → Int) (len i s : Nat) (hi : i < len) (hw : W i = (s : Int)) (h0 : 0 < s) (hs : s ≤ 15) : ahead W i len = codeN W len i * 2 ^ (15 - s) := by
  obtain ⟨t, rfl⟩ : ∃ t, s = t + 1 := ⟨s - 1, by omega⟩
  exact ahead_code W len i t hi hw hs
theorem code_none (W : Nat → Int) (len i : Nat) (h : W i = 0) : codeN W len i = 0 := by unfold codeN; rw [h]; rfl
theorem code_le (W : Nat → Int) (len i : Nat) (h : lenB (W i) = true) (hi : i < len) (hF : fillN W len ≤ 32768) : codeN W len i ≤ 65856 + len := by
  have h2 := len_of h
  unfold codeN
  cases ht : (W i).toNat with
  | zero => simp [codeAt]
  | succ t =>
    have h3 := nx_le W len t (by omega) hF
    have h4 := cnt_le W (t + 1) i
    simp only [codeAt]; omega
/-- what stands in the row of codes: lengths below t are done, of t the first k signs -/
def stN (W : Nat → Int) (len t k i : Nat) : Nat := if W i < (t : Int) ∨ (W i = (t : Int) ∧ i < k) then codeN W len i else 0
theorem st_start (W : Nat → Int) (len i : Nat) (h : lenB (W i) = true) : stN W len 1 0 i = 0 := by
  have := len_of h
  unfold stN
  split
  · exact code_none W len i (by omega)
  · rfl
theorem st_end (W : Nat → Int) (len i : Nat) (h : lenB (W i) = true) : stN W len 16 0 i = codeN W len i := by
  have := len_of h
  unfold stN
  rw [if_pos (by omega)]
theorem st_next (W : Nat → Int) (len t i : Nat) (hi : i < len) : stN W len t len i = stN W len (t + 1) 0 i := by
  unfold stN
  by_cases h : W i < (t : Int) ∨ (W i = (t : Int) ∧ i < len)
  · rw [if_pos h, if_pos (by omega)]
  · rw [if_neg h, if_neg (by omega)]
theorem st_skip (W : Nat → Int) (len t k i : Nat) (h : ¬ W k = (t : Int)) : stN W len t (k + 1) i = stN W len t k i := by
  unfold stN
  by_cases e : i = k
  · subst e
    by_cases h2 : W i < (t : Int)
    · rw [if_pos (by omega), if_pos (by omega)]
    · rw [if_neg (by omega), if_neg (by omega)]
  · by_cases h2 : W i < (t : Int) ∨ (W i = (t : Int) ∧ i < k)
    · rw [if_pos h2, if_pos (by omega)]
    · rw [if_neg h2, if_neg (by omega)]
theorem st_set (W : Nat → Int) (len t k i : Nat) (h : W k = ((t + 1 : Nat) : Int)) : stN W len (t + 1) (k + 1) i = if i = k then 2 * nx W len t + cnt W (t + 1) k else stN W len (t + 1) k i := by
  by_cases e : i = k
  · subst e
    rw [if_pos rfl]
    unfold stN
    rw [if_pos (by omega)]
    unfold codeN
    rw [h]
    rfl
  · rw [if_neg e]
    unfold stN
    by_cases h2 : W i < ((t + 1 : Nat) : Int) ∨ (W i = ((t + 1 : Nat) : Int) ∧ i < k)
    · rw [if_pos h2, if_pos (by omega)]
    · rw [if_neg h2, if_neg (by omega)]
def canE (W : Nat → Int) (len : Nat) : Int := if fillE W len = 0 then (if 32768 < fillN W len then 6 else 0) else fillE W len
def canL (W : Nat → Int) (len : Nat) : Nat := if canE W len = 0 then len else 0
theorem can_err (W : Nat → Int) (len : Nat) (h : fillE W len ≠ 0) : canE W len = fillE W len ∧ canL W len = 0 := by
  have e : canE W len = fillE W len := by unfold canE; rw [if_neg h]
  exact ⟨e, by unfold canL; rw [e, if_neg h]⟩
theorem can_over (W : Nat → Int) (len : Nat) (h : fillE W len = 0) (h2 : 32768 < fillN W len) : canE W len = 6 ∧ canL W len = 0 := by
  have e : canE W len = 6 := by unfold canE; rw [if_pos h, if_pos h2]
  exact ⟨e, by unfold canL; rw [e]; rfl⟩
theorem can_ok (W : Nat → Int) (len : Nat) (h : fillE W len = 0) (h2 : fillN W len ≤ 32768) : canE W len = 0 ∧ canL W len = len := by
  have e : canE W len = 0 := by unfold canE; rw [if_pos h, if_neg (by omega)]
  exact ⟨e, by unfold canL; rw [e]; rfl⟩
theorem fillE_zero (W : Nat → Int) (len : Nat) (h : fillE W len = 0) : len ≤ 320 ∧ allB W len = true ∧ fillA W len = fillN W len := by
  by_cases hL : 320 < len
  · have := (fill_large W len hL).1; omega
  · cases hB : allB W len with
    | false => have := (fill_bad W len hL hB).1; omega
    | true => exact ⟨by omega, rfl, (fill_ok W len hL hB).2⟩
end Go.Proofs.Ytganplceeapjcaa
