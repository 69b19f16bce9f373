/- Codes of one length, one behind the other. No Go in sight. -/
import Derived.Test.YtganplceeapjcaaCodeMath
import Derived.Test.YtganplceeapjcaaTilesMath
namespace Go.Proofs.Ytganplceeapjcaa

/-- the signs of length t among the first k -/
def sgsL (W : Nat → Int) (t k : Nat) : List Nat := (List.range k).filter fun i => decide (0 < t ∧ W i = (t : Int))
theorem sgsL_yes (W : Nat → Int) (t k : Nat) (h0 : 0 < t) (h : W k = (t : Int)) : sgsL W t (k + 1) = sgsL W t k ++ [k] := by
  unfold sgsL
  rw [List.range_succ, List.filter_append]
  congr 1
  rw [List.filter_cons_of_pos (by exact decide_eq_true ⟨h0, h⟩)]; rfl
theorem sgsL_no (W : Nat → Int) (t k : Nat) (h : ¬ W k = (t : Int)) : sgsL W t (k + 1) = sgsL W t k := by
  unfold sgsL
  rw [List.range_succ, List.filter_append, List.filter_cons_of_neg (by simp [h])]; simp
theorem sgsL_zero (W : Nat → Int) (k : Nat) : sgsL W 0 k = [] := by
  unfold sgsL
  rw [List.filter_eq_nil_iff]
  intro i _
  simp
theorem sgsL_cnt (W : Nat → Int) (t k : Nat) (h0 : 0 < t) : (sgsL W t k).length = cnt W t k := by
  induction k with
  | zero => rfl
  | succ k ih =>
    by_cases h : W k = (t : Int)
    · rw [sgsL_yes W t k h0 h, cnt_yes W t k h, List.length_append, ih]; rfl
    · rw [sgsL_no W t k h, cnt_no W t k h, ih]
theorem sgsL_at (W : Nat → Int) (t k j : Nat) (h0 : 0 < t) (hj : j < (sgsL W t k).length) : ∃ i, (sgsL W t k)[j]? = some i ∧ i < k ∧ W i = (t : Int) ∧ cnt W t i = j := by
  induction k with
  | zero => simp [sgsL] at hj
  | succ k ih =>
    by_cases h : W k = (t : Int)
    · rw [sgsL_yes W t k h0 h] at hj ⊢
      by_cases hl : j < (sgsL W t k).length
      · obtain ⟨i, h1, h2, h3, h4⟩ := ih hl
        exact ⟨i, by rw [List.getElem?_append_left hl]; exact h1, by omega, h3, h4⟩
      · have : j = (sgsL W t k).length := by simp at hj; omega
        refine ⟨k, ?_, by omega, h, ?_⟩
        · rw [this, List.getElem?_append_right (Nat.le_refl _)]; simp
        · rw [this, sgsL_cnt W t k h0]
    · rw [sgsL_no W t k h] at hj ⊢
      obtain ⟨i, h1, h2, h3, h4⟩ := ih hj
      exact ⟨i, h1, by omega, h3, h4⟩
/-- the first code of length t, once one is there -/
def fstC (W : Nat → Int) (len t k : Nat) : Nat := if (sgsL W t k).length = 0 then 0 else 2 * nx W len (t - 1)
theorem code_of (W : Nat → Int) (len i t : Nat) (h0 : 0 < t) (h : W i = (t : Int)) : codeN W len i = 2 * nx W len (t - 1) + cnt W t i := by
  obtain ⟨u, rfl⟩ : ∃ u, t = u + 1 := ⟨t - 1, by omega⟩
  unfold codeN
  rw [h, Int.toNat_natCast]; rfl
theorem fstC_first (W : Nat → Int) (len t k : Nat) (h0 : 0 < t) (h : W k = (t : Int)) (hn : (sgsL W t k).length = 0) : fstC W len t (k + 1) = codeN W len k := by
  unfold fstC
  rw [sgsL_yes W t k h0 h, List.length_append, if_neg (by simp), code_of W len k t h0 h, ← sgsL_cnt W t k h0, hn]; rfl
theorem fstC_later (W : Nat → Int) (len t k : Nat) (hn : (sgsL W t k).length ≠ 0) (h0 : 0 < t) (h : W k = (t : Int)) : fstC W len t (k + 1) = fstC W len t k := by
  unfold fstC
  rw [sgsL_yes W t k h0 h, List.length_append, if_neg (by simp), if_neg hn]
theorem fstC_skip (W : Nat → Int) (len t k : Nat) (h : ¬ W k = (t : Int)) : fstC W len t (k + 1) = fstC W len t k := by
  unfold fstC; rw [sgsL_no W t k h]
theorem fstC_le (W : Nat → Int) (len t k : Nat) (ht : t ≤ 15) (hF : fillN W len ≤ 32768) : fstC W len t k ≤ 65536 := by
  unfold fstC
  have := nx_le W len (t - 1) (by omega) hF
  split <;> omega
/-- looked up by its first code -/
theorem hit_book {W : Nat → Int} {len : Nat} (hg : ∀ i, i < len → lenB (W i) = true) (t v : Nat) (ht : t ≤ 15) (h : fstC W len t len ≤ v) (h2 : v - fstC W len t len < (sgsL W t len).length) :
    ∃ i, (sgsL W t len)[v - fstC W len t len]? = some i ∧ hitS W len t v = some i ∧ i < len := by
  have h0 : 0 < t := by
    rcases Nat.eq_zero_or_pos t with rfl | h
    · rw [sgsL_zero] at h2; simp at h2
    · exact h
  obtain ⟨i, h3, h4, h5, h6⟩ := sgsL_at W t len _ h0 h2
  refine ⟨i, h3, hit_is hg i t h4 h5 h0 v ?_, h4⟩
  rw [code_of W len i t h0 h5, h6]
  have : fstC W len t len = 2 * nx W len (t - 1) := by unfold fstC; rw [if_neg (by omega)]
  omega
theorem hit_not {W : Nat → Int} {len : Nat} (t v : Nat) (h : ¬ (fstC W len t len ≤ v ∧ v - fstC W len t len < (sgsL W t len).length)) : hitS W len t v = none := by
  cases hh : hitS W len t v with
  | none => rfl
  | some i =>
    obtain ⟨h1, h0, h3, h4⟩ := hit_some hh
    have hc : cnt W t (i + 1) ≤ cnt W t len := by
      obtain ⟨d, rfl⟩ : ∃ d, len = i + 1 + d := ⟨len - (i + 1), by omega⟩
      clear h hh h1 h4
      induction d with
      | zero => exact Nat.le_refl _
      | succ d ih =>
        have e : cnt W t (i + 1 + (d + 1)) = cnt W t (i + 1 + d) + if W (i + 1 + d) = (t : Int) then 1 else 0 := rfl
        omega
    rw [cnt_yes W t i h3] at hc
    have hl := sgsL_cnt W t len h0
    have hf : fstC W len t len = 2 * nx W len (t - 1) := by unfold fstC; rw [if_neg (by omega)]
    rw [code_of W len i t h0 h3] at h4
    exact absurd ⟨by omega, by omega⟩ h
theorem ahead_fill (W : Nat → Int) (len i : Nat) (hi : i < len) (h0 : 0 < W i) : ahead W i len + tk (W i) ≤ fillN W len := by
  have e : ahead W i len + tk (W i) = sumP W (fun j x => (decide (x < W i) || (decide (x = W i) && decide (j < i))) || decide (j = i)) len := by
    rw [← sumP_one W i len hi]
    unfold ahead
    refine (sumP_add W _ _ _ len fun j hj hp => ⟨?_, ?_⟩).symm
    · simp only [Bool.or_eq_true]
    · simp only [Bool.or_eq_true, Bool.and_eq_true, decide_eq_true_eq]
      rintro ⟨h1, rfl⟩
      omega
  rw [e]
  exact sumP_mono W _ _ len fun _ _ _ => rfl
/-- each place that is taken is taken by a code -/
theorem cover {W : Nat → Int} {len : Nat} (hg : ∀ i, i < len → lenB (W i) = true) (P : Nat) (hP : P < fillN W len) : ∃ i s : Nat, i < len ∧ W i = (s : Int) ∧ 0 < s ∧ s ≤ 15 ∧ codeN W len i = P / 2 ^ (15 - s) := by
  rw [← lowN_all W len hg] at hP
  have key : ∀ t, t ≤ 15 → P < lowN W t len → ∃ i s : Nat, i < len ∧ W i = (s : Int) ∧ 0 < s ∧ s ≤ 15 ∧ codeN W len i = P / 2 ^ (15 - s) := by
    intro t
    induction t with
    | zero => intro _ h; rw [lowN_zero] at h; omega
    | succ t ih =>
      intro ht h
      by_cases hl : P < lowN W t len
      · exact ih (by omega) hl
      · rw [lowN_succ, eqN_cnt W (t + 1) len (by omega)] at h
        have hp : 0 < 2 ^ (15 - (t + 1)) := Nat.pow_pos (by decide)
        have hd : (P - lowN W t len) / 2 ^ (15 - (t + 1)) < cnt W (t + 1) len := by
          rw [Nat.div_lt_iff_lt_mul hp]; omega
        obtain ⟨i, _, h4, h5, h6⟩ := sgsL_at W (t + 1) len ((P - lowN W t len) / 2 ^ (15 - (t + 1))) (by omega) (by rw [sgsL_cnt W _ _ (by omega)]; exact hd)
        refine ⟨i, t + 1, h4, h5, by omega, ht, ?_⟩
        rw [code_of W len i (t + 1) (by omega) h5, h6]
        have h7 := nx_low W len t (by omega)
        rw [two_pow_split t (by omega)] at h7
        have h8 : P = (P - lowN W t len) + 2 ^ (15 - (t + 1)) * (2 * nx W len t) := by
          have : 2 ^ (15 - (t + 1)) * (2 * nx W len t) = lowN W t len := by rw [← h7]; ac_rfl
          omega
        have h9 : P / 2 ^ (15 - (t + 1)) = (P - lowN W t len) / 2 ^ (15 - (t + 1)) + 2 * nx W len t := by
          have := Nat.add_mul_div_left (P - lowN W t len) (2 * nx W len t) hp
          rw [← this, ← h8]
        rw [h9, show t + 1 - 1 = t from rfl]; omega
  exact key 15 (by omega) hP
/-- does a longer code begin so? -/
theorem more_book {W : Nat → Int} {len : Nat} (hg : ∀ i, i < len → lenB (W i) = true) (X n : Nat) (hn : n ≤ 15) (hno : ∀ m, m ≤ n → hitS W len m (rv X m) = none) : moreS W len n (rv X n) = decide (rv X n * 2 ^ (15 - n) < fillN W len) := by
  by_cases h : rv X n * 2 ^ (15 - n) < fillN W len
  · rw [decide_eq_true h]
    obtain ⟨i, s, h1, h2, h3, h4, h5⟩ := cover hg _ h
    by_cases hs : s ≤ n
    · have e : codeN W len i = rv X s := by
        rw [h5, show 15 - s = (15 - n) + (n - s) by omega, Nat.pow_add, ← Nat.div_div_eq_div_mul, Nat.mul_div_cancel _ (Nat.pow_pos (by decide))]
        have := rv_front X s (n - s)
        rwa [show s + (n - s) = n by omega] at this
      have := hit_is hg i s h1 h2 h3 (rv X s) e
      rw [hno s hs] at this
      cases this
    · refine more_mk h1 (by omega) ?_
      rw [h2, Int.toNat_natCast, h5, show 15 - n = (15 - s) + (s - n) by omega, Nat.pow_add, Nat.mul_comm (2 ^ (15 - s)), ← Nat.mul_assoc, Nat.mul_div_cancel _ (Nat.pow_pos (by decide)), Nat.mul_div_cancel _ (Nat.pow_pos (by decide))]
  · rw [decide_eq_false h]
    cases hm : moreS W len n (rv X n) with
    | false => rfl
    | true =>
      obtain ⟨i, h1, h2, h3⟩ := more_of hm
      have h4 := len_of (hg i h1)
      obtain ⟨s, hs⟩ : ∃ s : Nat, W i = (s : Int) := ⟨(W i).toNat, by omega⟩
      have h5 := ahead_fill W len i h1 (by omega)
      rw [ahead_code' W len i s h1 hs (by omega) (by omega)] at h5
      rw [hs, Int.toNat_natCast] at h3
      have htk : 0 < tk (W i) := by rw [tk_pos _ (by omega)]; exact Nat.pow_pos (by decide)
      refine absurd (Nat.lt_of_le_of_lt ?_ (Nat.lt_of_lt_of_le (Nat.lt_add_of_pos_right htk) h5)) h
      rw [← h3, show 15 - n = (s - n) + (15 - s) by omega, Nat.pow_add, ← Nat.mul_assoc]
      exact Nat.mul_le_mul_right _ (Nat.div_mul_le_self _ _)
end Go.Proofs.Ytganplceeapjcaa
