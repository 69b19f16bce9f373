/- How often signs come: what may be handed in; what a code costs. -/
import Derived.Test.YthdgfanecfdlkaaLensMath
namespace Go.Proofs.Ythdgfanecfdlkaa

/-- the first error of the first k -/
def frP (F : Nat → Int) : Nat → Int
  | 0 => 0
  | k + 1 => if frP F k = 0 then (if F k < 0 then 1 else if 1048576 < F k then 2 else 0) else frP F k
def freqE (F : Nat → Int) (n : Nat) : Int := if 320 < n then 2 else frP F n
theorem frP_ok {F : Nat → Int} {n : Nat} (h : frP F n = 0) (i : Nat) (hi : i < n) : 0 ≤ F i ∧ F i ≤ 1048576 := by
  induction n with
  | zero => omega
  | succ k ih =>
    unfold frP at h
    by_cases h0 : frP F k = 0
    · rw [if_pos h0] at h
      by_cases e : i = k
      · subst e
        by_cases h1 : F i < 0
        · rw [if_pos h1] at h; omega
        · rw [if_neg h1] at h
          by_cases h2 : 1048576 < F i
          · rw [if_pos h2] at h; omega
          · omega
      · exact ih h0 (by omega)
    · rw [if_neg h0] at h; exact absurd h h0
theorem frP_mk {F : Nat → Int} {n : Nat} (h : ∀ i, i < n → 0 ≤ F i ∧ F i ≤ 1048576) : frP F n = 0 := by
  induction n with
  | zero => rfl
  | succ k ih =>
    have := h k (by omega)
    unfold frP
    rw [if_pos (ih fun i hi => h i (by omega)), if_neg (by omega), if_neg (by omega)]
theorem frP_stays {F : Nat → Int} {k n : Nat} (h : frP F k ≠ 0) (hk : k ≤ n) : frP F n = frP F k := by
  induction n with
  | zero => rw [show k = 0 by omega]
  | succ m ih =>
    by_cases e : k = m + 1
    · rw [e]
    · have := ih (by omega)
      rw [frP, if_neg (by rw [this]; exact h), this]
theorem frP_neg {F : Nat → Int} {k n : Nat} (h : ∀ i, i < k → 0 ≤ F i ∧ F i ≤ 1048576) (hk : k < n) (hx : F k < 0) : frP F n = 1 := by
  have e : frP F (k + 1) = 1 := by rw [frP, if_pos (frP_mk h), if_pos hx]
  rw [frP_stays (k := k + 1) (by rw [e]; omega) hk, e]
theorem frP_big {F : Nat → Int} {k n : Nat} (h : ∀ i, i < k → 0 ≤ F i ∧ F i ≤ 1048576) (hk : k < n) (hx : 1048576 < F k) : frP F n = 2 := by
  have e : frP F (k + 1) = 2 := by rw [frP, if_pos (frP_mk h), if_neg (by omega), if_pos hx]
  rw [frP_stays (k := k + 1) (by rw [e]; omega) hk, e]
theorem freqE_zero {F : Nat → Int} {n : Nat} (h : freqE F n = 0) : n ≤ 320 ∧ ∀ i, i < n → 0 ≤ F i ∧ F i ≤ 1048576 := by
  unfold freqE at h
  by_cases hn : 320 < n
  · rw [if_pos hn] at h; omega
  · rw [if_neg hn] at h; exact ⟨by omega, frP_ok h⟩
theorem freqE_mk {F : Nat → Int} {n : Nat} (hn : n ≤ 320) (h : ∀ i, i < n → 0 ≤ F i ∧ F i ≤ 1048576) : freqE F n = 0 := by
  unfold freqE; rw [if_neg (by omega)]; exact frP_mk h
/-- what the first k signs cost -/
def costN (F W : Nat → Int) : Nat → Nat
  | 0 => 0
  | k + 1 => costN F W k + (F k).toNat * (W k).toNat
def costE (F : Nat → Int) (n : Nat) (W : Nat → Int) (m : Nat) : Int := if freqE F n = 0 then (if fillE W m = 0 then (if n = m then 0 else 1) else fillE W m) else freqE F n
def costA (F : Nat → Int) (n : Nat) (W : Nat → Int) (m : Nat) : Nat := if costE F n W m = 0 then costN F W n else 0
theorem costN_le (F W : Nat → Int) (k : Nat) (hF : ∀ i, i < k → 0 ≤ F i ∧ F i ≤ 1048576) (hW : ∀ i, i < k → lenB (W i) = true) : costN F W k ≤ 15728640 * k := by
  induction k with
  | zero => simp [costN]
  | succ k ih =>
    have h1 := ih (fun i hi => hF i (by omega)) (fun i hi => hW i (by omega))
    have h2 := hF k (by omega)
    have h3 := len_of (hW k (by omega))
    have h4 : (F k).toNat * (W k).toNat ≤ 1048576 * 15 := Nat.mul_le_mul (by omega) (by omega)
    rw [costN]; omega
theorem cost_freq {F : Nat → Int} {n : Nat} {W : Nat → Int} {m : Nat} (h : freqE F n ≠ 0) : costE F n W m = freqE F n ∧ costA F n W m = 0 := by
  have e : costE F n W m = freqE F n := by unfold costE; rw [if_neg h]
  exact ⟨e, by unfold costA; rw [if_neg (by rw [e]; exact h)]⟩
theorem cost_fill {F : Nat → Int} {n : Nat} {W : Nat → Int} {m : Nat} (h0 : freqE F n = 0) (h : fillE W m ≠ 0) : costE F n W m = fillE W m ∧ costA F n W m = 0 := by
  have e : costE F n W m = fillE W m := by unfold costE; rw [if_pos h0, if_neg h]
  exact ⟨e, by unfold costA; rw [if_neg (by rw [e]; exact h)]⟩
theorem cost_len {F : Nat → Int} {n : Nat} {W : Nat → Int} {m : Nat} (h0 : freqE F n = 0) (h1 : fillE W m = 0) (h : n ≠ m) : costE F n W m = 1 ∧ costA F n W m = 0 := by
  have e : costE F n W m = 1 := by unfold costE; rw [if_pos h0, if_pos h1, if_neg h]
  exact ⟨e, by unfold costA; rw [if_neg (by rw [e]; omega)]⟩
theorem cost_ok {F : Nat → Int} {n : Nat} {W : Nat → Int} (h0 : freqE F n = 0) (h1 : fillE W n = 0) : costE F n W n = 0 ∧ costA F n W n = costN F W n := by
  have e : costE F n W n = 0 := by unfold costE; rw [if_pos h0, if_pos h1, if_pos rfl]
  exact ⟨e, by unfold costA; rw [if_pos e]⟩
theorem fillE_all {W : Nat → Int} {m : Nat} (h : fillE W m = 0) : m ≤ 320 ∧ ∀ i, i < m → lenB (W i) = true := by
  unfold fillE at h
  by_cases hn : 320 < m
  · rw [if_pos hn] at h; omega
  · rw [if_neg hn] at h
    by_cases hb : allB W m = true
    · exact ⟨by omega, all_of hb⟩
    · rw [if_neg hb] at h; omega
theorem freqE_ne {F : Nat → Int} {n : Nat} (h : freqE F n ≠ 0) : (freqE F n != 0) = true := by rw [bne_iff_ne]; exact h
theorem freqE_is (F : Nat → Int) (n : Nat) : 0 ≤ freqE F n ∧ freqE F n ≤ 2 := by
  have : ∀ k, 0 ≤ frP F k ∧ frP F k ≤ 2 := fun k => by
    induction k with
    | zero => simp [frP]
    | succ k ih =>
      unfold frP
      split
      · split
        · omega
        · split <;> omega
      · exact ih
  unfold freqE
  split
  · omega
  · exact this n
theorem fillE_is (W : Nat → Int) (n : Nat) : 0 ≤ fillE W n ∧ fillE W n ≤ 2 := by
  unfold fillE
  split
  · omega
  · split <;> omega
end Go.Proofs.Ythdgfanecfdlkaa
