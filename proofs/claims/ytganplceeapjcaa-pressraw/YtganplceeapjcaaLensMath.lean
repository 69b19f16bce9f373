/- Plain facts on codes by their lengths. No Go in sight. -/
import Derived.Test.YtganplceeapjcaaFlipMath
namespace Go.Proofs.Ytganplceeapjcaa

/-- is a length one -/
def lenB (x : Int) : Bool := decide (0 ≤ x ∧ x ≤ 15)
theorem len_of {x : Int} (h : lenB x = true) : 0 ≤ x ∧ x ≤ 15 := of_decide_eq_true h
theorem len_not {x : Int} (h : lenB x = false) : ¬ (0 ≤ x ∧ x ≤ 15) := of_decide_eq_false h
def allB (W : Nat → Int) (len : Nat) : Bool := (List.range len).all fun i => lenB (W i)
theorem all_of {W : Nat → Int} {len : Nat} (h : allB W len = true) (i : Nat) (hi : i < len) : lenB (W i) = true := List.all_eq_true.1 h i (by simpa using hi)
theorem all_mk {W : Nat → Int} {len : Nat} (h : ∀ i, i < len → lenB (W i) = true) : allB W len = true := List.all_eq_true.2 fun i hi => h i (by simpa using hi)
theorem all_not {W : Nat → Int} {len : Nat} (k : Nat) (hk : k < len) (h : lenB (W k) = false) : allB W len = false := by
  cases ha : allB W len with
  | false => rfl
  | true => rw [all_of ha k hk] at h; cases h
theorem first_bad {W : Nat → Int} {len : Nat} (h : allB W len = false) : ∃ k, k < len ∧ lenB (W k) = false ∧ ∀ i, i < k → lenB (W i) = true := by
  induction len with
  | zero => simp [allB] at h
  | succ n ih =>
    cases hn : allB W n with
    | false =>
      obtain ⟨k, h1, h2, h3⟩ := ih hn
      exact ⟨k, by omega, h2, h3⟩
    | true =>
      refine ⟨n, by omega, ?_, fun i hi => all_of hn i hi⟩
      cases hb : lenB (W n) with
      | false => rfl
      | true =>
        rw [all_mk (fun i hi => by
          rcases Nat.lt_succ_iff_lt_or_eq.1 hi with h1 | rfl
          · exact all_of hn i h1
          · exact hb)] at h
        cases h
/-- what a sign of length x takes -/
def tk (x : Int) : Nat := if 0 < x then 2 ^ (15 - x.toNat) else 0
theorem tk_le (x : Int) : tk x ≤ 16384 := by
  unfold tk; split
  · have : 2 ^ (15 - x.toNat) ≤ 2 ^ 14 := Nat.pow_le_pow_right (by decide) (by omega)
    omega
  · omega
theorem tk_zero : tk 0 = 0 := by simp [tk]
theorem tk_pos (x : Int) (h : 0 < x) : tk x = 2 ^ (15 - x.toNat) := by unfold tk; rw [if_pos h]
/-- all that is taken by those of the first k whose lengths p takes -/
def sumP (W : Nat → Int) (p : Nat → Int → Bool) : Nat → Nat
  | 0 => 0
  | k + 1 => sumP W p k + if p k (W k) = true then tk (W k) else 0
theorem sumP_le (W : Nat → Int) (p : Nat → Int → Bool) (k : Nat) : sumP W p k ≤ 16384 * k := by
  induction k with
  | zero => simp [sumP]
  | succ k ih =>
    have := tk_le (W k)
    simp only [sumP]; split <;> omega
theorem sumP_congr (W : Nat → Int) (p q : Nat → Int → Bool) (k : Nat) (h : ∀ i, i < k → 0 < W i → p i (W i) = q i (W i)) : sumP W p k = sumP W q k := by
  induction k with
  | zero => rfl
  | succ k ih =>
    simp only [sumP]
    rw [ih fun i hi => h i (by omega)]
    by_cases h0 : 0 < W k
    · rw [h k (by omega) h0]
    · have : tk (W k) = 0 := by unfold tk; rw [if_neg h0]
      rw [this]; simp
theorem sumP_add (W : Nat → Int) (p q r : Nat → Int → Bool) (k : Nat) (h : ∀ i, i < k → 0 < W i → (r i (W i) = true ↔ p i (W i) = true ∨ q i (W i) = true) ∧ ¬ (p i (W i) = true ∧ q i (W i) = true)) : sumP W r k = sumP W p k + sumP W q k := by
  induction k with
  | zero => rfl
  | succ k ih =>
    simp only [sumP]
    rw [ih fun i hi => h i (by omega)]
    by_cases h0 : 0 < W k
    · obtain ⟨h1, h2⟩ := h k (by omega) h0
      cases hp : p k (W k) <;> cases hq : q k (W k) <;> cases hr : r k (W k) <;> simp [hp, hq, hr] at h1 h2 ⊢ <;> omega
    · have : tk (W k) = 0 := by unfold tk; rw [if_neg h0]
      rw [this]; simp
theorem sumP_mono (W : Nat → Int) (p q : Nat → Int → Bool) (k : Nat) (h : ∀ i, i < k → p i (W i) = true → q i (W i) = true) : sumP W p k ≤ sumP W q k := by
  induction k with
  | zero => exact Nat.le_refl _
  | succ k ih =>
    have := ih fun i hi => h i (by omega)
    have h2 := h k (by omega)
    simp only [sumP]
    cases hp : p k (W k)
    · simp; omega
    · rw [h2 hp]; simp; omega
theorem sumP_none (W : Nat → Int) (p : Nat → Int → Bool) (k : Nat) (h : ∀ i, i < k → 0 < W i → p i (W i) = false) : sumP W p k = 0 := by
  rw [sumP_congr W p (fun _ _ => false) k h]
  induction k with
  | zero => rfl
  | succ k ih => simp [sumP]; exact ih fun i hi => h i (by omega)
/-- what all take -/
def fillN (W : Nat → Int) (len : Nat) : Nat := sumP W (fun _ _ => true) len
def fillE (W : Nat → Int) (len : Nat) : Int := if 320 < len then 2 else if allB W len = true then 0 else 1
def fillA (W : Nat → Int) (len : Nat) : Nat := if fillE W len = 0 then fillN W len else 0
theorem fill_large (W : Nat → Int) (len : Nat) (h : 320 < len) : fillE W len = 2 ∧ fillA W len = 0 := by
  have e : fillE W len = 2 := by unfold fillE; rw [if_pos h]
  exact ⟨e, by unfold fillA; rw [e]; rfl⟩
theorem fill_bad (W : Nat → Int) (len : Nat) (h : ¬ 320 < len) (hb : allB W len = false) : fillE W len = 1 ∧ fillA W len = 0 := by
  have e : fillE W len = 1 := by unfold fillE; rw [if_neg h, hb]; rfl
  exact ⟨e, by unfold fillA; rw [e]; rfl⟩
theorem fill_ok (W : Nat → Int) (len : Nat) (h : ¬ 320 < len) (hb : allB W len = true) : fillE W len = 0 ∧ fillA W len = fillN W len := by
  have e : fillE W len = 0 := by unfold fillE; rw [if_neg h, hb]; rfl
  exact ⟨e, by unfold fillA; rw [e]; rfl⟩
theorem fillN_succ (W : Nat → Int) (k : Nat) : fillN W (k + 1) = fillN W k + tk (W k) := by simp [fillN, sumP]
/-- a length's worth, as the program reckons it -/
theorem room_shr (x : Int) (h0 : 0 < x) (h : x ≤ 15) : (32768 : Int) / 2 ^ x.toNat = (tk x : Nat) := by
  rw [tk_pos x h0]
  obtain ⟨n, rfl⟩ := Int.eq_ofNat_of_zero_le (show 0 ≤ x by omega)
  simp only [Int.toNat_natCast]
  have h15 : n ≤ 15 := by omega
  have e : 32768 = 2 ^ (15 - n) * 2 ^ n := by rw [← Nat.pow_add, show 15 - n + n = 15 by omega]
  have : (32768 : Nat) / 2 ^ n = 2 ^ (15 - n) := by
    conv => lhs; rw [e]
    exact Nat.mul_div_cancel _ (Nat.two_pow_pos _)
  rw [show (32768 : Int) = ((32768 : Nat) : Int) from rfl, show ((2 : Int) ^ n) = ((2 ^ n : Nat) : Int) by simp, ← Int.natCast_ediv, this]
end Go.Proofs.Ytganplceeapjcaa
