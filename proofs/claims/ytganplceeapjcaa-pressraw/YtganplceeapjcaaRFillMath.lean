/- Plain facts on linenref.Fill's way. No Go in sight. -/
import Derived.Test.YtganplceeapjcaaLensMath
namespace Go.Proofs.Ytganplceeapjcaa

/-- what those of length t or more take -/
def geN (W : Nat → Int) (t len : Nat) : Nat := sumP W (fun _ x => decide ((t : Int) ≤ x)) len
/-- what those of length t take -/
def eqN (W : Nat → Int) (t len : Nat) : Nat := sumP W (fun _ x => decide (x = (t : Int))) len
theorem geN_le (W : Nat → Int) (t len : Nat) : geN W t len ≤ 16384 * len := sumP_le _ _ _
theorem eqN_le (W : Nat → Int) (t len : Nat) : eqN W t len ≤ 16384 * len := sumP_le _ _ _
theorem geN_step (W : Nat → Int) (t len : Nat) : geN W t len = geN W (t + 1) len + eqN W t len := by
  refine sumP_add W _ _ _ len fun i _ h0 => ?_
  simp only [decide_eq_true_eq]
  omega
theorem geN_zero (W : Nat → Int) (len : Nat) : geN W 0 len = fillN W len := by
  refine sumP_congr W _ _ len fun i _ h0 => ?_
  exact decide_eq_true (by omega)
theorem geN_top (W : Nat → Int) (len : Nat) (h : ∀ i, i < len → lenB (W i) = true) : geN W 16 len = 0 := by
  refine sumP_none W _ len fun i hi _ => ?_
  have := len_of (h i hi)
  exact decide_eq_false (by omega)
theorem eqN_yes (W : Nat → Int) (t k : Nat) (h : W k = t) (h0 : 0 < t) : eqN W t (k + 1) = eqN W t k + 2 ^ (15 - t) := by
  have e : eqN W t (k + 1) = eqN W t k + if decide (W k = (t : Int)) = true then tk (W k) else 0 := rfl
  rw [e, decide_eq_true h, if_pos rfl, h, tk_pos _ (by omega)]
  simp
theorem eqN_no (W : Nat → Int) (t k : Nat) (h : ¬ (W k = t ∧ 0 < t)) : eqN W t (k + 1) = eqN W t k := by
  have e : eqN W t (k + 1) = eqN W t k + if decide (W k = (t : Int)) = true then tk (W k) else 0 := rfl
  rw [e]
  by_cases h1 : W k = t
  · rw [h1]
    have : tk (t : Int) = 0 := by unfold tk; rw [if_neg (by omega)]
    rw [this]; simp
  · rw [decide_eq_false h1]; rfl
theorem eqN_zero (W : Nat → Int) (t : Nat) : eqN W t 0 = 0 := rfl
end Go.Proofs.Ytganplceeapjcaa
