/- Plain facts: no code begins with another. No Go in sight. -/
import Derived.Test.YtganplceeapjcaaTilesMath
namespace Go.Proofs.Ytganplceeapjcaa

theorem sumP_one (W : Nat → Int) (i len : Nat) (h : i < len) : sumP W (fun j _ => decide (j = i)) len = tk (W i) := by
  induction len with
  | zero => omega
  | succ n ih =>
    simp only [sumP]
    by_cases e : i = n
    · subst e
      rw [sumP_none W _ i (fun j hj _ => decide_eq_false (by omega))]
      simp
    · rw [ih (by omega)]
      simp [show ¬ n = i by omega]
theorem ahead_lt (W : Nat → Int) (len i k : Nat) (hi : i < len) (h : W i < W k ∨ (W i = W k ∧ i < k)) : ahead W i len + tk (W i) ≤ ahead W k len := by
  rw [← sumP_one W i len hi]
  have e : sumP W (fun j x => (decide (x < W i) || (decide (x = W i) && decide (j < i))) || decide (j = i)) len = ahead W i len + sumP W (fun j _ => decide (j = i)) len := by
    refine sumP_add W _ _ _ len fun j _ _ => ?_
    simp only [Bool.or_eq_true, Bool.and_eq_true, decide_eq_true_eq]
    refine ⟨trivial, fun ⟨h1, h2⟩ => ?_⟩
    subst h2
    omega
  rw [← e]
  refine sumP_mono W _ _ len fun j _ hj => ?_
  simp only [Bool.or_eq_true, Bool.and_eq_true, decide_eq_true_eq] at hj ⊢
  rcases hj with hj | hj
  · omega
  · subst hj; omega
/-- no code begins with another -/
theorem free (W : Nat → Int) (len i k v s : Nat) (hi : i < len) (hk : k < len) (hv : W i = (v : Int)) (hs : W k = (s : Int)) (h0 : 0 < v) (hvs : v ≤ s) (h15 : s ≤ 15) (hne : i ≠ k) : codeN W len k / 2 ^ (s - v) ≠ codeN W len i := by
  intro hc
  have ai := ahead_code' W len i v hi hv h0 (by omega)
  have ak := ahead_code' W len k s hk hs (by omega) h15
  have ti : tk (W i) = 2 ^ (15 - v) := by rw [hv, tk_pos _ (by omega)]; simp
  have tks : tk (W k) = 2 ^ (15 - s) := by rw [hs, tk_pos _ (by omega)]; simp
  have hp : 2 ^ (15 - v) = 2 ^ (s - v) * 2 ^ (15 - s) := by rw [← Nat.pow_add, show s - v + (15 - s) = 15 - v by omega]
  by_cases hb : v < s ∨ (v = s ∧ i < k)
  · have hal := ahead_lt W len i k hi (by rw [hv, hs]; omega)
    rw [ai, ak, ti] at hal
    have h1 : codeN W len k < (codeN W len i + 1) * 2 ^ (s - v) := by
      rw [← hc]
      have := Nat.lt_mul_div_succ (codeN W len k) (Nat.two_pow_pos (s - v))
      rw [Nat.mul_comm] at this
      exact this
    have h2 : codeN W len k * 2 ^ (15 - s) < (codeN W len i + 1) * 2 ^ (s - v) * 2 ^ (15 - s) := Nat.mul_lt_mul_of_pos_right h1 (Nat.two_pow_pos _)
    rw [Nat.mul_assoc, ← hp, Nat.add_mul, Nat.one_mul] at h2
    omega
  · have hvs' : v = s := by omega
    subst hvs'
    have hal := ahead_lt W len k i hk (by rw [hv, hs]; omega)
    rw [ai, ak, tks] at hal
    have : 0 < 2 ^ (15 - v) := Nat.two_pow_pos _
    simp at hc
    rw [hc] at hal
    omega
end Go.Proofs.Ytganplceeapjcaa
