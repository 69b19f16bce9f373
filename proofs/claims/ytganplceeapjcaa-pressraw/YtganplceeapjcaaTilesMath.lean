/- Plain facts: codes lie one behind the other. No Go in sight. -/
import Derived.Test.YtganplceeapjcaaCanonMath
namespace Go.Proofs.Ytganplceeapjcaa

theorem low_next (W : Nat → Int) (s len : Nat) (h : 0 < s) : lowN W s len = lowN W (s - 1) len + eqN W s len := by
  obtain ⟨t, rfl⟩ : ∃ t, s = t + 1 := ⟨s - 1, by omega⟩
  exact lowN_succ W t len
/-- a code, with as many noughts behind as it may have, is what lies ahead of it -/
theorem tile (W : Nat → Int) (len k s : Nat) (hw : W k = (s : Int)) (h0 : 0 < s) (hs : s ≤ 15) : codeN W len k * 2 ^ (15 - s) = lowN W (s - 1) len + eqN W s k := by
  obtain ⟨t, rfl⟩ : ∃ t, s = t + 1 := ⟨s - 1, by omega⟩
  have e3 : codeN W len k = 2 * nx W len t + cnt W (t + 1) k := by unfold codeN; rw [hw]; rfl
  rw [e3, eqN_cnt W (t + 1) k (by omega), show t + 1 - 1 = t by omega, ← nx_low W len t (by omega), Nat.add_mul, two_pow_split t (by omega)]
  congr 1
  rw [Nat.mul_comm 2 (nx W len t), Nat.mul_assoc]
theorem can_not (W : Nat → Int) (len : Nat) (h : canE W len ≠ 0) : canE W len = fillE W len ∧ fillE W len ≠ 0 ∨ canE W len = 6 ∧ fillE W len = 0 ∧ 32768 < fillN W len := by
  by_cases h1 : fillE W len = 0
  · by_cases h2 : 32768 < fillN W len
    · exact .inr ⟨(can_over W len h1 h2).1, h1, h2⟩
    · exact absurd (can_ok W len h1 (by omega)).1 h
  · exact .inl ⟨(can_err W len h1).1, h1⟩
theorem can_zero (W : Nat → Int) (len : Nat) (h : canE W len = 0) : fillE W len = 0 ∧ fillN W len ≤ 32768 ∧ canL W len = len := by
  by_cases h1 : fillE W len = 0
  · by_cases h2 : 32768 < fillN W len
    · have := (can_over W len h1 h2).1; omega
    · exact ⟨h1, by omega, (can_ok W len h1 (by omega)).2⟩
  · have := (can_err W len h1).1; omega
end Go.Proofs.Ytganplceeapjcaa
