/- Plain facts: one more sign. No Go in sight. -/
import Derived.Test.YtgecdldahgfncabTilesMath
namespace Go.Proofs.Ytgecdldahgfncab

theorem fillN_congr (W V : Nat → Int) (k : Nat) (h : ∀ i, i < k → W i = V i) : fillN W k = fillN V k := by
  induction k with
  | zero => rfl
  | succ k ih => rw [fillN_succ, fillN_succ, ih fun i hi => h i (by omega), h k (by omega)]
theorem more_fill (W V : Nat → Int) (len s : Nat) (hE : fillE W len = 0) (hl : len < 320) (h : ∀ i, i < len → V i = W i) (hs : V len = (s : Int)) (h0 : 0 < s) (h15 : s ≤ 15) : fillE V (len + 1) = 0 ∧ fillN V (len + 1) = fillN W len + 2 ^ (15 - s) := by
  obtain ⟨_, hB, _⟩ := fillE_zero W len hE
  constructor
  · refine (fill_ok V (len + 1) (by omega) (all_mk fun i hi => ?_)).1
    rcases Nat.lt_succ_iff_lt_or_eq.1 hi with h1 | rfl
    · rw [h i h1]; exact all_of hB i h1
    · rw [hs]; exact decide_eq_true (by omega)
  · rw [fillN_succ, fillN_congr V W len h, hs, tk_pos _ (by omega)]
    simp
end Go.Proofs.Ytgecdldahgfncab
