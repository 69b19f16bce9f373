/- What bits.isWidth answers. -/
import Derived.Test.YtganplceeapjcaaBase
import Derived.Test.YtganplceeapjcaaPackMath
namespace Go.Proofs.Ytganplceeapjcaa
open Go.RowKit

set_option maxHeartbeats 400000 in
theorem isWidth_any (wd : Int) (w : World) :
    Calls Try.prog 44 #[.int .i64 wd] w fun e w' => e = .returned (.bool (widB wd)) ∧ w' = w := by
  unfold widB
  by_cases h1 : 0 ≤ wd
  · by_cases h2 : wd ≤ 64
    · have e : decide (0 ≤ wd ∧ wd ≤ 64) = true := decide_eq_true ⟨h1, h2⟩
      rw [e]; clear e
      go_enter Try.func44, Try.ntmps44
      go_wp2
      go_ret
      exact ⟨rfl, rfl⟩
    · have e : decide (0 ≤ wd ∧ wd ≤ 64) = false := decide_eq_false (by omega)
      have d2 : decide (wd ≤ 64) = false := decide_eq_false (by omega)
      rw [e]; clear e
      go_enter Try.func44, Try.ntmps44
      go_wp2
      go_ret
      exact ⟨rfl, rfl⟩
  · have e : decide (0 ≤ wd ∧ wd ≤ 64) = false := decide_eq_false (by omega)
    have d1 : decide (0 ≤ wd) = false := decide_eq_false (by omega)
    rw [e]; clear e
    go_enter Try.func44, Try.ntmps44
    go_wp2
    go_ret
    exact ⟨rfl, rfl⟩
end Go.Proofs.Ytganplceeapjcaa
