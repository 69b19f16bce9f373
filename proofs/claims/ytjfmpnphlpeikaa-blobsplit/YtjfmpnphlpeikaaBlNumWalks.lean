/- What blob.numbersOf answers. -/
import Derived.Test.YtjfmpnphlpeikaaBl
namespace Go.Proofs.Ytjfmpnphlpeikaa
open Go.RowKit

set_option maxRecDepth 20000 in
theorem numK_any (k : Int) (w : World) : Calls Try.prog 25 #[.int .i64 k] w fun e w' => e = .returned (.int .i64 (numK k)) ∧ w' = w := by
  by_cases h1 : k = 1
  · subst h1
    go_enter Try.func25, Try.ntmps25
    go_wp2_with fail
    go_ret
    exact ⟨rfl, rfl⟩
  · have t1 : (k == 1) = false := by rw [beq_eq_false_iff_ne]; exact h1
    by_cases h2 : k = 2
    · subst h2
      go_enter Try.func25, Try.ntmps25
      go_wp2_with fail
      go_ret
      exact ⟨rfl, rfl⟩
    · have t2 : (k == 2) = false := by rw [beq_eq_false_iff_ne]; exact h2
      by_cases h3 : k = 3
      · subst h3
        go_enter Try.func25, Try.ntmps25
        go_wp2_with fail
        go_ret
        exact ⟨rfl, rfl⟩
      · have t3 : (k == 3) = false := by rw [beq_eq_false_iff_ne]; exact h3
        have hq : Hid (numK k = 0) := by show _ = _; unfold numK; rw [if_neg h1, if_neg (by omega)]
        clear h1 h2 h3
        go_enter Try.func25, Try.ntmps25
        go_wp2_with fail
        go_ret
        exact ⟨by rw [hq.out]; rfl, rfl⟩
end Go.Proofs.Ytjfmpnphlpeikaa
