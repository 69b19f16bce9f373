/- What lz.Check answers. -/
import Derived.Test.YtganplceeapjcaaBase
import Derived.Test.YtganplceeapjcaaMarkMath
namespace Go.Proofs.Ytganplceeapjcaa
open Go.RowKit

set_option maxRecDepth 20000 in
set_option maxHeartbeats 800000 in
theorem check_eq (x y : Int) (z : Nat) (w : World) :
    Calls Try.prog 35 #[.agg #[.int .i64 x, .int .i64 y, .int .u8 (z : Int)]] w fun e w' => e = .returned (.int .i64 (chkM ⟨x, y, z⟩)) ∧ w' = w.alloc (.cells #[.int .i64 x, .int .i64 y, .int .u8 (z : Int)] 53) := by
  cases hm : okM ⟨x, y, z⟩ with
  | true =>
    have hc : Hid (chkM ⟨x, y, z⟩ = 0) := by show _ = _; unfold chkM; rw [hm]; rfl
    have ho := okM_of hm
    clear hm
    simp only at ho
    rcases ho with ⟨h1, h2⟩ | ⟨h1, h2, h3, h4⟩
    · subst h1 h2
      go_enter Try.func35, Try.ntmps35
      go_wp2_with fail
      go_ret
      exact ⟨by rw [hc.out]; rfl, rfl⟩
    · subst h4
      have t0 : (x == 0) = false := by rw [beq_eq_false_iff_ne]; omega
      go_enter Try.func35, Try.ntmps35
      go_wp2_with fail
      go_ret
      exact ⟨by rw [hc.out]; rfl, rfl⟩
  | false =>
    have hc : Hid (chkM ⟨x, y, z⟩ = 4) := by show _ = _; unfold chkM; rw [hm]; rfl
    have ho := okM_not hm
    clear hm
    simp only at ho
    by_cases h0 : x = 0
    · subst h0
      have t1 : (y == 0) = false := by rw [beq_eq_false_iff_ne]; omega
      clear ho
      go_enter Try.func35, Try.ntmps35
      go_wp2_with fail
      go_ret
      exact ⟨by rw [hc.out]; rfl, rfl⟩
    · have t0 : (x == 0) = false := by rw [beq_eq_false_iff_ne]; exact h0
      by_cases h3 : x < 3
      · clear ho h0
        go_enter Try.func35, Try.ntmps35
        go_wp2_with fail
        go_ret
        exact ⟨by rw [hc.out]; rfl, rfl⟩
      · have g3 : 3 ≤ x := by omega
        by_cases h6 : 66 < x
        · clear ho h0 h3
          go_enter Try.func35, Try.ntmps35
          go_wp2_with fail
          go_ret
          exact ⟨by rw [hc.out]; rfl, rfl⟩
        · have g6 : x ≤ 66 := by omega
          by_cases h1 : y < 1
          · clear ho h0 h3 h6
            go_enter Try.func35, Try.ntmps35
            go_wp2_with fail
            go_ret
            exact ⟨by rw [hc.out]; rfl, rfl⟩
          · have g1 : 1 ≤ y := by omega
            have hz : ((z : Int) == 0) = false := by rw [beq_eq_false_iff_ne]; omega
            clear ho h0 h3 h6 h1
            go_enter Try.func35, Try.ntmps35
            go_wp2_with fail
            go_ret
            exact ⟨by rw [hc.out]; rfl, rfl⟩
theorem check_any (x y : Int) (z : Nat) (w : World) :
    Calls Try.prog 35 #[.agg #[.int .i64 x, .int .i64 y, .int .u8 (z : Int)]] w fun e w' => e = .returned (.int .i64 (chkM ⟨x, y, z⟩)) ∧ Below w.heap.size w w' :=
  (check_eq x y z w).mono fun _ _ h => ⟨h.1, by rw [h.2]; exact (Below.refl _ _).alloc (Nat.le_refl _) _⟩
end Go.Proofs.Ytganplceeapjcaa
