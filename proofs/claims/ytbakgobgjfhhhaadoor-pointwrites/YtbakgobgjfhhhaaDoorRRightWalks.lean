/- What linenref.Right answers. -/
import Derived.Test.YtbakgobgjfhhhaaDoorPl
namespace Go.Proofs.YtbakgobgjfhhhaaDoor
open Go.RowKit

set_option maxRecDepth 20000 in
set_option maxHeartbeats 800000 in
theorem rright_any (p : Pla) (w : World) :
    Calls Tryd.prog 68 #[.agg #[.int .i64 p.cl, .int .i64 p.nh]] w fun e w' => e = .returned (.bool (rtB p)) ∧ Below w.heap.size w w' := by
  obtain ⟨_⟩ : True := trivial
  have HX := Hid.mk' (bxPl w p 67)
  obtain ⟨c, n⟩ := p
  simp only at HX ⊢
  have HB := Hid.mk' (below_boxP (w := w) #[.int .i64 c, .int .i64 n] 67)
  obtain ⟨W0, hW0⟩ : ∃ W, Hid (w.alloc (.cells #[.int .i64 c, .int .i64 n] 67) = W) := ⟨_, Hid.mk' rfl⟩
  rw [hW0.out] at HX HB
  have c0 := HX.out.c0
  have c1 := HX.out.c1
  simp only at c0 c1
  by_cases h0 : c = 0 ∧ n = 0
  · obtain ⟨rfl, rfl⟩ := h0
    have hc : Hid (rtB ⟨0, 0⟩ = true) := rfl
    go_enter Tryd.func68, Tryd.ntmps68
    go_wp2_with fail
    rw [hW0.out]
    have HB1 := HB
    go_wp2_with fail
    go_ret
    exact ⟨by rw [hc.out]; rfl, HB1.out⟩
  have HE : Hid (c = 0 → ¬ n = 0) := fun a b => h0 ⟨a, b⟩
  by_cases h1 : 2 ≤ c
  rotate_left
  · have t1 : decide ((2 : Int) ≤ c) = false := decide_eq_false h1
    have hc : Hid (rtB ⟨c, n⟩ = false) := rtB_no (fun h => by simp only at h; rcases h with h | h <;> omega)
    clear h0 h1
    by_cases hz : c = 0
    · have t8 : (n == 0) = false := by rw [beq_eq_false_iff_ne]; exact HE.out hz
      subst hz
      go_enter Tryd.func68, Tryd.ntmps68
      go_wp2_with fail
      rw [hW0.out]
      have HB1 := HB
      go_wp2_with fail
      go_ret
      exact ⟨by rw [hc.out]; rfl, HB1.out⟩
    · have t9 : (c == 0) = false := by rw [beq_eq_false_iff_ne]; exact hz
      clear hz
      go_enter Tryd.func68, Tryd.ntmps68
      go_wp2_with fail
      rw [hW0.out]
      have HB1 := HB
      go_wp2_with fail
      go_ret
      exact ⟨by rw [hc.out]; rfl, HB1.out⟩
  have t1 : decide ((2 : Int) ≤ c) = true := decide_eq_true h1
  by_cases h2 : c ≤ 127
  rotate_left
  · have t2 : decide (c ≤ (127 : Int)) = false := decide_eq_false h2
    have hc : Hid (rtB ⟨c, n⟩ = false) := rtB_no (fun h => by simp only at h; rcases h with h | h <;> omega)
    clear h0 h1 h2
    by_cases hz : c = 0
    · have t8 : (n == 0) = false := by rw [beq_eq_false_iff_ne]; exact HE.out hz
      subst hz
      exact absurd t1 (by decide)
    · have t9 : (c == 0) = false := by rw [beq_eq_false_iff_ne]; exact hz
      clear hz
      go_enter Tryd.func68, Tryd.ntmps68
      go_wp2_with fail
      rw [hW0.out]
      have HB1 := HB
      go_wp2_with fail
      go_ret
      exact ⟨by rw [hc.out]; rfl, HB1.out⟩
  have t2 : decide (c ≤ (127 : Int)) = true := decide_eq_true h2
  by_cases h3 : 0 ≤ n
  rotate_left
  · have t3 : decide ((0 : Int) ≤ n) = false := decide_eq_false h3
    have hc : Hid (rtB ⟨c, n⟩ = false) := rtB_no (fun h => by simp only at h; rcases h with h | h <;> omega)
    clear h0 h1 h2 h3
    by_cases hz : c = 0
    · have t8 : (n == 0) = false := by rw [beq_eq_false_iff_ne]; exact HE.out hz
      subst hz
      exact absurd t1 (by decide)
    · have t9 : (c == 0) = false := by rw [beq_eq_false_iff_ne]; exact hz
      clear hz
      go_enter Tryd.func68, Tryd.ntmps68
      go_wp2_with fail
      rw [hW0.out]
      have HB1 := HB
      go_wp2_with fail
      go_ret
      exact ⟨by rw [hc.out]; rfl, HB1.out⟩
  have t3 : decide ((0 : Int) ≤ n) = true := decide_eq_true h3
  by_cases h4 : n ≤ 39
  rotate_left
  · have t4 : decide (n ≤ (39 : Int)) = false := decide_eq_false h4
    have hc : Hid (rtB ⟨c, n⟩ = false) := rtB_no (fun h => by simp only at h; rcases h with h | h <;> omega)
    clear h0 h1 h2 h3 h4
    by_cases hz : c = 0
    · have t8 : (n == 0) = false := by rw [beq_eq_false_iff_ne]; exact HE.out hz
      subst hz
      exact absurd t1 (by decide)
    · have t9 : (c == 0) = false := by rw [beq_eq_false_iff_ne]; exact hz
      clear hz
      go_enter Tryd.func68, Tryd.ntmps68
      go_wp2_with fail
      rw [hW0.out]
      have HB1 := HB
      go_wp2_with fail
      go_ret
      exact ⟨by rw [hc.out]; rfl, HB1.out⟩
  have t4 : decide (n ≤ (39 : Int)) = true := decide_eq_true h4
  have hc : Hid (rtB ⟨c, n⟩ = true) := rtB_yes (by simp only; omega)
  clear h0 h1 h2 h3 h4
  by_cases hz : c = 0
  · have t8 : (n == 0) = false := by rw [beq_eq_false_iff_ne]; exact HE.out hz
    subst hz
    exact absurd t1 (by decide)
  · have t9 : (c == 0) = false := by rw [beq_eq_false_iff_ne]; exact hz
    clear hz
    go_enter Tryd.func68, Tryd.ntmps68
    go_wp2_with fail
    rw [hW0.out]
    have HB1 := HB
    go_wp2_with fail
    go_ret
    exact ⟨by rw [hc.out]; rfl, HB1.out⟩
end Go.Proofs.YtbakgobgjfhhhaaDoor
