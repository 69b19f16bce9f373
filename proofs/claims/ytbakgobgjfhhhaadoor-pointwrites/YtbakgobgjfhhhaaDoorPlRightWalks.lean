/- What inode.IsNone, inode.Right and linenref.Right answer. -/
import Derived.Test.YtbakgobgjfhhhaaDoorPl
namespace Go.Proofs.YtbakgobgjfhhhaaDoor
open Go.RowKit

set_option maxRecDepth 20000 in
theorem none_any (p : Pla) (w : World) :
    Calls Tryd.prog 74 #[.agg #[.int .i64 p.cl, .int .i64 p.nh]] w fun e w' => e = .returned (.bool (nonB p)) ∧ Below w.heap.size w w' := by
  obtain ⟨c, n⟩ := p
  have HB := Hid.mk' (below_boxP (w := w) #[.int .i64 c, .int .i64 n] 67)
  simp only at *
  by_cases h1 : c = 0
  · subst h1
    by_cases h2 : n = 0
    · subst h2
      go_enter Tryd.func74, Tryd.ntmps74
      go_wp2_with fail
      go_ret
      exact ⟨rfl, HB.out⟩
    · have t2 : (n == 0) = false := by rw [beq_eq_false_iff_ne]; exact h2
      have hc : Hid (nonB ⟨0, n⟩ = false) := decide_eq_false (fun h => h2 h.2)
      clear h2
      go_enter Tryd.func74, Tryd.ntmps74
      go_wp2_with fail
      go_ret
      exact ⟨by rw [hc.out]; rfl, HB.out⟩
  · have t1 : (c == 0) = false := by rw [beq_eq_false_iff_ne]; exact h1
    have hc : Hid (nonB ⟨c, n⟩ = false) := decide_eq_false (fun h => h1 h.1)
    clear h1
    go_enter Tryd.func74, Tryd.ntmps74
    go_wp2_with fail
    go_ret
    exact ⟨by rw [hc.out]; rfl, HB.out⟩-- RIGHT

set_option maxRecDepth 20000 in
set_option maxHeartbeats 800000 in
theorem right_any (p : Pla) (w : World) :
    Calls Tryd.prog 66 #[.agg #[.int .i64 p.cl, .int .i64 p.nh]] w fun e w' => e = .returned (.bool (rtB p)) ∧ Below w.heap.size w w' := by
  have HN := Hid.mk' (fun X => none_any p X)
  have HX := Hid.mk' (bxPl w p 67)
  obtain ⟨c, n⟩ := p
  simp only at HX ⊢ HN
  have HB := Hid.mk' (below_boxP (w := w) #[.int .i64 c, .int .i64 n] 67)
  obtain ⟨W0, hW0⟩ : ∃ W, Hid (w.alloc (.cells #[.int .i64 c, .int .i64 n] 67) = W) := ⟨_, Hid.mk' rfl⟩
  rw [hW0.out] at HX HB
  have c0 := HX.out.c0
  have c1 := HX.out.c1
  simp only at c0 c1
  by_cases h0 : c = 0 ∧ n = 0
  · obtain ⟨rfl, rfl⟩ := h0
    have hn : Hid (nonB ⟨0, 0⟩ = true) := rfl
    have hc : Hid (rtB ⟨0, 0⟩ = true) := rfl
    go_enter Tryd.func66, Tryd.ntmps66
    go_wp2_with fail
    rw [hW0.out]
    go_wp2_with fail
    refine (HN.out _).mono ?_
    rintro e w1 ⟨rfl, hb⟩
    rw [hn.out]
    have hx1 := HX.out.below hb
    have c0 := hx1.c0
    have c1 := hx1.c1
    simp only at c0 c1
    have HB1 := Hid.mk' (HB.out.trans (hb.mono HB.out.size))
    clear hx1 hb
    go_wp2_with fail
    go_ret
    exact ⟨by rw [hc.out]; rfl, HB1.out⟩
  have hn : Hid (nonB ⟨c, n⟩ = false) := decide_eq_false h0
  by_cases h1 : 2 ≤ c
  rotate_left
  · have t1 : decide ((2 : Int) ≤ c) = false := decide_eq_false h1
    have hc : Hid (rtB ⟨c, n⟩ = false) := rtB_no (fun h => by simp only at h; rcases h with h | h <;> omega)
    clear h0 h1
    go_enter Tryd.func66, Tryd.ntmps66
    go_wp2_with fail
    rw [hW0.out]
    go_wp2_with fail
    refine (HN.out _).mono ?_
    rintro e w1 ⟨rfl, hb⟩
    rw [hn.out]
    have hx1 := HX.out.below hb
    have c0 := hx1.c0
    have c1 := hx1.c1
    simp only at c0 c1
    have HB1 := Hid.mk' (HB.out.trans (hb.mono HB.out.size))
    clear hx1 hb
    go_wp2_with fail
    go_ret
    exact ⟨by rw [hc.out]; rfl, HB1.out⟩
  have t1 : decide ((2 : Int) ≤ c) = true := decide_eq_true h1
  by_cases h2 : c < 128
  rotate_left
  · have t2 : decide (c < (128 : Int)) = false := decide_eq_false h2
    have hc : Hid (rtB ⟨c, n⟩ = false) := rtB_no (fun h => by simp only at h; rcases h with h | h <;> omega)
    clear h0 h1 h2
    go_enter Tryd.func66, Tryd.ntmps66
    go_wp2_with fail
    rw [hW0.out]
    go_wp2_with fail
    refine (HN.out _).mono ?_
    rintro e w1 ⟨rfl, hb⟩
    rw [hn.out]
    have hx1 := HX.out.below hb
    have c0 := hx1.c0
    have c1 := hx1.c1
    simp only at c0 c1
    have HB1 := Hid.mk' (HB.out.trans (hb.mono HB.out.size))
    clear hx1 hb
    go_wp2_with fail
    go_ret
    exact ⟨by rw [hc.out]; rfl, HB1.out⟩
  have t2 : decide (c < (128 : Int)) = true := decide_eq_true h2
  by_cases h3 : 0 ≤ n
  rotate_left
  · have t3 : decide ((0 : Int) ≤ n) = false := decide_eq_false h3
    have hc : Hid (rtB ⟨c, n⟩ = false) := rtB_no (fun h => by simp only at h; rcases h with h | h <;> omega)
    clear h0 h1 h2 h3
    go_enter Tryd.func66, Tryd.ntmps66
    go_wp2_with fail
    rw [hW0.out]
    go_wp2_with fail
    refine (HN.out _).mono ?_
    rintro e w1 ⟨rfl, hb⟩
    rw [hn.out]
    have hx1 := HX.out.below hb
    have c0 := hx1.c0
    have c1 := hx1.c1
    simp only at c0 c1
    have HB1 := Hid.mk' (HB.out.trans (hb.mono HB.out.size))
    clear hx1 hb
    go_wp2_with fail
    go_ret
    exact ⟨by rw [hc.out]; rfl, HB1.out⟩
  have t3 : decide ((0 : Int) ≤ n) = true := decide_eq_true h3
  by_cases h4 : n < 40
  rotate_left
  · have t4 : decide (n < (40 : Int)) = false := decide_eq_false h4
    have hc : Hid (rtB ⟨c, n⟩ = false) := rtB_no (fun h => by simp only at h; rcases h with h | h <;> omega)
    clear h0 h1 h2 h3 h4
    go_enter Tryd.func66, Tryd.ntmps66
    go_wp2_with fail
    rw [hW0.out]
    go_wp2_with fail
    refine (HN.out _).mono ?_
    rintro e w1 ⟨rfl, hb⟩
    rw [hn.out]
    have hx1 := HX.out.below hb
    have c0 := hx1.c0
    have c1 := hx1.c1
    simp only at c0 c1
    have HB1 := Hid.mk' (HB.out.trans (hb.mono HB.out.size))
    clear hx1 hb
    go_wp2_with fail
    go_ret
    exact ⟨by rw [hc.out]; rfl, HB1.out⟩
  have t4 : decide (n < (40 : Int)) = true := decide_eq_true h4
  have hc : Hid (rtB ⟨c, n⟩ = true) := rtB_yes (by simp only; omega)
  clear h0 h1 h2 h3 h4
  go_enter Tryd.func66, Tryd.ntmps66
  go_wp2_with fail
  rw [hW0.out]
  go_wp2_with fail
  refine (HN.out _).mono ?_
  rintro e w1 ⟨rfl, hb⟩
  rw [hn.out]
  have hx1 := HX.out.below hb
  have c0 := hx1.c0
  have c1 := hx1.c1
  simp only at c0 c1
  have HB1 := Hid.mk' (HB.out.trans (hb.mono HB.out.size))
  clear hx1 hb
  go_wp2_with fail
  go_ret
  exact ⟨by rw [hc.out]; rfl, HB1.out⟩
end Go.Proofs.YtbakgobgjfhhhaaDoor
