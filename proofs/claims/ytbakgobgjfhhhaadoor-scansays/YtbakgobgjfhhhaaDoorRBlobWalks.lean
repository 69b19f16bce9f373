/- What linenref.Blob answers. -/
import Derived.Test.YtbakgobgjfhhhaaDoorBlChkWalks
namespace Go.Proofs.YtbakgobgjfhhhaaDoor
open Go.RowKit

set_option maxRecDepth 20000 in
set_option maxHeartbeats 1600000 in
theorem rblob_any (b : Blb) (w : World) :
    Calls Tryd.prog 78 #[.agg #[.int .i64 b.kd, .int .i64 b.io, .int .i64 b.nt, .string b.tx]] w fun e w' => e = .returned (.int .i64 (chkB b)) ∧ Below w.heap.size w w' := by
  obtain ⟨k, i, n, t⟩ := b
  simp only
  have HB := Hid.mk' (below_box (w := w) #[.int .i64 k, .int .i64 i, .int .i64 n, .string t] 82)
  have HK := numK_cases k
  by_cases hk : k = 1
  · subst hk
    by_cases h1 : i < 0
    · have th1 : decide (i < 0) = true := decide_eq_true h1
      have hc : Hid (chkB ⟨1, i, n, t⟩ = 1) := chkB_arg (by unfold ArgB; simp only; omega)
      clear h1 HK
      go_enter Tryd.func78, Tryd.ntmps78
      go_wp2_with fail
      go_ret
      exact ⟨by rw [hc.out]; rfl, HB.out⟩
    have th1 : decide (i < 0) = false := decide_eq_false h1
    by_cases h2 : 47 < i
    · have th2 : decide (47 < i) = true := decide_eq_true h2
      have hc : Hid (chkB ⟨1, i, n, t⟩ = 1) := chkB_arg (by unfold ArgB; simp only; omega)
      clear h1 h2 HK
      go_enter Tryd.func78, Tryd.ntmps78
      go_wp2_with fail
      go_ret
      exact ⟨by rw [hc.out]; rfl, HB.out⟩
    have th2 : decide (47 < i) = false := decide_eq_false h2
    by_cases h5 : n < 0
    · have th5 : decide (n < 0) = true := decide_eq_true h5
      have hc : Hid (chkB ⟨1, i, n, t⟩ = 1) := chkB_arg (by unfold ArgB; simp only; omega)
      clear h1 h2 h5 HK
      go_enter Tryd.func78, Tryd.ntmps78
      go_wp2_with fail
      go_ret
      exact ⟨by rw [hc.out]; rfl, HB.out⟩
    have th5 : decide (n < 0) = false := decide_eq_false h5
    by_cases h6 : 7 < n
    · have th6 : decide (7 < n) = true := decide_eq_true h6
      have hc : Hid (chkB ⟨1, i, n, t⟩ = 1) := chkB_arg (by unfold ArgB; simp only; omega)
      clear h1 h2 h5 h6 HK
      go_enter Tryd.func78, Tryd.ntmps78
      go_wp2_with fail
      go_ret
      exact ⟨by rw [hc.out]; rfl, HB.out⟩
    have th6 : decide (7 < n) = false := decide_eq_false h6
    by_cases hz : 600 < t.size
    · have hc : Hid (chkB ⟨1, i, n, t⟩ = 2) := chkB_large (by unfold ArgB; simp only; omega) hz
      clear h1 h2 h5 h6 HK
      go_enter Tryd.func78, Tryd.ntmps78
      go_wp2_with fail
      go_ret
      exact ⟨by rw [hc.out]; rfl, HB.out⟩
    · have hc : Hid (chkB ⟨1, i, n, t⟩ = 0) := chkB_right (by unfold ArgB; simp only; omega) (by show t.size ≤ 600; omega)
      have hz2 : t.size ≤ 600 := by omega
      clear hz h1 h2 h5 h6 HK
      go_enter Tryd.func78, Tryd.ntmps78
      go_wp2_with fail
      go_ret
      exact ⟨by rw [hc.out]; rfl, HB.out⟩
  · have tk : (k == 1) = false := by rw [beq_eq_false_iff_ne]; exact hk
    by_cases h1 : i < 0
    · have th1 : decide (i < 0) = true := decide_eq_true h1
      have hc : Hid (chkB ⟨k, i, n, t⟩ = 1) := chkB_arg (by unfold ArgB; simp only; omega)
      clear h1 hk HK
      go_enter Tryd.func78, Tryd.ntmps78
      go_wp2_with fail
      go_ret
      exact ⟨by rw [hc.out]; rfl, HB.out⟩
    have th1 : decide (i < 0) = false := decide_eq_false h1
    by_cases h2 : 47 < i
    · have th2 : decide (47 < i) = true := decide_eq_true h2
      have hc : Hid (chkB ⟨k, i, n, t⟩ = 1) := chkB_arg (by unfold ArgB; simp only; omega)
      clear h1 h2 hk HK
      go_enter Tryd.func78, Tryd.ntmps78
      go_wp2_with fail
      go_ret
      exact ⟨by rw [hc.out]; rfl, HB.out⟩
    have th2 : decide (47 < i) = false := decide_eq_false h2
    by_cases h7 : k < 1
    · have th7 : decide (k < 1) = true := decide_eq_true h7
      have hc : Hid (chkB ⟨k, i, n, t⟩ = 1) := chkB_arg (by unfold ArgB; simp only; omega)
      clear h1 h2 h7 hk HK
      go_enter Tryd.func78, Tryd.ntmps78
      go_wp2_with fail
      go_ret
      exact ⟨by rw [hc.out]; rfl, HB.out⟩
    have th7 : decide (k < 1) = false := decide_eq_false h7
    by_cases h8 : 3 < k
    · have th8 : decide (3 < k) = true := decide_eq_true h8
      have hc : Hid (chkB ⟨k, i, n, t⟩ = 1) := chkB_arg (by unfold ArgB; simp only; omega)
      clear h1 h2 h7 h8 hk HK
      go_enter Tryd.func78, Tryd.ntmps78
      go_wp2_with fail
      go_ret
      exact ⟨by rw [hc.out]; rfl, HB.out⟩
    have th8 : decide (3 < k) = false := decide_eq_false h8
    by_cases h5 : n < 0
    · have th5 : decide (n < 0) = true := decide_eq_true h5
      have hc : Hid (chkB ⟨k, i, n, t⟩ = 1) := chkB_arg (by unfold ArgB; simp only; omega)
      clear h1 h2 h7 h8 h5 hk HK
      go_enter Tryd.func78, Tryd.ntmps78
      go_wp2_with fail
      go_ret
      exact ⟨by rw [hc.out]; rfl, HB.out⟩
    have th5 : decide (n < 0) = false := decide_eq_false h5
    by_cases h6 : 0 < n
    · have th6 : decide (0 < n) = true := decide_eq_true h6
      have hc : Hid (chkB ⟨k, i, n, t⟩ = 1) := chkB_arg (by unfold ArgB; simp only; omega)
      clear h1 h2 h7 h8 h5 h6 hk HK
      go_enter Tryd.func78, Tryd.ntmps78
      go_wp2_with fail
      go_ret
      exact ⟨by rw [hc.out]; rfl, HB.out⟩
    have th6 : decide (0 < n) = false := decide_eq_false h6
    by_cases h3 : k = 3
    · subst h3
      by_cases he : t.size = 0
      · have te : t.toList.isEmpty = true := by rw [empty_isB]; exact decide_eq_true he
        by_cases hz : 600 < t.size
        · have hc : Hid (chkB ⟨3, i, n, t⟩ = 2) := chkB_large (by unfold ArgB; simp only; omega) hz
          clear h1 h2 h7 h8 h5 h6 hk HK he
          go_enter Tryd.func78, Tryd.ntmps78
          go_wp2_with fail
          go_ret
          exact ⟨by rw [hc.out]; rfl, HB.out⟩
        · have hc : Hid (chkB ⟨3, i, n, t⟩ = 0) := chkB_right (by unfold ArgB; simp only; omega) (by show t.size ≤ 600; omega)
          have hz2 : t.size ≤ 600 := by omega
          clear hz h1 h2 h7 h8 h5 h6 hk HK he
          go_enter Tryd.func78, Tryd.ntmps78
          go_wp2_with fail
          go_ret
          exact ⟨by rw [hc.out]; rfl, HB.out⟩
      · have te : t.toList.isEmpty = false := by rw [empty_isB]; exact decide_eq_false he
        have hc : Hid (chkB ⟨3, i, n, t⟩ = 1) := chkB_arg (.inr (.inr (.inr (.inr ⟨rfl, he⟩))))
        clear h1 h2 h7 h8 h5 h6 hk HK he
        go_enter Tryd.func78, Tryd.ntmps78
        go_wp2_with fail
        go_ret
        exact ⟨by rw [hc.out]; rfl, HB.out⟩
    have t3 : (k == 3) = false := by rw [beq_eq_false_iff_ne]; exact h3
    by_cases hz : 600 < t.size
    · have hc : Hid (chkB ⟨k, i, n, t⟩ = 2) := chkB_large (by unfold ArgB; simp only; omega) hz
      clear h1 h2 h7 h8 h5 h6 hk HK h3
      go_enter Tryd.func78, Tryd.ntmps78
      go_wp2_with fail
      go_ret
      exact ⟨by rw [hc.out]; rfl, HB.out⟩
    · have hc : Hid (chkB ⟨k, i, n, t⟩ = 0) := chkB_right (by unfold ArgB; simp only; omega) (by show t.size ≤ 600; omega)
      have hz2 : t.size ≤ 600 := by omega
      clear hz h1 h2 h7 h8 h5 h6 hk HK h3
      go_enter Tryd.func78, Tryd.ntmps78
      go_wp2_with fail
      go_ret
      exact ⟨by rw [hc.out]; rfl, HB.out⟩
end Go.Proofs.YtbakgobgjfhhhaaDoor
