import Derived.Test.YtbakgobgjfhhhaaDoorPsad
import Derived.BigQuiet

/- What blob.Check answers. -/
namespace Go.Proofs.YtbakgobgjfhhhaaDoor
open Go.RowKit

theorem empty_isB (b : ByteArray) : b.toList.isEmpty = decide (b.size = 0) := by
  rw [ByteArray.toList_eq]
  have h : b.data.toList.length = b.size := by rw [Array.length_toList]; rfl
  rw [← h]
  cases b.data.toList with
  | nil => rfl
  | cons x t => rfl
theorem below_dB (w : World) (q : Nat) {B : Nat} : Below B w (w.drewN q) := ⟨rfl, rfl, rfl, Nat.le_refl _, fun _ _ => rfl⟩
theorem below_box {w : World} (v : Array Value) (t : TypeId) : Below w.heap.size w (w.alloc (.cells v t)) := (Below.refl _ w).alloc (Nat.le_refl _) _
/-- a blob that was boxed -/
structure BxB (X : World) (g : Nat) (b : Blb) : Prop where
  c0 : X.cell? ⟨g, 0, none⟩ = some (.int .i64 b.kd)
  c1 : X.cell? ⟨g, 1, none⟩ = some (.int .i64 b.io)
  c2 : X.cell? ⟨g, 2, none⟩ = some (.int .i64 b.nt)
  c3 : X.cell? ⟨g, 3, none⟩ = some (.string b.tx)
  lt : g < X.heap.size
theorem bxB (w : World) (b : Blb) (t : TypeId) : BxB (w.alloc (.cells #[.int .i64 b.kd, .int .i64 b.io, .int .i64 b.nt, .string b.tx] t)) w.heap.size b := by
  refine ⟨?_, ?_, ?_, ?_, by simp⟩ <;> (rw [World.cell?_alloc_new]; rfl)
theorem BxB.below {X Y : World} {g : Nat} {b : Blb} (h : BxB X g b) (hb : Below X.heap.size X Y) : BxB Y g b :=
  ⟨(hb.cell (p := ⟨g, 0, none⟩) h.lt).trans h.c0, (hb.cell (p := ⟨g, 1, none⟩) h.lt).trans h.c1, (hb.cell (p := ⟨g, 2, none⟩) h.lt).trans h.c2, (hb.cell (p := ⟨g, 3, none⟩) h.lt).trans h.c3, Nat.lt_of_lt_of_le h.lt hb.size⟩
set_option maxRecDepth 20000 in
set_option maxHeartbeats 800000 in
theorem bchk_any (b : Blb) (w : World) :
    Calls Tryd.prog 80 #[.agg #[.int .i64 b.kd, .int .i64 b.io, .int .i64 b.nt, .string b.tx]] w fun e w' => e = .returned (.int .i64 (chkB b)) ∧ Below w.heap.size w w' := by
  have HX := Hid.mk' (bxB w b 82)
  obtain ⟨k, i, n, t⟩ := b
  simp only at HX ⊢
  have HB := Hid.mk' (below_box (w := w) #[.int .i64 k, .int .i64 i, .int .i64 n, .string t] 82)
  obtain ⟨W0, hW0⟩ : ∃ W, Hid (w.alloc (.cells #[.int .i64 k, .int .i64 i, .int .i64 n, .string t] 82) = W) := ⟨_, Hid.mk' rfl⟩
  rw [hW0.out] at HX HB
  have c0 := HX.out.c0
  have c1 := HX.out.c1
  have c2 := HX.out.c2
  have c3 := HX.out.c3
  simp only at c0 c1 c2 c3
  obtain ⟨q, hq⟩ : ∃ q, Hid (numK k = q) := ⟨_, Hid.mk' rfl⟩
  have hnum := Hid.mk' (numK_any k)
  rw [hq.out] at hnum
  by_cases h1 : i < 0
  · have t1 : decide (i < 0) = true := decide_eq_true h1
    have hc : Hid (chkB ⟨k, i, n, t⟩ = 1) := chkB_arg (.inl h1)
    clear h1
    go_enter Tryd.func80, Tryd.ntmps80
    go_wp2_with fail
    rw [hW0.out]
    go_quiet (fail)
    go_wp2_with fail
    go_ret
    exact ⟨by rw [hc.out]; rfl, HB.out.trans (below_dB _ _)⟩
  have t1 : decide (i < 0) = false := decide_eq_false h1
  by_cases h2 : 48 ≤ i
  · have t2 : decide ((48 : Int) ≤ i) = true := decide_eq_true h2
    have hc : Hid (chkB ⟨k, i, n, t⟩ = 1) := chkB_arg (.inr (.inl h2))
    clear h1
    go_enter Tryd.func80, Tryd.ntmps80
    go_wp2_with fail
    rw [hW0.out]
    go_quiet (fail)
    go_wp2_with fail
    go_ret
    exact ⟨by rw [hc.out]; rfl, HB.out.trans (below_dB _ _)⟩
  have t2 : decide ((48 : Int) ≤ i) = false := decide_eq_false h2
  by_cases h3 : n < 0
  · have t3 : decide (n < 0) = true := decide_eq_true h3
    have hc : Hid (chkB ⟨k, i, n, t⟩ = 1) := chkB_arg (.inr (.inr (.inl h3)))
    clear h1 h2
    go_enter Tryd.func80, Tryd.ntmps80
    go_wp2_with fail
    rw [hW0.out]
    go_quiet (fail)
    go_wp2_with fail
    go_ret
    exact ⟨by rw [hc.out]; rfl, HB.out.trans (below_dB _ _)⟩
  have t3 : decide (n < 0) = false := decide_eq_false h3
  by_cases h4 : q ≤ n
  · have t4 : decide (q ≤ n) = true := decide_eq_true h4
    have hc : Hid (chkB ⟨k, i, n, t⟩ = 1) := chkB_arg (.inr (.inr (.inr (.inl (by show numK k ≤ n; rw [hq.out]; exact h4)))))
    clear h1 h2 h3
    go_enter Tryd.func80, Tryd.ntmps80
    go_wp2_with fail
    rw [hW0.out]
    go_quiet ((go_at_call 81; refine (hnum.out _).mono ?_; rintro e w' ⟨rfl, rfl⟩; exact ⟨rfl, _, rfl⟩))
    go_wp2_with fail
    go_ret
    exact ⟨by rw [hc.out]; rfl, HB.out.trans (below_dB _ _)⟩
  have t4 : decide (q ≤ n) = false := decide_eq_false h4
  have HArg : Hid (¬ (k = 3 ∧ t.size ≠ 0) → ¬ ArgB ⟨k, i, n, t⟩) := by
    show _ → _
    intro h5 h
    rcases h with h | h | h | h | h
    · exact h1 h
    · exact h2 h
    · exact h3 h
    · exact h4 (by rw [← hq.out]; exact h)
    · exact h5 h
  clear h1 h2 h3 h4
  by_cases h5 : k = 3 ∧ t.size ≠ 0
  · have hc : Hid (chkB ⟨k, i, n, t⟩ = 1) := chkB_arg (.inr (.inr (.inr (.inr h5))))
    obtain ⟨rfl, ht⟩ := h5
    have te : t.toList.isEmpty = false := by rw [empty_isB]; exact decide_eq_false ht
    clear ht HArg
    go_enter Tryd.func80, Tryd.ntmps80
    go_wp2_with fail
    rw [hW0.out]
    go_quiet ((go_at_call 81; refine (hnum.out _).mono ?_; rintro e w' ⟨rfl, rfl⟩; exact ⟨rfl, _, rfl⟩))
    go_wp2_with fail
    go_ret
    exact ⟨by rw [hc.out]; rfl, HB.out.trans (below_dB _ _)⟩
  · have HArg2 := Hid.mk' (HArg.out h5)
    have HE : Hid (k = 3 → t.toList.isEmpty = true) := fun h => by rw [empty_isB]; exact decide_eq_true (Classical.byContradiction fun hz => h5 ⟨h, hz⟩)
    clear h5 HArg
    by_cases h6 : 600 < t.size
    · have hc : Hid (chkB ⟨k, i, n, t⟩ = 2) := chkB_large HArg2.out h6
      by_cases hk : k = 3
      · have te := HE.out hk
        subst hk
        go_enter Tryd.func80, Tryd.ntmps80
        go_wp2_with fail
        rw [hW0.out]
        go_quiet ((go_at_call 81; refine (hnum.out _).mono ?_; rintro e w' ⟨rfl, rfl⟩; exact ⟨rfl, _, rfl⟩))
        go_wp2_with fail
        go_ret
        exact ⟨by rw [hc.out]; rfl, HB.out.trans (below_dB _ _)⟩
      · have tk : (k == 3) = false := by rw [beq_eq_false_iff_ne]; exact hk
        clear hk
        go_enter Tryd.func80, Tryd.ntmps80
        go_wp2_with fail
        rw [hW0.out]
        go_quiet ((go_at_call 81; refine (hnum.out _).mono ?_; rintro e w' ⟨rfl, rfl⟩; exact ⟨rfl, _, rfl⟩))
        go_wp2_with fail
        go_ret
        exact ⟨by rw [hc.out]; rfl, HB.out.trans (below_dB _ _)⟩
    · have hc : Hid (chkB ⟨k, i, n, t⟩ = 0) := chkB_right HArg2.out (by show t.size ≤ 600; omega)
      have h6' : t.size ≤ 600 := by omega
      clear h6
      by_cases hk : k = 3
      · have te := HE.out hk
        subst hk
        go_enter Tryd.func80, Tryd.ntmps80
        go_wp2_with fail
        rw [hW0.out]
        go_quiet ((go_at_call 81; refine (hnum.out _).mono ?_; rintro e w' ⟨rfl, rfl⟩; exact ⟨rfl, _, rfl⟩))
        go_wp2_with fail
        go_ret
        exact ⟨by rw [hc.out]; rfl, HB.out.trans (below_dB _ _)⟩
      · have tk : (k == 3) = false := by rw [beq_eq_false_iff_ne]; exact hk
        clear hk
        go_enter Tryd.func80, Tryd.ntmps80
        go_wp2_with fail
        rw [hW0.out]
        go_quiet ((go_at_call 81; refine (hnum.out _).mono ?_; rintro e w' ⟨rfl, rfl⟩; exact ⟨rfl, _, rfl⟩))
        go_wp2_with fail
        go_ret
        exact ⟨by rw [hc.out]; rfl, HB.out.trans (below_dB _ _)⟩
end Go.Proofs.YtbakgobgjfhhhaaDoor
