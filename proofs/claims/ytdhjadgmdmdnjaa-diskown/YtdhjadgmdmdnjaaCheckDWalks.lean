/- What disk.Check answers. -/
import Derived.Test.YtdhjadgmdmdnjaaDk
namespace Go.Proofs.Ytdhjadgmdmdnjaa
open Go.RowKit

theorem bcell {W w1 : World} (hb : Below W.heap.size W w1) : (∀ b o, b < W.heap.size → w1.cell? ⟨b, o, none⟩ = W.cell? ⟨b, o, none⟩) ∧ (∀ b o, b < W.heap.size → w1.frozen? ⟨b, o, none⟩ = W.frozen? ⟨b, o, none⟩) :=
  ⟨fun b o h => hb.cell (p := ⟨b, o, none⟩) h, fun b o h => hb.frozen (p := ⟨b, o, none⟩) h⟩
theorem boxD2 {w wr : World} {v0 v1 : Value} {t : TypeId} (h : Below (w.heap.size + 1) (w.alloc (.cells #[v0, v1] t)) wr) : wr.cell? ⟨w.heap.size, 0, none⟩ = some v0 ∧ wr.cell? ⟨w.heap.size, 1, none⟩ = some v1 ∧ w.heap.size < wr.heap.size := by
  have hs := h.size
  have hs2 : (w.alloc (.cells #[v0, v1] t)).heap.size = w.heap.size + 1 := by simp
  rw [hs2] at hs
  refine ⟨(h.cell (p := ⟨w.heap.size, 0, none⟩) (by simp)).trans ?_, (h.cell (p := ⟨w.heap.size, 1, none⟩) (by simp)).trans ?_, by omega⟩
  · rw [World.cell?_alloc_new]; rfl
  · rw [World.cell?_alloc_new]; rfl
theorem below_boxD {w w1 : World} (v : Array Value) (t : TypeId) (h : Below (w.heap.size + 1) (w.alloc (.cells v t)) w1) : Below w.heap.size w w1 :=
  ((Below.refl _ w).alloc (Nat.le_refl _) (.cells v t)).trans (h.mono (by omega))
theorem cell_set1 {W : World} {p a : Addr} {x v : Value} (h : W.cell? p = some x) (h1 : p.block ≠ a.block) : (W.setCell a v).cell? p = some x := by
  rw [World.cell?_setCell_other _ _ _ _ (by intro e; rw [e] at h1; exact h1 rfl)]
  exact h
theorem cell_set2 {W : World} {p a b : Addr} {x v u : Value} (h : W.cell? p = some x) (h1 : p.block ≠ a.block) (h2 : p.block ≠ b.block) : ((W.setCell a v).setCell b u).cell? p = some x := by
  rw [World.cell?_setCell_other _ _ _ _ (by intro e; rw [e] at h2; exact h2 rfl), World.cell?_setCell_other _ _ _ _ (by intro e; rw [e] at h1; exact h1 rfl)]
  exact h
def hasB (n : Nat) (x : Int) : Bool := decide (0 ≤ x ∧ x < (n : Int))
set_option maxRecDepth 20000 in
set_option maxHeartbeats 800000 in
theorem has_any (a0 a1 : Option Addr) (n c m d : Nat) (x : Int) (w : World) (_hn : n ≤ 8796093022208) :
    Calls Try.prog 56 #[.agg #[.slice a0 n c, .slice a1 m d], .int .i64 x] w fun e w' => e = .returned (.bool (hasB n x)) ∧ Below w.heap.size w w' := by
  have hB : Hid (Below w.heap.size w (w.alloc (.cells #[.slice a0 n c, .slice a1 m d] 25))) := (Below.refl _ _).alloc (Nat.le_refl _) _
  by_cases h0 : 0 ≤ x
  · have t0 : decide (0 ≤ x) = true := decide_eq_true h0
    by_cases h1 : x < (n : Int)
    · have t1 : decide (x < (n : Int)) = true := decide_eq_true h1
      have hb : Hid (hasB n x = true) := decide_eq_true ⟨h0, h1⟩
      go_enter Try.func56, Try.ntmps56
      go_wp2_with fail
      go_ret
      exact ⟨by rw [hb.out]; rfl, hB.out⟩
    · have t1 : decide (x < (n : Int)) = false := decide_eq_false h1
      have hb : Hid (hasB n x = false) := decide_eq_false (fun h => h1 h.2)
      go_enter Try.func56, Try.ntmps56
      go_wp2_with fail
      go_ret
      exact ⟨by rw [hb.out]; rfl, hB.out⟩
  · have t0 : decide (0 ≤ x) = false := decide_eq_false h0
    have hb : Hid (hasB n x = false) := decide_eq_false (fun h => h0 h.1)
    go_enter Try.func56, Try.ntmps56
    go_wp2_with fail
    go_ret
    exact ⟨by rw [hb.out]; rfl, hB.out⟩
theorem hasB_put (n : Nat) (p : Pt) : hasB n p.pl = decide (putE n p ≠ 1) := by
  unfold hasB
  rcases putE_cases n p with ⟨h, h1⟩ | ⟨h, h1⟩ | ⟨h, h1⟩
  · rw [h, decide_eq_true (by omega)]; rfl
  · rw [h, decide_eq_false (by omega)]; rfl
  · rw [h, decide_eq_true (by omega)]; rfl
set_option maxRecDepth 20000 in
set_option maxHeartbeats 800000 in
theorem cput_any (a0 a1 : Option Addr) (n c m d : Nat) (p : Pt) (w : World) (hn : n ≤ 8796093022208) :
    Calls Try.prog 54 #[.agg #[.slice a0 n c, .slice a1 m d], .agg #[.int .i64 p.pl, .string p.tx]] w fun e w' => e = .returned (.int .i64 (putE n p)) ∧ Below w.heap.size w w' := by
  obtain ⟨x, s⟩ := p
  have hp := putE_cases n ⟨x, s⟩
  obtain ⟨q, hq⟩ : ∃ q, Hid (putE n ⟨x, s⟩ = q) := ⟨_, Hid.mk' rfl⟩
  have hh := hasB_put n ⟨x, s⟩
  rw [hq.out] at hp hh ⊢
  simp only at hp hh ⊢
  go_enter Try.func54, Try.ntmps54
  go_wp2_with fail
  refine (has_any a0 a1 n c m d x _ hn).mono ?_
  rintro e w1 ⟨rfl, hb1⟩
  have HB1 : Hid (Below w.heap.size w w1) := ((((Below.refl _ w).alloc (Nat.le_refl _) _).alloc (by simp) _).trans (hb1.mono (by simp; omega)))
  obtain ⟨hc, hf⟩ := bcell hb1
  have hz : w.heap.size + 1 < w1.heap.size := by have := hb1.size; simp at this; omega
  rw [hh]
  clear hb1 hh
  rcases hp with ⟨rfl, h1⟩ | ⟨rfl, h1⟩ | ⟨rfl, h1⟩
  · have t1 : decide (¬ (0 : Int) = 1) = true := rfl
    have t2 : s.size ≤ 1024 := by omega
    clear h1
    go_wp2_with fail
    go_ret
    exact ⟨rfl, HB1.out⟩
  · clear h1
    go_wp2_with fail
    go_ret
    exact ⟨rfl, HB1.out⟩
  · have t2 : 1024 < s.size := by omega
    clear h1
    go_wp2_with fail
    go_ret
    exact ⟨rfl, HB1.out⟩
end Go.Proofs.Ytdhjadgmdmdnjaa
