/- A row of pieces that is written. -/
import Derived.Test.YtnoegodimiehhaaPcs
import Derived.Deep.OwnRows
import Derived.Laws.Rows
import Derived.OwnWalk
namespace Go.Proofs.Ytnoegodimiehhaa
open Go.RowKit

theorem infoPc : (Try.prog.info? 36).map (fun i => (i.zero, i.size, i.bytes)) = some (some (.agg #[.int .u64 0, .int .i64 0]), 2, 16) := by kernel_rfl
structure RowPc (w : World) (g len : Nat) (V : Nat → Nat) (W : Nat → Int) : Prop where
  c0 : ∀ i, i < len → w.cell? ⟨g, i * 2, none⟩ = some (.int .u64 (V i : Int))
  c1 : ∀ i, i < len → w.cell? ⟨g, i * 2 + 1, none⟩ = some (.int .i64 (W i))
  f0 : ∀ i, i < len → w.frozen? ⟨g, i * 2, none⟩ = false
  f1 : ∀ i, i < len → w.frozen? ⟨g, i * 2 + 1, none⟩ = false
  lt : g < w.heap.size
theorem RowPc.set {w : World} {g len : Nat} {V : Nat → Nat} {W : Nat → Int} (h : RowPc w g len V W) (k : Nat) (hk : k < len) (x : Nat) (y : Int) :
    RowPc ((w.setCell ⟨g, k * 2, none⟩ (.int .u64 (x : Int))).setCell ⟨g, k * 2 + 1, none⟩ (.int .i64 y)) g len (fun i => if i = k then x else V i) (fun i => if i = k then y else W i) := by
  refine ⟨fun i hi => ?_, fun i hi => ?_, fun i hi => ?_, fun i hi => ?_, by simpa [World.setCell] using h.lt⟩
  · rw [World.cell?_setCell_other _ _ _ _ (by intro e; simp only [Addr.mk.injEq] at e; omega)]
    by_cases e : i = k
    · subst e
      rw [if_pos rfl]
      exact World.cell?_setCell_same _ _ _ (h.c0 i hi)
    · rw [if_neg e, World.cell?_setCell_other _ _ _ _ (by intro e'; simp only [Addr.mk.injEq] at e'; omega)]
      exact h.c0 i hi
  · by_cases e : i = k
    · subst e
      rw [if_pos rfl]
      exact World.cell?_setCell_same _ _ _ (u := .int .i64 (W i)) (by rw [World.cell?_setCell_other _ _ _ _ (by intro e'; simp only [Addr.mk.injEq] at e'; omega)]; exact h.c1 i hi)
    · rw [if_neg e, World.cell?_setCell_other _ _ _ _ (by intro e'; simp only [Addr.mk.injEq] at e'; omega), World.cell?_setCell_other _ _ _ _ (by intro e'; simp only [Addr.mk.injEq] at e'; omega)]
      exact h.c1 i hi
  · rw [World.frozen?_setCell, World.frozen?_setCell]; exact h.f0 i hi
  · rw [World.frozen?_setCell, World.frozen?_setCell]; exact h.f1 i hi
theorem RowPc.congr {w : World} {g len : Nat} {V V' : Nat → Nat} {W W' : Nat → Int} (h : RowPc w g len V W) (he : ∀ i, i < len → V i = V' i ∧ W i = W' i) : RowPc w g len V' W' :=
  ⟨fun i hi => by rw [← (he i hi).1]; exact h.c0 i hi, fun i hi => by rw [← (he i hi).2]; exact h.c1 i hi, h.f0, h.f1, h.lt⟩
theorem rowPc_made (w : World) (len : Nat) (t : TypeId) : RowPc (w.alloc (.cells (madeCells #[.int .u64 0, .int .i64 0] (len * 2)) t)) w.heap.size len (fun _ => 0) (fun _ => 0) := by
  have hf : ∀ p : Nat, (w.alloc (.cells (madeCells #[.int .u64 0, .int .i64 0] (len * 2)) t)).frozen? ⟨w.heap.size, p, none⟩ = false := fun p => by
    unfold World.frozen?
    rw [heap_alloc_new]
    rfl
  refine ⟨fun i hi => ?_, fun i hi => ?_, fun i _ => hf _, fun i _ => hf _, by simp⟩
  · rw [World.cell?_alloc_new]
    simp [madeCells, hi, Nat.mul_mod_left]
  · rw [World.cell?_alloc_new]
    simp only [madeCells, Array.getElem?_map, Array.getElem?_range]
    rw [if_pos (by omega)]
    simp [Nat.mul_add_mod_self_right]
theorem RowPc.pcs {w : World} {g len : Nat} {V V' : Nat → Nat} {W W' : Nat → Int} (h : RowPc w g len V W) (hn : len ≤ 17592186044416) (he : ∀ i, i < len → V i = V' i ∧ W i = W' i)
    (hv : ∀ i, i < len → V' i < 18446744073709551616) (hw : ∀ i, i < len → -9223372036854775808 ≤ W' i ∧ W' i ≤ 9223372036854775807) : Pcs w (some ⟨g, 0, none⟩) len V' W' :=
  ⟨hn, fun _ => ⟨g, 0, rfl, h.lt, fun i hi => by rw [Nat.zero_add, ← (he i hi).1, ← (he i hi).2]; exact ⟨h.c0 i hi, h.c1 i hi⟩⟩, hv, hw⟩
end Go.Proofs.Ytnoegodimiehhaa
