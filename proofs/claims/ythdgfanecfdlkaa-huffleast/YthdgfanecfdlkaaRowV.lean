/- A row of cells in a block of its own, which may be written. -/
import Derived.Test.YthdgfanecfdlkaaGrownKit
namespace Go.Proofs.Ythdgfanecfdlkaa
open Go.RowKit

structure RowV (w : World) (g n : Nat) (f : Nat → Value) : Prop where
  cell : ∀ i, i < n → w.cell? ⟨g, i, none⟩ = some (f i)
  open' : ∀ i, i < n → w.frozen? ⟨g, i, none⟩ = false
  lt : g < w.heap.size
theorem RowV.set {w : World} {g n : Nat} {f : Nat → Value} (h : RowV w g n f) (k : Nat) (hk : k < n) (x : Value) : RowV (w.setCell ⟨g, k, none⟩ x) g n (fun i => if i = k then x else f i) := by
  refine ⟨fun i hi => ?_, fun i hi => ?_, by simpa [World.setCell] using h.lt⟩
  · by_cases e : i = k
    · subst e
      rw [if_pos rfl]
      exact World.cell?_setCell_same _ _ _ (h.cell i hi)
    · rw [if_neg e, World.cell?_setCell_other _ _ _ _ (by intro h; cases h; exact e rfl)]
      exact h.cell i hi
  · rw [World.frozen?_setCell]; exact h.open' i hi
theorem RowV.drew {w : World} {g n : Nat} {f : Nat → Value} (h : RowV w g n f) : RowV w.drew g n f := ⟨h.cell, h.open', h.lt⟩
theorem RowV.block {w w' : World} {g n : Nat} {f : Nat → Value} (h : RowV w g n f) (hb : w'.heap[g]? = w.heap[g]?) (hs : w.heap.size ≤ w'.heap.size) : RowV w' g n f :=
  ⟨fun i hi => (World.cell?_of_block (w := w) (w' := w') (a := ⟨g, i, none⟩) hb).trans (h.cell i hi), fun i hi => (World.frozen?_of_block (w := w) (w' := w') (a := ⟨g, i, none⟩) hb).trans (h.open' i hi), Nat.lt_of_lt_of_le h.lt hs⟩
theorem rowV_made (w : World) (n : Nat) (z : Value) (t : TypeId) : RowV (w.alloc (.cells (madeCells #[z] n) t)) w.heap.size n (fun _ => z) := by
  refine ⟨fun i hi => ?_, fun i hi => ?_, by simp⟩
  · rw [World.cell?_alloc_new]
    simp [madeCells, hi, Nat.mod_one]
  · unfold World.frozen?
    rw [heap_alloc_new]
    rfl
end Go.Proofs.Ythdgfanecfdlkaa
