/- A row of marks, whatever they are, that is written. -/
import Derived.Test.YtganplceeapjcaaRowMk
import Derived.Laws.Rows
namespace Go.Proofs.Ytganplceeapjcaa
open Go.RowKit

structure RowMs (w : World) (g len : Nat) (M : Nat → Mk) : Prop where
  c0 : ∀ i, i < len → w.cell? ⟨g, i * 3, none⟩ = some (.int .i64 (M i).ln)
  c1 : ∀ i, i < len → w.cell? ⟨g, i * 3 + 1, none⟩ = some (.int .i64 (M i).ds)
  c2 : ∀ i, i < len → w.cell? ⟨g, i * 3 + 2, none⟩ = some (.int .u8 ((M i).by' : Int))
  fz : ∀ p, p < len * 3 → w.frozen? ⟨g, p, none⟩ = false
  lt : g < w.heap.size
theorem RowMs.block {w w' : World} {g len : Nat} {M : Nat → Mk} (h : RowMs w g len M) (hb : w'.heap[g]? = w.heap[g]?) (hl : w.heap.size ≤ w'.heap.size) : RowMs w' g len M :=
  have hc : ∀ p, w'.cell? ⟨g, p, none⟩ = w.cell? ⟨g, p, none⟩ := fun _ => World.cell?_of_block hb
  ⟨fun i hi => (hc _).trans (h.c0 i hi), fun i hi => (hc _).trans (h.c1 i hi), fun i hi => (hc _).trans (h.c2 i hi), fun p hp => (World.frozen?_of_block (w := w) (a := ⟨g, p, none⟩) hb).trans (h.fz p hp), Nat.lt_of_lt_of_le h.lt hl⟩
theorem RowMs.set {w : World} {g len : Nat} {M : Nat → Mk} (h : RowMs w g len M) (k : Nat) (hk : k < len) (m : Mk) :
    RowMs (((w.setCell ⟨g, k * 3, none⟩ (.int .i64 m.ln)).setCell ⟨g, k * 3 + 1, none⟩ (.int .i64 m.ds)).setCell ⟨g, k * 3 + 2, none⟩ (.int .u8 (m.by' : Int))) g len (fun i => if i = k then m else M i) := by
  have ne : ∀ a b : Nat, a ≠ b → (⟨g, a, none⟩ : Addr) ≠ ⟨g, b, none⟩ := fun a b hab e => by simp only [Addr.mk.injEq] at e; omega
  refine ⟨fun i hi => ?_, fun i hi => ?_, fun i hi => ?_, fun p hp => ?_, by simpa [World.setCell] using h.lt⟩
  · rw [World.cell?_setCell_other _ _ _ _ (ne _ _ (by omega)), World.cell?_setCell_other _ _ _ _ (ne _ _ (by omega))]
    by_cases e : i = k
    · subst e; rw [if_pos rfl]; exact World.cell?_setCell_same _ _ _ (h.c0 i hi)
    · rw [if_neg e, World.cell?_setCell_other _ _ _ _ (ne _ _ (by omega))]; exact h.c0 i hi
  · rw [World.cell?_setCell_other _ _ _ _ (ne _ _ (by omega))]
    by_cases e : i = k
    · subst e; rw [if_pos rfl]
      exact World.cell?_setCell_same _ _ _ (u := .int .i64 (M i).ds) (by rw [World.cell?_setCell_other _ _ _ _ (ne _ _ (by omega))]; exact h.c1 i hi)
    · rw [if_neg e, World.cell?_setCell_other _ _ _ _ (ne _ _ (by omega)), World.cell?_setCell_other _ _ _ _ (ne _ _ (by omega))]; exact h.c1 i hi
  · by_cases e : i = k
    · subst e; rw [if_pos rfl]
      exact World.cell?_setCell_same _ _ _ (u := .int .u8 ((M i).by' : Int)) (by rw [World.cell?_setCell_other _ _ _ _ (ne _ _ (by omega)), World.cell?_setCell_other _ _ _ _ (ne _ _ (by omega))]; exact h.c2 i hi)
    · rw [if_neg e, World.cell?_setCell_other _ _ _ _ (ne _ _ (by omega)), World.cell?_setCell_other _ _ _ _ (ne _ _ (by omega)), World.cell?_setCell_other _ _ _ _ (ne _ _ (by omega))]; exact h.c2 i hi
  · rw [World.frozen?_setCell, World.frozen?_setCell, World.frozen?_setCell]; exact h.fz p hp
theorem rowMs_made (w : World) (len : Nat) (t : TypeId) : RowMs (w.alloc (.cells (madeCells #[.int .i64 0, .int .i64 0, .int .u8 0] (len * 3)) t)) w.heap.size len (fun _ => ⟨0, 0, 0⟩) := by
  have hc : ∀ p, p < len * 3 → (w.alloc (.cells (madeCells #[.int .i64 0, .int .i64 0, .int .u8 0] (len * 3)) t)).cell? ⟨w.heap.size, p, none⟩ = some (#[Value.int .i64 0, .int .i64 0, .int .u8 0][p % 3]'(by simp; omega)) := fun p hp => by
    rw [World.cell?_alloc_new]
    simp [madeCells, hp]
    rw [List.getElem?_eq_getElem (by simp; omega)]
    rfl
  refine ⟨fun i hi => ?_, fun i hi => ?_, fun i hi => ?_, fun p _ => ?_, by simp⟩
  · rw [hc _ (by omega)]; simp [Nat.mul_mod_left]
  · rw [hc _ (by omega)]; simp [Nat.mul_add_mod_self_right]
  · rw [hc _ (by omega)]; simp [Nat.mul_add_mod_self_right]
  · unfold World.frozen?
    rw [heap_alloc_new]
    rfl
theorem RowMs.congr {w : World} {g len : Nat} {M M' : Nat → Mk} (h : RowMs w g len M) (he : ∀ i, i < len → M i = M' i) : RowMs w g len M' :=
  ⟨fun i hi => by rw [← he i hi]; exact h.c0 i hi, fun i hi => by rw [← he i hi]; exact h.c1 i hi, fun i hi => by rw [← he i hi]; exact h.c2 i hi, h.fz, h.lt⟩
theorem RowMs.mks {w : World} {g len : Nat} {M : Nat → Mk} (h : RowMs w g len M) (hn : len ≤ 512) (hB : ∀ i, i < len → (-9223372036854775808 ≤ (M i).ln ∧ (M i).ln ≤ 9223372036854775807) ∧ (-9223372036854775808 ≤ (M i).ds ∧ (M i).ds ≤ 9223372036854775807) ∧ (M i).by' < 256) : Mks w (some ⟨g, 0, none⟩) len M :=
  ⟨by omega, fun _ => ⟨g, 0, rfl, h.lt, fun i hi => by rw [Nat.zero_add]; exact ⟨h.c0 i hi, h.c1 i hi, h.c2 i hi⟩⟩, fun i hi => (hB i hi).1, fun i hi => (hB i hi).2.1, fun i hi => (hB i hi).2.2⟩
end Go.Proofs.Ytganplceeapjcaa
