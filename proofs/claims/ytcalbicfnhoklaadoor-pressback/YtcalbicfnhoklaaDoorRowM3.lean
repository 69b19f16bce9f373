/- A row of marks that is written. -/
import Derived.Test.YtcalbicfnhoklaaDoorLongWalks
import Derived.Test.YtcalbicfnhoklaaDoorSizesWalks
namespace Go.Proofs.YtcalbicfnhoklaaDoor
open Go.RowKit

structure RowM3 (w : World) (g len : Nat) (L D : Nat → Nat) : Prop where
  c0 : ∀ i, i < len → w.cell? ⟨g, i * 3, none⟩ = some (.int .i64 (L i : Int))
  c1 : ∀ i, i < len → w.cell? ⟨g, i * 3 + 1, none⟩ = some (.int .i64 (D i : Int))
  c2 : ∀ i, i < len → w.cell? ⟨g, i * 3 + 2, none⟩ = some (.int .u8 0)
  fz : ∀ p, p < len * 3 → w.frozen? ⟨g, p, none⟩ = false
  lt : g < w.heap.size
theorem RowM3.block {w w' : World} {g len : Nat} {L D : Nat → Nat} (h : RowM3 w g len L D) (hb : w'.heap[g]? = w.heap[g]?) (hl : w.heap.size ≤ w'.heap.size) : RowM3 w' g len L D :=
  have hc : ∀ p, w'.cell? ⟨g, p, none⟩ = w.cell? ⟨g, p, none⟩ := fun _ => World.cell?_of_block hb
  ⟨fun i hi => (hc _).trans (h.c0 i hi), fun i hi => (hc _).trans (h.c1 i hi), fun i hi => (hc _).trans (h.c2 i hi), fun p hp => (World.frozen?_of_block (w := w) (a := ⟨g, p, none⟩) hb).trans (h.fz p hp), Nat.lt_of_lt_of_le h.lt hl⟩
theorem Row64.block {w w' : World} {g len : Nat} {f : Nat → Int} (h : Row64 w g len f) (hb : w'.heap[g]? = w.heap[g]?) (hl : w.heap.size ≤ w'.heap.size) : Row64 w' g len f :=
  ⟨fun i hi => (World.cell?_of_block hb).trans (h.cell i hi), fun i hi => (World.frozen?_of_block (w := w) (a := ⟨g, i, none⟩) hb).trans (h.open' i hi), Nat.lt_of_lt_of_le h.lt hl⟩
theorem RowM3.set {w : World} {g len : Nat} {L D : Nat → Nat} (h : RowM3 w g len L D) (k : Nat) (hk : k < len) (l d : Nat) :
    RowM3 (((w.setCell ⟨g, k * 3, none⟩ (.int .i64 (l : Int))).setCell ⟨g, k * 3 + 1, none⟩ (.int .i64 (d : Int))).setCell ⟨g, k * 3 + 2, none⟩ (.int .u8 0)) g len (fun i => if i = k then l else L i) (fun i => if i = k then d else D i) := by
  have ne : ∀ a b : Nat, a ≠ b → (⟨g, a, none⟩ : Addr) ≠ ⟨g, b, none⟩ := fun a b hab e => by simp only [Addr.mk.injEq] at e; omega
  refine ⟨fun i hi => ?_, fun i hi => ?_, fun i hi => ?_, fun p hp => ?_, by simpa [World.setCell] using h.lt⟩
  · rw [World.cell?_setCell_other _ _ _ _ (ne _ _ (by omega)), World.cell?_setCell_other _ _ _ _ (ne _ _ (by omega))]
    by_cases e : i = k
    · subst e; rw [if_pos rfl]; exact World.cell?_setCell_same _ _ _ (h.c0 i hi)
    · rw [if_neg e, World.cell?_setCell_other _ _ _ _ (ne _ _ (by omega))]; exact h.c0 i hi
  · rw [World.cell?_setCell_other _ _ _ _ (ne _ _ (by omega))]
    by_cases e : i = k
    · subst e; rw [if_pos rfl]
      exact World.cell?_setCell_same _ _ _ (u := .int .i64 (D i : Int)) (by rw [World.cell?_setCell_other _ _ _ _ (ne _ _ (by omega))]; exact h.c1 i hi)
    · rw [if_neg e, World.cell?_setCell_other _ _ _ _ (ne _ _ (by omega)), World.cell?_setCell_other _ _ _ _ (ne _ _ (by omega))]; exact h.c1 i hi
  · by_cases e : i = k
    · subst e
      exact World.cell?_setCell_same _ _ _ (u := .int .u8 0) (by rw [World.cell?_setCell_other _ _ _ _ (ne _ _ (by omega)), World.cell?_setCell_other _ _ _ _ (ne _ _ (by omega))]; exact h.c2 i hi)
    · rw [World.cell?_setCell_other _ _ _ _ (ne _ _ (by omega)), World.cell?_setCell_other _ _ _ _ (ne _ _ (by omega)), World.cell?_setCell_other _ _ _ _ (ne _ _ (by omega))]; exact h.c2 i hi
  · rw [World.frozen?_setCell, World.frozen?_setCell, World.frozen?_setCell]; exact h.fz p hp
theorem rowM3_made (w : World) (len : Nat) (t : TypeId) : RowM3 (w.alloc (.cells (madeCells #[.int .i64 0, .int .i64 0, .int .u8 0] (len * 3)) t)) w.heap.size len (fun _ => 0) (fun _ => 0) := by
  have hc : ∀ p, p < len * 3 → (w.alloc (.cells (madeCells #[.int .i64 0, .int .i64 0, .int .u8 0] (len * 3)) t)).cell? ⟨w.heap.size, p, none⟩ = some (#[Value.int .i64 0, .int .i64 0, .int .u8 0][p % 3]'(by simp; omega)) := fun p hp => by
    rw [World.cell?_alloc_new]
    simp [madeCells, hp]
    rw [List.getElem?_eq_getElem (by simp; omega)]
    rfl
  refine ⟨fun i hi => ?_, fun i hi => ?_, fun i hi => ?_, fun p _ => ?_, by simp⟩
  · rw [hc _ (by omega)]
    simp [Nat.mul_mod_left]
  · rw [hc _ (by omega)]
    simp [Nat.mul_add_mod_self_right]
  · rw [hc _ (by omega)]
    simp [Nat.mul_add_mod_self_right]
  · unfold World.frozen?
    rw [heap_alloc_new]
    rfl
theorem RowM3.mks {w : World} {g len : Nat} {L D : Nat → Nat} (h : RowM3 w g len L D) (hn : len ≤ 512) (hL : ∀ i, i < len → L i ≤ 66) (hD : ∀ i, i < len → D i ≤ 512) : Mks w (some ⟨g, 0, none⟩) len (fun i => ⟨(L i : Int), (D i : Int), 0⟩) :=
  ⟨by omega, fun _ => ⟨g, 0, rfl, h.lt, fun i hi => by rw [Nat.zero_add]; exact ⟨h.c0 i hi, h.c1 i hi, h.c2 i hi⟩⟩, fun i hi => by have := hL i hi; simp only; omega, fun i hi => by have := hD i hi; simp only; omega, fun i _ => by simp only; omega⟩
theorem infoMk3 : (Tryd.prog.info? 66).map (fun i => (i.zero, i.size, i.bytes)) = some (some (.agg #[.int .i64 0, .int .i64 0, .int .u8 0]), 3, 24) := by kernel_rfl
theorem make_marks (n : Nat) (hn : n ≤ 512) (w : World) :
    (Instr.makeSlice 47 (.int .i64 (n : Int)) (.int .i64 (n : Int))).run Tryd.prog w = .ok (.slice (some ⟨w.heap.size, 0, none⟩) n n) (w.alloc (.cells (madeCells #[.int .i64 0, .int .i64 0, .int .u8 0] (n * 3)) 66)) := by
  obtain ⟨i, hi, hzz⟩ := Option.map_eq_some_iff.1 infoMk3
  simp only [Prod.mk.injEq] at hzz
  obtain ⟨hz, hs, hb⟩ := hzz
  have hr := run_make (P := Tryd.prog) w 47 66 i _ Tryd.underlying47 hi hz .i64 .i64 n n (by omega) (Int.le_refl _) (by rw [hb]; omega) (by omega)
  rw [Int.toNat_natCast, hs] at hr
  exact hr
end Go.Proofs.YtcalbicfnhoklaaDoor
