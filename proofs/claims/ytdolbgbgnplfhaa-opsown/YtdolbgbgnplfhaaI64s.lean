/- Whole numbers that are answered as a slice, and a row of them that is written. -/
import Derived.Test.YtdolbgbgnplfhaaWds
import Derived.Deep.OwnRows
import Derived.Laws.Rows
import Derived.OwnWalk
namespace Go.Proofs.Ytdolbgbgnplfhaa
open Go.RowKit

theorem infoI64 : (Try.prog.info? 3).map (fun i => (i.zero, i.size, i.bytes)) = some (some (.int .i64 0), 1, 8) := by kernel_rfl
/-- whole numbers that are answered as a slice -/
structure I64s (w : World) (v : Value) (n : Nat) (f : Nat → Int) : Prop where
  is : ∃ ao cap, v = .slice ao n cap ∧ (0 < n → ∃ g off, ao = some ⟨g, off, none⟩ ∧ g < w.heap.size ∧ ∀ i, i < n → w.cell? ⟨g, off + i, none⟩ = some (.int .i64 (f i)))
theorem i64s_nil (w : World) (f : Nat → Int) : I64s w (.slice none 0 0) 0 f := ⟨none, 0, rfl, fun h => by omega⟩
theorem i64s_below {w w' : World} {v : Value} {n : Nat} {f : Nat → Int} (h : I64s w v n f) (hb : Below w.heap.size w w') : I64s w' v n f := by
  obtain ⟨ao, cap, hv, hc⟩ := h.is
  refine ⟨ao, cap, hv, fun hp => ?_⟩
  obtain ⟨g, off, h1, h2, h3⟩ := hc hp
  exact ⟨g, off, h1, Nat.lt_of_lt_of_le h2 hb.size, fun i hi => (hb.cell (p := ⟨g, off + i, none⟩) h2).trans (h3 i hi)⟩
/-- a row of whole numbers in a block of its own, which may be written -/
structure Row64 (w : World) (g len : Nat) (f : Nat → Int) : Prop where
  cell : ∀ i, i < len → w.cell? ⟨g, i, none⟩ = some (.int .i64 (f i))
  open' : ∀ i, i < len → w.frozen? ⟨g, i, none⟩ = false
  lt : g < w.heap.size
theorem Row64.set {w : World} {g len : Nat} {f : Nat → Int} (h : Row64 w g len f) (k : Nat) (hk : k < len) (x : Int) : Row64 (w.setCell ⟨g, k, none⟩ (.int .i64 x)) g len (fun i => if i = k then x else f i) := by
  refine ⟨fun i hi => ?_, fun i hi => ?_, by simpa [World.setCell] using h.lt⟩
  · by_cases e : i = k
    · subst e
      rw [if_pos rfl]
      exact World.cell?_setCell_same _ _ _ (h.cell i hi)
    · rw [if_neg e, World.cell?_setCell_other _ _ _ _ (by intro h; cases h; exact e rfl)]
      exact h.cell i hi
  · rw [World.frozen?_setCell]; exact h.open' i hi
theorem Row64.congr {w : World} {g len : Nat} {f f' : Nat → Int} (h : Row64 w g len f) (he : ∀ i, i < len → f i = f' i) : Row64 w g len f' :=
  ⟨fun i hi => by rw [← he i hi]; exact h.cell i hi, h.open', h.lt⟩
theorem row64_made (w : World) (len : Nat) (t : TypeId) : Row64 (w.alloc (.cells (madeCells #[.int .i64 0] len) t)) w.heap.size len (fun _ => 0) := by
  refine ⟨fun i hi => ?_, fun i hi => ?_, by simp⟩
  · rw [World.cell?_alloc_new]
    simp [madeCells, hi, Nat.mod_one]
  · unfold World.frozen?
    rw [heap_alloc_new]
    rfl
theorem Row64.i64s {w : World} {g len cap : Nat} {f : Nat → Int} (h : Row64 w g len f) : I64s w (.slice (some ⟨g, 0, none⟩) len cap) len f :=
  ⟨_, _, rfl, fun _ => ⟨g, 0, rfl, h.lt, fun i hi => by rw [Nat.zero_add]; exact h.cell i hi⟩⟩
end Go.Proofs.Ytdolbgbgnplfhaa
