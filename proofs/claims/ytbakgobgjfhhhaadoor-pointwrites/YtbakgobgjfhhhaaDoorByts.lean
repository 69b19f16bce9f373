/- Bytes that lie in a block, written and read. -/
import Derived.Test.YtbakgobgjfhhhaaDoorBase
import Derived.Laws.IdiomStrings
import Derived.Laws.Rows
namespace Go.Proofs.YtbakgobgjfhhhaaDoor
open Go.RowKit

theorem set_getD (l : List UInt8) (n : Nat) (x : UInt8) (j : Nat) (hn : n < l.length) : (l.set n x).getD j 0 = if j = n then x else l.getD j 0 := by
  simp only [List.getD_eq_getElem?_getD, List.getElem?_set]
  by_cases h : j = n
  · subst h; simp [hn]
  · simp [h, show ¬ n = j by omega]

/-- the block g holds the bytes l, and may be written there -/
structure Byt (w : World) (g : Nat) (l : List UInt8) : Prop where
  cell : ∀ j, j < l.length → w.cell? ⟨g, j, none⟩ = some (.int .u8 ((l.getD j 0).toNat : Int))
  open' : ∀ j, j < l.length → w.frozen? ⟨g, j, none⟩ = false

theorem Byt.set {w : World} {g : Nat} {l : List UInt8} (h : Byt w g l) (n : Nat) (hn : n < l.length) (x : UInt8) : Byt (w.setCell ⟨g, n, none⟩ (.int .u8 (x.toNat : Int))).drew g (l.set n x) := by
  refine ⟨fun j hj => ?_, fun j hj => ?_⟩
  · simp only [List.length_set] at hj
    rw [set_getD l n x j hn]
    by_cases e : j = n
    · subst e
      simp only [if_true]
      exact World.cell?_setCell_same (w := w) (a := ⟨g, j, none⟩) _ (h.cell j hj)
    · rw [if_neg e]
      exact (World.cell?_setCell_other (w := w) (a := ⟨g, n, none⟩) (b := ⟨g, j, none⟩) _ (by intro h; cases h; exact e rfl)).trans (h.cell j hj)
  · simp only [List.length_set] at hj
    exact (World.frozen?_setCell _ _ _ _).trans (h.open' j hj)

theorem byt_start (w : World) (s : ByteArray) (cap : Nat) (t : TypeId) : Byt (w.alloc (.cells (bytesRow s cap) t ((bytesRow s cap).size, (bytesRow s cap).size + 1))).drew w.heap.size s.data.toList := by
  have hz : s.size ≤ (bytesRow s cap).size := by simp [bytesRow]
  refine ⟨fun j hj => ?_, fun j hj => ?_⟩
  · have hj' : j < s.size := by simpa using hj
    refine (World.cell?_alloc_mark w _ t _ j).trans ?_
    rw [bytesRow, Array.getElem?_append_left (by simpa using hj')]
    simp [hj']
  · have hj' : j < s.size := by simpa using hj
    show (w.alloc _).frozen? _ = false
    unfold World.frozen?
    rw [heap_alloc_new]
    simp only [decide_eq_false (show ¬ (bytesRow s cap).size ≤ j by omega), Bool.false_and]

theorem byt_string {w : World} {g : Nat} {l : List UInt8} (h : Byt w g l) (n cap : Nat) (hl : l.length = n) :
    (convert 88 9 (.slice (some ⟨g, 0, none⟩) n cap)).run Tryd.prog w = .ok (.string ⟨l.toArray⟩) w := by
  subst hl
  refine run_convert_bytes_back w 88 9 5 ⟨g, 0, none⟩ cap l Tryd.underlying88 Tryd.underlying5 Tryd.underlying9 fun j hj => ?_
  have := h.cell j hj
  rw [show (⟨g, 0, none⟩ : Addr).add j = ⟨g, j, none⟩ by unfold Addr.add; split <;> simp_all, this]
  simp [List.getD_eq_getElem?_getD, hj]
end Go.Proofs.YtbakgobgjfhhhaaDoor
