/- A mark in a block of its own. -/
import Derived.Test.YtganplceeapjcaaBase
import Derived.Deep.OwnRows
import Derived.Laws.Rows
import Derived.OwnWalk
import Derived.WalkMore
namespace Go.Proofs.Ytganplceeapjcaa
open Go.RowKit

/-- a mark in a block of its own -/
structure Box3 (w : World) (g : Nat) (x y : Int) (z : Nat) : Prop where
  c0 : w.cell? ⟨g, 0, none⟩ = some (.int .i64 x)
  c1 : w.cell? ⟨g, 1, none⟩ = some (.int .i64 y)
  c2 : w.cell? ⟨g, 2, none⟩ = some (.int .u8 (z : Int))
  f0 : w.frozen? ⟨g, 0, none⟩ = false
  f1 : w.frozen? ⟨g, 1, none⟩ = false
  f2 : w.frozen? ⟨g, 2, none⟩ = false
  lt : g < w.heap.size
theorem box3_new (w : World) (x y : Int) (z : Nat) (t : TypeId) : Box3 (w.alloc (.cells #[.int .i64 x, .int .i64 y, .int .u8 (z : Int)] t)) w.heap.size x y z := by
  have hf : ∀ p : Nat, (w.alloc (.cells #[.int .i64 x, .int .i64 y, .int .u8 (z : Int)] t)).frozen? ⟨w.heap.size, p, none⟩ = false := fun p => by
    unfold World.frozen?
    rw [heap_alloc_new]
    rfl
  refine ⟨?_, ?_, ?_, hf 0, hf 1, hf 2, by simp⟩ <;> (rw [World.cell?_alloc_new]; rfl)
theorem Box3.set {w : World} {g : Nat} {x y : Int} {z : Nat} (h : Box3 w g x y z) (x' y' : Int) (z' : Nat) :
    Box3 (((w.setCell ⟨g, 0, none⟩ (.int .i64 x')).setCell ⟨g, 1, none⟩ (.int .i64 y')).setCell ⟨g, 2, none⟩ (.int .u8 (z' : Int))) g x' y' z' := by
  refine ⟨?_, ?_, ?_, ?_, ?_, ?_, by simpa [World.setCell] using h.lt⟩
  · rw [World.cell?_setCell_other _ _ _ _ (by simp), World.cell?_setCell_other _ _ _ _ (by simp)]
    exact World.cell?_setCell_same _ _ _ h.c0
  · rw [World.cell?_setCell_other _ _ _ _ (by simp)]
    exact World.cell?_setCell_same _ _ _ (u := .int .i64 y) (by rw [World.cell?_setCell_other _ _ _ _ (by simp)]; exact h.c1)
  · exact World.cell?_setCell_same _ _ _ (u := .int .u8 (z : Int)) (by rw [World.cell?_setCell_other _ _ _ _ (by simp), World.cell?_setCell_other _ _ _ _ (by simp)]; exact h.c2)
  · rw [World.frozen?_setCell, World.frozen?_setCell, World.frozen?_setCell]; exact h.f0
  · rw [World.frozen?_setCell, World.frozen?_setCell, World.frozen?_setCell]; exact h.f1
  · rw [World.frozen?_setCell, World.frozen?_setCell, World.frozen?_setCell]; exact h.f2
theorem Box3.kept {w w' : World} {g : Nat} {x y : Int} {z : Nat} (h : Box3 w g x y z) (hb : Below w.heap.size w w') : Box3 w' g x y z :=
  have hc : ∀ p, w'.cell? ⟨g, p, none⟩ = w.cell? ⟨g, p, none⟩ := fun p => hb.cell (p := ⟨g, p, none⟩) h.lt
  have hf : ∀ p, w'.frozen? ⟨g, p, none⟩ = w.frozen? ⟨g, p, none⟩ := fun p => World.frozen?_of_block (w := w) (a := ⟨g, p, none⟩) (hb.block g h.lt)
  ⟨(hc 0).trans h.c0, (hc 1).trans h.c1, (hc 2).trans h.c2, (hf 0).trans h.f0, (hf 1).trans h.f1, (hf 2).trans h.f2, Nat.lt_of_lt_of_le h.lt hb.size⟩
theorem Box3.kept' {w : World} {g : Nat} {x y : Int} {z : Nat} (h : Box3 w g x y z) (g' : Nat) (hne : g ≠ g') (a b c : Value) : Box3 (((w.setCell ⟨g', 0, none⟩ a).setCell ⟨g', 1, none⟩ b).setCell ⟨g', 2, none⟩ c) g x y z := by
  have hc : ∀ p, (((w.setCell ⟨g', 0, none⟩ a).setCell ⟨g', 1, none⟩ b).setCell ⟨g', 2, none⟩ c).cell? ⟨g, p, none⟩ = w.cell? ⟨g, p, none⟩ := fun p => by
    have hn : ∀ k, (⟨g', k, none⟩ : Addr) ≠ ⟨g, p, none⟩ := fun k e => by simp only [Addr.mk.injEq] at e; omega
    rw [World.cell?_setCell_other _ _ _ _ (hn 2), World.cell?_setCell_other _ _ _ _ (hn 1), World.cell?_setCell_other _ _ _ _ (hn 0)]
  have hf : ∀ p, (((w.setCell ⟨g', 0, none⟩ a).setCell ⟨g', 1, none⟩ b).setCell ⟨g', 2, none⟩ c).frozen? ⟨g, p, none⟩ = w.frozen? ⟨g, p, none⟩ := fun p => by
    rw [World.frozen?_setCell, World.frozen?_setCell, World.frozen?_setCell]
  exact ⟨(hc 0).trans h.c0, (hc 1).trans h.c1, (hc 2).trans h.c2, (hf 0).trans h.f0, (hf 1).trans h.f1, (hf 2).trans h.f2, by simpa [World.setCell] using h.lt⟩
theorem Box3.dN {w : World} {g : Nat} {x y : Int} {z : Nat} (h : Box3 w g x y z) (q : Nat) : Box3 (w.drewN q) g x y z := ⟨h.c0, h.c1, h.c2, h.f0, h.f1, h.f2, h.lt⟩
theorem infoSzM : (Try.prog.info? 53).map (·.size) = some 3 := by kernel_rfl
theorem load_box {w : World} {g : Nat} {x y : Int} {z : Nat} (h : Box3 w g x y z) : (loadVar 53 ⟨g, 0, none⟩).run Try.prog w = .ok (.agg #[.int .i64 x, .int .i64 y, .int .u8 (z : Int)]) w := by
  have hl := run_loadCells_list (P := Try.prog) w ⟨g, 0, none⟩ [.int .i64 x, .int .i64 y, .int .u8 (z : Int)] (fun j v hv => by
    rw [show (⟨g, 0, none⟩ : Addr).add j = ⟨g, j, none⟩ by unfold Addr.add; split <;> simp_all]
    match j with
    | 0 => rw [h.c0]; exact hv
    | 1 => rw [h.c1]; exact hv
    | 2 => rw [h.c2]; exact hv
    | j + 3 => simp at hv)
  obtain ⟨i, hi, hs⟩ := Option.map_eq_some_iff.1 infoSzM
  have hagg : (isAgg 53).run Try.prog w = .ok true w := by
    unfold isAgg
    rw [Sem.run_bind, run_underlying Try.underlying53 w]
    rfl
  have hl2 : (loadCells ⟨g, 0, none⟩ 3).run Try.prog w = .ok #[.int .i64 x, .int .i64 y, .int .u8 (z : Int)] w := hl
  simp [loadVar, Sem.run_bind, hagg, sizeOf, typeInfo, hi, hs, hl2]
theorem results_box {fn : Func} {p : Tmp} (h : fn.results = #[.cell p 53]) (tmps : Array Value) (w : World) (g : Nat) (x y : Int) (z : Nat) (hp : tmps.getD p undef = .pointer (some ⟨g, 0, none⟩)) (hb : Box3 w g x y z) :
    (results fn tmps).run Try.prog w = .ok (.agg #[.int .i64 x, .int .i64 y, .int .u8 (z : Int)]) w := by
  have hp' : tmps[p]?.getD undef = .pointer (some ⟨g, 0, none⟩) := by simpa using hp
  simp [results, h, hp', asAddr, load_box hb]
theorem below_set3 {B g : Nat} {w0 w : World} (h : Below B w0 w) (hg : B ≤ g) (x y z : Value) : Below B w0 (((w.setCell ⟨g, 0, none⟩ x).setCell ⟨g, 1, none⟩ y).setCell ⟨g, 2, none⟩ z) := ((h.setCell hg _).setCell hg _).setCell hg _
theorem below_dL {B : Nat} {a w : World} (h : Below B a w) (q : Nat) : Below B a (w.drewN q) := ⟨h.os, h.tape, h.output, h.size, h.block⟩
theorem size_set3 (w : World) (a b c : Addr) (x y z : Value) : (((w.setCell a x).setCell b y).setCell c z).heap.size = w.heap.size := by simp [World.setCell]
theorem results_box2 {fn : Func} {p q : Tmp} (h : fn.results = #[.cell p 53, .tmp q]) (tmps : Array Value) (w : World) (g : Nat) (x y : Int) (z : Nat) (v : Value) (hp : tmps.getD p undef = .pointer (some ⟨g, 0, none⟩)) (hq : tmps.getD q undef = v) (hb : Box3 w g x y z) :
    (results fn tmps).run Try.prog w = .ok (.tuple #[.agg #[.int .i64 x, .int .i64 y, .int .u8 (z : Int)], v]) w := by
  have hp' : tmps[p]?.getD undef = .pointer (some ⟨g, 0, none⟩) := by simpa using hp
  have hq' : tmps[q]?.getD undef = v := by simpa using hq
  simp [results, h, hp', hq', asAddr, load_box hb]
end Go.Proofs.Ytganplceeapjcaa
