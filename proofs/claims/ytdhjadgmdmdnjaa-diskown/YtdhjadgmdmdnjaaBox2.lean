/- Two cells in a block of their own: a disk, or a write that waits. -/
import Derived.Test.YtdhjadgmdmdnjaaBase
import Derived.Deep.OwnRows
import Derived.Laws.Rows
import Derived.OwnWalk
import Derived.WalkMore
namespace Go.Proofs.Ytdhjadgmdmdnjaa
open Go.RowKit

structure Box2 (w : World) (g : Nat) (x y : Value) : Prop where
  c0 : w.cell? ⟨g, 0, none⟩ = some x
  c1 : w.cell? ⟨g, 1, none⟩ = some y
  f0 : w.frozen? ⟨g, 0, none⟩ = false
  f1 : w.frozen? ⟨g, 1, none⟩ = false
  lt : g < w.heap.size
theorem box2_new (w : World) (x y : Value) (t : TypeId) : Box2 (w.alloc (.cells #[x, y] t)) w.heap.size x y := by
  have hf : ∀ p : Nat, (w.alloc (.cells #[x, y] t)).frozen? ⟨w.heap.size, p, none⟩ = false := fun p => by
    unfold World.frozen?
    rw [heap_alloc_new]
    rfl
  refine ⟨?_, ?_, hf 0, hf 1, by simp⟩ <;> (rw [World.cell?_alloc_new]; rfl)
theorem Box2.set1 {w : World} {g : Nat} {x y : Value} (h : Box2 w g x y) (y' : Value) : Box2 (w.setCell ⟨g, 1, none⟩ y') g x y' :=
  ⟨by rw [World.cell?_setCell_other _ _ _ _ (by simp)]; exact h.c0, World.cell?_setCell_same _ _ _ h.c1, by rw [World.frozen?_setCell]; exact h.f0, by rw [World.frozen?_setCell]; exact h.f1, by simpa [World.setCell] using h.lt⟩
theorem Box2.set0 {w : World} {g : Nat} {x y : Value} (h : Box2 w g x y) (x' : Value) : Box2 (w.setCell ⟨g, 0, none⟩ x') g x' y :=
  ⟨World.cell?_setCell_same _ _ _ h.c0, by rw [World.cell?_setCell_other _ _ _ _ (by simp)]; exact h.c1, by rw [World.frozen?_setCell]; exact h.f0, by rw [World.frozen?_setCell]; exact h.f1, by simpa [World.setCell] using h.lt⟩
theorem Box2.set {w : World} {g : Nat} {x y : Value} (h : Box2 w g x y) (x' y' : Value) : Box2 ((w.setCell ⟨g, 0, none⟩ x').setCell ⟨g, 1, none⟩ y') g x' y' := (h.set0 x').set1 y'
theorem Box2.of_block {w w' : World} {g : Nat} {x y : Value} (h : Box2 w g x y) (hs : w.heap.size ≤ w'.heap.size) (he : w'.heap[g]? = w.heap[g]?) : Box2 w' g x y :=
  have hc : ∀ p, w'.cell? ⟨g, p, none⟩ = w.cell? ⟨g, p, none⟩ := fun p => World.cell?_of_block (w := w) (a := ⟨g, p, none⟩) he
  have hf : ∀ p, w'.frozen? ⟨g, p, none⟩ = w.frozen? ⟨g, p, none⟩ := fun p => World.frozen?_of_block (w := w) (a := ⟨g, p, none⟩) he
  ⟨(hc 0).trans h.c0, (hc 1).trans h.c1, (hf 0).trans h.f0, (hf 1).trans h.f1, Nat.lt_of_lt_of_le h.lt hs⟩
theorem Box2.kept {w w' : World} {N g : Nat} {x y : Value} (h : Box2 w g x y) (hb : Below N w w') (hg : g < N) : Box2 w' g x y := h.of_block hb.size (hb.block g hg)
theorem Box2.below {w w' : World} {g : Nat} {x y : Value} (h : Box2 w g x y) (hb : Below w.heap.size w w') : Box2 w' g x y := h.kept hb h.lt
theorem Box2.setOther {w : World} {g : Nat} {x y : Value} (h : Box2 w g x y) {a : Addr} (hne : g ≠ a.block) (v : Value) : Box2 (w.setCell a v) g x y := by
  have hn : ∀ p, a ≠ (⟨g, p, none⟩ : Addr) := fun p e => hne (by rw [e])
  exact ⟨by rw [World.cell?_setCell_other _ _ _ _ (hn 0)]; exact h.c0, by rw [World.cell?_setCell_other _ _ _ _ (hn 1)]; exact h.c1, by rw [World.frozen?_setCell]; exact h.f0, by rw [World.frozen?_setCell]; exact h.f1, by simpa [World.setCell] using h.lt⟩
theorem Box2.dN {w : World} {g : Nat} {x y : Value} (h : Box2 w g x y) (q : Nat) : Box2 (w.drewN q) g x y := ⟨h.c0, h.c1, h.f0, h.f1, h.lt⟩
theorem Box2.alloc {w : World} {g : Nat} {x y : Value} (h : Box2 w g x y) (o : Obj) : Box2 (w.alloc o) g x y := h.below ((Below.refl _ _).alloc (Nat.le_refl _) _)
theorem Box2.drew {w : World} {g : Nat} {x y : Value} (h : Box2 w g x y) : Box2 w.drew g x y := ⟨h.c0, h.c1, h.f0, h.f1, h.lt⟩
theorem load_box2 {T : TypeId} {w : World} {g : Nat} {x y : Value} (hi : (Try.prog.info? T).map (·.size) = some 2) (hagg : (isAgg T).run Try.prog w = .ok true w) (h : Box2 w g x y) : (loadVar T ⟨g, 0, none⟩).run Try.prog w = .ok (.agg #[x, y]) w := by
  have hl := run_loadCells_list (P := Try.prog) w ⟨g, 0, none⟩ [x, y] (fun j v hv => by
    rw [show (⟨g, 0, none⟩ : Addr).add j = ⟨g, j, none⟩ by unfold Addr.add; split <;> simp_all]
    match j with
    | 0 => rw [h.c0]; exact hv
    | 1 => rw [h.c1]; exact hv
    | j + 2 => simp at hv)
  obtain ⟨i, hi, hs⟩ := Option.map_eq_some_iff.1 hi
  have hl2 : (loadCells ⟨g, 0, none⟩ 2).run Try.prog w = .ok #[x, y] w := hl
  simp [loadVar, Sem.run_bind, hagg, sizeOf, typeInfo, hi, hs, hl2]
theorem infoSzPt : (Try.prog.info? 46).map (·.size) = some 2 := by kernel_rfl
theorem infoSzDk : (Try.prog.info? 25).map (·.size) = some 2 := by kernel_rfl
theorem aggPt (w : World) : (isAgg 46).run Try.prog w = .ok true w := by
  unfold isAgg
  rw [Sem.run_bind, run_underlying Try.underlying46 w]
  rfl
theorem aggDk (w : World) : (isAgg 25).run Try.prog w = .ok true w := by
  unfold isAgg
  rw [Sem.run_bind, run_underlying Try.underlying25 w]
  rfl
theorem results_put {fn : Func} {p : Tmp} (h : fn.results = #[.cell p 46]) (tmps : Array Value) (w : World) (g : Nat) (x y : Value) (hp : tmps.getD p undef = .pointer (some ⟨g, 0, none⟩)) (hb : Box2 w g x y) :
    (results fn tmps).run Try.prog w = .ok (.agg #[x, y]) w := by
  have hp' : tmps[p]?.getD undef = .pointer (some ⟨g, 0, none⟩) := by simpa using hp
  simp [results, h, hp', asAddr, load_box2 infoSzPt (aggPt w) hb]
theorem results_disk {fn : Func} {p : Tmp} (h : fn.results = #[.cell p 25]) (tmps : Array Value) (w : World) (g : Nat) (x y : Value) (hp : tmps.getD p undef = .pointer (some ⟨g, 0, none⟩)) (hb : Box2 w g x y) :
    (results fn tmps).run Try.prog w = .ok (.agg #[x, y]) w := by
  have hp' : tmps[p]?.getD undef = .pointer (some ⟨g, 0, none⟩) := by simpa using hp
  simp [results, h, hp', asAddr, load_box2 infoSzDk (aggDk w) hb]
theorem results_disk2 {fn : Func} {p q : Tmp} (h : fn.results = #[.cell p 25, .tmp q]) (tmps : Array Value) (w : World) (g : Nat) (x y v : Value) (hp : tmps.getD p undef = .pointer (some ⟨g, 0, none⟩)) (hq : tmps.getD q undef = v) (hb : Box2 w g x y) :
    (results fn tmps).run Try.prog w = .ok (.tuple #[.agg #[x, y], v]) w := by
  have hp' : tmps[p]?.getD undef = .pointer (some ⟨g, 0, none⟩) := by simpa using hp
  have hq' : tmps[q]?.getD undef = v := by simpa using hq
  simp [results, h, hp', hq', asAddr, load_box2 infoSzDk (aggDk w) hb]
end Go.Proofs.Ytdhjadgmdmdnjaa
