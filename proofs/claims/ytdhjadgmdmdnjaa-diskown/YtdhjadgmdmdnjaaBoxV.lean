/- A value of several cells in a block of its own, whatever its cells are. -/
import Derived.Test.YtdhjadgmdmdnjaaRd
import Derived.WalkMore
namespace Go.Proofs.Ytdhjadgmdmdnjaa
open Go.RowKit

/-- cells in a block of their own, which may be written -/
structure BoxV (w : World) (g : Nat) (vs : List Value) : Prop where
  c : ∀ j u, vs[j]? = some u → w.cell? ⟨g, j, none⟩ = some u
  f : ∀ j, j < vs.length → w.frozen? ⟨g, j, none⟩ = false
  lt : g < w.heap.size
theorem boxV_new (w : World) (vs : List Value) (t : TypeId) : BoxV (w.alloc (.cells vs.toArray t)) w.heap.size vs := by
  refine ⟨fun j u hj => ?_, fun j _ => ?_, by simp⟩
  · rw [World.cell?_alloc_new]; simpa using hj
  · unfold World.frozen?
    rw [heap_alloc_new]
    rfl
theorem BoxV.keptN {w w' : World} {g N : Nat} {vs : List Value} (h : BoxV w g vs) (hb : Below N w w') (hg : g < N) : BoxV w' g vs :=
  ⟨fun j u hj => (hb.cell (p := ⟨g, j, none⟩) hg).trans (h.c j u hj), fun j hj => (World.frozen?_of_block (w := w) (a := ⟨g, j, none⟩) (hb.block g hg)).trans (h.f j hj), Nat.lt_of_lt_of_le h.lt hb.size⟩
theorem BoxV.below {w w' : World} {g : Nat} {vs : List Value} (h : BoxV w g vs) (hb : Below w.heap.size w w') : BoxV w' g vs := h.keptN hb h.lt
theorem BoxV.drew {w : World} {g : Nat} {vs : List Value} (h : BoxV w g vs) : BoxV w.drew g vs := ⟨h.c, h.f, h.lt⟩
theorem BoxV.alloc {w : World} {g : Nat} {vs : List Value} (h : BoxV w g vs) (o : Obj) : BoxV (w.alloc o) g vs := h.below ((Below.refl _ w).alloc (Nat.le_refl _) o)
theorem BoxV.grown {w w' : World} {g : Nat} {vs : List Value} {r : Option Nat} (h : BoxV w g vs) (hg : w.grownBy w' r) (hr : r ≠ some g) : BoxV w' g vs := by
  have hb : w'.heap[g]? = w.heap[g]? := hg.block g h.lt (fun e => hr e.symm)
  exact ⟨fun j u hj => (World.cell?_of_block (w := w) (w' := w') (a := ⟨g, j, none⟩) hb).trans (h.c j u hj), fun j hj => (World.frozen?_of_block (w := w) (w' := w') (a := ⟨g, j, none⟩) hb).trans (h.f j hj), Nat.lt_of_lt_of_le h.lt hg.size⟩
/-- one cell written -/
theorem BoxV.set {w : World} {g : Nat} {vs : List Value} (h : BoxV w g vs) (k : Nat) (x : Value) (hk : k < vs.length) : BoxV (w.setCell ⟨g, k, none⟩ x) g (vs.set k x) := by
  refine ⟨fun j u hj => ?_, fun j hj => ?_, by simpa [World.setCell] using h.lt⟩
  · rw [List.getElem?_set] at hj
    by_cases e : k = j
    · subst e
      rw [if_pos rfl, if_pos hk] at hj
      cases hj
      exact World.cell?_setCell_same _ _ _ (u := vs[k]) (h.c k _ (List.getElem?_eq_getElem hk))
    · rw [if_neg e] at hj
      rw [World.cell?_setCell_other _ _ _ _ (by simp only [ne_eq, Addr.mk.injEq, not_and]; intro _ h; exact absurd h (by omega))]
      exact h.c j u hj
  · rw [World.frozen?_setCell]
    exact h.f j (by simpa using hj)
/-- a cell of another block written -/
theorem BoxV.other {w : World} {g : Nat} {vs : List Value} (h : BoxV w g vs) (a : Addr) (x : Value) (ha : a.block ≠ g) : BoxV (w.setCell a x) g vs := by
  refine ⟨fun j u hj => ?_, fun j hj => ?_, by simpa [World.setCell] using h.lt⟩
  · rw [World.cell?_setCell_other _ _ _ _ (by intro e; rw [e] at ha; exact ha rfl)]
    exact h.c j u hj
  · rw [World.frozen?_setCell]; exact h.f j hj
theorem BoxV.set4 {w : World} {g : Nat} {a b c d : Value} (h : BoxV w g [a, b, c, d]) (a' b' c' d' : Value) : BoxV ((((w.setCell ⟨g, 0, none⟩ a').setCell ⟨g, 1, none⟩ b').setCell ⟨g, 2, none⟩ c').setCell ⟨g, 3, none⟩ d') g [a', b', c', d'] :=
  (((h.set 0 a' (by simp)).set 1 b' (by simp)).set 2 c' (by simp)).set 3 d' (by simp)
/-- the whole of it, loaded -/
theorem load_boxV {P : Program} {t : TypeId} {w : World} {g : Nat} {vs : List Value} {n : Nat} (h : BoxV w g vs) (hn : vs.length = n) (hs : (P.info? t).map (·.size) = some n) (hagg : (isAgg t).run P w = .ok true w) : (loadVar t ⟨g, 0, none⟩).run P w = .ok (.agg vs.toArray) w := by
  have hl := run_loadCells_list (P := P) w ⟨g, 0, none⟩ vs (fun j v hv => by
    rw [show (⟨g, 0, none⟩ : Addr).add j = ⟨g, j, none⟩ by unfold Addr.add; split <;> simp_all]
    exact h.c j v hv)
  obtain ⟨i, hi, hs⟩ := Option.map_eq_some_iff.1 hs
  rw [hn] at hl
  simp [loadVar, Sem.run_bind, hagg, sizeOf, typeInfo, hi, hs, hl]
theorem results_boxV3 {P : Program} {t : TypeId} {fn : Func} {p q r : Tmp} (h : fn.results = #[.cell p t, .tmp q, .tmp r]) (tmps : Array Value) (w : World) (g n : Nat) (vs : List Value) (u v : Value) (hp : tmps.getD p undef = .pointer (some ⟨g, 0, none⟩)) (hq : tmps.getD q undef = u) (hr : tmps.getD r undef = v) (hb : BoxV w g vs) (hn : vs.length = n) (hs : (P.info? t).map (·.size) = some n) (hagg : (isAgg t).run P w = .ok true w) :
    (results fn tmps).run P w = .ok (.tuple #[.agg vs.toArray, u, v]) w := by
  have hp' : tmps[p]?.getD undef = .pointer (some ⟨g, 0, none⟩) := by simpa using hp
  have hq' : tmps[q]?.getD undef = u := by simpa using hq
  have hr' : tmps[r]?.getD undef = v := by simpa using hr
  simp [results, h, hp', hq', hr', asAddr, load_boxV hb hn hs hagg]
end Go.Proofs.Ytdhjadgmdmdnjaa
