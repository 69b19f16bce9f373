/- A place and a generation are written in a map of the call's own. -/
import Derived.Test.YtbailfianjmflabOwnIm
namespace Go.Proofs.Ytbailfianjmflab
open Go.RowKit

theorem getD_setM {α : Type} (l : List α) (k i : Nat) (x d : α) (h : i < l.length) : (l.set k x).getD i d = if k = i then x else l.getD i d := by
  rw [List.getD_eq_getElem?_getD, List.getD_eq_getElem?_getD, List.getElem?_set]
  by_cases e : k = i
  · subst e; rw [if_pos rfl, if_pos rfl, if_pos h]; rfl
  · rw [if_neg e, if_neg e]
theorem plC_set (P : List Pla) (k : Nat) (p : Pla) (hk : k < P.length) : plC (P.set k p) = ((plC P).set (k * 2) (.int .i64 p.cl)).set (k * 2 + 1) (.int .i64 p.nh) := by
  apply List.ext_getElem?
  intro j
  by_cases hj : j < P.length * 2
  · obtain ⟨i, r, hr, rfl⟩ : ∃ i r, r < 2 ∧ j = i * 2 + r := ⟨j / 2, j % 2, by omega, by omega⟩
    have hi : i < (P.set k p).length := by rw [List.length_set]; omega
    have hi' : i < P.length := by omega
    have e := plC_at (P.set k p) i hi
    have e' := plC_at P i hi'
    rw [getD_setM P k i p noPl hi'] at e
    have l1 : (plC P).length = P.length * 2 := plC_length P
    rcases (by omega : r = 0 ∨ r = 1) with rfl | rfl
    · rw [Nat.add_zero, e.1, List.getElem?_set_ne (by omega)]
      by_cases he : k = i
      · subst he; rw [if_pos rfl, List.getElem?_set_self (by omega)]
      · rw [if_neg he, List.getElem?_set_ne (by omega), e'.1]
    · rw [e.2]
      by_cases he : k = i
      · subst he; rw [if_pos rfl, List.getElem?_set_self (by rw [List.length_set]; omega)]
      · rw [if_neg he, List.getElem?_set_ne (by omega), List.getElem?_set_ne (by omega), e'.2]
  · rw [List.getElem?_eq_none (by rw [plC_length, List.length_set]; omega), List.getElem?_eq_none (by rw [List.length_set, List.length_set, plC_length]; omega)]
theorem inC_set (G : List Int) (k : Nat) (g : Int) : inC (G.set k g) = (inC G).set k (.int .i64 g) := by
  unfold inC
  rw [List.map_set]
theorem OwnIm.setP {w : World} {N gp n m cap k : Nat} {v : Value} {P : List Pla} {G : List Int} (h : OwnIm w N (.slice (some ⟨gp, 0, none⟩) n cap) v n m P G) (hk : k < n) (p : Pla) :
    OwnIm ((w.setCell ⟨gp, k * 2, none⟩ (.int .i64 p.cl)).setCell ⟨gp, k * 2 + 1, none⟩ (.int .i64 p.nh)) N (.slice (some ⟨gp, 0, none⟩) n cap) v n m (P.set k p) G := by
  refine ⟨?_, ?_, h.ap, by rw [List.length_set]; exact h.lp, h.lg⟩
  · have := ((h.rp.stored (k * 2) (.int .i64 p.cl)).1.stored (k * 2 + 1) (.int .i64 p.nh)).1
    rw [plC_set _ _ _ (by rw [h.lp]; exact hk)]
    exact this
  · refine h.rg.kept (row := some gp) ⟨rfl, rfl, rfl, by simp [World.setCell], fun q _ hq => ?_⟩ ?_
    · rw [heap_setCell_other _ _ _ _ (by intro e; exact hq (by simp [e])), heap_setCell_other _ _ _ _ (by intro e; exact hq (by simp [e]))]
    · rcases h.ap with h1 | h1
      · simp [Value.ownBlock] at h1
      · simp only [Value.ownBlock] at h1
        exact .inr (Ne.symm h1)
theorem OwnIm.setG {w : World} {N gg n m cap k : Nat} {u : Value} {P : List Pla} {G : List Int} (h : OwnIm w N u (.slice (some ⟨gg, 0, none⟩) m cap) n m P G) (g : Int) :
    OwnIm (w.setCell ⟨gg, k, none⟩ (.int .i64 g)) N u (.slice (some ⟨gg, 0, none⟩) m cap) n m P (G.set k g) := by
  refine ⟨?_, ?_, h.ap, h.lp, by rw [List.length_set]; exact h.lg⟩
  · refine h.rp.kept (row := some gg) ⟨rfl, rfl, rfl, by simp [World.setCell], fun q _ hq => heap_setCell_other _ _ _ _ (by intro e; exact hq (by simp [e]))⟩ ?_
    rcases h.ap with h1 | h1
    · exact .inl h1
    · simp only [Value.ownBlock] at h1 ⊢
      exact .inr h1
  · have := (h.rg.stored k (.int .i64 g)).1
    rw [inC_set]
    exact this
theorem OwnIm.cellP {w : World} {N gp n m cap k : Nat} {v : Value} {P : List Pla} {G : List Int} (h : OwnIm w N (.slice (some ⟨gp, 0, none⟩) n cap) v n m P G) (hk : k < n) :
    w.cell? ⟨gp, k * 2, none⟩ = some (.int .i64 (P.getD k noPl).cl) ∧ w.cell? ⟨gp, k * 2 + 1, none⟩ = some (.int .i64 (P.getD k noPl).nh) ∧ w.frozen? ⟨gp, k * 2, none⟩ = false ∧ w.frozen? ⟨gp, k * 2 + 1, none⟩ = false :=
  ⟨by rw [h.rp.cellAt _ (by omega), (plC_at _ _ (by rw [h.lp]; exact hk)).1], by rw [h.rp.cellAt _ (by omega), (plC_at _ _ (by rw [h.lp]; exact hk)).2], h.rp.frozenAt _, h.rp.frozenAt _⟩
theorem OwnIm.cellG {w : World} {N gg n m cap k : Nat} {u : Value} {P : List Pla} {G : List Int} (h : OwnIm w N u (.slice (some ⟨gg, 0, none⟩) m cap) n m P G) (hk : k < m) :
    w.cell? ⟨gg, k, none⟩ = some (.int .i64 (G.getD k 0)) ∧ w.frozen? ⟨gg, k, none⟩ = false :=
  ⟨by rw [h.rg.cellAt _ (by omega), inC_at _ _ (by rw [h.lg]; exact hk)], h.rg.frozenAt _⟩
theorem OwnIm.blk {w : World} {N n m : Nat} {u v : Value} {P : List Pla} {G : List Int} (h : OwnIm w N u v n m P G) (hn : 0 < n) (hm : 0 < m) : ∃ gp cp gg cg, u = .slice (some ⟨gp, 0, none⟩) n cp ∧ v = .slice (some ⟨gg, 0, none⟩) m cg ∧ N ≤ gp ∧ N ≤ gg ∧ gp ≠ gg ∧ gp < w.heap.size ∧ gg < w.heap.size := by
  obtain ⟨gp, cp, rfl, h1, h2, _⟩ := own_some h.rp hn
  obtain ⟨gg, cg, rfl, h3, h4, _⟩ := own_some h.rg hm
  refine ⟨gp, cp, gg, cg, rfl, rfl, h1, h3, ?_, h2, h4⟩
  rcases h.ap with h | h
  · simp [Value.ownBlock] at h
  · simpa [Value.ownBlock] using h
theorem OwnIm.nil (w : World) (N : Nat) : OwnIm w N (.slice none 0 0) (.slice none 0 0) 0 0 [] [] := ⟨World.ownsRow_nil _ _ _ _, World.ownsRow_nil _ _ _ _, .inl rfl, rfl, rfl⟩
end Go.Proofs.Ytbailfianjmflab
