/- A disk in rows of the call's own that no block holds: its two slices lie in the frame. -/
import Derived.Test.YtlcfccnkplmpgaaOwnDk
import Derived.Test.YtlcfccnkplmpgaaWorkWrWalks
namespace Go.Proofs.Ytlcfccnkplmpgaa
open Go.RowKit

theorem OwnDk.setC {w : World} {N gc n cap k : Nat} {v : Value} {C : List ByteArray} {P : List Pt} (h : OwnDk w N (.slice (some ⟨gc, 0, none⟩) n cap) v C P) (hn : C.length = n) (s : ByteArray) :
    OwnDk (w.setCell ⟨gc, k, none⟩ (.string s)) N (.slice (some ⟨gc, 0, none⟩) n cap) v (C.set k s) P := by
  subst hn
  refine ⟨?_, ?_, h.ap⟩
  · have := (h.rc.stored k (.string s)).1
    rw [stC_set, List.length_set]; exact this
  · refine h.rp.kept (row := some gc) ⟨rfl, rfl, rfl, by simp [World.setCell], fun q _ hq => heap_setCell_other _ _ _ _ (by intro e; exact hq (by simp [e]))⟩ ?_
    rcases h.ap with h1 | h1
    · simp [Value.ownBlock] at h1
    · simp only [Value.ownBlock] at h1
      exact .inr (Ne.symm h1)
theorem OwnDk.cellC {w : World} {N gc n cap k : Nat} {v : Value} {C : List ByteArray} {P : List Pt} (h : OwnDk w N (.slice (some ⟨gc, 0, none⟩) n cap) v C P) (hn : C.length = n) (hk : k < n) :
    w.cell? ⟨gc, k, none⟩ = some (.string (C.getD k ⟨#[]⟩)) ∧ w.frozen? ⟨gc, k, none⟩ = false := by
  subst hn
  exact ⟨by rw [h.rc.cellAt k (by omega), stC_at _ _ hk], h.rc.frozenAt k⟩
theorem OwnDk.readP {w : World} {N m cap k : Nat} {a1 : Option Addr} {u : Value} {C : List ByteArray} {P : List Pt} (h : OwnDk w N u (.slice a1 m cap) C P) (hm : P.length = m) (hk : k < m) :
    ∃ gp, a1 = some ⟨gp, 0, none⟩ ∧ w.cell? ⟨gp, k * 2, none⟩ = some (.int .i64 (P.getD k noPt).pl) ∧ w.cell? ⟨gp, k * 2 + 1, none⟩ = some (.string (P.getD k noPt).tx) := by
  have h' := h.rp
  subst hm
  rcases h.rp.2 with ⟨_, h0⟩ | ⟨gp, cap', cur, hv, _⟩
  · omega
  · cases hv
    exact ⟨gp, rfl, by rw [h'.cellAt _ (by omega), (ptC_at _ _ hk).1], by rw [h'.cellAt _ (by omega), (ptC_at _ _ hk).2]⟩
theorem OwnDk.openC {w : World} {N n cap k : Nat} {a0 : Option Addr} {v : Value} {C : List ByteArray} {P : List Pt} (h : OwnDk w N (.slice a0 n cap) v C P) (hn : C.length = n) (hk : k < n) : ∃ gc, a0 = some ⟨gc, 0, none⟩ ∧ N ≤ gc := by
  subst hn
  rcases h.rc.2 with ⟨_, h0⟩ | ⟨gc, cap', cur, hv, _⟩
  · omega
  · cases hv
    exact ⟨gc, rfl, (h.rc.lt gc rfl).1⟩
theorem OwnDk.nilP {w : World} {N : Nat} {u v : Value} {C : List ByteArray} {P : List Pt} (h : OwnDk w N u v C P) : OwnDk w N u (.slice none 0 0) C [] := ⟨h.rc, World.ownsRow_nil _ _ _ _, apart_nil u⟩
/-- one write more waits -/
theorem app_own {w w' : World} {N m : Nat} {u v v' : Value} {C : List ByteArray} {P : List Pt} {p : Pt} (h : OwnDk w N u v C P) (hm : P.length = m) (hown : w'.ownsRow N 59 2 v' (m + 1) (ptC P ++ pt2 p)) (hg : w.grownBy w' v.ownBlock) (hat : v'.ownBlock = v.ownBlock ∨ v'.ownBlock = some w.heap.size) :
    OwnDk w' N u v' C (P ++ [p]) := by
  refine ⟨h.rc.kept hg (by
    rcases h.ap with e | e
    · exact .inl e
    · exact .inr e), by rw [ptC_snoc, List.length_append, hm]; exact hown, apart_grown2 h.ap h.rc h.rp hg hat⟩
theorem app_belowO {w0 w w' : World} {N : Nat} {u v : Value} {C : List ByteArray} {P : List Pt} (hb : Below N w0 w) (hN : N ≤ w.heap.size) (h : OwnDk w N u v C P) (hg : w.grownBy w' v.ownBlock) : Below N w0 w' :=
  hb.grown hg hN fun j hj => (h.rp.lt j hj).1
end Go.Proofs.Ytlcfccnkplmpgaa
