/- Disks of the call's own. -/
import Derived.Test.YtdhjadgmdmdnjaaDk
import Derived.Test.YtdhjadgmdmdnjaaBox2
import Derived.Test.YtdhjadgmdmdnjaaGrowAt
import Derived.Deep.Onto
namespace Go.Proofs.Ytdhjadgmdmdnjaa
open Go.RowKit

/-- a disk in rows of the call's own -/
structure OwnDk (w : World) (N : Nat) (u v : Value) (C : List ByteArray) (P : List Pt) : Prop where
  rc : w.ownsRow N 9 1 u C.length (stC C)
  rp : w.ownsRow N 46 2 v P.length (ptC P)
  ap : Apart u v
theorem OwnDk.below {w w' : World} {N : Nat} {u v : Value} {C : List ByteArray} {P : List Pt} (h : OwnDk w N u v C P) (hb : Below w.heap.size w w') : OwnDk w' N u v C P := ⟨own_below h.rc hb, own_below h.rp hb, h.ap⟩
theorem OwnDk.mono {w : World} {N N' : Nat} {u v : Value} {C : List ByteArray} {P : List Pt} (h : OwnDk w N u v C P) (hb : N' ≤ N) : OwnDk w N' u v C P := ⟨h.rc.mono hb, h.rp.mono hb, h.ap⟩
/-- a disk that is written, its two slices in a block of their own -/
structure WDk (w : World) (N g : Nat) (u v : Value) (C : List ByteArray) (P : List Pt) : Prop where
  bx : Box2 w g u v
  gN : N ≤ g
  ow : OwnDk w N u v C P
  a1 : u.ownBlock ≠ some g
  a2 : v.ownBlock ≠ some g
theorem WDk.below {w w' : World} {N g : Nat} {u v : Value} {C : List ByteArray} {P : List Pt} (h : WDk w N g u v C P) (hb : Below w.heap.size w w') : WDk w' N g u v C P := ⟨h.bx.below hb, h.gN, h.ow.below hb, h.a1, h.a2⟩
theorem WDk.drew {w : World} {N g : Nat} {u v : Value} {C : List ByteArray} {P : List Pt} (h : WDk w N g u v C P) : WDk w.drew N g u v C P := ⟨h.bx.drew, h.gN, ⟨h.ow.rc.drew, h.ow.rp.drew, h.ow.ap⟩, h.a1, h.a2⟩
theorem WDk.alloc {w : World} {N g : Nat} {u v : Value} {C : List ByteArray} {P : List Pt} (h : WDk w N g u v C P) (o : Obj) : WDk (w.alloc o) N g u v C P := h.below ((Below.refl _ _).alloc (Nat.le_refl _) _)
theorem row_of_block {w : World} {N g n size : Nat} {e : TypeId} {cur : Array Value} {xs : List Value} (hb : N ≤ g) (hg : w.heap[g]? = some (.cells cur e (0, 0))) (hn : n ≤ maxLen) (hs : cur.size = n * size) (hx : cur.toList = xs) : w.ownsRow N e size (.slice (some ⟨g, 0, none⟩) n n) n xs :=
  ⟨by rw [← hx, Array.length_toList, hs], .inr ⟨g, n, cur, rfl, hb, hg, Nat.le_refl _, hn, hs, by rw [← hx, List.take_of_length_le]; rw [Array.length_toList, hs]; exact Nat.le_refl _⟩⟩
theorem box_of_block {w : World} {g : Nat} {e : TypeId} {x y : Value} (hg : w.heap[g]? = some (.cells #[x, y] e (0, 0))) : Box2 w g x y := by
  have hlt := (Array.getElem?_eq_some_iff.1 hg).1
  have hf : ∀ p : Nat, w.frozen? ⟨g, p, none⟩ = false := fun p => by
    unfold World.frozen?
    rw [show w.heap[(⟨g, p, none⟩ : Addr).block]? = _ from hg]
    rfl
  refine ⟨?_, ?_, hf 0, hf 1, hlt⟩ <;> (unfold World.cell?; rw [show w.heap[(⟨g, _, none⟩ : Addr).block]? = _ from hg]; rfl)
theorem heap3 (W : World) (A B C : Obj) (k : Nat) (hk : W.heap.size = k) : (((W.alloc A).alloc B).alloc C).drew.heap[k]? = some A ∧ (((W.alloc A).alloc B).alloc C).drew.heap[k + 1]? = some B ∧ (((W.alloc A).alloc B).alloc C).drew.heap[k + 1 + 1]? = some C := by
  subst hk
  have s1 : (W.alloc A).heap.size = W.heap.size + 1 := by simp
  have s2 : ((W.alloc A).alloc B).heap.size = W.heap.size + 1 + 1 := by simp
  refine ⟨?_, ?_, ?_⟩
  · show (((W.alloc A).alloc B).alloc C).heap[W.heap.size]? = _
    rw [heap_alloc_old _ _ (by omega), heap_alloc_old _ _ (by omega), heap_alloc_new]
  · show (((W.alloc A).alloc B).alloc C).heap[W.heap.size + 1]? = _
    rw [heap_alloc_old _ _ (by omega), ← s1, heap_alloc_new]
  · show (((W.alloc A).alloc B).alloc C).heap[W.heap.size + 1 + 1]? = _
    rw [← s2, heap_alloc_new]
theorem wdk_mk {w : World} {N gw gc gp n m : Nat} {C : List ByteArray} {P : List Pt} {MC MP : Array Value} (hn : C.length = n) (hm : P.length = m) (n1 : n ≤ maxLen) (n2 : m ≤ maxLen)
    (hC : MC.toList = stC C) (hP : MP.toList = ptC P) (b1 : N ≤ gw) (b2 : N ≤ gc) (b3 : N ≤ gp) (d1 : gc ≠ gw) (d2 : gp ≠ gw) (d3 : gc ≠ gp)
    (h1 : w.heap[gw]? = some (.cells #[.slice (some ⟨gc, 0, none⟩) n n, .slice (some ⟨gp, 0, none⟩) m m] 25 (0, 0))) (h2 : w.heap[gc]? = some (.cells MC 9 (0, 0))) (h3 : w.heap[gp]? = some (.cells MP 46 (0, 0))) :
    WDk w N gw (.slice (some ⟨gc, 0, none⟩) n n) (.slice (some ⟨gp, 0, none⟩) m m) C P := by
  subst hn hm
  refine ⟨box_of_block h1, b1, ⟨row_of_block b2 h2 n1 ?_ hC, row_of_block b3 h3 n2 ?_ hP, .inr (by simp [Value.ownBlock]; exact d3)⟩, by simp [Value.ownBlock]; exact d1, by simp [Value.ownBlock]; exact d2⟩
  · rw [← Array.length_toList, hC, stC_length, Nat.mul_one]
  · rw [← Array.length_toList, hP, ptC_length]
/-- a store into an older block -/
theorem OwnDk.setLow {w : World} {N : Nat} {u v : Value} {C : List ByteArray} {P : List Pt} (h : OwnDk w N u v C P) {a : Addr} (ha : a.block < N) (x : Value) : OwnDk (w.setCell a x) N u v C P := by
  have hg : w.grownBy (w.setCell a x) (some a.block) := ⟨rfl, rfl, rfl, by simp [World.setCell], fun q _ hq => heap_setCell_other _ _ _ _ (by intro e; exact hq (by simp [e]))⟩
  refine ⟨h.rc.kept hg ?_, h.rp.kept hg ?_, h.ap⟩
  · exact .inr fun e => by have := (h.rc.lt _ e).1; omega
  · exact .inr fun e => by have := (h.rp.lt _ e).1; omega
theorem OwnDk.setOther {w : World} {N : Nat} {u v : Value} {C : List ByteArray} {P : List Pt} (h : OwnDk w N u v C P) {a : Addr} (h1 : u.ownBlock ≠ some a.block) (h2 : v.ownBlock ≠ some a.block) (x : Value) : OwnDk (w.setCell a x) N u v C P := by
  have hg : w.grownBy (w.setCell a x) (some a.block) := ⟨rfl, rfl, rfl, by simp [World.setCell], fun q _ hq => heap_setCell_other _ _ _ _ (by intro e; exact hq (by simp [e]))⟩
  exact ⟨h.rc.kept hg (.inr h1), h.rp.kept hg (.inr h2), h.ap⟩
theorem OwnDk.alloc {w : World} {N : Nat} {u v : Value} {C : List ByteArray} {P : List Pt} (h : OwnDk w N u v C P) (o : Obj) : OwnDk (w.alloc o) N u v C P := h.below ((Below.refl _ _).alloc (Nat.le_refl _) _)
theorem WDk.setLow {w : World} {N g : Nat} {u v : Value} {C : List ByteArray} {P : List Pt} (h : WDk w N g u v C P) {a : Addr} (ha : a.block < N) (x : Value) : WDk (w.setCell a x) N g u v C P :=
  ⟨h.bx.setOther (by have := h.gN; omega) x, h.gN, h.ow.setLow ha x, h.a1, h.a2⟩
/-- one text is written -/
theorem WDk.setC {w : World} {N g gc n cap k : Nat} {v : Value} {C : List ByteArray} {P : List Pt} (h : WDk w N g (.slice (some ⟨gc, 0, none⟩) n cap) v C P) (hn : C.length = n) (s : ByteArray) :
    WDk (w.setCell ⟨gc, k, none⟩ (.string s)) N g (.slice (some ⟨gc, 0, none⟩) n cap) v (C.set k s) P := by
  subst hn
  have hne : gc ≠ g := by have := h.a1; simp [Value.ownBlock] at this; exact this
  refine ⟨h.bx.setOther (a := ⟨gc, k, none⟩) (Ne.symm hne) _, h.gN, ⟨?_, ?_, h.ow.ap⟩, h.a1, h.a2⟩
  · have := (h.ow.rc.stored k (.string s)).1
    rw [stC_set, List.length_set]; exact this
  · refine h.ow.rp.kept (row := some gc) ⟨rfl, rfl, rfl, by simp [World.setCell], fun q _ hq => heap_setCell_other _ _ _ _ (by intro e; exact hq (by simp [e]))⟩ ?_
    rcases h.ow.ap with h1 | h1
    · simp [Value.ownBlock] at h1
    · simp only [Value.ownBlock] at h1
      exact .inr (Ne.symm h1)
/-- one write that waits is written -/
theorem WDk.setP {w : World} {N g gp m cap k : Nat} {u : Value} {C : List ByteArray} {P : List Pt} (h : WDk w N g u (.slice (some ⟨gp, 0, none⟩) m cap) C P) (hm : P.length = m) (hk : k < m) (p : Pt) :
    WDk ((w.setCell ⟨gp, k * 2, none⟩ (.int .i64 p.pl)).setCell ⟨gp, k * 2 + 1, none⟩ (.string p.tx)) N g u (.slice (some ⟨gp, 0, none⟩) m cap) C (P.set k p) := by
  subst hm
  have hne : gp ≠ g := by have := h.a2; simp [Value.ownBlock] at this; exact this
  refine ⟨(h.bx.setOther (a := ⟨gp, k * 2, none⟩) (Ne.symm hne) _).setOther (a := ⟨gp, k * 2 + 1, none⟩) (Ne.symm hne) _, h.gN, ⟨?_, ?_, h.ow.ap⟩, h.a1, h.a2⟩
  · refine h.ow.rc.kept (row := some gp) ⟨rfl, rfl, rfl, by simp [World.setCell], fun q _ hq => ?_⟩ ?_
    · rw [heap_setCell_other _ _ _ _ (by intro e; exact hq (by simp [e])), heap_setCell_other _ _ _ _ (by intro e; exact hq (by simp [e]))]
    · rcases h.ow.ap with h1 | h1
      · exact .inl h1
      · simp only [Value.ownBlock] at h1 ⊢
        exact .inr h1
  · have := ((h.ow.rp.stored (k * 2) (.int .i64 p.pl)).1.stored (k * 2 + 1) (.string p.tx)).1
    rw [List.length_set]
    rw [show ptC (P.set k p) = ((ptC P).set (k * 2) (.int .i64 p.pl)).set (k * 2 + 1) (.string p.tx) from ?_]
    · exact this
    · apply List.ext_getElem?
      intro j
      by_cases hj : j < P.length * 2
      · obtain ⟨i, r, hr, rfl⟩ : ∃ i r, r < 2 ∧ j = i * 2 + r := ⟨j / 2, j % 2, by omega, by omega⟩
        have hi : i < (P.set k p).length := by rw [List.length_set]; omega
        have hi' : i < P.length := by omega
        have e := ptC_at (P.set k p) i hi
        have e' := ptC_at P i hi'
        rw [getD_set P k i p noPt hi'] at e
        have l1 : (ptC P).length = P.length * 2 := ptC_length P
        rcases (by omega : r = 0 ∨ r = 1) with rfl | rfl
        · rw [Nat.add_zero, e.1, List.getElem?_set_ne (by omega)]
          by_cases he : k = i
          · subst he; rw [if_pos rfl, List.getElem?_set_self (by omega)]
          · rw [if_neg he, List.getElem?_set_ne (by omega), e'.1]
        · rw [e.2]
          by_cases he : k = i
          · subst he; rw [if_pos rfl, List.getElem?_set_self (by rw [List.length_set]; omega)]
          · rw [if_neg he, List.getElem?_set_ne (by omega), List.getElem?_set_ne (by omega), e'.2]
      · rw [List.getElem?_eq_none (by rw [ptC_length, List.length_set]; omega), List.getElem?_eq_none (by rw [List.length_set, List.length_set, ptC_length]; omega)]
theorem WDk.cellC {w : World} {N g gc n cap k : Nat} {v : Value} {C : List ByteArray} {P : List Pt} (h : WDk w N g (.slice (some ⟨gc, 0, none⟩) n cap) v C P) (hn : C.length = n) (hk : k < n) :
    w.cell? ⟨gc, k, none⟩ = some (.string (C.getD k ⟨#[]⟩)) ∧ w.frozen? ⟨gc, k, none⟩ = false := by
  subst hn
  exact ⟨by rw [h.ow.rc.cellAt k (by omega), stC_at _ _ hk], h.ow.rc.frozenAt k⟩
theorem WDk.cellP {w : World} {N g gp m cap k : Nat} {u : Value} {C : List ByteArray} {P : List Pt} (h : WDk w N g u (.slice (some ⟨gp, 0, none⟩) m cap) C P) (hm : P.length = m) (hk : k < m) :
    w.cell? ⟨gp, k * 2, none⟩ = some (.int .i64 (P.getD k noPt).pl) ∧ w.cell? ⟨gp, k * 2 + 1, none⟩ = some (.string (P.getD k noPt).tx) ∧ w.frozen? ⟨gp, k * 2, none⟩ = false ∧ w.frozen? ⟨gp, k * 2 + 1, none⟩ = false := by
  subst hm
  exact ⟨by rw [h.ow.rp.cellAt _ (by omega), (ptC_at _ _ hk).1], by rw [h.ow.rp.cellAt _ (by omega), (ptC_at _ _ hk).2], h.ow.rp.frozenAt _, h.ow.rp.frozenAt _⟩
theorem own_setOther {w : World} {N n size : Nat} {e : TypeId} {v : Value} {xs : List Value} (h : w.ownsRow N e size v n xs) {a : Addr} (hne : v.ownBlock ≠ some a.block) (x : Value) : (w.setCell a x).ownsRow N e size v n xs :=
  h.kept (row := some a.block) ⟨rfl, rfl, rfl, by simp [World.setCell], fun q _ hq => heap_setCell_other _ _ _ _ (by intro e; exact hq (by rw [e]))⟩ (.inr hne)
theorem apart_nil (u : Value) : Apart u (.slice none 0 0) := by
  unfold Apart
  cases h : u.ownBlock with
  | none => exact .inl rfl
  | some k => exact .inr (by simp [Value.ownBlock])
/-- nothing waits any longer -/
theorem WDk.nilP {w : World} {N g : Nat} {u v : Value} {C : List ByteArray} {P : List Pt} (h : WDk w N g u v C P) : WDk (w.setCell ⟨g, 1, none⟩ (.slice none 0 0)) N g u (.slice none 0 0) C [] :=
  ⟨h.bx.set1 _, h.gN, ⟨own_setOther h.ow.rc h.a1 _, World.ownsRow_nil _ _ _ _, apart_nil u⟩, h.a1, by simp [Value.ownBlock]⟩
theorem WDk.readP {w : World} {N g m cap k : Nat} {a1 : Option Addr} {u : Value} {C : List ByteArray} {P : List Pt} (h : WDk w N g u (.slice a1 m cap) C P) (hm : P.length = m) (hk : k < m) :
    ∃ gp, a1 = some ⟨gp, 0, none⟩ ∧ w.cell? ⟨gp, k * 2, none⟩ = some (.int .i64 (P.getD k noPt).pl) ∧ w.cell? ⟨gp, k * 2 + 1, none⟩ = some (.string (P.getD k noPt).tx) := by
  have h' := h
  subst hm
  rcases h.ow.rp.2 with ⟨_, h0⟩ | ⟨gp, cap', cur, hv, _⟩
  · omega
  · cases hv
    exact ⟨gp, rfl, (h'.cellP rfl hk).1, (h'.cellP rfl hk).2.1⟩
theorem WDk.openC {w : World} {N g n cap k : Nat} {a0 : Option Addr} {v : Value} {C : List ByteArray} {P : List Pt} (h : WDk w N g (.slice a0 n cap) v C P) (hn : C.length = n) (hk : k < n) :
    ∃ gc, a0 = some ⟨gc, 0, none⟩ := by
  subst hn
  rcases h.ow.rc.2 with ⟨_, h0⟩ | ⟨gc, cap', cur, hv, _⟩
  · omega
  · cases hv
    exact ⟨gc, rfl⟩
theorem WDk.neC {w : World} {N g gc n cap : Nat} {v : Value} {C : List ByteArray} {P : List Pt} (h : WDk w N g (.slice (some ⟨gc, 0, none⟩) n cap) v C P) : g ≠ gc := by
  have := h.a1; simp [Value.ownBlock] at this; exact Ne.symm this
theorem WDk.neP {w : World} {N g gp n cap : Nat} {u : Value} {C : List ByteArray} {P : List Pt} (h : WDk w N g u (.slice (some ⟨gp, 0, none⟩) n cap) C P) : g ≠ gp := by
  have := h.a2; simp [Value.ownBlock] at this; exact Ne.symm this
theorem WDk.ltC {w : World} {N g gc n cap : Nat} {v : Value} {C : List ByteArray} {P : List Pt} (h : WDk w N g (.slice (some ⟨gc, 0, none⟩) n cap) v C P) : N ≤ gc := (h.ow.rc.lt gc rfl).1
theorem WDk.ltP {w : World} {N g gp n cap : Nat} {u : Value} {C : List ByteArray} {P : List Pt} (h : WDk w N g u (.slice (some ⟨gp, 0, none⟩) n cap) C P) : N ≤ gp := (h.ow.rp.lt gp rfl).1
theorem OwnDk.shapes {w : World} {N : Nat} {u v : Value} {C : List ByteArray} {P : List Pt} (h : OwnDk w N u v C P) : (∃ a c, u = .slice a C.length c) ∧ (∃ a c, v = .slice a P.length c) := by
  obtain ⟨a, c, e, _⟩ := Rd.of_own h.rc
  obtain ⟨a', c', e', _⟩ := Rd.of_own h.rp
  exact ⟨⟨a, c, e⟩, a', c', e'⟩
theorem WDk.shapes {w : World} {N g : Nat} {u v : Value} {C : List ByteArray} {P : List Pt} (h : WDk w N g u v C P) : (∃ a c, u = .slice a C.length c) ∧ (∃ a c, v = .slice a P.length c) := by
  obtain ⟨a, c, e, _⟩ := Rd.of_own h.ow.rc
  obtain ⟨a', c', e', _⟩ := Rd.of_own h.ow.rp
  exact ⟨⟨a, c, e⟩, a', c', e'⟩
end Go.Proofs.Ytdhjadgmdmdnjaa
