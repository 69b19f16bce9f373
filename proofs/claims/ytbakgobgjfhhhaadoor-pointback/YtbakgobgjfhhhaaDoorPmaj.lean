/- Texts of ours, one behind the other: OwnIm PtAt MapBx OwnImSet FreshWalks FreshMaps -/
import Derived.Test.YtbakgobgjfhhhaaDoorPmaf
import Derived.Test.YtbakgobgjfhhhaaDoorPmab
import Derived.Test.YtbakgobgjfhhhaaDoorPmad
import Derived.Test.YtbakgobgjfhhhaaDoorPmai
import Derived.Laws.OwnMore
import Derived.Deep.Onto
import Derived.Test.YtbakgobgjfhhhaaDoorPmah
import Derived.BigRegion

/- Maps of inodes in rows of the call's own. -/
namespace Go.Proofs.YtbakgobgjfhhhaaDoor
open Go.RowKit

theorem infoPlO : (Tryd.prog.info? 67).map (fun i => (i.zero, i.size, i.bytes)) = some (some (.agg #[.int .i64 0, .int .i64 0]), 2, 16) := by kernel_rfl
theorem infoInO : (Tryd.prog.info? 3).map (fun i => (i.zero, i.size, i.bytes)) = some (some (.int .i64 0), 1, 8) := by kernel_rfl
theorem infoSzIm : (Tryd.prog.info? 25).map (·.size) = some 2 := by kernel_rfl
theorem aggIm (w : World) : (isAgg 25).run Tryd.prog w = .ok true w := by
  unfold isAgg
  rw [Sem.run_bind, run_underlying Tryd.underlying25 w]
  rfl
theorem results_boxV1 {P : Program} {t : TypeId} {fn : Func} {p : Tmp} (h : fn.results = #[.cell p t]) (tmps : Array Value) (w : World) (g n : Nat) (vs : List Value) (hp : tmps.getD p undef = .pointer (some ⟨g, 0, none⟩)) (hb : BoxV w g vs) (hn : vs.length = n) (hs : (P.info? t).map (·.size) = some n) (hagg : (isAgg t).run P w = .ok true w) :
    (results fn tmps).run P w = .ok (.agg vs.toArray) w := by
  have hp' : tmps[p]?.getD undef = .pointer (some ⟨g, 0, none⟩) := by simpa using hp
  simp [results, h, hp', asAddr, load_boxV hb hn hs hagg]
theorem results_boxV2M {P : Program} {t : TypeId} {fn : Func} {p q : Tmp} (h : fn.results = #[.cell p t, .tmp q]) (tmps : Array Value) (w : World) (g n : Nat) (vs : List Value) (u : Value) (hp : tmps.getD p undef = .pointer (some ⟨g, 0, none⟩)) (hq : tmps.getD q undef = u) (hb : BoxV w g vs) (hn : vs.length = n) (hs : (P.info? t).map (·.size) = some n) (hagg : (isAgg t).run P w = .ok true w) :
    (results fn tmps).run P w = .ok (.tuple #[.agg vs.toArray, u]) w := by
  have hp' : tmps[p]?.getD undef = .pointer (some ⟨g, 0, none⟩) := by simpa using hp
  have hq' : tmps[q]?.getD undef = u := by simpa using hq
  simp [results, h, hp', hq', asAddr, load_boxV hb hn hs hagg]
theorem BoxV.set2M {w : World} {g : Nat} {a b : Value} (h : BoxV w g [a, b]) (a' b' : Value) : BoxV ((w.setCell ⟨g, 0, none⟩ a').setCell ⟨g, 1, none⟩ b') g [a', b'] :=
  (h.set 0 a' (by simp)).set 1 b' (by simp)
/-- a map in rows of the call's own -/
structure OwnIm (w : World) (N : Nat) (u v : Value) (n m : Nat) (P : List Pla) (G : List Int) : Prop where
  rp : w.ownsRow N 67 2 u n (plC P)
  rg : w.ownsRow N 3 1 v m (inC G)
  ap : Apart u v
  lp : P.length = n
  lg : G.length = m
theorem OwnIm.below {w w' : World} {N : Nat} {u v : Value} {n m : Nat} {P : List Pla} {G : List Int} (h : OwnIm w N u v n m P G) (hb : Below w.heap.size w w') : OwnIm w' N u v n m P G := ⟨own_below h.rp hb, own_below h.rg hb, h.ap, h.lp, h.lg⟩
theorem OwnIm.mono {w : World} {N N' : Nat} {u v : Value} {n m : Nat} {P : List Pla} {G : List Int} (h : OwnIm w N u v n m P G) (hb : N' ≤ N) : OwnIm w N' u v n m P G := ⟨h.rp.mono hb, h.rg.mono hb, h.ap, h.lp, h.lg⟩
/-- a store into an older block -/
theorem OwnIm.setLow {w : World} {N : Nat} {u v : Value} {n m : Nat} {P : List Pla} {G : List Int} (h : OwnIm w N u v n m P G) {a : Addr} (ha : a.block < N) (x : Value) : OwnIm (w.setCell a x) N u v n m P G :=
  ⟨ownsRow_setCell_below h.rp ha x, ownsRow_setCell_below h.rg ha x, h.ap, h.lp, h.lg⟩
theorem OwnIm.pls {w : World} {N : Nat} {u v : Value} {n m : Nat} {P : List Pla} {G : List Int} (h : OwnIm w N u v n m P G) (hn : n ≤ 48) (hm : m ≤ 48) (hP : ∀ p ∈ P, PlaB p) (hG : ∀ g ∈ G, I64 g) :
    ∃ a0 c a1 e, u = .slice a0 n c ∧ v = .slice a1 m e ∧ Pls w a0 n c P ∧ Its w a1 m e G := by
  obtain ⟨a0, c, rfl, h0⟩ := pls_own h.rp h.lp (by omega) hP
  obtain ⟨a1, e, rfl, h1⟩ := its_own h.rg h.lg (by omega) hG
  exact ⟨a0, c, a1, e, rfl, rfl, h0, h1⟩
theorem row_of_blockM {w : World} {N g n size : Nat} {e : TypeId} {cur : Array Value} {xs : List Value} (hb : N ≤ g) (hg : w.heap[g]? = some (.cells cur e (0, 0))) (hn : n ≤ maxLen) (hs : cur.size = n * size) (hx : cur.toList = xs) : w.ownsRow N e size (.slice (some ⟨g, 0, none⟩) n n) n xs :=
  ⟨by rw [← hx, Array.length_toList, hs], .inr ⟨g, n, cur, rfl, hb, hg, Nat.le_refl _, hn, hs, by rw [← hx, List.take_of_length_le]; rw [Array.length_toList, hs]; exact Nat.le_refl _⟩⟩
theorem make_plas (w : World) : (Instr.makeSlice 22 (.int .i64 48) (.int .i64 48)).run Tryd.prog w = .ok (.slice (some ⟨w.heap.size, 0, none⟩) 48 48) (w.alloc (.cells (madeCells #[.int .i64 0, .int .i64 0] 96) 67)) := by
  obtain ⟨i, hi, hzz⟩ := Option.map_eq_some_iff.1 infoPlO
  simp only [Prod.mk.injEq] at hzz
  obtain ⟨hz, hs, hb⟩ := hzz
  have hr := run_make (P := Tryd.prog) w 22 67 i _ Tryd.underlying22 hi hz .i64 .i64 48 48 (by omega) (Int.le_refl _) (by rw [hb]; decide) (by decide)
  simp only [hs] at hr
  exact hr
theorem make_ints (w : World) : (Instr.makeSlice 23 (.int .i64 48) (.int .i64 48)).run Tryd.prog w = .ok (.slice (some ⟨w.heap.size, 0, none⟩) 48 48) (w.alloc (.cells (madeCells #[.int .i64 0] 48) 3)) :=
  run_make_row' (P := Tryd.prog) 23 3 (.int .i64 0) 8 Tryd.underlying23 infoInO rfl .i64 .i64 48 (by omega) (by omega) w
theorem made_plas : (madeCells #[.int .i64 0, .int .i64 0] 96).toList = plC frA := by kernel_rfl
theorem made_ints : (madeCells #[.int .i64 0] 48).toList = inC frG := by kernel_rfl
end Go.Proofs.YtbakgobgjfhhhaaDoor

/- A check point in a box, with its map's lists. -/
namespace Go.Proofs.YtbakgobgjfhhhaaDoor
open Go.RowKit

/-- a check point's cells -/
def ptV (t : Int) (a0 : Option Addr) (n c : Nat) (a1 : Option Addr) (m e : Nat) : List Value := [.int .i64 t, .slice a0 n c, .slice a1 m e]
structure PtAt (X : World) (g : Nat) (t : Int) (a0 : Option Addr) (n c : Nat) (a1 : Option Addr) (m e : Nat) (P : List Pla) (G : List Int) : Prop where
  bx : BoxV X g (ptV t a0 n c a1 m e)
  pl : Pls X a0 n c P
  it : Its X a1 m e G
theorem PtAt.below {X Y : World} {g : Nat} {t : Int} {a0 : Option Addr} {n c : Nat} {a1 : Option Addr} {m e : Nat} {P : List Pla} {G : List Int} (h : PtAt X g t a0 n c a1 m e P G) (hb : Below X.heap.size X Y) : PtAt Y g t a0 n c a1 m e P G := ⟨h.bx.below hb, h.pl.below hb, h.it.below hb⟩
theorem PtAt.new {w : World} {t : Int} {a0 : Option Addr} {n c : Nat} {a1 : Option Addr} {m e : Nat} {P : List Pla} {G : List Int} (h1 : Pls w a0 n c P) (h2 : Its w a1 m e G) (ty : TypeId) : PtAt (w.alloc (.cells #[.int .i64 t, .slice a0 n c, .slice a1 m e] ty)) w.heap.size t a0 n c a1 m e P G := by
  have hb := below_boxP (w := w) #[.int .i64 t, .slice a0 n c, .slice a1 m e] ty
  exact ⟨boxV_new w (ptV t a0 n c a1 m e) ty, h1.below hb, h2.below hb⟩
section
variable {X : World} {g : Nat} {t : Int} {a0 : Option Addr} {n c : Nat} {a1 : Option Addr} {m e : Nat} {P : List Pla} {G : List Int}
theorem PtAt.c0 (h : PtAt X g t a0 n c a1 m e P G) : X.cell? ⟨g, 0, none⟩ = some (.int .i64 t) := h.bx.c 0 _ rfl
theorem PtAt.c1 (h : PtAt X g t a0 n c a1 m e P G) : X.cell? ⟨g, 1, none⟩ = some (.slice a0 n c) := h.bx.c 1 _ rfl
theorem PtAt.c2 (h : PtAt X g t a0 n c a1 m e P G) : X.cell? ⟨g, 2, none⟩ = some (.slice a1 m e) := h.bx.c 2 _ rfl
end
/-- the text of a point -/
def ptT (t n : Int) (P : List Pla) (G : List Int) : ByteArray := ⟨(ptL t n P G).toArray⟩
theorem ptT_list (t n : Int) (P : List Pla) (G : List Int) : (ptT t n P G).data.toList = ptL t n P G := rfl
theorem ptT_no {t n : Int} {P : List Pla} {G : List Int} (h : ptE t n P G ≠ 0) : ptT t n P G = ⟨#[]⟩ := by unfold ptT; rw [ptL_no h]
theorem ptT_size {t n : Int} {P : List Pla} {G : List Int} (h : ptE t n P G = 0) : (ptT t n P G).size = 15 + (imB P G).length := by
  show (ptL t n P G).length = _
  rw [ptL_ok h, selS_len, ptB_len]; omega
theorem ptT_small (t n : Int) (P : List Pla) (G : List Int) : (ptT t n P G).size ≤ 400 := by
  by_cases h : ptE t n P G = 0
  · rw [ptT_size h]
    have := ptB_small n (ptE_ok h).2.2
    rw [ptB_len] at this
    omega
  · rw [ptT_no h]; show 0 ≤ 400; omega
end Go.Proofs.YtbakgobgjfhhhaaDoor

/- A map in a box, with its lists. -/
namespace Go.Proofs.YtbakgobgjfhhhaaDoor
open Go.RowKit

structure MapAt (X : World) (g : Nat) (a0 : Option Addr) (n c : Nat) (a1 : Option Addr) (m e : Nat) (P : List Pla) (G : List Int) : Prop where
  bx : BoxV X g [.slice a0 n c, .slice a1 m e]
  pl : Pls X a0 n c P
  it : Its X a1 m e G
theorem MapAt.below {X Y : World} {g : Nat} {a0 : Option Addr} {n c : Nat} {a1 : Option Addr} {m e : Nat} {P : List Pla} {G : List Int} (h : MapAt X g a0 n c a1 m e P G) (hb : Below X.heap.size X Y) : MapAt Y g a0 n c a1 m e P G := ⟨h.bx.below hb, h.pl.below hb, h.it.below hb⟩
theorem MapAt.new {w : World} {a0 : Option Addr} {n c : Nat} {a1 : Option Addr} {m e : Nat} {P : List Pla} {G : List Int} (h1 : Pls w a0 n c P) (h2 : Its w a1 m e G) (t : TypeId) : MapAt (w.alloc (.cells #[.slice a0 n c, .slice a1 m e] t)) w.heap.size a0 n c a1 m e P G := by
  have hb := below_boxP (w := w) #[.slice a0 n c, .slice a1 m e] t
  exact ⟨boxV_new w _ t, h1.below hb, h2.below hb⟩
theorem MapAt.c0 {X : World} {g : Nat} {a0 : Option Addr} {n c : Nat} {a1 : Option Addr} {m e : Nat} {P : List Pla} {G : List Int} (h : MapAt X g a0 n c a1 m e P G) : X.cell? ⟨g, 0, none⟩ = some (.slice a0 n c) := h.bx.c 0 _ rfl
theorem MapAt.c1 {X : World} {g : Nat} {a0 : Option Addr} {n c : Nat} {a1 : Option Addr} {m e : Nat} {P : List Pla} {G : List Int} (h : MapAt X g a0 n c a1 m e P G) : X.cell? ⟨g, 1, none⟩ = some (.slice a1 m e) := h.bx.c 1 _ rfl
end Go.Proofs.YtbakgobgjfhhhaaDoor

/- A place and a generation are written in a map of the call's own. -/
namespace Go.Proofs.YtbakgobgjfhhhaaDoor
open Go.RowKit

theorem getD_setM {α : Type} (l : List α) (k i : Nat) (x d : α) (h : i < l.length) : (l.set k x).getD i d = if k = i then x else l.getD i d := by
  rw [List.getD_eq_getElem?_getD, List.getD_eq_getElem?_getD, List.getElem?_set]
  by_cases e : k = i
  · subst e; rw [if_pos rfl, if_pos rfl, if_pos h]; rfl
  · rw [if_neg e, if_neg e]
theorem plC_set (P : List Pla) (k : Nat) (p : Pla) (hk : k < P.length) : plC (P.set k p) = ((plC P).set (k * 2) (.int .i64 p.cl)).set (k * 2 + 1) (.int .i64 p.nh) := by
  apply List.ext_getElem?
  intro j
  by_cases hj : j < P.length * 2
  · obtain ⟨i, r, hr, rfl⟩ : ∃ i r, r < 2 ∧ j = i * 2 + r := ⟨j / 2, j % 2, by omega, by omega⟩
    have hi : i < (P.set k p).length := by rw [List.length_set]; omega
    have hi' : i < P.length := by omega
    have e := plC_at (P.set k p) i hi
    have e' := plC_at P i hi'
    rw [getD_setM P k i p noPl hi'] at e
    have l1 : (plC P).length = P.length * 2 := plC_length P
    rcases (by omega : r = 0 ∨ r = 1) with rfl | rfl
    · rw [Nat.add_zero, e.1, List.getElem?_set_ne (by omega)]
      by_cases he : k = i
      · subst he; rw [if_pos rfl, List.getElem?_set_self (by omega)]
      · rw [if_neg he, List.getElem?_set_ne (by omega), e'.1]
    · rw [e.2]
      by_cases he : k = i
      · subst he; rw [if_pos rfl, List.getElem?_set_self (by rw [List.length_set]; omega)]
      · rw [if_neg he, List.getElem?_set_ne (by omega), List.getElem?_set_ne (by omega), e'.2]
  · rw [List.getElem?_eq_none (by rw [plC_length, List.length_set]; omega), List.getElem?_eq_none (by rw [List.length_set, List.length_set, plC_length]; omega)]
theorem inC_set (G : List Int) (k : Nat) (g : Int) : inC (G.set k g) = (inC G).set k (.int .i64 g) := by
  unfold inC
  rw [List.map_set]
theorem OwnIm.setP {w : World} {N gp n m cap k : Nat} {v : Value} {P : List Pla} {G : List Int} (h : OwnIm w N (.slice (some ⟨gp, 0, none⟩) n cap) v n m P G) (hk : k < n) (p : Pla) :
    OwnIm ((w.setCell ⟨gp, k * 2, none⟩ (.int .i64 p.cl)).setCell ⟨gp, k * 2 + 1, none⟩ (.int .i64 p.nh)) N (.slice (some ⟨gp, 0, none⟩) n cap) v n m (P.set k p) G := by
  refine ⟨?_, ?_, h.ap, by rw [List.length_set]; exact h.lp, h.lg⟩
  · have := ((h.rp.stored (k * 2) (.int .i64 p.cl)).1.stored (k * 2 + 1) (.int .i64 p.nh)).1
    rw [plC_set _ _ _ (by rw [h.lp]; exact hk)]
    exact this
  · refine h.rg.kept (row := some gp) ⟨rfl, rfl, rfl, by simp [World.setCell], fun q _ hq => ?_⟩ ?_
    · rw [heap_setCell_other _ _ _ _ (by intro e; exact hq (by simp [e])), heap_setCell_other _ _ _ _ (by intro e; exact hq (by simp [e]))]
    · rcases h.ap with h1 | h1
      · simp [Value.ownBlock] at h1
      · simp only [Value.ownBlock] at h1
        exact .inr (Ne.symm h1)
theorem OwnIm.setG {w : World} {N gg n m cap k : Nat} {u : Value} {P : List Pla} {G : List Int} (h : OwnIm w N u (.slice (some ⟨gg, 0, none⟩) m cap) n m P G) (g : Int) :
    OwnIm (w.setCell ⟨gg, k, none⟩ (.int .i64 g)) N u (.slice (some ⟨gg, 0, none⟩) m cap) n m P (G.set k g) := by
  refine ⟨?_, ?_, h.ap, h.lp, by rw [List.length_set]; exact h.lg⟩
  · refine h.rp.kept (row := some gg) ⟨rfl, rfl, rfl, by simp [World.setCell], fun q _ hq => heap_setCell_other _ _ _ _ (by intro e; exact hq (by simp [e]))⟩ ?_
    rcases h.ap with h1 | h1
    · exact .inl h1
    · simp only [Value.ownBlock] at h1 ⊢
      exact .inr h1
  · have := (h.rg.stored k (.int .i64 g)).1
    rw [inC_set]
    exact this
theorem OwnIm.cellP {w : World} {N gp n m cap k : Nat} {v : Value} {P : List Pla} {G : List Int} (h : OwnIm w N (.slice (some ⟨gp, 0, none⟩) n cap) v n m P G) (hk : k < n) :
    w.cell? ⟨gp, k * 2, none⟩ = some (.int .i64 (P.getD k noPl).cl) ∧ w.cell? ⟨gp, k * 2 + 1, none⟩ = some (.int .i64 (P.getD k noPl).nh) ∧ w.frozen? ⟨gp, k * 2, none⟩ = false ∧ w.frozen? ⟨gp, k * 2 + 1, none⟩ = false :=
  ⟨by rw [h.rp.cellAt _ (by omega), (plC_at _ _ (by rw [h.lp]; exact hk)).1], by rw [h.rp.cellAt _ (by omega), (plC_at _ _ (by rw [h.lp]; exact hk)).2], h.rp.frozenAt _, h.rp.frozenAt _⟩
theorem OwnIm.cellG {w : World} {N gg n m cap k : Nat} {u : Value} {P : List Pla} {G : List Int} (h : OwnIm w N u (.slice (some ⟨gg, 0, none⟩) m cap) n m P G) (hk : k < m) :
    w.cell? ⟨gg, k, none⟩ = some (.int .i64 (G.getD k 0)) ∧ w.frozen? ⟨gg, k, none⟩ = false :=
  ⟨by rw [h.rg.cellAt _ (by omega), inC_at _ _ (by rw [h.lg]; exact hk)], h.rg.frozenAt _⟩
theorem OwnIm.blk {w : World} {N n m : Nat} {u v : Value} {P : List Pla} {G : List Int} (h : OwnIm w N u v n m P G) (hn : 0 < n) (hm : 0 < m) : ∃ gp cp gg cg, u = .slice (some ⟨gp, 0, none⟩) n cp ∧ v = .slice (some ⟨gg, 0, none⟩) m cg ∧ N ≤ gp ∧ N ≤ gg ∧ gp ≠ gg ∧ gp < w.heap.size ∧ gg < w.heap.size := by
  obtain ⟨gp, cp, rfl, h1, h2, _⟩ := own_some h.rp hn
  obtain ⟨gg, cg, rfl, h3, h4, _⟩ := own_some h.rg hm
  refine ⟨gp, cp, gg, cg, rfl, rfl, h1, h3, ?_, h2, h4⟩
  rcases h.ap with h | h
  · simp [Value.ownBlock] at h
  · simpa [Value.ownBlock] using h
theorem OwnIm.nil (w : World) (N : Nat) : OwnIm w N (.slice none 0 0) (.slice none 0 0) 0 0 [] [] := ⟨World.ownsRow_nil _ _ _ _, World.ownsRow_nil _ _ _ _, .inl rfl, rfl, rfl⟩
end Go.Proofs.YtbakgobgjfhhhaaDoor

/- What imap.Fresh answers. -/
namespace Go.Proofs.YtbakgobgjfhhhaaDoor
open Go.RowKit

theorem fresh_own {X : World} {N ga gb : Nat} {MA MB : Array Value} (h1 : N ≤ ga) (h2 : N ≤ gb) (hne : ga ≠ gb) (ha : X.heap[ga]? = some (.cells MA 67 (0, 0))) (hb : X.heap[gb]? = some (.cells MB 3 (0, 0))) (hA : MA.toList = plC frA) (hB : MB.toList = inC frG) :
    OwnIm X N (.slice (some ⟨ga, 0, none⟩) 48 48) (.slice (some ⟨gb, 0, none⟩) 48 48) 48 48 frA frG :=
  ⟨row_of_blockM h1 ha (by unfold maxLen; omega) (by rw [← Array.length_toList, hA, plC_length, frA, List.length_replicate]) hA, row_of_blockM h2 hb (by unfold maxLen; omega) (by rw [← Array.length_toList, hB, inC_length, frG, List.length_replicate]) hB, .inr (by simp [Value.ownBlock]; exact hne), by rw [frA, List.length_replicate], by rw [frG, List.length_replicate]⟩
theorem heap2M (W : World) (A B : Obj) : (((W.alloc A).alloc B).drew).heap[W.heap.size]? = some A ∧ (((W.alloc A).alloc B).drew).heap[W.heap.size + 1]? = some B := by
  have s1 : (W.alloc A).heap.size = W.heap.size + 1 := by simp
  refine ⟨?_, ?_⟩
  · show ((W.alloc A).alloc B).heap[W.heap.size]? = _
    rw [heap_alloc_old _ _ (by omega), heap_alloc_new]
  · show ((W.alloc A).alloc B).heap[W.heap.size + 1]? = _
    rw [← s1, heap_alloc_new]
/-- what Fresh answers -/
def FreshA (w' : World) (N : Nat) (e : Ending) : Prop := ∃ a b, e = .returned (.agg #[.slice (some ⟨a, 0, none⟩) 48 48, .slice (some ⟨b, 0, none⟩) 48 48]) ∧ OwnIm w' N (.slice (some ⟨a, 0, none⟩) 48 48) (.slice (some ⟨b, 0, none⟩) 48 48) 48 48 frA frG
set_option maxRecDepth 20000 in
set_option maxHeartbeats 1600000 in
theorem fresh_any (w : World) : Calls Tryd.prog 20 #[] w fun e w' => FreshA w' w.heap.size e ∧ Below w.heap.size w w' := by
  have mk1 := make_plas
  have mk2 := make_ints
  have HA := Hid.mk' made_plas
  have HBB := Hid.mk' made_ints
  have HX := Hid.mk' (boxV_new w [.slice none 0 0, .slice none 0 0] 25)
  have HB := Hid.mk' (below_boxP (w := w) #[.slice none 0 0, .slice none 0 0] 25)
  generalize madeCells #[.int .i64 0, .int .i64 0] 96 = MA at *
  generalize madeCells #[.int .i64 0] 48 = MB at *
  go_enter Tryd.func20, Tryd.ntmps20
  go_wp2_with fail
  obtain ⟨W0, hW0⟩ : ∃ W, Hid (w.alloc (.cells #[.slice none 0 0, .slice none 0 0] 25) = W) := ⟨_, Hid.mk' rfl⟩
  have hs0 : Hid (W0.heap.size = w.heap.size + 1) := by show _ = _; rw [← hW0.out]; simp
  rw [hW0.out] at HX HB ⊢
  have hAB := fun A B => ((((HX.out.alloc A).alloc B).drew))
  have HAB := Hid.mk' hAB
  have hBB : ∀ A B, Below w.heap.size w (((W0.alloc A).alloc B).drew) := fun A B => ((HB.out.alloc HB.out.size A).alloc (by simp; have := HB.out.size; omega) B).drew
  have HBl := Hid.mk' hBB
  have c0 : ∀ A B, (((W0.alloc A).alloc B)).cell? ⟨w.heap.size, 0, none⟩ = some (.slice none 0 0) := fun A B => (hAB A B).c 0 _ rfl
  have c1 : ∀ A B, (((W0.alloc A).alloc B)).cell? ⟨w.heap.size, 1, none⟩ = some (.slice none 0 0) := fun A B => (hAB A B).c 1 _ rfl
  have f0 : ∀ A B, (((W0.alloc A).alloc B)).frozen? ⟨w.heap.size, 0, none⟩ = false := fun A B => (hAB A B).f 0 (by simp)
  have f1 : ∀ A B, (((W0.alloc A).alloc B)).frozen? ⟨w.heap.size, 1, none⟩ = false := fun A B => (hAB A B).f 1 (by simp)
  clear hAB hBB
  go_region
  · have hb := HAB.out (.cells MA 67) (.cells MB 3)
    have hl := heap2M W0 (.cells MA 67) (.cells MB 3)
    have ho := fresh_own (N := w.heap.size + 1) (by have := hs0.out; omega) (by have := hs0.out; omega) (by omega) hl.1 hl.2 HA.out HBB.out
    have hs := (ho.setLow (a := ⟨w.heap.size, 0, none⟩) (by show w.heap.size < _; omega) (.slice (some ⟨W0.heap.size, 0, none⟩) 48 48)).setLow (a := ⟨w.heap.size, 1, none⟩) (by show w.heap.size < _; omega) (.slice (some ⟨W0.heap.size + 1, 0, none⟩) 48 48)
    have hb2 := hb.set2M (.slice (some ⟨W0.heap.size, 0, none⟩) 48 48) (.slice (some ⟨W0.heap.size + 1, 0, none⟩) 48 48)
    have hl2 := (((HBl.out (.cells MA 67) (.cells MB 3)).setCell (p := ⟨w.heap.size, 0, none⟩) (Nat.le_refl _) (.slice (some ⟨W0.heap.size, 0, none⟩) 48 48)).setCell (p := ⟨w.heap.size, 1, none⟩) (Nat.le_refl _) (.slice (some ⟨W0.heap.size + 1, 0, none⟩) 48 48))
    clear c0 c1 f0 f1
    go_wp2_with fail
    refine bodyPost_ret (results_boxV1 rfl _ _ w.heap.size 2 _ rfl hb2 rfl infoSzIm (aggIm _)) rfl ⟨⟨_, _, rfl, hs.mono (by omega)⟩, hl2⟩
  · have hb := HAB.out (.cells MB 3) (.cells MA 67)
    have hl := heap2M W0 (.cells MB 3) (.cells MA 67)
    have ho := fresh_own (N := w.heap.size + 1) (by have := hs0.out; omega) (by have := hs0.out; omega) (by omega) hl.2 hl.1 HA.out HBB.out
    have hs := (ho.setLow (a := ⟨w.heap.size, 0, none⟩) (by show w.heap.size < _; omega) (.slice (some ⟨W0.heap.size + 1, 0, none⟩) 48 48)).setLow (a := ⟨w.heap.size, 1, none⟩) (by show w.heap.size < _; omega) (.slice (some ⟨W0.heap.size, 0, none⟩) 48 48)
    have hb2 := hb.set2M (.slice (some ⟨W0.heap.size + 1, 0, none⟩) 48 48) (.slice (some ⟨W0.heap.size, 0, none⟩) 48 48)
    have hl2 := (((HBl.out (.cells MB 3) (.cells MA 67)).setCell (p := ⟨w.heap.size, 0, none⟩) (Nat.le_refl _) (.slice (some ⟨W0.heap.size + 1, 0, none⟩) 48 48)).setCell (p := ⟨w.heap.size, 1, none⟩) (Nat.le_refl _) (.slice (some ⟨W0.heap.size, 0, none⟩) 48 48))
    clear c0 c1 f0 f1
    go_wp2_with fail
    refine bodyPost_ret (results_boxV1 rfl _ _ w.heap.size 2 _ rfl hb2 rfl infoSzIm (aggIm _)) rfl ⟨⟨_, _, rfl, hs.mono (by omega)⟩, hl2⟩
end Go.Proofs.YtbakgobgjfhhhaaDoor

/- What imap.Fresh answers, to be read. -/
namespace Go.Proofs.YtbakgobgjfhhhaaDoor
open Go.RowKit

theorem plaB_none : PlaB noPl := ⟨⟨by decide, by decide⟩, ⟨by decide, by decide⟩⟩
theorem fresh_plaB : ∀ p ∈ frA, PlaB p := by
  intro p hp
  rw [frA] at hp
  rw [(List.mem_replicate.1 hp).2]
  exact plaB_none
theorem fresh_i64 : ∀ g ∈ frG, I64 g := by
  intro g hg
  rw [frG] at hg
  rw [(List.mem_replicate.1 hg).2]
  exact ⟨by decide, by decide⟩
/-- what Fresh answers, to be read -/
theorem fresh_maps {w' : World} {N : Nat} {z : Ending} (h : FreshA w' N z) : ∃ a c b e, z = .returned (.agg #[.slice a 48 c, .slice b 48 e]) ∧ Pls w' a 48 c frA ∧ Its w' b 48 e frG := by
  obtain ⟨a, b, rfl, ho⟩ := h
  obtain ⟨a0, c, a1, e, h1, h2, h3, h4⟩ := ho.pls (by omega) (by omega) fresh_plaB fresh_i64
  exact ⟨a0, c, a1, e, by rw [h1, h2], h3, h4⟩
end Go.Proofs.YtbakgobgjfhhhaaDoor
