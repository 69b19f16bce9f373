/- Maps of inodes in rows of the call's own. -/
import Derived.Test.YtbakgobgjfhhhaaDoorPl
import Derived.Test.YtbakgobgjfhhhaaDoorImMath
import Derived.Test.YtbakgobgjfhhhaaDoorBoxV
import Derived.Test.YtbakgobgjfhhhaaDoorGrowAt
import Derived.Laws.OwnMore
import Derived.Deep.Onto
namespace Go.Proofs.YtbakgobgjfhhhaaDoor
open Go.RowKit

theorem infoPlO : (Tryd.prog.info? 67).map (fun i => (i.zero, i.size, i.bytes)) = some (some (.agg #[.int .i64 0, .int .i64 0]), 2, 16) := by kernel_rfl
theorem infoInO : (Tryd.prog.info? 3).map (fun i => (i.zero, i.size, i.bytes)) = some (some (.int .i64 0), 1, 8) := by kernel_rfl
theorem infoSzIm : (Tryd.prog.info? 25).map (·.size) = some 2 := by kernel_rfl
theorem aggIm (w : World) : (isAgg 25).run Tryd.prog w = .ok true w := by
  unfold isAgg
  rw [Sem.run_bind, run_underlying Tryd.underlying25 w]
  rfl
theorem results_boxV1 {P : Program} {t : TypeId} {fn : Func} {p : Tmp} (h : fn.results = #[.cell p t]) (tmps : Array Value) (w : World) (g n : Nat) (vs : List Value) (hp : tmps.getD p undef = .pointer (some ⟨g, 0, none⟩)) (hb : BoxV w g vs) (hn : vs.length = n) (hs : (P.info? t).map (·.size) = some n) (hagg : (isAgg t).run P w = .ok true w) :
    (results fn tmps).run P w = .ok (.agg vs.toArray) w := by
  have hp' : tmps[p]?.getD undef = .pointer (some ⟨g, 0, none⟩) := by simpa using hp
  simp [results, h, hp', asAddr, load_boxV hb hn hs hagg]
theorem results_boxV2M {P : Program} {t : TypeId} {fn : Func} {p q : Tmp} (h : fn.results = #[.cell p t, .tmp q]) (tmps : Array Value) (w : World) (g n : Nat) (vs : List Value) (u : Value) (hp : tmps.getD p undef = .pointer (some ⟨g, 0, none⟩)) (hq : tmps.getD q undef = u) (hb : BoxV w g vs) (hn : vs.length = n) (hs : (P.info? t).map (·.size) = some n) (hagg : (isAgg t).run P w = .ok true w) :
    (results fn tmps).run P w = .ok (.tuple #[.agg vs.toArray, u]) w := by
  have hp' : tmps[p]?.getD undef = .pointer (some ⟨g, 0, none⟩) := by simpa using hp
  have hq' : tmps[q]?.getD undef = u := by simpa using hq
  simp [results, h, hp', hq', asAddr, load_boxV hb hn hs hagg]
theorem BoxV.set2M {w : World} {g : Nat} {a b : Value} (h : BoxV w g [a, b]) (a' b' : Value) : BoxV ((w.setCell ⟨g, 0, none⟩ a').setCell ⟨g, 1, none⟩ b') g [a', b'] :=
  (h.set 0 a' (by simp)).set 1 b' (by simp)
/-- a map in rows of the call's own -/
structure OwnIm (w : World) (N : Nat) (u v : Value) (n m : Nat) (P : List Pla) (G : List Int) : Prop where
  rp : w.ownsRow N 67 2 u n (plC P)
  rg : w.ownsRow N 3 1 v m (inC G)
  ap : Apart u v
  lp : P.length = n
  lg : G.length = m
theorem OwnIm.below {w w' : World} {N : Nat} {u v : Value} {n m : Nat} {P : List Pla} {G : List Int} (h : OwnIm w N u v n m P G) (hb : Below w.heap.size w w') : OwnIm w' N u v n m P G := ⟨own_below h.rp hb, own_below h.rg hb, h.ap, h.lp, h.lg⟩
theorem OwnIm.mono {w : World} {N N' : Nat} {u v : Value} {n m : Nat} {P : List Pla} {G : List Int} (h : OwnIm w N u v n m P G) (hb : N' ≤ N) : OwnIm w N' u v n m P G := ⟨h.rp.mono hb, h.rg.mono hb, h.ap, h.lp, h.lg⟩
/-- a store into an older block -/
theorem OwnIm.setLow {w : World} {N : Nat} {u v : Value} {n m : Nat} {P : List Pla} {G : List Int} (h : OwnIm w N u v n m P G) {a : Addr} (ha : a.block < N) (x : Value) : OwnIm (w.setCell a x) N u v n m P G :=
  ⟨ownsRow_setCell_below h.rp ha x, ownsRow_setCell_below h.rg ha x, h.ap, h.lp, h.lg⟩
theorem OwnIm.pls {w : World} {N : Nat} {u v : Value} {n m : Nat} {P : List Pla} {G : List Int} (h : OwnIm w N u v n m P G) (hn : n ≤ 48) (hm : m ≤ 48) (hP : ∀ p ∈ P, PlaB p) (hG : ∀ g ∈ G, I64 g) :
    ∃ a0 c a1 e, u = .slice a0 n c ∧ v = .slice a1 m e ∧ Pls w a0 n c P ∧ Its w a1 m e G := by
  obtain ⟨a0, c, rfl, h0⟩ := pls_own h.rp h.lp (by omega) hP
  obtain ⟨a1, e, rfl, h1⟩ := its_own h.rg h.lg (by omega) hG
  exact ⟨a0, c, a1, e, rfl, rfl, h0, h1⟩
theorem row_of_blockM {w : World} {N g n size : Nat} {e : TypeId} {cur : Array Value} {xs : List Value} (hb : N ≤ g) (hg : w.heap[g]? = some (.cells cur e (0, 0))) (hn : n ≤ maxLen) (hs : cur.size = n * size) (hx : cur.toList = xs) : w.ownsRow N e size (.slice (some ⟨g, 0, none⟩) n n) n xs :=
  ⟨by rw [← hx, Array.length_toList, hs], .inr ⟨g, n, cur, rfl, hb, hg, Nat.le_refl _, hn, hs, by rw [← hx, List.take_of_length_le]; rw [Array.length_toList, hs]; exact Nat.le_refl _⟩⟩
theorem make_plas (w : World) : (Instr.makeSlice 22 (.int .i64 48) (.int .i64 48)).run Tryd.prog w = .ok (.slice (some ⟨w.heap.size, 0, none⟩) 48 48) (w.alloc (.cells (madeCells #[.int .i64 0, .int .i64 0] 96) 67)) := by
  obtain ⟨i, hi, hzz⟩ := Option.map_eq_some_iff.1 infoPlO
  simp only [Prod.mk.injEq] at hzz
  obtain ⟨hz, hs, hb⟩ := hzz
  have hr := run_make (P := Tryd.prog) w 22 67 i _ Tryd.underlying22 hi hz .i64 .i64 48 48 (by omega) (Int.le_refl _) (by rw [hb]; decide) (by decide)
  simp only [hs] at hr
  exact hr
theorem make_ints (w : World) : (Instr.makeSlice 23 (.int .i64 48) (.int .i64 48)).run Tryd.prog w = .ok (.slice (some ⟨w.heap.size, 0, none⟩) 48 48) (w.alloc (.cells (madeCells #[.int .i64 0] 48) 3)) :=
  run_make_row' (P := Tryd.prog) 23 3 (.int .i64 0) 8 Tryd.underlying23 infoInO rfl .i64 .i64 48 (by omega) (by omega) w
theorem made_plas : (madeCells #[.int .i64 0, .int .i64 0] 96).toList = plC frA := by kernel_rfl
theorem made_ints : (madeCells #[.int .i64 0] 48).toList = inC frG := by kernel_rfl
end Go.Proofs.YtbakgobgjfhhhaaDoor
