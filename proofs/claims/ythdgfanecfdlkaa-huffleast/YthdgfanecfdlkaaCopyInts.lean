/- copy over rows of whole numbers. -/
import Derived.Test.YthdgfanecfdlkaaI64s
import Derived.Test.YthdgfanecfdlkaaCellsC
import Derived.Laws.IdiomCopy
import Derived.Laws.Bits64b
import Derived.Deep.RegionHeld3
namespace Go.Proofs.Ythdgfanecfdlkaa
open Go.RowKit

/-- copy as a step of a region, by its run -/
theorem step_copy_run {P : Program} {ops : Array Oper} {o : Oper} {a : Act} {w : World} {K : Act → World → Prop} {Q : Exit → Act → World → Prop} {E : Prop}
    (hg : o.guard = none) (d s : Operand) (t : TypeId) (hop : o.op = Op.call { callee := Callee.builtin Builtin.copy, args := #[d, s], argTypes := #[t, t] })
    (v u : Value) (hd : a.eval d = v) (hs : a.eval s = u) {v' : Value} {w' : World} (hr : (Builtin.copy_ #[t, t] o.type #[v, u]).run P w = .ok v' w')
    (hK : K (a.put o.dst v') w') :
    if Region.wanted o (yielded ops a.tmps) = true then Oper.wp P o a w K Q else E := by
  have hw : Region.wanted o (yielded ops a.tmps) = true := by simp [Region.wanted, hg]
  rw [if_pos hw]
  unfold Oper.wp
  simp [execOp, hop, resolve, invoke, builtin, hd, hs, hr, Result.andThen]
  exact hK
theorem infoSz : (Try.prog.info? 3).map (·.size) = some 1 := by kernel_rfl
theorem Row64.copy {w : World} {g n : Nat} {f : Nat → Int} (h : Row64 w g n f) (k : Nat) (c : Nat → Int) (m : Nat) (hk : k + m ≤ n) :
    Row64 (w.setCells g k (cellsC c m)) g n (fun i => if k ≤ i ∧ i < k + m then c (i - k) else f i) := by
  refine ⟨fun i hi => ?_, fun i hi => ?_, ?_⟩
  · by_cases hin : k ≤ i ∧ i < k + m
    · rw [if_pos hin]
      have hj : i - k < (cellsC c m).length := by rw [cellsC_length]; omega
      have := World.cell?_setCells_in g (cellsC c m) k w (fun j hj => by rw [cellsC_length] at hj; rw [h.cell (k + j) (by omega)]; rfl) (i - k) hj
      rw [show k + (i - k) = i by omega] at this
      rw [this]
      simp [cellsC]
    · rw [if_neg hin, World.cell?_setCells_out g (cellsC c m) k w _ (fun _ _ => by rw [cellsC_length]; show i < k ∨ k + m ≤ i; omega)]
      exact h.cell i hi
  · rw [World.frozen?_setCells]; exact h.open' i hi
  · have : ∀ (vs : List Value) (o : Nat) (w : World), (w.setCells g o vs).heap.size = w.heap.size := by
      intro vs
      induction vs with
      | nil => intro o w; rfl
      | cons v r ih => intro o w; rw [World.setCells, ih]; simp [World.setCell]
    rw [this]; exact h.lt
theorem Row64.drewD {w : World} {g n : Nat} {f : Nat → Int} (h : Row64 w g n f) : Row64 w.drew g n f := ⟨h.cell, h.open', h.lt⟩
theorem below_cells {B g : Nat} {w0 : World} : ∀ (vs : List Value) (o : Nat) (w : World), Below B w0 w → B ≤ g → Below B w0 (w.setCells g o vs) := by
  intro vs
  induction vs with
  | nil => intro o w h _; exact h
  | cons v r ih => intro o w h hg; rw [World.setCells]; exact ih _ _ (h.setCell hg _) hg
theorem copy_row {w : World} {g n : Nat} {f : Nat → Int} (h : Row64 w g n f) (k : Nat) (c : Nat → Int) (m : Nat) (hm : k + m ≤ n) (dLen dCap sLen sCap : Nat) (a : Addr) (hn : m = Nat.min sLen dLen) (hsrc : ∀ j, j < m → w.cell? (a.add j) = some (.int .i64 (c j))) (ty : TypeId) :
    (Builtin.copy_ #[22, 22] ty #[.slice (some ⟨g, k, none⟩) dLen dCap, .slice (some a) sLen sCap]).run Try.prog w = .ok (.int .i64 (m : Int)) (w.setCells g k (cellsC c m)) := by
  have := run_copy_cells (P := Try.prog) w 22 22 ty 3 g k dLen dCap a sLen sCap (cellsC c m) Try.underlying22 infoSz (by rw [cellsC_length]; exact hn)
    (fun j v hj => by
      have hlt : j < m := by have h1 := (List.getElem?_eq_some_iff.1 hj).1; rwa [cellsC_length] at h1
      rw [cellsC_at _ _ _ hlt] at hj
      rw [hsrc j hlt]; exact hj)
    (fun j hj => by rw [cellsC_length] at hj; rw [h.cell (k + j) (by omega)]; rfl) (fun j hj => by rw [cellsC_length] at hj; exact h.open' _ (by omega)) (cellsC_one _ _)
  rw [this, cellsC_length]; rfl
end Go.Proofs.Ythdgfanecfdlkaa
