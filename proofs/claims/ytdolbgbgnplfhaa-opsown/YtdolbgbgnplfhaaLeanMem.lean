/- The blocks that ops.Lean keeps while it goes. -/
import Derived.Test.YtdolbgbgnplfhaaLeanKit
import Derived.Test.YtdolbgbgnplfhaaGrowAt
import Derived.Test.YtdolbgbgnplfhaaGrownKit
import Derived.Maps.AppendAt
namespace Go.Proofs.Ytdolbgbgnplfhaa
open Go.RowKit Go.Shelf Go.WideMaps Go.Maps
attribute [local go_sem] Oper.semAt_some

theorem infoOpL : (Try.prog.info? 29).map (fun i => (i.zero, i.size, i.bytes)) = some (some (.agg #[.int .i64 0, .int .i64 0, .string ⟨#[]⟩]), 3, 32) := by kernel_rfl
/-- an op in a box of its own -/
def BoxOp (W : World) (B : Nat) (o : Opp) : Prop := W.heap[B]? = some (.cells #[.int .i64 o.kd, .int .i64 o.pl, .string o.tx] 29 (0, 0))
theorem BoxOp.lt {W : World} {B : Nat} {o : Opp} (h : BoxOp W B o) : B < W.heap.size := (Array.getElem?_eq_some_iff.1 h).1
theorem BoxOp.c0 {W : World} {B : Nat} {o : Opp} (h : BoxOp W B o) : W.cell? ⟨B, 0, none⟩ = some (.int .i64 o.kd) := by simp [World.cell?, show W.heap[B]? = _ from h]
theorem BoxOp.c1 {W : World} {B : Nat} {o : Opp} (h : BoxOp W B o) : W.cell? ⟨B, 1, none⟩ = some (.int .i64 o.pl) := by simp [World.cell?, show W.heap[B]? = _ from h]
theorem BoxOp.c2 {W : World} {B : Nat} {o : Opp} (h : BoxOp W B o) : W.cell? ⟨B, 2, none⟩ = some (.string o.tx) := by simp [World.cell?, show W.heap[B]? = _ from h]
theorem BoxOp.new (W : World) (o : Opp) : BoxOp (W.alloc (.cells #[.int .i64 o.kd, .int .i64 o.pl, .string o.tx] 29)) W.heap.size o := World.alloc_heap_new W _
theorem BoxOp.kept {W W' : World} {row : Option Nat} {B : Nat} {o : Opp} (h : BoxOp W B o) (hg : W.grownBy W' row) (hne : some B ≠ row) : BoxOp W' B o := (hg.block B h.lt hne).trans h

theorem BoxOp.keptC {W W' : World} {row : Option Nat} {B : Nat} {o : Opp} (h : BoxOp W B o) (hg : W.grownBy W' row) (hr : ∀ r, row = some r → ∃ o : Obj, W.heap[r]? = some o ∧ o.isCells = false) : BoxOp W' B o :=
  h.kept hg fun e => by
    obtain ⟨o', h1, h2⟩ := hr B e.symm
    rw [show W.heap[B]? = _ from h] at h1
    cases h1
    cases h2
/-- what the loop of ops.Lean has in memory: boxes at s (the ops kept), s + 1 (the end), s + 3 (the map at s + 2) -/
structure LeanM (s : Nat) (vS : Value) (W : World) (k e : Nat) (D : DataW Unit) (v : Value) (Rs : List Opp) : Prop where
  bL : Boxed W s 26 v
  bE : Boxed W (s + 1) 3 (.int .i64 (e : Int))
  bM : Boxed W (s + 1 + 1 + 1) 65 (.map (some (s + 1 + 1)))
  om : W.ownsMap Try.prog 3 (plainElem (H := Unit) Try.prog 3) (s + 1 + 1) k D
  bS : Boxed W (s + 1 + 1 + 1 + 1) 26 vS
  rw' : W.ownsRow s 29 3 v Rs.length (opC Rs)
theorem LeanM.kept {s k e : Nat} {vS : Value} {D : DataW Unit} {v : Value} {Rs : List Opp} {W W' : World} {row : Option Nat} (h : LeanM s vS W k e D v Rs) (hg : W.grownBy W' row) (hr : ∀ r, row = some r → s + 4 < r ∧ ∃ o : Obj, W.heap[r]? = some o ∧ o.isCells = false) : LeanM s vS W' k e D v Rs := by
  have hne : ∀ b, b ≤ s + 4 → some b ≠ row := fun b hb e => by have := (hr b e.symm).1; omega
  obtain ⟨v', b1, b2, rfl⟩ := holdsRow_own s s 26 29 3 (fun l : List Opp => l.length) (fun l => opC l) (fun _ v' => v' = v) Rs W W' row ⟨v, h.bL, h.rw', rfl⟩ hg (fun r e => (hr r e).2)
  exact ⟨b1, h.bE.kept hg (hne _ (by omega)), h.bM.kept hg (hne _ (by omega)), h.om.kept hg (hne _ (by omega)), h.bS.kept hg (hne _ (by omega)), b2⟩
theorem LeanM.keptN {s k e : Nat} {vS : Value} {D : DataW Unit} {v : Value} {Rs : List Opp} {W W' : World} (h : LeanM s vS W k e D v Rs) (hg : W.grownBy W' none) : LeanM s vS W' k e D v Rs := h.kept hg (by simp)
theorem LeanM.drew {s k e : Nat} {vS : Value} {D : DataW Unit} {v : Value} {Rs : List Opp} {W : World} (h : LeanM s vS W k e D v Rs) : LeanM s vS W.drew k e D v Rs := h.keptN (grown_drew (grown_refl _ _))
theorem LeanM.setE {s k e : Nat} {vS : Value} {D : DataW Unit} {v : Value} {Rs : List Opp} {W : World} (h : LeanM s vS W k e D v Rs) (x : Nat) : LeanM s vS (W.setCell ⟨s + 1, 0, none⟩ (.int .i64 (x : Int))) k x D v Rs := by
  have hg := grownBy_setCell' W (s + 1) (.int .i64 (x : Int))
  have hne : ∀ b, b ≠ s + 1 → some b ≠ some (s + 1) := fun b hb e => hb (Option.some.inj e)
  exact ⟨h.bL.kept hg (hne _ (by omega)), h.bE.set _, h.bM.kept hg (hne _ (by omega)), h.om.kept hg (hne _ (by omega)), h.bS.kept hg (hne _ (by omega)), h.rw'.kept hg (.inr (h.bE.not_row (by decide) h.rw').symm)⟩
theorem LeanM.setM {s k e : Nat} {vS : Value} {D D' : DataW Unit} {v : Value} {Rs : List Opp} {W W' : World} (h : LeanM s vS W k e D v Rs) (hg : W.grownBy W' (some (s + 1 + 1))) (hown : W'.ownsMap Try.prog 3 (plainElem (H := Unit) Try.prog 3) (s + 1 + 1) (k + 1) D') : LeanM s vS W' (k + 1) e D' v Rs := by
  have hne : ∀ b, b ≠ s + 1 + 1 → some b ≠ some (s + 1 + 1) := fun b hb e => hb (Option.some.inj e)
  obtain ⟨es, ck, hh, _⟩ := h.om
  obtain ⟨v', b1, b2, rfl⟩ := holdsRow_own s s 26 29 3 (fun l : List Opp => l.length) (fun l => opC l) (fun _ v' => v' = v) Rs W W' (some (s + 1 + 1)) ⟨v, h.bL, h.rw', rfl⟩ hg (fun r e => by cases e; exact ⟨_, hh, rfl⟩)
  exact ⟨b1, h.bE.kept hg (hne _ (by omega)), h.bM.kept hg (hne _ (by omega)), hown, h.bS.kept hg (hne _ (by omega)), b2⟩
theorem LeanM.more {s k e : Nat} {vS : Value} {D : DataW Unit} {v : Value} {Rs : List Opp} {W : World} (h : LeanM s vS W k e D v Rs) : LeanM s vS W (k + 1) e D v Rs := ⟨h.bL, h.bE, h.bM, h.om.mono (by omega), h.bS, h.rw'⟩
theorem LeanM.lt {s k e : Nat} {vS : Value} {D : DataW Unit} {v : Value} {Rs : List Opp} {W : World} (h : LeanM s vS W k e D v Rs) : s + 4 < W.heap.size := h.bS.lt
theorem LeanM.appended {s k e : Nat} {vS : Value} {D : DataW Unit} {v v' : Value} {Rs : List Opp} {o : Opp} {W w1 : World} {tmp : Obj} (h : LeanM s vS W k e D v Rs) (hown' : w1.ownsRow s 29 3 v' (Rs.length + 1) (opC Rs ++ op3 o)) (hgrow : (W.alloc tmp).grownBy w1 v.ownBlock) :
    Boxed w1 s 26 v ∧ LeanM s vS (w1.setCell ⟨s, 0, none⟩ v') k e D v' (Rs ++ [o]) ∧ KeepsOthers W (w1.setCell ⟨s, 0, none⟩ v') ∧ Below s W (w1.setCell ⟨s, 0, none⟩ v') := by
  have hlt := h.lt
  obtain ⟨a1, a2, a3, a4, a5⟩ := h.bL.appended (by decide) h.rw' (by omega) (Nat.le_refl _) hown' hgrow
  have hg := grownBy_setCell' w1 s v'
  have hne : ∀ b, b ≠ s → some b ≠ some s := fun b hb e => hb (Option.some.inj e)
  have hk : ∀ {b : Nat} {t : TypeId} {u : Value}, b ≠ s → t ≠ 29 → Boxed W b t u → Boxed (w1.setCell ⟨s, 0, none⟩ v') b t u := fun hb ht hx => ((hx.alloc tmp).kept hgrow ((hx.alloc tmp).not_row ht (h.rw'.alloc tmp))).kept hg (hne _ hb)
  obtain ⟨es, ck, hh, F, hs, hD⟩ := h.om
  refine ⟨a1, ⟨a2, hk (by omega) (by decide) h.bE, hk (by omega) (by decide) h.bM, ⟨es, ck, a4.same _ _ hh rfl, F, hs, hD⟩, hk (by omega) (by decide) h.bS, ?_⟩, a4, a5⟩
  rw [opC_snoc, List.length_append]; exact a3
theorem op3_one (o : Opp) : ∀ u ∈ op3 o, u.oneCell' = true := by
  intro u hu
  simp only [op3, List.mem_cons, List.not_mem_nil, or_false] at hu
  rcases hu with rfl | rfl | rfl <;> rfl
theorem cells_op3 (w : World) (o : Opp) (t : TypeId) : ∀ j u, (op3 o)[j]? = some u → (w.alloc (.cells #[.int .i64 o.kd, .int .i64 o.pl, .string o.tx] t)).cell? ((⟨w.heap.size, 0, none⟩ : Addr).add j) = some u := by
  intro j u hj
  rw [addR, Nat.zero_add, World.cell?_alloc_new]
  match j with
  | 0 => exact hj
  | 1 => exact hj
  | 2 => exact hj
  | j + 3 => simp [op3] at hj
theorem keeps_of_below {W W' : World} (h : Below W.heap.size W W') : KeepsOthers W W' := ⟨h.size, fun k _ hk _ => (h.block k (Array.getElem?_eq_some_iff.1 hk).1).trans hk⟩
end Go.Proofs.Ytdolbgbgnplfhaa
