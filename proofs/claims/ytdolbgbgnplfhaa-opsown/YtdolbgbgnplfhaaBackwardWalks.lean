/- What slices.Backward gives, over ops: the places from the last to the first, each with its op. -/
import Derived.RangeFuncNested
import Derived.RangeFuncBox
import Derived.RangeFuncBound
import Derived.RangeFuncCalls
import Derived.RangeFuncLeaves
import Derived.Shelf.Abstract
import Derived.WalkKit
import Derived.OwnWalkIn
import Derived.TacticsInMore
import Derived.LoopNIn
import Derived.LoopIn
import Derived.Test.YtdolbgbgnplfhaaOps
namespace Go.Proofs.Ytdolbgbgnplfhaa
open Go.RowKit Go.Shelf
attribute [local go_sem] Oper.semAt_some

/-- an op as one value -/
def opV (o : Opp) : Value := .agg #[.int .i64 o.kd, .int .i64 o.pl, .string o.tx]
/-- a place below n -/
abbrev Plc (n : Nat) := { k : Nat // k < n }
/-- the places from the last down to k -/
def dn (n k : Nat) : List Nat := ((List.range n).drop k).reverse
theorem dn_top (n : Nat) : dn n n = [] := by
  unfold dn
  rw [List.drop_of_length_le (by simp)]; rfl
theorem dn_step (n k : Nat) (h : k < n) : dn n k = dn n (k + 1) ++ [k] := by
  unfold dn
  rw [List.drop_eq_getElem_cons (by simpa using h), List.reverse_cons, List.getElem_range]
theorem dn_len (n k : Nat) : (dn n k).length = n - k := by simp [dn]

/-- ops that lie below n₀ -/
def OpsAt (n₀ : Nat) (W : World) (a0 : Option Addr) (n : Nat) (L : List Opp) : Prop :=
  ∀ k, k < n → ∃ b off, a0 = some ⟨b, off, none⟩ ∧ b < n₀ ∧ W.cell? ⟨b, off + k * 3, none⟩ = some (.int .i64 (L.getD k noOp).kd) ∧ W.cell? ⟨b, off + k * 3 + 1, none⟩ = some (.int .i64 (L.getD k noOp).pl) ∧ W.cell? ⟨b, off + k * 3 + 2, none⟩ = some (.string (L.getD k noOp).tx)
theorem OpsAt.below {n₀ : Nat} {A B : World} {a0 : Option Addr} {n : Nat} {L : List Opp} (h : Below n₀ A B) (hO : OpsAt n₀ A a0 n L) : OpsAt n₀ B a0 n L := by
  intro k hk
  obtain ⟨b, off, e, hb, c0, c1, c2⟩ := hO k hk
  exact ⟨b, off, e, hb, (h.cell (p := ⟨b, _, none⟩) hb).trans c0, (h.cell (p := ⟨b, _, none⟩) hb).trans c1, (h.cell (p := ⟨b, _, none⟩) hb).trans c2⟩
theorem OpsAt.of {W : World} {a0 : Option Addr} {n cap : Nat} {L : List Opp} (h : Ops W a0 n cap L) : OpsAt W.heap.size W a0 n L := fun k hk => h.at k hk

/-- what lay below n₀ lies on, and so does the box Bs -/
def KpB (n₀ Bs : Nat) (W W' : World) : Prop := Below n₀ W W' ∧ ∀ v, W.cell? ⟨Bs, 0, none⟩ = some v → W'.cell? ⟨Bs, 0, none⟩ = some v
theorem KpB.refl (n₀ Bs : Nat) (W : World) : KpB n₀ Bs W W := ⟨Below.refl _ _, fun _ h => h⟩
theorem kpB_t {n₀ Bs : Nat} {A B C : World} (h : KpB n₀ Bs A B) (k : KpB n₀ Bs B C) : KpB n₀ Bs A C := ⟨h.1.trans k.1, fun v hv => k.2 v (h.2 v hv)⟩
theorem kpB_b {n₀ Bs : Nat} {w : World} (hn : n₀ ≤ w.heap.size) (hB : Bs < w.heap.size) (W : World) (l : Nat) (o o' : Obj) (hl : w.heap.size ≤ l) (h : W.heap[l]? = some o) (h1 : o.isCells = false) (h2 : o.isWalk = false) : KpB n₀ Bs W (W.putObj l o') :=
  ⟨belowK_b hn W l o o' hl h h1 h2, fun v hv => ((belowK_b (n₀ := Bs + 1) (by omega) W l o o' hl h h1 h2).cell (p := ⟨Bs, 0, none⟩) (show Bs < Bs + 1 by omega)).trans hv⟩

set_option maxRecDepth 100000 in
set_option maxHeartbeats 2000000 in
/-- slices.Backward's closure, for every body that keeps what lay below n₀ -/
theorem back1_in (F : Fence) (m : Nat) (hf : F.fn 46) (hro : F.round = none) (hn : 1 ≤ m) (l Bs n₀ : Nat) (a0 : Option Addr) (n cap : Nat) (L : List Opp) (hreach : n ≤ 8796093022208) (J Jx : List (Plc n) → World → Prop)
    (hY : ∀ pre x W, J pre W → pre.length < n → YieldAt F (m - 1) Try.prog l #[.int .i64 (x.1 : Int), opV (L.getD x.1 noOp)] W fun e W' =>
      (e = .returned (.bool true) ∧ J (pre ++ [x]) W' ∧ KpB n₀ Bs W W') ∨ (e = .returned (.bool false) ∧ Jx (pre ++ [x]) W'))
    (W : World) (hBs : W.cell? ⟨Bs, 0, none⟩ = some (.slice a0 n cap)) (hc : OpsAt n₀ W a0 n L) (h0 : J [] W) :
    CallsIn F m Try.prog 46 #[.func (.yield l) #[] #[], .pointer (some ⟨Bs, 0, none⟩)] W fun e W' => (∃ v, e = .returned v) ∧
      ((∃ ys, ys.map Subtype.val = dn n 0 ∧ J ys W') ∨ (∃ pre, True ∧ Jx pre W')) := by
  refine callsIn_of_wp Try.func46 rfl hf ?_ hro
  simp only [Try.ntmps46, List.size_toArray, List.length_cons, List.length_nil, Nat.reduceAdd, Nat.reduceSub, Array.replicate_succ, Array.replicate_zero, List.push_toArray, List.append_toArray, List.nil_append, List.cons_append]
  gi_wp2
  gi_loopw [3] (fun i wr => ∃ (k : Nat) (pre : List (Plc n)), k ≤ n ∧ i = .int .i64 ((k : Int) - 1) ∧ pre.map Subtype.val = dn n k ∧ J pre wr ∧ KpB n₀ Bs W wr)
    (fun i _ => (intOf i + 1).toNat)
  case atStart => exact ⟨n, [], Nat.le_refl _, by go_num, (dn_top n).symm, h0, KpB.refl _ _ _⟩
  case round =>
    obtain ⟨k, pre, hk, rfl, hpre, hJs, hnx⟩ := hrel
    have hBx := hnx.2 _ hBs
    rcases Nat.eq_zero_or_pos k with rfl | hpos
    · gi_wp2
      go_end0
      exact ⟨⟨_, rfl⟩, .inl ⟨pre, hpre, hJs⟩⟩
    · obtain ⟨j, rfl⟩ : ∃ j, k = j + 1 := ⟨k - 1, by omega⟩
      obtain ⟨b, off, rfl, hb, c0, c1, c2⟩ := (hc.below hnx.1) j (by omega)
      have hlen : pre.length = n - (j + 1) := by rw [← dn_len n (j + 1), ← hpre, List.length_map]
      obtain ⟨fn, tmps, assign, body, hy, hR⟩ := hY pre ⟨j, by omega⟩ wr hJs (by omega)
      have ej : ((j + 1 : Nat) : Int) - 1 = (j : Int) := by omega
      rw [ej]
      dsimp only [opV] at hy
      generalize L.getD j noOp = x at hy c0 c1 c2
      gi_wp2
      refine hR.mono ?_
      rintro e W3 (⟨rfl, hJ3, hk3⟩ | ⟨rfl, hJx3⟩)
      · gi_wp2
        go_roundw
        case rel => exact ⟨j, _, by omega, by go_num, by rw [List.map_append, hpre, dn_step n j (by omega)]; rfl, hJ3, kpB_t hnx hk3⟩
        case measure => simp [intOf]
      · gi_wp2
        refine bodyPost_ret (results_none rfl _ _ _) rfl ?_
        exact ⟨⟨_, rfl⟩, .inr ⟨_, trivial, hJx3⟩⟩
set_option maxHeartbeats 1000000 in
/-- slices.Backward(s): the slice is boxed, the function value captures the box -/
theorem back_in (F : Fence) (m : Nat) (hf : F.fn 35) (hro : F.round = none) (a : Option Addr) (len cap : Nat) (w : World) :
    CallsIn F m Try.prog 35 #[.slice a len cap] w fun e w' => e = .returned (.func (.func 46) #[] #[.pointer (some ⟨w.heap.size, 0, none⟩)]) ∧ w' = w.alloc (.cells #[.slice a len cap] 26) := by
  refine callsIn_of_wp Try.func35 rfl hf ?_ hro
  simp only [Try.ntmps35, List.size_toArray, List.length_cons, List.length_nil, Nat.reduceAdd, Nat.reduceSub, Array.replicate_succ, Array.replicate_zero, List.push_toArray, List.append_toArray, List.nil_append, List.cons_append]
  gi_wp2
  go_ret
  exact ⟨rfl, rfl⟩
/-- what it gives: the places from the last to the first, with their ops -/
theorem back_stops (F : Fence) (m : Nat) (hf : F.fn 46) (hro : F.round = none) (hn : 1 ≤ m) (Bs n₀ : Nat) (a0 : Option Addr) (n cap : Nat) (L : List Opp) (hreach : n ≤ 8796093022208) (w : World) (hBs : Bs < w.heap.size) (hn₀ : n₀ ≤ w.heap.size)
    (hc : w.cell? ⟨Bs, 0, none⟩ = some (.slice a0 n cap)) (hO : OpsAt n₀ w a0 n L) :
    SeqStopsK F m Try.prog 46 #[.pointer (some ⟨Bs, 0, none⟩)] (fun x : Plc n => #[Value.int .i64 (x.1 : Int), opV (L.getD x.1 noOp)]) (KpB n₀ Bs) (fun ys => ys.map Subtype.val = dn n 0) (fun _ => True) n w :=
  fun l J Jx W hW _ _ hY h0 =>
    back1_in F m hf hro hn l Bs n₀ a0 n cap L hreach J Jx hY W ((hW.cell (p := ⟨Bs, 0, none⟩) hBs).trans hc) (hO.below (hW.mono hn₀)) h0
end Go.Proofs.Ytdolbgbgnplfhaa
