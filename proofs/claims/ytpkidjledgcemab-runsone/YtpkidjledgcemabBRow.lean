/- A row of bytes of the call's own that was made of a text: one byte more, one byte turned. -/
import Derived.Test.YtpkidjledgcemabBase
import Derived.Test.YtpkidjledgcemabNumPutWalks
import Derived.Laws.IdiomStrings
import Derived.OwnWalk
namespace Go.Proofs.Ytpkidjledgcemab
open Go.RowKit

structure BRow (w : World) (base : Nat) (v : Value) (l : List UInt8) : Prop where
  is : ∃ g cap, v = .slice (some ⟨g, 0, none⟩) l.length cap ∧ base ≤ g ∧ g < w.heap.size ∧ l.length ≤ cap ∧ cap ≤ maxLen ∧
    (∀ j (h : j < l.length), w.cell? ⟨g, j, none⟩ = some (.int .u8 (l[j].toNat : Int))) ∧ (∀ j, j < cap → ∃ u, w.cell? ⟨g, j, none⟩ = some u) ∧ (∀ j, j < cap → w.frozen? ⟨g, j, none⟩ = false)
theorem cell_new1 (w : World) (v : Value) (t : TypeId) : (w.alloc (.cells #[v] t)).cell? ⟨w.heap.size, 0, none⟩ = some v := by rw [World.cell?_alloc_new]; rfl
theorem addB (g o k : Nat) : (⟨g, o, none⟩ : Addr).add k = ⟨g, o + k, none⟩ := by unfold Addr.add; split <;> simp_all
theorem BRow.kept {w w' : World} {base : Nat} {v : Value} {l : List UInt8} (h : BRow w base v l) (hb : Below w.heap.size w w') : BRow w' base v l := by
  obtain ⟨g, cap, hv, h1, h2, h3, h4, h5, h6, h7⟩ := h.is
  have hc : ∀ j, w'.cell? ⟨g, j, none⟩ = w.cell? ⟨g, j, none⟩ := fun j => hb.cell (p := ⟨g, j, none⟩) h2
  have hf : ∀ j, w'.frozen? ⟨g, j, none⟩ = w.frozen? ⟨g, j, none⟩ := fun j => World.frozen?_of_block (w := w) (a := ⟨g, j, none⟩) (hb.block g h2)
  exact ⟨g, cap, hv, h1, Nat.lt_of_lt_of_le h2 hb.size, h3, h4, fun j hj => (hc j).trans (h5 j hj), fun j hj => by rw [hc]; exact h6 j hj, fun j hj => (hf j).trans (h7 j hj)⟩
theorem BRow.alloc {w : World} {base : Nat} {v : Value} {l : List UInt8} (h : BRow w base v l) (o : Obj) : BRow (w.alloc o) base v l := h.kept ((Below.refl _ _).alloc (Nat.le_refl _) o)
theorem below_dN {B : Nat} {a w : World} (h : Below B a w) (q : Nat) : Below B a (w.drewN q) := ⟨h.os, h.tape, h.output, h.size, h.block⟩
theorem BRow.drewN {w : World} {base : Nat} {v : Value} {l : List UInt8} (h : BRow w base v l) (q : Nat) : BRow (w.drewN q) base v l := h.kept (below_dN (Below.refl _ _) q)
theorem BRow.string {w : World} {base : Nat} {v : Value} {l : List UInt8} (h : BRow w base v l) : (convert 50 9 v).run Try.prog w = .ok (.string ⟨l.toArray⟩) w := by
  obtain ⟨g, cap, rfl, h1, h2, h3, h4, h5, h6, h7⟩ := h.is
  refine run_convert_bytes_back w 50 9 5 ⟨g, 0, none⟩ cap l Try.underlying50 Try.underlying5 Try.underlying9 fun j hj => ?_
  rw [addB, Nat.zero_add]
  exact h5 j hj
/-- made of a text -/
theorem bytes_made (l : List UInt8) (w : World) (base : Nat) (hb : base ≤ w.heap.size) (hl : l.length ≤ 1048576) : ∃ v w', (convert 9 50 (.string ⟨l.toArray⟩)).run Try.prog w = .ok v w' ∧ BRow w' base v l ∧ Below w.heap.size w w' := by
  have hsz : (⟨l.toArray⟩ : ByteArray).size = l.length := rfl
  have hge := grownCap_ge w l.length 0 5
  have hle := grownCap_le_maxLen w l.length 0 5 (by unfold maxLen; omega)
  have hr := run_bytes_of_string (P := Try.prog) w 9 50 5 ⟨l.toArray⟩ Try.underlying9 Try.underlying50 Try.underlying5
  rw [hsz] at hr
  generalize grownCap w l.length 0 5 = cap at *
  have hrow : (bytesRow ⟨l.toArray⟩ cap).size = cap := by unfold bytesRow; simp [hsz]; omega
  refine ⟨_, _, hr, ⟨w.heap.size, cap, rfl, hb, by simp, hge, hle, fun j hj => ?_, fun j hj => ?_, fun j hj => ?_⟩, ?_⟩
  · rw [cell_of_row _ w.heap.size j _ _ _ (heap_alloc_new w.drew _)]
    exact bytesRow_at ⟨l.toArray⟩ cap j (by simpa using hj)
  · refine ⟨(bytesRow ⟨l.toArray⟩ cap)[j]'(by omega), ?_⟩
    rw [cell_of_row _ w.heap.size j _ _ _ (heap_alloc_new w.drew _)]
    exact Array.getElem?_eq_getElem _
  · rw [hrow]
    unfold World.frozen?
    rw [show (w.drew.alloc (.cells (bytesRow ⟨l.toArray⟩ cap) 5 (cap, cap + 1))).heap[w.heap.size]? = _ from heap_alloc_new w.drew _]
    simp; omega
  · exact ((Below.refl _ _).drew).alloc (Nat.le_refl _) _
theorem BRow.set {w : World} {base : Nat} {g cap k : Nat} {l : List UInt8} (h : BRow w base (.slice (some ⟨g, 0, none⟩) l.length cap) l) (hk : k < l.length) (x : UInt8) :
    BRow (w.setCell ⟨g, k, none⟩ (.int .u8 (x.toNat : Int))) base (.slice (some ⟨g, 0, none⟩) l.length cap) (l.set k x) := by
  obtain ⟨g', cap', hv, h1, h2, h3, h4, h5, h6, h7⟩ := h.is
  simp only [Value.slice.injEq, Option.some.injEq, Addr.mk.injEq, and_true, true_and] at hv
  obtain ⟨rfl, rfl⟩ := hv
  refine ⟨g, cap, by rw [List.length_set], h1, by simpa [World.setCell] using h2, by rw [List.length_set]; exact h3, h4, fun j hj => ?_, fun j hj => ?_, fun j hj => ?_⟩
  · have hj2 : j < l.length := by simpa using hj
    by_cases e : j = k
    · subst e
      rw [List.getElem_set_self]
      exact World.cell?_setCell_same _ _ _ (h5 j hj2)
    · rw [List.getElem_set_ne (by omega), World.cell?_setCell_other _ _ _ _ (by intro he; simp only [Addr.mk.injEq] at he; omega)]
      exact h5 j hj2
  · by_cases e : j = k
    · subst e
      exact ⟨_, World.cell?_setCell_same _ _ _ (h5 j hk)⟩
    · rw [World.cell?_setCell_other _ _ _ _ (by intro he; simp only [Addr.mk.injEq] at he; omega)]
      exact h6 j hj
  · rw [World.frozen?_setCell]; exact h7 j hj
theorem run_append_brow (w : World) (base : Nat) (ty : TypeId) (i : TypeInfo) (h2 : Try.prog.info? 5 = some i) (h3 : i.zero = some (.int .u8 0)) (h4 : i.size = 1) (h5 : i.bytes = 1)
    (v : Value) (l : List UInt8) (hv : BRow w base v l) (a : Addr) (c : Nat) (x : UInt8) (hx : w.cell? a = some (.int .u8 (x.toNat : Int))) (hl : l.length ≤ 1048576) (hb : base ≤ w.heap.size) :
    ∃ v' w', (Builtin.append_ #[50, 50] ty #[v, .slice (some a) 1 c]).run Try.prog w = .ok v' w' ∧ BRow w' base v' (l ++ [x]) ∧ w.grownBy w' v.ownBlock := by
  obtain ⟨g, cap, rfl, k1, k2, k3, k4, k5, k6, k7⟩ := hv.is
  have hnews : ∀ j u, [Value.int .u8 (x.toNat : Int)][j]? = some u → w.cell? (a.add j) = some u := by
    intro j u hj
    cases j with
    | zero =>
      have e : a.add 0 = a := by unfold Addr.add; cases a with | mk b o s => cases s <;> simp
      rw [e, hx]; simpa using hj
    | succ j => simp at hj
  by_cases hroom : l.length + 1 ≤ cap
  · have hf := run_firstCells_some (P := Try.prog) w i.size 1 a 1 c [.int .u8 (x.toNat : Int)] (by rw [h4]; rfl) hnews
    obtain ⟨u, hu⟩ := k6 l.length (by omega)
    have hst : (storeCells ⟨g, l.length * i.size, none⟩ [.int .u8 (x.toNat : Int)] 0).run Try.prog w = .ok () (w.setCell ⟨g, l.length, none⟩ (.int .u8 (x.toNat : Int))) := by
      have hs1 : (store ((⟨g, l.length * i.size, none⟩ : Addr).add 0) (.int .u8 (x.toNat : Int))).run Try.prog w = .ok () (w.setCell ⟨g, l.length, none⟩ (.int .u8 (x.toNat : Int))) := by
        rw [addB, h4, Nat.mul_one, Nat.add_zero, run_store _ w _ _ _ rfl, hu]
        simp [k7 l.length (by omega)]
      simp only [storeCells, Sem.run_bind, hs1, Result.andThen_ok]
      rfl
    refine ⟨.slice (some ⟨g, 0, none⟩) (l.length + 1) cap, w.setCell ⟨g, l.length, none⟩ (.int .u8 (x.toNat : Int)), ?_, ⟨g, cap, by simp, k1, by simpa [World.setCell] using k2, by simpa using hroom, k4, fun j hj => ?_, fun j hj => ?_, fun j hj => ?_⟩, ⟨rfl, rfl, rfl, by simp [World.setCell], fun k _ hk => heap_setCell_other _ _ _ _ (by intro e; exact hk (by simp [Value.ownBlock, e]))⟩⟩
    · simp [Builtin.append_, run_underlying Try.underlying50, sizeOf, typeInfo, h2, Builtin.lenOf, hroom, hf, Addr.add_lit, hst]
    · by_cases e : j = l.length
      · subst e
        rw [List.getElem_append_right (Nat.le_refl _)]
        simp only [Nat.sub_self, List.getElem_cons_zero]
        exact World.cell?_setCell_same _ _ _ hu
      · have hj2 : j < l.length := by simp at hj; omega
        rw [List.getElem_append_left hj2, World.cell?_setCell_other _ _ _ _ (by intro he; simp only [Addr.mk.injEq] at he; omega)]
        exact k5 j hj2
    · by_cases e : j = l.length
      · subst e
        exact ⟨_, World.cell?_setCell_same _ _ _ hu⟩
      · rw [World.cell?_setCell_other _ _ _ _ (by intro he; simp only [Addr.mk.injEq] at he; omega)]
        exact k6 j hj
    · rw [World.frozen?_setCell]; exact k7 j hj
  · have hg := run_append_grow (P := Try.prog) w 50 ty 5 i (.int .u8 0) Try.underlying50 h2 h3 ⟨g, 0, none⟩ l.length cap (cellsB l) (by rw [h4]; simp [cellsB]) (by
        intro j u hj
        have hjl : j < l.length := by have := (List.getElem?_eq_some_iff.1 hj).1; simpa [cellsB] using this
        rw [addB, Nat.zero_add, k5 j hjl]
        simp only [cellsB, List.getElem?_map, List.getElem?_eq_getElem hjl] at hj
        exact hj) a 1 c [.int .u8 (x.toNat : Int)] (by rw [h4]; rfl) hnews (by omega) (by omega) (by rw [h5]; exact growslice_fits (by omega) (by omega))
    have hge := grownCap_ge w (l.length + 1) cap 5
    have hle := grownCap_le_maxLen w (l.length + 1) cap 5 (by unfold maxLen; omega)
    generalize grownCap w (l.length + 1) cap 5 = cp at *
    have hz1 : (Value.int IntKind.u8 0).cells.size = 1 := rfl
    refine ⟨_, _, hg, ⟨w.heap.size, cp, by simp, hb, by simp, by simpa using hge, hle, fun j hj => ?_, fun j hj => ?_, fun j hj => ?_⟩, ⟨rfl, rfl, rfl, by simp, fun k hk _ => heap_alloc_old w.drew _ hk⟩⟩
    · rw [cell_of_row _ w.heap.size j _ _ _ (heap_alloc_new w.drew _)]
      have hj2 : j < l.length + 1 := by simpa using hj
      have e : (cellsB l).toArray ++ [Value.int .u8 (x.toNat : Int)].toArray = (cellsB (l ++ [x])).toArray := by rw [cellsB_snoc]; simp
      rw [e, Array.getElem?_append_left (by simp [cellsB]; omega)]
      show (cellsB (l ++ [x])).toArray[j]? = _
      rw [List.getElem?_toArray]
      unfold cellsB
      rw [List.getElem?_map, List.getElem?_eq_getElem hj]
      rfl
    · rw [cell_of_row _ w.heap.size j _ _ _ (heap_alloc_new w.drew _)]
      have : j < ((cellsB l).toArray ++ [Value.int .u8 (x.toNat : Int)].toArray ++ Builtin.zeroCells (Value.int IntKind.u8 0).cells (cp - (l.length + 1))).size := by
        simp only [Array.size_append, List.size_toArray, size_zeroCells, hz1, cellsB, List.length_map, List.length_cons, List.length_nil]
        omega
      exact ⟨_, Array.getElem?_eq_getElem this⟩
    · unfold World.frozen?
      rw [show (w.drew.alloc (.cells _ 5)).heap[w.heap.size]? = _ from heap_alloc_new w.drew _]
      rfl
theorem wpList_append_brow {ops : Array Oper} {rest : List Oper} {o : Oper} {a : Act} {w : World} {Q : Exit → Act → World → Prop} (hgd : o.guard = none) (s x : Operand)
    (ho : o.op = .call { callee := .builtin .append, args := #[s, x], argTypes := #[50, 50] })
    (base : Nat) (i : TypeInfo) (h2 : Try.prog.info? 5 = some i) (h3 : i.zero = some (.int .u8 0)) (h4 : i.size = 1) (h5 : i.bytes = 1)
    (v : Value) (l : List UInt8) (hs : a.eval s = v) (hv : BRow w base v l) (ad : Addr) (c : Nat) (y : UInt8) (hx : a.eval x = .slice (some ad) 1 c) (hy : w.cell? ad = some (.int .u8 (y.toNat : Int))) (hl : l.length ≤ 1048576) (hb : base ≤ w.heap.size)
    (h : ∀ v' w', BRow w' base v' (l ++ [y]) → w.grownBy w' v.ownBlock → wpList Try.prog ops Q rest (a.put o.dst v') w') : wpList Try.prog ops Q (o :: rest) a w := by
  refine wpList_plain hgd fun K hK => ?_
  obtain ⟨v', w', hr, k2, k3⟩ := run_append_brow w base o.type i h2 h3 h4 h5 v l hv ad c y hy hl hb
  unfold Oper.wp execOp
  simp only [ho, resolve, invoke, builtin, Sem.run_bind, Sem.run_pure, Result.andThen_ok, List.map_toArray, List.map_cons, List.map_nil, hs, hx, hr]
  exact hK _ _ (h v' w' k2 k3)
theorem BRow.lt {w : World} {base : Nat} {v : Value} {l : List UInt8} (h : BRow w base v l) : ∀ k, v.ownBlock = some k → base ≤ k ∧ k < w.heap.size := by
  obtain ⟨g, cap, rfl, k1, k2, _⟩ := h.is
  intro k hk
  simp only [Value.ownBlock, Option.some.injEq] at hk
  subst hk
  exact ⟨k1, k2⟩
end Go.Proofs.Ytpkidjledgcemab
