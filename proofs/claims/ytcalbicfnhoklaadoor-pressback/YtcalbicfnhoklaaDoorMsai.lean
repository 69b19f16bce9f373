/- Texts of ours, one behind the other: Box3 I64s GrownKit RowV CanonWalks RowPc PackWalks RunsWds -/
import Derived.Test.YtcalbicfnhoklaaDoorMsac
import Derived.Deep.OwnRows
import Derived.Laws.Rows
import Derived.OwnWalk
import Derived.WalkMore
import Derived.Test.YtcalbicfnhoklaaDoorMsad

/- A mark in a block of its own. -/
namespace Go.Proofs.YtcalbicfnhoklaaDoor
open Go.RowKit

/-- a mark in a block of its own -/
structure Box3 (w : World) (g : Nat) (x y : Int) (z : Nat) : Prop where
  c0 : w.cell? ⟨g, 0, none⟩ = some (.int .i64 x)
  c1 : w.cell? ⟨g, 1, none⟩ = some (.int .i64 y)
  c2 : w.cell? ⟨g, 2, none⟩ = some (.int .u8 (z : Int))
  f0 : w.frozen? ⟨g, 0, none⟩ = false
  f1 : w.frozen? ⟨g, 1, none⟩ = false
  f2 : w.frozen? ⟨g, 2, none⟩ = false
  lt : g < w.heap.size
theorem box3_new (w : World) (x y : Int) (z : Nat) (t : TypeId) : Box3 (w.alloc (.cells #[.int .i64 x, .int .i64 y, .int .u8 (z : Int)] t)) w.heap.size x y z := by
  have hf : ∀ p : Nat, (w.alloc (.cells #[.int .i64 x, .int .i64 y, .int .u8 (z : Int)] t)).frozen? ⟨w.heap.size, p, none⟩ = false := fun p => by
    unfold World.frozen?
    rw [heap_alloc_new]
    rfl
  refine ⟨?_, ?_, ?_, hf 0, hf 1, hf 2, by simp⟩ <;> (rw [World.cell?_alloc_new]; rfl)
theorem Box3.set {w : World} {g : Nat} {x y : Int} {z : Nat} (h : Box3 w g x y z) (x' y' : Int) (z' : Nat) :
    Box3 (((w.setCell ⟨g, 0, none⟩ (.int .i64 x')).setCell ⟨g, 1, none⟩ (.int .i64 y')).setCell ⟨g, 2, none⟩ (.int .u8 (z' : Int))) g x' y' z' := by
  refine ⟨?_, ?_, ?_, ?_, ?_, ?_, by simpa [World.setCell] using h.lt⟩
  · rw [World.cell?_setCell_other _ _ _ _ (by simp), World.cell?_setCell_other _ _ _ _ (by simp)]
    exact World.cell?_setCell_same _ _ _ h.c0
  · rw [World.cell?_setCell_other _ _ _ _ (by simp)]
    exact World.cell?_setCell_same _ _ _ (u := .int .i64 y) (by rw [World.cell?_setCell_other _ _ _ _ (by simp)]; exact h.c1)
  · exact World.cell?_setCell_same _ _ _ (u := .int .u8 (z : Int)) (by rw [World.cell?_setCell_other _ _ _ _ (by simp), World.cell?_setCell_other _ _ _ _ (by simp)]; exact h.c2)
  · rw [World.frozen?_setCell, World.frozen?_setCell, World.frozen?_setCell]; exact h.f0
  · rw [World.frozen?_setCell, World.frozen?_setCell, World.frozen?_setCell]; exact h.f1
  · rw [World.frozen?_setCell, World.frozen?_setCell, World.frozen?_setCell]; exact h.f2
theorem Box3.kept {w w' : World} {g : Nat} {x y : Int} {z : Nat} (h : Box3 w g x y z) (hb : Below w.heap.size w w') : Box3 w' g x y z :=
  have hc : ∀ p, w'.cell? ⟨g, p, none⟩ = w.cell? ⟨g, p, none⟩ := fun p => hb.cell (p := ⟨g, p, none⟩) h.lt
  have hf : ∀ p, w'.frozen? ⟨g, p, none⟩ = w.frozen? ⟨g, p, none⟩ := fun p => World.frozen?_of_block (w := w) (a := ⟨g, p, none⟩) (hb.block g h.lt)
  ⟨(hc 0).trans h.c0, (hc 1).trans h.c1, (hc 2).trans h.c2, (hf 0).trans h.f0, (hf 1).trans h.f1, (hf 2).trans h.f2, Nat.lt_of_lt_of_le h.lt hb.size⟩
theorem Box3.kept' {w : World} {g : Nat} {x y : Int} {z : Nat} (h : Box3 w g x y z) (g' : Nat) (hne : g ≠ g') (a b c : Value) : Box3 (((w.setCell ⟨g', 0, none⟩ a).setCell ⟨g', 1, none⟩ b).setCell ⟨g', 2, none⟩ c) g x y z := by
  have hc : ∀ p, (((w.setCell ⟨g', 0, none⟩ a).setCell ⟨g', 1, none⟩ b).setCell ⟨g', 2, none⟩ c).cell? ⟨g, p, none⟩ = w.cell? ⟨g, p, none⟩ := fun p => by
    have hn : ∀ k, (⟨g', k, none⟩ : Addr) ≠ ⟨g, p, none⟩ := fun k e => by simp only [Addr.mk.injEq] at e; omega
    rw [World.cell?_setCell_other _ _ _ _ (hn 2), World.cell?_setCell_other _ _ _ _ (hn 1), World.cell?_setCell_other _ _ _ _ (hn 0)]
  have hf : ∀ p, (((w.setCell ⟨g', 0, none⟩ a).setCell ⟨g', 1, none⟩ b).setCell ⟨g', 2, none⟩ c).frozen? ⟨g, p, none⟩ = w.frozen? ⟨g, p, none⟩ := fun p => by
    rw [World.frozen?_setCell, World.frozen?_setCell, World.frozen?_setCell]
  exact ⟨(hc 0).trans h.c0, (hc 1).trans h.c1, (hc 2).trans h.c2, (hf 0).trans h.f0, (hf 1).trans h.f1, (hf 2).trans h.f2, by simpa [World.setCell] using h.lt⟩
theorem Box3.dN {w : World} {g : Nat} {x y : Int} {z : Nat} (h : Box3 w g x y z) (q : Nat) : Box3 (w.drewN q) g x y z := ⟨h.c0, h.c1, h.c2, h.f0, h.f1, h.f2, h.lt⟩
theorem infoSzM : (Tryd.prog.info? 66).map (·.size) = some 3 := by kernel_rfl
theorem load_box {w : World} {g : Nat} {x y : Int} {z : Nat} (h : Box3 w g x y z) : (loadVar 66 ⟨g, 0, none⟩).run Tryd.prog w = .ok (.agg #[.int .i64 x, .int .i64 y, .int .u8 (z : Int)]) w := by
  have hl := run_loadCells_list (P := Tryd.prog) w ⟨g, 0, none⟩ [.int .i64 x, .int .i64 y, .int .u8 (z : Int)] (fun j v hv => by
    rw [show (⟨g, 0, none⟩ : Addr).add j = ⟨g, j, none⟩ by unfold Addr.add; split <;> simp_all]
    match j with
    | 0 => rw [h.c0]; exact hv
    | 1 => rw [h.c1]; exact hv
    | 2 => rw [h.c2]; exact hv
    | j + 3 => simp at hv)
  obtain ⟨i, hi, hs⟩ := Option.map_eq_some_iff.1 infoSzM
  have hagg : (isAgg 66).run Tryd.prog w = .ok true w := by
    unfold isAgg
    rw [Sem.run_bind, run_underlying Tryd.underlying66 w]
    rfl
  have hl2 : (loadCells ⟨g, 0, none⟩ 3).run Tryd.prog w = .ok #[.int .i64 x, .int .i64 y, .int .u8 (z : Int)] w := hl
  simp [loadVar, Sem.run_bind, hagg, sizeOf, typeInfo, hi, hs, hl2]
theorem results_box {fn : Func} {p : Tmp} (h : fn.results = #[.cell p 66]) (tmps : Array Value) (w : World) (g : Nat) (x y : Int) (z : Nat) (hp : tmps.getD p undef = .pointer (some ⟨g, 0, none⟩)) (hb : Box3 w g x y z) :
    (results fn tmps).run Tryd.prog w = .ok (.agg #[.int .i64 x, .int .i64 y, .int .u8 (z : Int)]) w := by
  have hp' : tmps[p]?.getD undef = .pointer (some ⟨g, 0, none⟩) := by simpa using hp
  simp [results, h, hp', asAddr, load_box hb]
theorem below_set3 {B g : Nat} {w0 w : World} (h : Below B w0 w) (hg : B ≤ g) (x y z : Value) : Below B w0 (((w.setCell ⟨g, 0, none⟩ x).setCell ⟨g, 1, none⟩ y).setCell ⟨g, 2, none⟩ z) := ((h.setCell hg _).setCell hg _).setCell hg _
theorem below_dL {B : Nat} {a w : World} (h : Below B a w) (q : Nat) : Below B a (w.drewN q) := ⟨h.os, h.tape, h.output, h.size, h.block⟩
theorem size_set3 (w : World) (a b c : Addr) (x y z : Value) : (((w.setCell a x).setCell b y).setCell c z).heap.size = w.heap.size := by simp [World.setCell]
theorem results_box2 {fn : Func} {p q : Tmp} (h : fn.results = #[.cell p 66, .tmp q]) (tmps : Array Value) (w : World) (g : Nat) (x y : Int) (z : Nat) (v : Value) (hp : tmps.getD p undef = .pointer (some ⟨g, 0, none⟩)) (hq : tmps.getD q undef = v) (hb : Box3 w g x y z) :
    (results fn tmps).run Tryd.prog w = .ok (.tuple #[.agg #[.int .i64 x, .int .i64 y, .int .u8 (z : Int)], v]) w := by
  have hp' : tmps[p]?.getD undef = .pointer (some ⟨g, 0, none⟩) := by simpa using hp
  have hq' : tmps[q]?.getD undef = v := by simpa using hq
  simp [results, h, hp', hq', asAddr, load_box hb]
end Go.Proofs.YtcalbicfnhoklaaDoor

/- Whole numbers that are answered as a slice, and a row of them that is written. -/
namespace Go.Proofs.YtcalbicfnhoklaaDoor
open Go.RowKit

theorem infoI64 : (Tryd.prog.info? 3).map (fun i => (i.zero, i.size, i.bytes)) = some (some (.int .i64 0), 1, 8) := by kernel_rfl
/-- whole numbers that are answered as a slice -/
structure I64s (w : World) (v : Value) (n : Nat) (f : Nat → Int) : Prop where
  is : ∃ ao cap, v = .slice ao n cap ∧ (0 < n → ∃ g off, ao = some ⟨g, off, none⟩ ∧ g < w.heap.size ∧ ∀ i, i < n → w.cell? ⟨g, off + i, none⟩ = some (.int .i64 (f i)))
theorem i64s_nil (w : World) (f : Nat → Int) : I64s w (.slice none 0 0) 0 f := ⟨none, 0, rfl, fun h => by omega⟩
theorem i64s_below {w w' : World} {v : Value} {n : Nat} {f : Nat → Int} (h : I64s w v n f) (hb : Below w.heap.size w w') : I64s w' v n f := by
  obtain ⟨ao, cap, hv, hc⟩ := h.is
  refine ⟨ao, cap, hv, fun hp => ?_⟩
  obtain ⟨g, off, h1, h2, h3⟩ := hc hp
  exact ⟨g, off, h1, Nat.lt_of_lt_of_le h2 hb.size, fun i hi => (hb.cell (p := ⟨g, off + i, none⟩) h2).trans (h3 i hi)⟩
/-- a row of whole numbers in a block of its own, which may be written -/
structure Row64 (w : World) (g len : Nat) (f : Nat → Int) : Prop where
  cell : ∀ i, i < len → w.cell? ⟨g, i, none⟩ = some (.int .i64 (f i))
  open' : ∀ i, i < len → w.frozen? ⟨g, i, none⟩ = false
  lt : g < w.heap.size
theorem Row64.set {w : World} {g len : Nat} {f : Nat → Int} (h : Row64 w g len f) (k : Nat) (hk : k < len) (x : Int) : Row64 (w.setCell ⟨g, k, none⟩ (.int .i64 x)) g len (fun i => if i = k then x else f i) := by
  refine ⟨fun i hi => ?_, fun i hi => ?_, by simpa [World.setCell] using h.lt⟩
  · by_cases e : i = k
    · subst e
      rw [if_pos rfl]
      exact World.cell?_setCell_same _ _ _ (h.cell i hi)
    · rw [if_neg e, World.cell?_setCell_other _ _ _ _ (by intro h; cases h; exact e rfl)]
      exact h.cell i hi
  · rw [World.frozen?_setCell]; exact h.open' i hi
theorem Row64.congr {w : World} {g len : Nat} {f f' : Nat → Int} (h : Row64 w g len f) (he : ∀ i, i < len → f i = f' i) : Row64 w g len f' :=
  ⟨fun i hi => by rw [← he i hi]; exact h.cell i hi, h.open', h.lt⟩
theorem row64_made (w : World) (len : Nat) (t : TypeId) : Row64 (w.alloc (.cells (madeCells #[.int .i64 0] len) t)) w.heap.size len (fun _ => 0) := by
  refine ⟨fun i hi => ?_, fun i hi => ?_, by simp⟩
  · rw [World.cell?_alloc_new]
    simp [madeCells, hi, Nat.mod_one]
  · unfold World.frozen?
    rw [heap_alloc_new]
    rfl
theorem Row64.i64s {w : World} {g len cap : Nat} {f : Nat → Int} (h : Row64 w g len f) : I64s w (.slice (some ⟨g, 0, none⟩) len cap) len f :=
  ⟨_, _, rfl, fun _ => ⟨g, 0, rfl, h.lt, fun i hi => by rw [Nat.zero_add]; exact h.cell i hi⟩⟩
end Go.Proofs.YtcalbicfnhoklaaDoor

/- Worlds in which one row may be written. -/
namespace Go.Proofs.YtcalbicfnhoklaaDoor
open Go.RowKit

theorem grown_swap {w wr : World} {g : Nat} (h : w.grownBy wr (some g)) (p q : Nat) (x y : Value) : w.grownBy (((wr.setCell ⟨g, p, none⟩ x).setCell ⟨g, q, none⟩ y)) (some g) :=
  ⟨h.os, h.tape, h.output, by simp only [World.setCell, Array.size_modify]; exact h.size,
   fun k hk hne => (heap_setCell_other _ ⟨g, q, none⟩ k y (by intro e; exact hne (by rw [e]))).trans ((heap_setCell_other wr ⟨g, p, none⟩ k x (by intro e; exact hne (by rw [e]))).trans (h.block k hk hne))⟩
theorem grown_drew {w wr : World} {r : Option Nat} (h : w.grownBy wr r) : w.grownBy wr.drew r := ⟨h.os, h.tape, h.output, h.size, h.block⟩
theorem grown_refl (w : World) (r : Option Nat) : w.grownBy w r := ⟨rfl, rfl, rfl, Nat.le_refl _, fun _ _ _ => rfl⟩
theorem grown_trans {a b c : World} {r : Option Nat} (h1 : a.grownBy b r) (h2 : b.grownBy c r) : a.grownBy c r :=
  ⟨h2.os.trans h1.os, h2.tape.trans h1.tape, h2.output.trans h1.output, Nat.le_trans h1.size h2.size, fun k hk hne => (h2.block k (Nat.lt_of_lt_of_le hk h1.size) hne).trans (h1.block k hk hne)⟩
end Go.Proofs.YtcalbicfnhoklaaDoor

/- A row of cells in a block of its own, which may be written. -/
namespace Go.Proofs.YtcalbicfnhoklaaDoor
open Go.RowKit

structure RowV (w : World) (g n : Nat) (f : Nat → Value) : Prop where
  cell : ∀ i, i < n → w.cell? ⟨g, i, none⟩ = some (f i)
  open' : ∀ i, i < n → w.frozen? ⟨g, i, none⟩ = false
  lt : g < w.heap.size
theorem RowV.set {w : World} {g n : Nat} {f : Nat → Value} (h : RowV w g n f) (k : Nat) (hk : k < n) (x : Value) : RowV (w.setCell ⟨g, k, none⟩ x) g n (fun i => if i = k then x else f i) := by
  refine ⟨fun i hi => ?_, fun i hi => ?_, by simpa [World.setCell] using h.lt⟩
  · by_cases e : i = k
    · subst e
      rw [if_pos rfl]
      exact World.cell?_setCell_same _ _ _ (h.cell i hi)
    · rw [if_neg e, World.cell?_setCell_other _ _ _ _ (by intro h; cases h; exact e rfl)]
      exact h.cell i hi
  · rw [World.frozen?_setCell]; exact h.open' i hi
theorem RowV.drew {w : World} {g n : Nat} {f : Nat → Value} (h : RowV w g n f) : RowV w.drew g n f := ⟨h.cell, h.open', h.lt⟩
theorem RowV.block {w w' : World} {g n : Nat} {f : Nat → Value} (h : RowV w g n f) (hb : w'.heap[g]? = w.heap[g]?) (hs : w.heap.size ≤ w'.heap.size) : RowV w' g n f :=
  ⟨fun i hi => (World.cell?_of_block (w := w) (w' := w') (a := ⟨g, i, none⟩) hb).trans (h.cell i hi), fun i hi => (World.frozen?_of_block (w := w) (w' := w') (a := ⟨g, i, none⟩) hb).trans (h.open' i hi), Nat.lt_of_lt_of_le h.lt hs⟩
theorem rowV_made (w : World) (n : Nat) (z : Value) (t : TypeId) : RowV (w.alloc (.cells (madeCells #[z] n) t)) w.heap.size n (fun _ => z) := by
  refine ⟨fun i hi => ?_, fun i hi => ?_, by simp⟩
  · rw [World.cell?_alloc_new]
    simp [madeCells, hi, Nat.mod_one]
  · unfold World.frozen?
    rw [heap_alloc_new]
    rfl
end Go.Proofs.YtcalbicfnhoklaaDoor

/- What lens.Canon answers. -/
namespace Go.Proofs.YtcalbicfnhoklaaDoor
open Go.RowKit

set_option maxRecDepth 20000 in
set_option maxHeartbeats 1000000 in
theorem canon_any (a0 : Option Addr) (len cap : Nat) (W : Nat → Int) (w : World) (hP : Wds w a0 len W) :
    Calls Tryd.prog 57 #[.slice a0 len cap] w fun e w' => (∃ v, e = .returned (.tuple #[v, .int .i64 (canE W len)]) ∧ I64s w' v (canL W len) (fun i => (codeN W len i : Int))) ∧ Below w.heap.size w w' := by
  have hlen := hP.lenB
  have HP := Hid.mk' hP
  clear hP
  by_cases hE : fillE W len = 0
  · obtain ⟨hL, hB, hA⟩ := fillE_zero W len hE
    have HG := Hid.mk' (fun i hi => all_of hB i hi)
    clear hB
    by_cases hF : 32768 < fillN W len
    · have hco := Hid.mk' (can_over W len hE hF)
      have HE := Hid.mk' hE
      have HA := Hid.mk' hA
      have hfb := sumP_le W (fun _ _ => true) len
      rw [← fillN] at hfb
      clear hE hA
      go_enter Tryd.func57, Tryd.ntmps57
      go_wp2_with fail
      refine (fill_any a0 len cap W _ HP.out).mono ?_
      rintro e w' ⟨rfl, rfl⟩
      rw [HE.out, HA.out]
      generalize fillN W len = x at *
      go_wp2_with fail
      go_ret2
      refine ⟨⟨.slice none 0 0, ?_, ?_⟩, Below.refl _ _⟩
      · rw [hco.out.1]; rfl
      · rw [hco.out.2]; exact i64s_nil _ _
    · have hco := Hid.mk' (can_ok W len hE (by omega))
      have HE := Hid.mk' hE
      have HA := Hid.mk' hA
      have HF := Hid.mk' (show fillN W len ≤ 32768 by omega)
      clear hE hA
      have hmk := fun w => run_make_row' (P := Tryd.prog) 50 3 (.int .i64 0) 8 Tryd.underlying50 infoI64 rfl .i64 .i64 len (by omega) (by omega) w
      go_enter Tryd.func57, Tryd.ntmps57
      go_wp2_with fail
      refine (fill_any a0 len cap W _ HP.out).mono ?_
      rintro e w' ⟨rfl, rfl⟩
      rw [HE.out, HA.out]
      generalize fillN W len = x at hF ⊢
      go_wp2_with fail
      clear hmk
      go_loopw [7, 8] (fun n i wr => ∃ t : Nat, t ≤ 15 ∧ i = .int .i64 ((t + 1 : Nat) : Int) ∧ n = .int .i64 (nx W len t : Nat) ∧ Row64 wr w'.heap.size len (fun i => (stN W len (t + 1) 0 i : Int)) ∧ Below w'.heap.size w' wr) (fun _ i _ => 16 - (intOf i).toNat)
      case atStart => exact ⟨0, by omega, rfl, rfl, (row64_made _ _ _).congr fun i hi => by rw [st_start W len i (HG.out i hi)]; rfl, (Below.refl _ _).alloc (Nat.le_refl _) _⟩
      case round =>
        obtain ⟨t, ht, rfl, rfl, hrow, hbl⟩ := hrel
        have HR := Hid.mk' hrow
        have HB := Hid.mk' hbl
        have hnx := nx_le W len t (by omega) HF.out
        clear hrow hbl
        by_cases ht15 : t < 15
        · have hnn : Hid (nx W len (t + 1) = 2 * nx W len t + cnt W (t + 1) len) := rfl
          have hset := Hid.mk' (fun k i => st_set W len t k i)
          generalize nx W len t = q at *
          go_wp2_with fail
          go_loopw [7, 32] (fun n i wr => ∃ k : Nat, k ≤ len ∧ i = .int .i64 k ∧ n = .int .i64 ((2 * q + cnt W (t + 1) k : Nat) : Int) ∧ Row64 wr w'.heap.size len (fun i => (stN W len (t + 1) k i : Int)) ∧ Below w'.heap.size w' wr) (fun _ i _ => len - (intOf i).toNat)
          case atStart => exact ⟨0, Nat.zero_le _, rfl, by exact int_eq (by rw [cnt]; omega), HR.out, HB.out⟩
          case round =>
            obtain ⟨k, hk, rfl, rfl, hrow, hbl⟩ := hrel
            have HR2 := Hid.mk' hrow
            have HB2 := Hid.mk' hbl
            have hcn := cnt_le W (t + 1) k
            clear hrow hbl
            by_cases hlt : k < len
            · obtain ⟨b, off, rfl, hb, hc⟩ := HP.out.at' (by omega)
              have c0 := (HB2.out.cell (p := ⟨b, off + k, none⟩) hb).trans (hc k hlt)
              clear hc
              by_cases hw : W k = ((t + 1 : Nat) : Int)
              · rw [hw] at c0
                have hc1 := Hid.mk' (cnt_yes W (t + 1) k hw)
                have hcc := HR2.out.cell k hlt
                have hff := HR2.out.open' k hlt
                have HS : Hid (Row64 (wr.setCell ⟨w'.heap.size, k, none⟩ (.int .i64 (2 * (q : Int) + (cnt W (t + 1) k : Int)))) w'.heap.size len (fun i => (stN W len (t + 1) (k + 1) i : Int))) :=
                  (HR2.out.set k hlt _).congr fun i hi => by
                    rw [hset.out k i hw]
                    by_cases e : i = k
                    · rw [if_pos e, if_pos e]; omega
                    · rw [if_neg e, if_neg e]
                clear hw
                generalize cnt W (t + 1) k = c at *
                go_wp2_with fail
                go_roundw
                case rel => exact ⟨k + 1, by omega, by go_num, by rw [hc1.out]; exact int_eq (by omega), HS.out, HB2.out.setCell (Nat.le_refl _) _⟩
                case measure => simp [intOf]; omega
              · have hw' : (W k == ((t + 1 : Nat) : Int)) = false := by rw [beq_eq_false_iff_ne]; exact hw
                have hc1 := Hid.mk' (cnt_no W (t + 1) k hw)
                have HS : Hid (Row64 wr w'.heap.size len (fun i => (stN W len (t + 1) (k + 1) i : Int))) :=
                  HR2.out.congr fun i hi => by rw [st_skip W len (t + 1) k i hw]
                clear hw
                generalize cnt W (t + 1) k = c at *
                go_wp2_with fail
                go_roundw
                case rel => exact ⟨k + 1, by omega, by go_num, by rw [hc1.out], HS.out, HB2.out⟩
                case measure => simp [intOf]; omega
            · have hkl := Hid.mk' (show k = len by omega)
              have HS : Hid (Row64 wr w'.heap.size len (fun i => (stN W len (t + 1 + 1) 0 i : Int))) :=
                HR2.out.congr fun i hi => by rw [hkl.out, st_next W len (t + 1) i hi]
              go_wp2_with fail
              go_roundw
              case rel => exact ⟨t + 1, by omega, by go_num, by rw [hnn.out, hkl.out], HS.out, HB2.out⟩
              case measure => simp [intOf]; omega
        · have ht' := Hid.mk' (show t = 15 by omega)
          have HS : Hid (Row64 wr w'.heap.size len (fun i => (codeN W len i : Int))) :=
            HR.out.congr fun i hi => by rw [ht'.out, st_end W len i (HG.out i hi)]
          go_wp2_with fail
          go_ret2
          refine ⟨⟨.slice (some ⟨w'.heap.size, 0, none⟩) len len, ?_, ?_⟩, HB.out⟩
          · rw [hco.out.1]; rfl
          · rw [hco.out.2]; exact HS.out.i64s
  · have hce := Hid.mk' (can_err W len hE)
    go_enter Tryd.func57, Tryd.ntmps57
    go_wp2_with fail
    refine (fill_any a0 len cap W _ HP.out).mono ?_
    rintro e w' ⟨rfl, rfl⟩
    have hE' : (fillE W len != 0) = true := by rw [bne_iff_ne]; exact hE
    obtain ⟨er, eer⟩ : ∃ er, Hid (fillE W len = er) := ⟨_, Hid.mk' rfl⟩
    rw [eer.out] at hE' hE ⊢
    generalize fillA W len = x
    go_wp2_with fail
    go_ret2
    refine ⟨⟨.slice none 0 0, ?_, ?_⟩, Below.refl _ _⟩
    · rw [hce.out.1, eer.out]; rfl
    · rw [hce.out.2]; exact i64s_nil _ _
end Go.Proofs.YtcalbicfnhoklaaDoor

/- A row of pieces that is written. -/
namespace Go.Proofs.YtcalbicfnhoklaaDoor
open Go.RowKit

theorem infoPc : (Tryd.prog.info? 74).map (fun i => (i.zero, i.size, i.bytes)) = some (some (.agg #[.int .u64 0, .int .i64 0]), 2, 16) := by kernel_rfl
structure RowPc (w : World) (g len : Nat) (V : Nat → Nat) (W : Nat → Int) : Prop where
  c0 : ∀ i, i < len → w.cell? ⟨g, i * 2, none⟩ = some (.int .u64 (V i : Int))
  c1 : ∀ i, i < len → w.cell? ⟨g, i * 2 + 1, none⟩ = some (.int .i64 (W i))
  f0 : ∀ i, i < len → w.frozen? ⟨g, i * 2, none⟩ = false
  f1 : ∀ i, i < len → w.frozen? ⟨g, i * 2 + 1, none⟩ = false
  lt : g < w.heap.size
theorem RowPc.set {w : World} {g len : Nat} {V : Nat → Nat} {W : Nat → Int} (h : RowPc w g len V W) (k : Nat) (hk : k < len) (x : Nat) (y : Int) :
    RowPc ((w.setCell ⟨g, k * 2, none⟩ (.int .u64 (x : Int))).setCell ⟨g, k * 2 + 1, none⟩ (.int .i64 y)) g len (fun i => if i = k then x else V i) (fun i => if i = k then y else W i) := by
  refine ⟨fun i hi => ?_, fun i hi => ?_, fun i hi => ?_, fun i hi => ?_, by simpa [World.setCell] using h.lt⟩
  · rw [World.cell?_setCell_other _ _ _ _ (by intro e; simp only [Addr.mk.injEq] at e; omega)]
    by_cases e : i = k
    · subst e
      rw [if_pos rfl]
      exact World.cell?_setCell_same _ _ _ (h.c0 i hi)
    · rw [if_neg e, World.cell?_setCell_other _ _ _ _ (by intro e'; simp only [Addr.mk.injEq] at e'; omega)]
      exact h.c0 i hi
  · by_cases e : i = k
    · subst e
      rw [if_pos rfl]
      exact World.cell?_setCell_same _ _ _ (u := .int .i64 (W i)) (by rw [World.cell?_setCell_other _ _ _ _ (by intro e'; simp only [Addr.mk.injEq] at e'; omega)]; exact h.c1 i hi)
    · rw [if_neg e, World.cell?_setCell_other _ _ _ _ (by intro e'; simp only [Addr.mk.injEq] at e'; omega), World.cell?_setCell_other _ _ _ _ (by intro e'; simp only [Addr.mk.injEq] at e'; omega)]
      exact h.c1 i hi
  · rw [World.frozen?_setCell, World.frozen?_setCell]; exact h.f0 i hi
  · rw [World.frozen?_setCell, World.frozen?_setCell]; exact h.f1 i hi
theorem RowPc.congr {w : World} {g len : Nat} {V V' : Nat → Nat} {W W' : Nat → Int} (h : RowPc w g len V W) (he : ∀ i, i < len → V i = V' i ∧ W i = W' i) : RowPc w g len V' W' :=
  ⟨fun i hi => by rw [← (he i hi).1]; exact h.c0 i hi, fun i hi => by rw [← (he i hi).2]; exact h.c1 i hi, h.f0, h.f1, h.lt⟩
theorem rowPc_made (w : World) (len : Nat) (t : TypeId) : RowPc (w.alloc (.cells (madeCells #[.int .u64 0, .int .i64 0] (len * 2)) t)) w.heap.size len (fun _ => 0) (fun _ => 0) := by
  have hf : ∀ p : Nat, (w.alloc (.cells (madeCells #[.int .u64 0, .int .i64 0] (len * 2)) t)).frozen? ⟨w.heap.size, p, none⟩ = false := fun p => by
    unfold World.frozen?
    rw [heap_alloc_new]
    rfl
  refine ⟨fun i hi => ?_, fun i hi => ?_, fun i _ => hf _, fun i _ => hf _, by simp⟩
  · rw [World.cell?_alloc_new]
    simp [madeCells, hi, Nat.mul_mod_left]
  · rw [World.cell?_alloc_new]
    simp only [madeCells, Array.getElem?_map, Array.getElem?_range]
    rw [if_pos (by omega)]
    simp [Nat.mul_add_mod_self_right]
theorem RowPc.pcs {w : World} {g len : Nat} {V V' : Nat → Nat} {W W' : Nat → Int} (h : RowPc w g len V W) (hn : len ≤ 17592186044416) (he : ∀ i, i < len → V i = V' i ∧ W i = W' i)
    (hv : ∀ i, i < len → V' i < 18446744073709551616) (hw : ∀ i, i < len → -9223372036854775808 ≤ W' i ∧ W' i ≤ 9223372036854775807) : Pcs w (some ⟨g, 0, none⟩) len V' W' :=
  ⟨hn, fun _ => ⟨g, 0, rfl, h.lt, fun i hi => by rw [Nat.zero_add, ← (he i hi).1, ← (he i hi).2]; exact ⟨h.c0 i hi, h.c1 i hi⟩⟩, hv, hw⟩
end Go.Proofs.YtcalbicfnhoklaaDoor

/- What bits.Pack answers. -/
namespace Go.Proofs.YtcalbicfnhoklaaDoor
open Go.RowKit

theorem infoByte8 : (Tryd.prog.info? 5).map (fun i => (i.zero, i.size, i.bytes)) = some (some (.int .u8 0), 1, 1) := by kernel_rfl
theorem byt_made (w : World) (n : Nat) (t : TypeId) : Byt (w.alloc (.cells (madeCells #[.int .u8 0] n) t)) w.heap.size (bytesOf 0 n) := by
  refine ⟨fun j hj => ?_, fun j hj => ?_⟩
  · rw [bytesOf_length] at hj
    rw [bytesOf_getD _ _ _ hj, World.cell?_alloc_new]
    simp [madeCells, hj, Nat.mod_one]
  · unfold World.frozen?
    rw [heap_alloc_new]
    rfl

set_option maxHeartbeats 800000 in
theorem pack_any (a0 : Option Addr) (len cap : Nat) (V : Nat → Nat) (W : Nat → Int) (w : World) (hP : Pcs w a0 len V W) :
    Calls Tryd.prog 25 #[.slice a0 len cap] w fun e w' => e = .returned (.tuple #[.string ⟨(packS len V W).toArray⟩, .int .i64 (packE len V W)]) ∧ Below w.heap.size w w' := by
  have hlen := hP.lenB
  have HP := Hid.mk' hP
  clear hP
  go_enter Tryd.func25, Tryd.ntmps25
  go_wp2_with fail
  go_loopw [4, 14] (fun t i wr => ∃ k : Nat, k ≤ len ∧ i = .int .i64 k ∧ t = .int .i64 (widSum W k : Nat) ∧ (∀ i, i < k → errP (V i) (W i) = 0) ∧ Below w.heap.size w wr) (fun _ i _ => len - (intOf i).toNat)
  case atStart => exact ⟨0, Nat.zero_le _, rfl, rfl, fun i hi => by omega, Below.refl _ _⟩
  case round =>
    obtain ⟨k, hk, rfl, rfl, hok, hbl⟩ := hrel
    have hws := widSum_le V W k hok
    have HO := Hid.mk' hok
    have HBl := Hid.mk' hbl
    clear hok hbl
    by_cases hlt : k < len
    · obtain ⟨b, off, rfl, hb, hc⟩ := HP.out.at' (by omega)
      have c0 := (HBl.out.cell (p := ⟨b, off + k * 2, none⟩) hb).trans (hc k hlt).1
      have c1 := (HBl.out.cell (p := ⟨b, off + k * 2 + 1, none⟩) hb).trans (hc k hlt).2
      have hvB := HP.out.vB k hlt
      clear hc
      go_wp2_with fail
      refine (checkPiece_any _ _ _ hvB).mono ?_
      rintro e w1 ⟨rfl, rfl⟩
      by_cases he : errP (V k) (W k) = 0
      · have hw := ok_wid _ _ he
        have hn : (widSum W k : Int) + W k = (widSum W (k + 1) : Nat) := by simp only [widSum]; omega
        have HO1 : Hid (∀ i, i < k + 1 → errP (V i) (W i) = 0) := fun i hi => by
          rcases Nat.lt_succ_iff_lt_or_eq.1 hi with h1 | rfl
          · exact HO.out i h1
          · exact he
        rw [he]
        clear he
        have hw0 := hw.1
        have hw1 := hw.2.1
        clear hw
        go_wp2_with fail
        go_roundw
        case rel => exact ⟨k + 1, by omega, by go_num, rfl, HO1.out, (HBl.out.alloc HBl.out.size _).alloc (by have := HBl.out.size; simp; omega) _⟩
        case measure => simp [intOf]; omega
      · have hpb := Hid.mk' (pack_bad len V W k hlt HO.out he)
        have hne : (errP (V k) (W k) != 0) = true := by rw [bne_iff_ne]; exact he
        clear he
        go_wp2_with fail
        go_ret2
        refine ⟨?_, (HBl.out.alloc HBl.out.size _).alloc (by have := HBl.out.size; simp; omega) _⟩
        rw [hpb.out.1, hpb.out.2]
        rfl
    · have hkl : k = len := by omega
      subst hkl
      by_cases hT : 65536 < widSum W k
      · have hpm := Hid.mk' (pack_much k V W HO.out hT)
        go_wp2_with fail
        go_ret2
        refine ⟨?_, HBl.out⟩
        rw [hpm.out.1, hpm.out.2]
        rfl
      · have hpo := Hid.mk' (pack_ok k V W HO.out (by omega))
        have hq : ((widSum W k : Int) + 7) / 8 = (((widSum W k + 7) / 8 : Nat) : Int) := by omega
        obtain ⟨n, en⟩ : ∃ n, Hid ((widSum W k + 7) / 8 = n) := ⟨_, Hid.mk' rfl⟩
        rw [en.out] at hq
        have hnl : n ≤ 8192 := by rw [← en.out]; omega
        have hmk := fun w => run_make_row' (P := Tryd.prog) 27 5 (.int .u8 0) 1 Tryd.underlying27 infoByte8 rfl .i64 .i64 n (by omega) (by omega) w
        have hTd : decide ((65536 : Int) < (widSum W k : Int)) = false := decide_eq_false (by omega)
        go_wp2_with fail
        generalize hG : wr.heap.size = G
        have HBG : Hid (Below w.heap.size w (wr.alloc (.cells (madeCells #[.int .u8 0] n) 5))) := HBl.out.alloc HBl.out.size _
        have HYG : Hid (Byt (wr.alloc (.cells (madeCells #[.int .u8 0] n) 5)) G (bytesOf 0 n)) := by rw [← hG]; exact byt_made wr n _
        have HGs : Hid (w.heap.size ≤ G) := by rw [← hG]; exact HBl.out.size
        have HGl : Hid (G < (wr.alloc (.cells (madeCells #[.int .u8 0] n) 5)).heap.size) := by rw [← hG]; show _ < _; simp
        clear hG hmk hq
        go_loopw [9, 36] (fun t i wq => ∃ j : Nat, j ≤ k ∧ i = .int .i64 j ∧ t = .int .i64 (widSum W j : Nat) ∧ Below w.heap.size w wq ∧ Byt wq G (bytesOf (packN V W j) n) ∧ G < wq.heap.size) (fun _ i _ => k - (intOf i).toNat)
        case atStart => exact ⟨0, Nat.zero_le _, rfl, rfl, HBG.out, HYG.out, HGl.out⟩
        case round =>
          obtain ⟨j, hj, rfl, rfl, hbl, hy, hgl⟩ := hrel
          have HB2 := Hid.mk' hbl
          have HY2 := Hid.mk' hy
          clear hbl hy
          by_cases hlt2 : j < k
          · obtain ⟨b, off, rfl, hb, hc⟩ := HP.out.at' (by omega)
            have c0 := (HB2.out.cell (p := ⟨b, off + j * 2, none⟩) hb).trans (hc j hlt2).1
            have c1 := (HB2.out.cell (p := ⟨b, off + j * 2 + 1, none⟩) hb).trans (hc j hlt2).2
            have hokj := ok_wid _ _ (HO.out j hlt2)
            have hm := widSum_mono W (j + 1) (k - (j + 1))
            rw [show j + 1 + (k - (j + 1)) = k by omega] at hm
            have hT2 : widSum W (j + 1) ≤ 65536 := by omega
            obtain ⟨wd, hwd⟩ := Int.eq_ofNat_of_zero_le hokj.1
            rw [hwd] at c1 hokj
            rw [Int.toNat_natCast] at hokj
            have hsum : widSum W (j + 1) = widSum W j + wd := by simp only [widSum]; rw [hwd]; simp
            have hn1 : (widSum W j : Int) + wd = (widSum W (j + 1) : Nat) := by rw [hsum]; simp
            have hnN : widSum W (j + 1) ≤ 8 * n := by rw [← en.out]; omega
            have HV := Hid.mk' hokj
            have HPN : Hid (packN V W (j + 1) = packN V W j ||| V j * 2 ^ widSum W j) := rfl
            have hsumH := Hid.mk' hsum
            clear hc hokj hwd hsum hm
            go_wp2_with fail
            refine (put_any G n n (widSum W j) (V j) wd (packN V W j) _ (by have := HV.out.2.1; omega) HV.out.2.2 (by rw [← hsumH.out]; exact hnN) hnl (HY2.out.alloc hgl _) (by simp; omega)).mono ?_
            rintro e w2 ⟨rfl, hgr, hy2⟩
            have c2 : w2.cell? ⟨wr.heap.size, 1, none⟩ = some (.int .i64 (wd : Int)) := by
              rw [World.cell?_of_block (a := ⟨wr.heap.size, 1, none⟩) (hgr.block wr.heap.size (by simp) (by intro h; cases h; omega))]
              simp
            have HB3 : Hid (Below w.heap.size w w2) := (HB2.out.alloc HB2.out.size _).grown hgr (by have := HB2.out.size; simp; omega) (by intro q hq; cases hq; exact HGs.out)
            have HY3 : Hid (Byt w2 G (bytesOf (packN V W (j + 1)) n)) := by rw [HPN.out]; exact hy2
            have hgl2 : G < w2.heap.size := by have := hgr.size; simp at this; omega
            clear hgr hy2
            go_wp2_with fail
            go_roundw
            case rel => exact ⟨j + 1, by omega, by go_num, rfl, HB3.out, HY3.out, hgl2⟩
            case measure => simp [intOf]; omega
          · have hjk : j = k := by omega
            have hcs := byt_string HY2.out n n (bytesOf_length _ _)
            go_wp2_with fail
            go_ret2
            refine ⟨?_, HB2.out⟩
            rw [hpo.out.1, hpo.out.2, en.out, hjk]
            rfl
end Go.Proofs.YtcalbicfnhoklaaDoor

/- Lengths that were read, as a slice that can be handed on. -/
namespace Go.Proofs.YtcalbicfnhoklaaDoor
open Go.RowKit

theorem rdL_le {s : List UInt8} (h : rdRE s = 0) : ∀ y ∈ rdRL s, y ≤ 15 := by
  obtain ⟨h1, _⟩ := rdR_ok s h
  rw [h1]
  have hr : rrE (getA s) (s.drop (getK s)) 0 none = 0 := by
    unfold rdRE at h
    split at h
    · split at h
      · omega
      · exact h
    · rename_i h0
      exact absurd h h0
  exact (rr_one _ _ _ _ hr).2.2.1
theorem wds_runs {w : World} {v : Value} {s : List UInt8} (h : I64s w v (rdRL s).length (fun i => ((rdRL s).getD i 0 : Nat))) (h0 : rdRE s = 0) : ∃ ao cap, v = .slice ao (rdRL s).length cap ∧ Wds w ao (rdRL s).length (rowQ (rdRL s)) := by
  obtain ⟨ao, cap, hv, hc⟩ := h.is
  refine ⟨ao, cap, hv, by have := rdL_len s; omega, fun hp => ?_, fun i hi => ?_⟩
  · obtain ⟨g, off, h1, h2, h3⟩ := hc hp
    exact ⟨g, off, h1, h2, h3⟩
  · have := rdL_le h0 _ (List.getElem_mem hi)
    unfold rowQ
    rw [List.getD_eq_getElem?_getD, List.getElem?_eq_getElem hi, Option.getD_some]
    omega
theorem ext_listR (s : ByteArray) (a : Nat) : (s.extract a s.size).data.toList = s.data.toList.drop a := by
  rw [ByteArray.data_extract]
  simp only [Array.toList_extract, List.extract_eq_take_drop]
  exact List.take_of_length_le (by simp)
theorem size_setR (w : World) (a : Addr) (v : Value) : (w.setCell a v).heap.size = w.heap.size := by simp [World.setCell]
end Go.Proofs.YtcalbicfnhoklaaDoor
