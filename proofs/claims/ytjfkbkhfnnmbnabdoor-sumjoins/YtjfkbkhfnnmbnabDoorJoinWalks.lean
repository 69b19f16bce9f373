/- What sum.oneStep, sum.twice and sum.Join answer. -/
import Derived.Test.YtjfkbkhfnnmbnabDoorTakeWalks
namespace Go.Proofs.YtjfkbkhfnnmbnabDoor
open Go.RowKit

/-- block g holds the cells cs, of the type of 32 words -/
def Blk (w : World) (g : Nat) (cs : Array Value) : Prop := w.heap[g]? = some (.cells cs 33 (0, 0))
/-- the first k of its 32 cells are what they shall be -/
structure Upto (rs : Array Value) (f : Nat → BitVec 32) (k : Nat) : Prop where
  size : rs.size = 32
  at' : ∀ i, i < k → rs[i]? = some (.int .u32 (B (f i)))
theorem Upto.set {rs : Array Value} {f : Nat → BitVec 32} {k : Nat} (h : Upto rs f k) (hk : k < 32) : Upto (rs.setIfInBounds k (.int .u32 (B (f k)))) f (k + 1) := by
  refine ⟨by simp [h.size], fun i hi => ?_⟩
  by_cases e : i = k
  · subst e; simp [h.size, hk]
  · rw [Array.getElem?_setIfInBounds_ne (by omega)]; exact h.at' i (by omega)
theorem Upto.row {rs : Array Value} {f : Nat → BitVec 32} {k : Nat} (h : Upto rs f k) (hk : 32 ≤ k) : Row32 rs f := ⟨h.size, fun i hi => h.at' i (by omega)⟩
theorem Row32.one {rs : Array Value} {f : Nat → BitVec 32} (h : Row32 rs f) : rs.all (·.oneCell') = true := by
  rw [Array.all_eq_true_iff_forall_mem]
  intro v hv
  obtain ⟨i, hi, rfl⟩ := Array.getElem_of_mem hv
  have := h.at' i (by rw [← h.size]; exact hi)
  rw [Array.getElem?_eq_getElem hi] at this
  rw [Option.some.inj this]
  rfl
theorem Blk.cell {w : World} {g : Nat} {cs : Array Value} (h : Blk w g cs) (hs : cs.size = 32) (k : Nat) (hk : k < 32) : ∃ v, w.cell? ⟨g, k, none⟩ = some v := by
  rw [cell_of_row w g k cs _ _ h]
  exact ⟨cs[k], by simp [hs, hk]⟩
theorem Blk.frozen {w : World} {g : Nat} {cs : Array Value} (h : Blk w g cs) (k : Nat) : w.frozen? ⟨g, k, none⟩ = false := frozen_of_row w g k cs _ h
theorem Blk.set {w : World} {g : Nat} {cs : Array Value} (h : Blk w g cs) (k : Nat) (v : Value) : Blk (w.setCell ⟨g, k, none⟩ v) g (cs.setIfInBounds k v) := heap_setCell_same w g k cs _ v h
theorem Blk.other {w : World} {g : Nat} {cs : Array Value} (h : Blk w g cs) (g' k : Nat) (v : Value) (hg : g ≠ g') : Blk (w.setCell ⟨g', k, none⟩ v) g cs := by
  unfold Blk; rw [heap_setCell_other w _ g v hg]; exact h
theorem Blk.lt {w : World} {g : Nat} {cs : Array Value} (h : Blk w g cs) : g < w.heap.size := by
  by_cases hg : g < w.heap.size
  · exact hg
  · unfold Blk at h; rw [Array.getElem?_eq_none (by omega)] at h; cases h
theorem Blk.alloc {w : World} {g : Nat} {cs : Array Value} (h : Blk w g cs) (o : Obj) : Blk (w.alloc o) g cs := by
  unfold Blk; rw [Below.heap_alloc w o g h.lt]; exact h
theorem below_setRow {N : Nat} {a w : World} (h : Below N a w) (g : Nat) (cs : Array Value) (hg : N ≤ g) : Below N a (w.setRow g cs) :=
  h.trans ⟨rfl, rfl, rfl, by simp, fun k hk => setRow_other w g k cs (by omega)⟩
theorem Blk.row {w : World} {g : Nat} {cs : Array Value} (h : Blk w g cs) (ds : Array Value) : Blk (w.setRow g ds) g ds := setRow_heap w g cs ds _ _ h
theorem Blk.otherRow {w : World} {g : Nat} {cs : Array Value} (h : Blk w g cs) (g' : Nat) (ds : Array Value) (hg : g ≠ g') : Blk (w.setRow g' ds) g cs := by
  unfold Blk; rw [setRow_other w g' g ds hg]; exact h
theorem heap3 (w : World) (o p q : Obj) : (((w.alloc o).alloc p).alloc q).heap[w.heap.size]? = some o := by
  rw [Below.heap_alloc _ _ _ (by simp; omega)]; exact heap_alloc2_old _ _ _
theorem heap3' (w : World) (o p q : Obj) : (((w.alloc o).alloc p).alloc q).heap[w.heap.size + 1]? = some p := by
  rw [Below.heap_alloc _ _ _ (by simp)]; exact heap_alloc2_new _ _ _
theorem heap3'' (w : World) (o p q : Obj) : (((w.alloc o).alloc p).alloc q).heap[w.heap.size + 2]? = some q := by
  have h := heap_alloc2_new (w.alloc o) p q
  rw [show (w.alloc o).heap.size + 1 = w.heap.size + 2 by simp] at h
  exact h

set_option maxHeartbeats 400000 in
theorem oneStep_any (w : World) :
    Calls Tryd.prog 11 #[] w fun e w' => (∃ cs, e = .returned (.agg cs) ∧ Row32 cs (tab 1)) ∧ Below w.heap.size w w' := by
  go_enter Tryd.func11, Tryd.ntmps11
  go_wp2_with fail
  go_loopw [3] (fun i wr => ∃ (k : Nat) (zs rs : Array Value), k ≤ 32 ∧ i = .int .i64 k ∧ Below w.heap.size w wr ∧ zs.size = 32 ∧ Blk wr w.heap.size zs ∧ Blk wr (w.heap.size + 1) rs ∧ Upto rs (tab 1) k) (fun i _ => 32 - (intOf i).toNat)
  case atStart =>
    refine ⟨0, _, _, Nat.zero_le _, rfl, ((Below.refl _ _).alloc (Nat.le_refl _) _).alloc (by simp) _, ?_, heap_alloc2_old _ _ _, heap_alloc2_new _ _ _, ?_, fun i hi => by omega⟩
    · rfl
    · rfl
  case round =>
    obtain ⟨k, zs, rs, hk, rfl, hb, hz, b0, b1, hu⟩ := hrel
    by_cases hlt : k < 32
    · obtain ⟨v, hc⟩ := b1.cell hu.size k hlt
      have hf := b1.frozen k
      have hp := powB k
      have hb' := Hid.mk' hb
      have hu' := Hid.mk' hu
      have b0' := Hid.mk' b0
      have b1' := Hid.mk' b1
      clear hb hu b0 b1
      go_wp2_with fail
      refine (step_any _ _).mono ?_
      rintro e w2 ⟨rfl, rfl⟩
      go_wp2_with fail
      go_roundw
      case rel => exact ⟨k + 1, zs, _, by omega, by go_num, hb'.out.setCell (by simp) _, hz, b0'.out.other _ _ _ (by omega), b1'.out.set _ _, hu'.out.set hlt⟩
      case measure => simp [intOf]; omega
    · have hr := hu.row (by omega)
      have hi := Hid.mk' hr.info
      have h1 := Hid.mk' hr.one
      have hz1 := Hid.mk' (hz.trans hr.size.symm)
      have hb' := Hid.mk' hb
      have b0' := Hid.mk' b0
      have b1' := Hid.mk' b1
      have hr' := Hid.mk' hr
      clear hb hu b0 b1 hr hz
      go_wp2_with (first | (refine wpList_load_row rfl 33 _ rfl (w.heap.size + 1) rfl 33 rs _ _ b1'.out Tryd.underlying33 rfl hi.out ?_) | (refine wpList_store_row rfl 33 _ _ rfl w.heap.size rs rfl rfl 33 zs b0'.out hi.out hz1.out h1.out ?_))
      refine bodyPost_ret (v := .agg rs) (results_cell_row (fn := Tryd.f11) rfl _ _ w.heap.size 33 rs (0, 0) _ rfl (b0'.out.row rs) Tryd.underlying33 rfl hi.out) rfl ⟨⟨_, rfl, hr'.out⟩, below_setRow hb'.out _ _ (Nat.le_refl _)⟩

set_option maxHeartbeats 400000 in
theorem twice_any (cs : Array Value) (m : Nat) (h : Row32 cs (tab m)) (w : World) :
    Calls Tryd.prog 10 #[.agg cs] w fun e w' => (∃ cs', e = .returned (.agg cs') ∧ Row32 cs' (tab (m + m))) ∧ Below w.heap.size w w' := by
  have hi := Hid.mk' h.info
  have hx := Hid.mk' h.index
  have hcs := Hid.mk' h
  clear h
  go_enter Tryd.func10, Tryd.ntmps10
  go_wp2_with (refine wpList_load_row rfl 33 _ rfl w.heap.size rfl 33 cs _ _ (heap3 _ _ _ _) Tryd.underlying33 rfl hi.out ?_)
  go_loopw [7] (fun i wr => ∃ (k : Nat) (zs rs : Array Value), k ≤ 32 ∧ i = .int .i64 k ∧ Below w.heap.size w wr ∧ zs.size = 32 ∧ Blk wr w.heap.size cs ∧ Blk wr (w.heap.size + 1) zs ∧ Blk wr (w.heap.size + 2) rs ∧ Upto rs (tab (m + m)) k) (fun i _ => 32 - (intOf i).toNat)
  case atStart =>
    refine ⟨0, _, _, Nat.zero_le _, rfl, (((Below.refl _ _).alloc (Nat.le_refl _) _).alloc (by simp) _).alloc (by simp; omega) _, ?_, heap3 _ _ _ _, heap3' _ _ _ _, heap3'' _ _ _ _, ?_, fun i hi => by omega⟩
    · rfl
    · rfl
  case round =>
    obtain ⟨k, zs, rs, hk, rfl, hb, hz, b0, b1, b2, hu⟩ := hrel
    have hb' := Hid.mk' hb
    have hu' := Hid.mk' hu
    have b0' := Hid.mk' b0
    have b1' := Hid.mk' b1
    have b2' := Hid.mk' b2
    by_cases hlt : k < 32
    · have hix := hx.out k hlt
      have b3 := b2.alloc (.cells cs 33)
      have b3' := Hid.mk' b3
      obtain ⟨v, hc⟩ := b3.cell hu.size k hlt
      have hf := b3.frozen k
      have htt := Hid.mk' ((takeTo_all m (tab m k)).trans (tab_twice m k))
      clear hb hu b0 b1 b2 b3
      go_wp2_with (first | (refine wpList_load_row rfl 33 _ rfl w.heap.size rfl 33 cs _ _ b0'.out Tryd.underlying33 rfl hi.out ?_) | fail)
      refine (take_any cs (tab m) hcs.out _ _).mono ?_
      rintro e w2 ⟨rfl, rfl⟩
      rw [htt.out]
      go_wp2_with fail
      go_roundw
      case rel => exact ⟨k + 1, zs, _, by omega, by go_num, (hb'.out.alloc (Nat.le_of_lt b0'.out.lt) _).setCell (by simp; omega) _, hz, (b0'.out.alloc _).other _ _ _ (by omega), (b1'.out.alloc _).other _ _ _ (by omega), b3'.out.set _ _, hu'.out.set hlt⟩
      case measure => simp [intOf]; omega
    · have hr := hu.row (by omega)
      have hi2 := Hid.mk' hr.info
      have h1 := Hid.mk' hr.one
      have hz1 := Hid.mk' (hz.trans hr.size.symm)
      have hr' := Hid.mk' hr
      clear hb hu b0 b1 b2 hr hz
      go_wp2_with (first | (refine wpList_load_row rfl 33 _ rfl (w.heap.size + 2) rfl 33 rs _ _ b2'.out Tryd.underlying33 rfl hi2.out ?_) | (refine wpList_store_row rfl 33 _ _ rfl (w.heap.size + 1) rs rfl rfl 33 zs b1'.out hi2.out hz1.out h1.out ?_))
      refine bodyPost_ret (v := .agg rs) (results_cell_row (fn := Tryd.f10) rfl _ _ (w.heap.size + 1) 33 rs (0, 0) _ rfl (b1'.out.row rs) Tryd.underlying33 rfl hi2.out) rfl ⟨⟨_, rfl, hr'.out⟩, below_setRow hb'.out _ _ (by omega)⟩

end Go.Proofs.YtjfkbkhfnnmbnabDoor
