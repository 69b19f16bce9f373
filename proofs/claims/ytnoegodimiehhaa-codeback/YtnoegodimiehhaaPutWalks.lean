/- What bits.put does: it lays a piece into the bytes of a block. -/
import Derived.Test.YtnoegodimiehhaaByts
import Derived.Test.YtnoegodimiehhaaPackMath
import Derived.RegionTactic
namespace Go.Proofs.Ytnoegodimiehhaa
open Go.RowKit

theorem or8 (x y : UInt8) : bits .or .u8 (x.toNat : Int) (y.toNat : Int) = ((x ||| y).toNat : Int) := by
  rw [u8_or_nat _ _ x.toNat_lt y.toNat_lt, ← UInt8.toNat_or]
theorem shl8 (v d o : Nat) : IntKind.u64.wrap ((v : Int) / 2 ^ d * 2 ^ o) % 256 = ((UInt8.ofNat (v / 2 ^ d * 2 ^ o)).toNat : Int) := by
  rw [cast_div_pow, show ((v / 2 ^ d : Nat) : Int) * 2 ^ o = ((v / 2 ^ d * 2 ^ o : Nat) : Int) by simp, IntKind.wrap_u64, UInt8.toNat_ofNat']
  omega

theorem grown_set {w wr : World} {g : Nat} (h : w.grownBy wr (some g)) (q : Nat) (x : Value) : w.grownBy (wr.setCell ⟨g, q, none⟩ x).drew (some g) :=
  ⟨h.os, h.tape, h.output, by show _ ≤ (wr.setCell ⟨g, q, none⟩ x).heap.size; simp only [World.setCell, Array.size_modify]; exact h.size,
   fun k hk hne => (heap_setCell_other wr ⟨g, q, none⟩ k x (by intro e; exact hne (by rw [e]))).trans (h.block k hk hne)⟩
theorem grown_alloc (w : World) (o : Obj) (row : Option Nat) : w.grownBy (w.alloc o) row :=
  ⟨rfl, rfl, rfl, by simp, fun k hk _ => Below.heap_alloc w o k hk⟩
theorem Byt.alloc {w : World} {g : Nat} {l : List UInt8} (h : Byt w g l) (hg : g < w.heap.size) (o : Obj) : Byt (w.alloc o) g l :=
  ⟨fun j hj => (World.cell?_alloc_lt (w := w) (o := o) (a := ⟨g, j, none⟩) hg).trans (h.cell j hj),
   fun j hj => (World.frozen?_of_block (w := w) (a := ⟨g, j, none⟩) (Below.heap_alloc w o g hg)).trans (h.open' j hj)⟩

set_option maxHeartbeats 400000 in
theorem put_any (g n cap at' v wd R : Nat) (w : World) (hwd : wd ≤ 64) (hv : v < 2 ^ wd) (hat : at' + wd ≤ 8 * n) (hn : n ≤ 8192) (hB : Byt w g (bytesOf R n)) (hg : g < w.heap.size) :
    Calls Try.prog 24 #[.slice (some ⟨g, 0, none⟩) n cap, .int .i64 at', .agg #[.int .u64 v, .int .i64 wd]] w fun e w' =>
      e = .returned (.tuple #[]) ∧ w.grownBy w' (some g) ∧ Byt w' g (bytesOf (R ||| v * 2 ^ at') n) := by
  have hv64 : v < 18446744073709551616 := Nat.lt_of_lt_of_le hv (by
    have : 2 ^ wd ≤ 2 ^ 64 := Nat.pow_le_pow_right (by decide) hwd
    omega)
  have HB := Hid.mk' hB
  clear hB
  go_enter Try.func24, Try.ntmps24
  go_wp2_with fail
  go_loopw [6] (fun i wr => ∃ d : Nat, d ≤ wd + 7 ∧ i = .int .i64 d ∧ w.grownBy wr (some g) ∧ wr.cell? ⟨w.heap.size, 0, none⟩ = some (.int .u64 v) ∧ wr.cell? ⟨w.heap.size, 1, none⟩ = some (.int .i64 wd) ∧ Byt wr g (bytesOf (laidN R v d at') n)) (fun i _ => wd + 8 - (intOf i).toNat)
  case atStart => exact ⟨0, by omega, rfl, grown_alloc _ _ _, by simp, by simp, by rw [laid_zero]; exact HB.out.alloc hg _⟩
  case round =>
    obtain ⟨d, hd, rfl, hgr, c0, c1, hy⟩ := hrel
    by_cases hlt : d < wd
    · have hx : (at' : Int) + d = ((at' + d : Nat) : Int) := by omega
      have hq : ((at' + d : Nat) : Int) / 8 = (((at' + d) / 8 : Nat) : Int) := by omega
      have hr : ((at' + d : Nat) : Int) % 8 = (((at' + d) % 8 : Nat) : Int) := by omega
      obtain ⟨x, ex⟩ : ∃ x, Hid (at' + d = x) := ⟨_, Hid.mk' rfl⟩
      rw [ex.out] at hx hq hr
      have hxl : x / 8 < n := by rw [← ex.out]; omega
      have hol : x % 8 < 8 := by omega
      have hln : x / 8 < (bytesOf (laidN R v d at') n).length := by rw [bytesOf_length]; exact hxl
      have hc := hy.cell (x / 8) hln
      have hf := hy.open' (x / 8) hln
      obtain ⟨q, eq⟩ : ∃ q, Hid (x / 8 = q) := ⟨_, Hid.mk' rfl⟩
      obtain ⟨o, eo⟩ : ∃ o, Hid (x % 8 = o) := ⟨_, Hid.mk' rfl⟩
      rw [eq.out] at hq hc hf hxl
      rw [eo.out] at hr hol
      obtain ⟨y, ey⟩ : ∃ y, Hid ((bytesOf (laidN R v d at') n).getD q 0 = y) := ⟨_, Hid.mk' rfl⟩
      rw [ey.out] at hc
      have hs := shl8 v d o
      obtain ⟨z, ez⟩ : ∃ z, Hid (UInt8.ofNat (v / 2 ^ d * 2 ^ o) = z) := ⟨_, Hid.mk' rfl⟩
      rw [ez.out] at hs
      have hor := or8 y z
      have HY := Hid.mk' hy
      have HG := Hid.mk' hgr
      clear hy hgr hln
      go_wp2_with fail
      go_region
      go_wp2_with fail
      go_roundw
      case rel =>
        refine ⟨d + (8 - o), by omega, int_eq (by omega), grown_set HG.out _ _, ?_, ?_, ?_⟩
        · exact (World.cell?_setCell_other (w := wr) (a := ⟨g, q, none⟩) (b := ⟨w.heap.size, 0, none⟩) _ (by intro h; cases h; omega)).trans c0
        · exact (World.cell?_setCell_other (w := wr) (a := ⟨g, q, none⟩) (b := ⟨w.heap.size, 1, none⟩) _ (by intro h; cases h; omega)).trans c1
        · have hset := HY.out.set q (by rw [bytesOf_length]; exact hxl) (y ||| z)
          have hpb := put_byte (laidN R v d at') v d (at' + d) n
          rw [laid_step, ex.out, eq.out, eo.out, ey.out, ez.out] at hpb
          rw [← hpb, UInt8.toNat_or] at hset
          exact hset
      case measure => simp [intOf]; omega
    · have hall := Hid.mk' (laid_all R v d wd at' hv (by omega))
      have HY := Hid.mk' hy
      have HG := Hid.mk' hgr
      clear hy hgr
      go_wp2_with fail
      go_end0
      exact ⟨rfl, HG.out, by rw [← hall.out]; exact HY.out⟩
end Go.Proofs.Ytnoegodimiehhaa
