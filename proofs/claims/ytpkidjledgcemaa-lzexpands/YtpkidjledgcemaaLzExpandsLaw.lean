/- The law LzExpands, walked. -/
import Derived.Test.YtpkidjledgcemaaExpandWalks
import Derived.Test.YtpkidjledgcemaaRExpandWalks
import Derived.Deep.RegionHeld3
namespace Go.Proofs.Ytpkidjledgcemaa
open Go.RowKit

set_option maxRecDepth 20000 in
set_option maxHeartbeats 1000000 in
theorem lzExpands_at (a0 : Option Addr) (len cap : Nat) (M : Nat → Mk) (x y : Int) (z : Nat) (w : World) (w0 : Mks w a0 len M) :
    Calls Try.prog 6 #[.slice a0 len cap, .agg #[.int .i64 x, .int .i64 y, .int .u8 (z : Int)]] w fun e w' => e = .returned (.bool true) ∧ Below w.heap.size w w' := by
  have HP := Hid.mk' w0
  clear w0
  obtain ⟨t, et⟩ : ∃ t, Hid (ByteArray.mk (exA (mkL M 0 len)).toArray = t) := ⟨_, Hid.mk' rfl⟩
  obtain ⟨u, eu⟩ : ∃ t, Hid (exE (mkL M 0 len) [] = t) := ⟨_, Hid.mk' rfl⟩
  obtain ⟨v, ev⟩ : ∃ t, Hid (chkM ⟨x, y, z⟩ = t) := ⟨_, Hid.mk' rfl⟩
  have hbc := box_cells w (.int .i64 x) (.int .i64 y) (.int .u8 (z : Int)) 41
  obtain ⟨W1, hW1⟩ : ∃ W1, Hid (w.alloc (.cells #[.int .i64 x, .int .i64 y, .int .u8 (z : Int)] 41) = W1) := ⟨_, Hid.mk' rfl⟩
  rw [hW1.out] at hbc
  have HB1 : Hid (Below w.heap.size w W1) := by rw [← hW1.out]; exact (Below.refl _ _).alloc (Nat.le_refl _) _
  have hs1 : W1.heap.size = w.heap.size + 1 := by rw [← hW1.out]; simp
  have HP1 := Hid.mk' (mks_below HP.out HB1.out)
  obtain ⟨b0, b1, b2⟩ := hbc
  go_enter Try.func6, Try.ntmps6
  go_wp2_with fail
  rw [hW1.out]
  refine (expand_any a0 len cap M _ HP1.out).mono ?_
  rintro e w2 ⟨rfl, hb⟩
  have d0 := (hb.cell (p := ⟨w.heap.size, 0, none⟩) (by show w.heap.size < _; omega)).trans b0
  have d1 := (hb.cell (p := ⟨w.heap.size, 1, none⟩) (by show w.heap.size < _; omega)).trans b1
  have d2 := (hb.cell (p := ⟨w.heap.size, 2, none⟩) (by show w.heap.size < _; omega)).trans b2
  have HB2 := Hid.mk' (HB1.out.trans (hb.mono (by omega)))
  have HP2 := Hid.mk' (mks_below HP1.out hb)
  have hs2 := hb.size
  clear hb b0 b1 b2
  rw [et.out, eu.out]
  go_wp2_with fail
  refine (rexpand_any a0 len cap M _ HP2.out).mono ?_
  rintro e w3 ⟨rfl, hb⟩
  have f0 := (hb.cell (p := ⟨w.heap.size, 0, none⟩) (by show w.heap.size < _; omega)).trans d0
  have f1 := (hb.cell (p := ⟨w.heap.size, 1, none⟩) (by show w.heap.size < _; omega)).trans d1
  have f2 := (hb.cell (p := ⟨w.heap.size, 2, none⟩) (by show w.heap.size < _; omega)).trans d2
  have HB3 := Hid.mk' (HB2.out.trans (hb.mono (by omega)))
  have hs3 := hb.size
  have hBs : w.heap.size < w3.heap.size := by omega
  clear hb d0 d1 d2
  rw [et.out, eu.out]
  go_wp2_with fail
  go_region_held3 (fun X => X.cell? ⟨w.heap.size, 0, none⟩ = some (.int .i64 x) ∧ X.cell? ⟨w.heap.size, 1, none⟩ = some (.int .i64 y) ∧ X.cell? ⟨w.heap.size, 2, none⟩ = some (.int .u8 (z : Int))) (go_keep) (first | (go_at_call 21; refine (check_eq x y z _).mono ?_; rintro e w' ⟨rfl, rfl⟩; rw [ev.out]) | (go_at_call 22; refine (rmark_eq x y z _).mono ?_; rintro e w' ⟨rfl, rfl⟩; rw [ev.out]) | fail)
  all_goals
    go_wp2_with fail
    go_ret
    exact ⟨rfl, (((HB3.out.drew).alloc (by simp; omega) _).alloc (by simp; omega) _)⟩
theorem lzExpands_walk (a0 : Option Addr) (len cap : Nat) (M : Nat → Mk) (m : Mk) (w : World) (w0 : Mks w a0 len M) :
    Calls Try.prog 6 #[.slice a0 len cap, .agg #[.int .i64 m.ln, .int .i64 m.ds, .int .u8 (m.by' : Int)]] w fun e w' => e = .returned (.bool true) ∧ Below w.heap.size w w' := lzExpands_at a0 len cap M m.ln m.ds m.by' w w0
end Go.Proofs.Ytpkidjledgcemaa
