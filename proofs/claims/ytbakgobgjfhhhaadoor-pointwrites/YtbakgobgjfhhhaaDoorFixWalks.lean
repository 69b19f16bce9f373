/- What num.Fix answers. -/
import Derived.Test.YtbakgobgjfhhhaaDoorByts
import Derived.Test.YtbakgobgjfhhhaaDoorFixMath
import Derived.Deep.OwnRows
import Derived.RegionTactic
namespace Go.Proofs.YtbakgobgjfhhhaaDoor
open Go.RowKit

theorem infoByteF : (Tryd.prog.info? 5).map (fun i => (i.zero, i.size, i.bytes)) = some (some (.int .u8 0), 1, 1) := by kernel_rfl
theorem byt_noughts (w : World) (n : Nat) (t : TypeId) : Byt (w.alloc (.cells (madeCells #[.int .u8 0] n) t)) w.heap.size (List.replicate n 0) := by
  refine ⟨fun j hj => ?_, fun j hj => ?_⟩
  · rw [List.length_replicate] at hj
    rw [World.cell?_alloc_new]
    simp [madeCells, hj, Nat.mod_one, List.getD_eq_getElem?_getD]
  · unfold World.frozen?
    rw [heap_alloc_new]
    rfl
theorem fix_byte (n k : Nat) : (n : Int) / 2 ^ (8 * k) % 256 = ((UInt8.ofNat (n / 256 ^ k)).toNat : Int) := by
  rw [cast_div_pow, pow2_8, UInt8.toNat_ofNat']
  omega
theorem Byt.set' {w : World} {g : Nat} {l : List UInt8} (h : Byt w g l) (n : Nat) (hn : n < l.length) (x : UInt8) : Byt (w.setCell ⟨g, n, none⟩ (.int .u8 (x.toNat : Int))) g (l.set n x) := by
  have := h.set n hn x
  exact ⟨this.cell, this.open'⟩

set_option maxHeartbeats 400000 in
theorem fix_no (n : Nat) (v : Int) (w : World) (h : v < 1 ∨ 8 < v) :
    Calls Tryd.prog 24 #[.int .u64 n, .int .i64 v] w fun e w' => e = .returned (.string ⟨#[]⟩) ∧ w' = w := by
  rcases h with h | h
  · go_enter Tryd.func24, Tryd.ntmps24
    go_wp2
    go_ret
    exact ⟨rfl, rfl⟩
  · have h1 : ¬ v < 1 := by omega
    go_enter Tryd.func24, Tryd.ntmps24
    go_wp2
    go_ret
    exact ⟨rfl, rfl⟩

set_option maxHeartbeats 800000 in
theorem fix_in (n m : Nat) (w : World) (h1 : 1 ≤ m) (h8 : m ≤ 8) :
    Calls Tryd.prog 24 #[.int .u64 n, .int .i64 m] w fun e w' => e = .returned (.string ⟨(fixB n m).toArray⟩) ∧ Below w.heap.size w w' := by
  have t1 : decide ((m : Int) < 1) = false := decide_eq_false (by omega)
  have t2 : decide ((8 : Int) < m) = false := decide_eq_false (by omega)
  have hmk := fun w => run_make_row' (P := Tryd.prog) 88 5 (.int .u8 0) 1 Tryd.underlying88 infoByteF rfl .i64 .i64 m (by omega) (by omega) w
  go_enter Tryd.func24, Tryd.ntmps24
  go_wp2_with fail
  clear hmk t1 t2
  go_loopw [17] (fun i wr => ∃ k : Nat, k ≤ m ∧ i = .int .i64 k ∧ Below w.heap.size w wr ∧ Byt wr w.heap.size (fixP n m k)) (fun i _ => m - (intOf i).toNat)
  case atStart => exact ⟨0, Nat.zero_le _, rfl, (Below.refl _ _).alloc (Nat.le_refl _) _, by rw [fixP_zero]; exact byt_noughts _ _ _⟩
  case round =>
    obtain ⟨k, hk, rfl, hbl, hy⟩ := hrel
    have HB := Hid.mk' hbl
    have HY := Hid.mk' hy
    clear hbl hy
    by_cases hlt : k < m
    · obtain ⟨q, eq⟩ : ∃ q, Hid (m - 1 - k = q) := ⟨_, Hid.mk' rfl⟩
      have hq : (m : Int) - 1 - k = (q : Int) := by rw [← eq.out]; omega
      have hqm : q < m := by rw [← eq.out]; omega
      have hln : q < (fixP n m k).length := by rw [fixP_length _ _ _ hk]; exact hqm
      have hcc := HY.out.cell q hln
      have hff := HY.out.open' q hln
      have hfb := fix_byte n k
      obtain ⟨z, ez⟩ : ∃ z, Hid (UInt8.ofNat (n / 256 ^ k) = z) := ⟨_, Hid.mk' rfl⟩
      rw [ez.out] at hfb
      have hst := HY.out.set' q hln z
      have hs2 := fixP_step n m k hlt
      rw [eq.out, ez.out] at hs2
      rw [hs2] at hst
      have HS := Hid.mk' hst
      clear hst hs2 hln
      go_wp2_with fail
      go_roundw
      case rel => exact ⟨k + 1, by omega, by go_num, (HB.out.setCell (Nat.le_refl _) _), HS.out⟩
      case measure => simp [intOf]; omega
    · have hcs := byt_string HY.out m m (fixP_length _ _ _ hk)
      have hkm : Hid (fixP n m k = fixB n m) := by show _ = _; rw [show k = m by omega, fixP_all]
      go_wp2_with fail
      go_ret
      refine ⟨?_, HB.out⟩
      rw [← hkm.out]
      rfl

end Go.Proofs.YtbakgobgjfhhhaaDoor
