/- What linenref.Codeword answers. -/
import Derived.Test.YtnoegodimiehhaaCodewordMath
import Derived.Test.YtnoegodimiehhaaPow2Walks
namespace Go.Proofs.Ytnoegodimiehhaa
open Go.RowKit

set_option maxRecDepth 20000 in
set_option maxHeartbeats 800000 in
theorem rcodeword_any (c y : Nat) (w : World) (hc : c ≤ 1000000) (hy : y ≤ 15) :
    Calls Try.prog 30 #[.int .i64 (c : Int), .int .i64 (y : Int)] w fun e w' => (∃ v, e = .returned v ∧ w'.ownsRow w.heap.size 3 1 v y (bitsC (rv c y) y)) ∧ Below w.heap.size w w' := by
  obtain ⟨i0, hi, hz0, hz1, hz2⟩ := info_parts infoIntB
  have KI := Hid.mk' hi
  have KZ0 := Hid.mk' hz0
  have KZ1 := Hid.mk' hz1
  have KZ2 := Hid.mk' hz2
  clear hi hz0 hz1 hz2
  go_enter Try.func30, Try.ntmps30
  go_wp2_with fail
  go_loopw [5, 6] (fun bv i wr => ∃ k : Nat, k ≤ y ∧ i = .int .i64 ((y : Int) - 1 - k) ∧ wr.ownsRow w.heap.size 3 1 bv k (bitsC (rv c y) k) ∧ Below w.heap.size w wr) (fun _ i _ => (intOf i + 1).toNat)
  case atStart => exact ⟨0, Nat.zero_le _, by exact int_eq (by omega), World.ownsRow_nil _ _ _ _, Below.refl _ _⟩
  case round =>
    obtain ⟨k, hk, rfl, hown, hbl⟩ := hrel
    have HO := Hid.mk' hown
    have HB := Hid.mk' hbl
    have hs := hbl.size
    clear hown hbl
    by_cases hlt : k < y
    · obtain ⟨j, hj⟩ : ∃ j, j = y - 1 - k := ⟨_, rfl⟩
      have hjz : (y : Int) - 1 - k = (j : Int) := by omega
      rw [hjz]
      have hbit : Hid (rv c y / 2 ^ k % 2 = c / 2 ^ j % 2) := by rw [hj]; exact rv_bit c y k hlt
      have hjy : j < 15 := by omega
      have hjk := Hid.mk' hjz
      have hjn := Hid.mk' hj
      clear hjz hj
      obtain ⟨p, hp⟩ : ∃ p, Hid (2 ^ j = p) := ⟨_, Hid.mk' rfl⟩
      have hp0 : 0 < p := by rw [← hp.out]; exact Nat.pow_pos (by decide)
      have hp1 : p ≤ 32768 := by
        rw [← hp.out]
        exact Nat.le_trans (Nat.pow_le_pow_right (by decide) (show j ≤ 15 by omega)) (by decide)
      rw [hp.out] at hbit
      obtain ⟨x, hx⟩ : ∃ x, Hid (c / p % 2 = x) := ⟨_, Hid.mk' rfl⟩
      go_wp2_with fail
      refine (pow2_any j _ (by omega)).mono ?_
      rintro e w' ⟨rfl, rfl⟩
      rw [hp.out]
      obtain ⟨d, hd⟩ : ∃ d, Hid (c / p = d) := ⟨_, Hid.mk' rfl⟩
      have hdi : (c : Int) / (p : Int) = (d : Int) := by rw [← hd.out]; push_cast; rfl
      have hd1 : d ≤ 1000000 := by rw [← hd.out]; exact Nat.le_trans (Nat.div_le_self _ _) hc
      have hxi : (d : Int).tmod 2 = (x : Int) := by rw [← hx.out, hd.out, Int.tmod_eq_emod_of_nonneg (by omega)]; omega
      go_wp2_with (at_builtin; refine wpList_append_own _ rfl (.tmp 13) (.tmp 19) 22 rfl w.heap.size 3 i0 (.int .i64 0) 1 8 Try.underlying22 KI.out KZ0.out KZ1.out KZ2.out rfl (by decide) u5 _ _ rfl (HO.out.alloc _) ⟨w'.heap.size, 0, none⟩ 1 1 [.int .i64 (x : Int)] rfl rfl (cell_one_new _ _ _) (one_int _ _) (by unfold maxLen; omega) (by omega) (by simp; omega) ?_; intro v' w1 hown1 hgrow1 _)
      have HB4 := Hid.mk' (below_grow' HO.out HB.out hs hgrow1)
      have HO4 : Hid (w1.ownsRow w.heap.size 3 1 v' (k + 1) (bitsC (rv c y) (k + 1))) := by
        rw [bitsC_succ, hbit.out, hx.out]; exact hown1
      clear hown1 hgrow1 hxi hdi
      go_wp2_with fail
      go_roundw
      case rel => exact ⟨k + 1, by omega, by exact int_eq (by have := hjk.out; omega), HO4.out, HB4.out⟩
      case measure => simp [intOf]
    · have hkl := Hid.mk' (show k = y by omega)
      have ht : (y : Int) - 1 - k = -1 := by omega
      rw [ht]
      go_wp2_with fail
      go_ret
      exact ⟨⟨_, rfl, by rw [hkl.out] at HO; exact HO.out⟩, HB.out⟩
end Go.Proofs.Ytnoegodimiehhaa
