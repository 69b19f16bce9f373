/- What linenref.Bits answers. -/
import Derived.Test.YtnoegodimiehhaaBitsKit
namespace Go.Proofs.Ytnoegodimiehhaa
open Go.RowKit

set_option maxHeartbeats 400000 in
theorem rbits_any (s : ByteArray) (w : World) (hs : s.size ≤ 1048576) :
    Calls Try.prog 15 #[.string s] w fun e w' => (∃ v, e = .returned v ∧ w'.ownsRow w.heap.size 3 1 v (8 * s.size) (bitsC (txtN s.data.toList) (8 * s.size))) ∧ Below w.heap.size w w' := by
  obtain ⟨i0, hi, hz0, hz1, hz2⟩ := info_parts infoIntB
  have KI := Hid.mk' hi
  have KZ0 := Hid.mk' hz0
  have KZ1 := Hid.mk' hz1
  have KZ2 := Hid.mk' hz2
  clear hi hz0 hz1 hz2
  go_enter Try.func15, Try.ntmps15
  go_wp2_with fail
  go_loopw [3, 8] (fun bv i wr => ∃ k : Nat, k ≤ s.size ∧ i = .int .i64 k ∧ wr.ownsRow w.heap.size 3 1 bv (8 * k) (bitsC (txtN s.data.toList) (8 * k)) ∧ Below w.heap.size w wr) (fun _ i _ => s.size - (intOf i).toNat)
  case atStart => exact ⟨0, Nat.zero_le _, rfl, World.ownsRow_nil _ _ _ _, Below.refl _ _⟩
  case round =>
    obtain ⟨k, hk, rfl, hown, hbl⟩ := hrel
    have HO := Hid.mk' hown
    have HB := Hid.mk' hbl
    clear hown hbl
    by_cases hlt : k < s.size
    · have hby := Hid.mk' (byte_at s k hlt)
      go_wp2_with fail
      go_loopw [3, 11] (fun bv i wr => ∃ q : Nat, q ≤ 8 ∧ i = .int .i64 q ∧ wr.ownsRow w.heap.size 3 1 bv (8 * k + q) (bitsC (txtN s.data.toList) (8 * k + q)) ∧ Below w.heap.size w wr) (fun _ i _ => 8 - (intOf i).toNat)
      case atStart => exact ⟨0, Nat.zero_le _, rfl, HO.out, HB.out⟩
      case round =>
        obtain ⟨q, hq, rfl, hown, hbl⟩ := hrel
        have HO2 := Hid.mk' hown
        have HB2 := Hid.mk' hbl
        have hs2 := hbl.size
        clear hown hbl
        by_cases hlt2 : q < 8
        · have hv := bit_val s[k] q
          have hvx : Hid (txtN s.data.toList / 2 ^ (8 * k + q) % 2 = s[k].toNat / 2 ^ q % 2) := by show _ = _; rw [bit_txt _ _ _ hlt2, hby.out]
          generalize s[k].toNat / 2 ^ q % 2 = x at *
          go_wp2_with (at_builtin; refine wpList_append_own _ rfl (.tmp 14) (.tmp 22) 22 rfl w.heap.size 3 i0 (.int .i64 0) 1 8 Try.underlying22 KI.out KZ0.out KZ1.out KZ2.out rfl (by decide) u3 _ _ rfl (HO2.out.alloc _) ⟨wr.heap.size, 0, none⟩ 1 1 [.int .i64 (x : Int)] rfl rfl (cell_one_new _ _ _) (one_int _ _) (by unfold maxLen; omega) (by omega) (by simp; omega) ?_; intro v' w1 hown1 hgrow1 _)
          have HB4 := Hid.mk' (below_grow' HO2.out HB2.out hs2 hgrow1)
          have HO4 : Hid (w1.ownsRow w.heap.size 3 1 v' (8 * k + (q + 1)) (bitsC (txtN s.data.toList) (8 * k + (q + 1)))) := by
            rw [← Nat.add_assoc, bitsC_succ, hvx.out]; exact hown1
          clear hown1 hgrow1 hv
          go_wp2_with fail
          go_roundw
          case rel => exact ⟨q + 1, by omega, by go_num, HO4.out, HB4.out⟩
          case measure => simp [intOf]; omega
        · have HO5 : Hid (wr.ownsRow w.heap.size 3 1 u3 (8 * (k + 1)) (bitsC (txtN s.data.toList) (8 * (k + 1)))) := by
            rw [show 8 * (k + 1) = 8 * k + q by omega]; exact HO2.out
          go_wp2_with fail
          go_roundw
          case rel => exact ⟨k + 1, by omega, by go_num, HO5.out, HB2.out⟩
          case measure => simp [intOf]; omega
    · have hkl := Hid.mk' (show k = s.size by omega)
      go_wp2_with fail
      go_ret
      exact ⟨⟨_, rfl, by rw [← hkl.out]; exact HO.out⟩, HB.out⟩
end Go.Proofs.Ytnoegodimiehhaa
