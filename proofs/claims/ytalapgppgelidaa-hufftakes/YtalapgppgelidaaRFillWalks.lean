/- What linenref.Fill answers: what lens.Fill does. -/
import Derived.Test.YtalapgppgelidaaWds
import Derived.Test.YtalapgppgelidaaRFillMath
import Derived.Test.YtalapgppgelidaaPow2Walks
namespace Go.Proofs.Ytalapgppgelidaa
open Go.RowKit

set_option maxRecDepth 20000 in
set_option maxHeartbeats 800000 in
theorem rfill_large (a0 : Option Addr) (len cap : Nat) (W : Nat → Int) (w : World) (hP : Wds w a0 len W) (hL : 320 < len) :
    Calls Try.prog 12 #[.slice a0 len cap] w fun e w' => e = .returned (.tuple #[.int .i64 (fillA W len : Nat), .int .i64 (fillE W len)]) ∧ w' = w := by
  have hlen := hP.lenB
  have hf := Hid.mk' (fill_large W len hL)
  clear hP
  go_enter Try.func12, Try.ntmps12
  go_wp2_with fail
  go_ret2
  refine ⟨?_, rfl⟩
  rw [hf.out.1, hf.out.2]
  rfl

set_option maxRecDepth 20000 in
set_option maxHeartbeats 800000 in
theorem rfill_bad (a0 : Option Addr) (len cap : Nat) (W : Nat → Int) (w : World) (hP : Wds w a0 len W) (hL : ¬ 320 < len) (hB : allB W len = false) :
    Calls Try.prog 12 #[.slice a0 len cap] w fun e w' => e = .returned (.tuple #[.int .i64 (fillA W len : Nat), .int .i64 (fillE W len)]) ∧ w' = w := by
  have HP := Hid.mk' hP
  have hpb := Hid.mk' (fill_bad W len hL hB)
  obtain ⟨m, hm, hmb, hmg⟩ := first_bad hB
  have HMB := Hid.mk' hmb
  have HMG := Hid.mk' hmg
  clear hP hB hmb hmg
  go_enter Try.func12, Try.ntmps12
  go_wp2_with fail
  go_loop [4, 5] (fun t i => i = .int .i64 15 ∧ t = .int .i64 0) (fun _ _ => 0)
  case atStart => exact ⟨rfl, rfl⟩
  case round =>
    obtain ⟨rfl, rfl⟩ := hrel
    go_wp2_with fail
    go_loop [4, 17] (fun t i => ∃ k : Nat, k ≤ m ∧ i = .int .i64 k ∧ t = .int .i64 (eqN W 15 k : Nat)) (fun _ i => len - (intOf i).toNat)
    case atStart => exact ⟨0, Nat.zero_le _, rfl, rfl⟩
    case round =>
      obtain ⟨k, hk, rfl, rfl⟩ := hrel
      have hle := eqN_le W 15 k
      obtain ⟨b, off, rfl, hb, hc⟩ := HP.out.at' (by omega)
      have c0 := hc k (by omega)
      clear hc
      by_cases hlt : k < m
      · have hw2 := len_of (HMG.out k hlt)
        have hw0 := hw2.1
        have hw1 := hw2.2
        clear hw2
        by_cases h15 : W k = 15
        · have hst := Hid.mk' (eqN_yes W 15 k h15 (by omega))
          rw [h15] at c0 hw0 hw1
          clear h15
          generalize eqN W 15 k = y at *
          go_wp2_with fail
          refine (pow2_any 0 _ (by omega)).mono ?_
          rintro e w' ⟨rfl, rfl⟩
          go_wp2_with fail
          go_round
          case rel => exact ⟨k + 1, by omega, by go_num, by rw [hst.out]; rfl⟩
          case measure => simp [intOf]; omega
        · have hst := Hid.mk' (eqN_no W 15 k (by omega))
          have h15' : (W k == 15) = false := by rw [beq_eq_false_iff_ne]; exact h15
          generalize eqN W 15 k = y at *
          generalize W k = x at *
          go_wp2_with fail
          go_round
          case rel => exact ⟨k + 1, by omega, by go_num, by rw [hst.out]⟩
          case measure => simp [intOf]; omega
      · have hkm : k = m := by omega
        have hnw := len_not HMB.out
        rw [← hkm] at hnw
        have hkl : k < len := by omega
        clear hkm
        by_cases hneg : W k < 0
        all_goals
          go_wp2_with fail
          go_ret2
          refine ⟨?_, rfl⟩
          rw [hpb.out.1, hpb.out.2]
          rfl

set_option maxRecDepth 20000 in
set_option maxHeartbeats 800000 in
theorem rfill_good (a0 : Option Addr) (len cap : Nat) (W : Nat → Int) (w : World) (hP : Wds w a0 len W) (hL : ¬ 320 < len) (hB : allB W len = true) :
    Calls Try.prog 12 #[.slice a0 len cap] w fun e w' => e = .returned (.tuple #[.int .i64 (fillA W len : Nat), .int .i64 (fillE W len)]) ∧ w' = w := by
  have HP := Hid.mk' hP
  have hf := Hid.mk' (fill_ok W len hL hB)
  have HG := Hid.mk' (fun i hi => all_of hB i hi)
  clear hP hB
  go_enter Try.func12, Try.ntmps12
  go_wp2_with fail
  go_loop [4, 5] (fun t i => ∃ v : Nat, v ≤ 16 ∧ i = .int .i64 ((v : Int) - 1) ∧ t = .int .i64 (geN W v len : Nat)) (fun _ i => (intOf i + 1).toNat)
  case atStart => exact ⟨16, Nat.le_refl _, rfl, by rw [geN_top W len HG.out]; rfl⟩
  case round =>
    obtain ⟨v, hv, rfl, rfl⟩ := hrel
    by_cases hv0 : 0 < v
    · obtain ⟨t, rfl⟩ : ∃ t, v = t + 1 := ⟨v - 1, by omega⟩
      rw [show (((t + 1 : Nat) : Int) - 1) = (t : Int) by omega]
      have hge := geN_le W (t + 1) len
      have hstep := Hid.mk' (geN_step W t len)
      generalize geN W (t + 1) len = g at *
      go_wp2_with fail
      go_loop [4, 17] (fun x i => ∃ k : Nat, k ≤ len ∧ i = .int .i64 k ∧ x = .int .i64 (g + eqN W t k : Nat)) (fun _ i => len - (intOf i).toNat)
      case atStart => exact ⟨0, Nat.zero_le _, rfl, rfl⟩
      case round =>
        obtain ⟨k, hk, rfl, rfl⟩ := hrel
        have hle := eqN_le W t k
        by_cases hlt : k < len
        · obtain ⟨b, off, rfl, hb, hc⟩ := HP.out.at' (by omega)
          have c0 := hc k hlt
          clear hc
          have hw2 := len_of (HG.out k hlt)
          have hw0 := hw2.1
          have hw1 := hw2.2
          clear hw2
          by_cases h15 : W k = t
          · rw [h15] at c0 hw0 hw1
            by_cases ht0 : 0 < t
            · have hst := Hid.mk' (eqN_yes W t k h15 ht0)
              have hpb : 2 ^ (15 - t) ≤ 32768 := by
                have : 2 ^ (15 - t) ≤ 2 ^ 15 := Nat.pow_le_pow_right (by decide) (by omega)
                omega
              have hcs : (15 : Int) - t = ((15 - t : Nat) : Int) := by omega
              clear h15
              generalize eqN W t k = y at *
              go_wp2_with fail
              refine (pow2_any (15 - t) _ (by omega)).mono ?_
              rintro e w' ⟨rfl, rfl⟩
              generalize 2 ^ (15 - t) = p at *
              go_wp2_with fail
              go_round
              case rel => exact ⟨k + 1, by omega, by go_num, by rw [hst.out]; exact int_eq (by omega)⟩
              case measure => simp [intOf]; omega
            · have hst := Hid.mk' (eqN_no W t k (by omega))
              have ht00 : ¬ (0 : Int) < t := by omega
              clear h15
              generalize eqN W t k = y at *
              go_wp2_with fail
              go_round
              case rel => exact ⟨k + 1, by omega, by go_num, by rw [hst.out]; exact int_eq (by omega)⟩
              case measure => simp [intOf]; omega
          · have hst := Hid.mk' (eqN_no W t k (by omega))
            have h15' : (W k == (t : Int)) = false := by rw [beq_eq_false_iff_ne]; exact h15
            generalize eqN W t k = y at *
            generalize W k = x at *
            go_wp2_with fail
            go_round
            case rel => exact ⟨k + 1, by omega, by go_num, by rw [hst.out]; exact int_eq (by omega)⟩
            case measure => simp [intOf]; omega
        · have hkl := Hid.mk' (show k = len by omega)
          go_wp2_with fail
          go_round
          case rel => exact ⟨t, by omega, rfl, by rw [hstep.out, hkl.out]⟩
          case measure => simp [intOf]
    · have hv00 := Hid.mk' (show v = 0 by omega)
      have hz := Hid.mk' (geN_zero W len)
      go_wp2_with fail
      go_ret2
      refine ⟨?_, rfl⟩
      rw [hf.out.1, hf.out.2, ← hz.out, hv00.out]
      rfl

theorem rfill_any (a0 : Option Addr) (len cap : Nat) (W : Nat → Int) (w : World) (hP : Wds w a0 len W) :
    Calls Try.prog 12 #[.slice a0 len cap] w fun e w' => e = .returned (.tuple #[.int .i64 (fillA W len : Nat), .int .i64 (fillE W len)]) ∧ w' = w := by
  by_cases hL : 320 < len
  · exact rfill_large a0 len cap W w hP hL
  · cases hB : allB W len with
    | false => exact rfill_bad a0 len cap W w hP hL hB
    | true => exact rfill_good a0 len cap W w hP hL hB
end Go.Proofs.Ytalapgppgelidaa
