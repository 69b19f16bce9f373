/- What lens.Fill answers. -/
import Derived.Test.YtganplceeapjcaaWds
import Derived.Test.YtganplceeapjcaaLensMath
namespace Go.Proofs.Ytganplceeapjcaa
open Go.RowKit

theorem ret2i {a b a' b' : Int} (h1 : a = a') (h2 : b = b') : Ending.returned (.tuple #[.int .i64 a, .int .i64 b]) = .returned (.tuple #[.int .i64 a', .int .i64 b']) := by rw [h1, h2]

set_option maxRecDepth 20000 in
set_option maxHeartbeats 800000 in
theorem fill_any (a0 : Option Addr) (len cap : Nat) (W : Nat → Int) (w : World) (hP : Wds w a0 len W) :
    Calls Try.prog 40 #[.slice a0 len cap] w fun e w' => e = .returned (.tuple #[.int .i64 (fillA W len : Nat), .int .i64 (fillE W len)]) ∧ w' = w := by
  have hlen := hP.lenB
  have HP := Hid.mk' hP
  clear hP
  by_cases hL : 320 < len
  · have hf := Hid.mk' (fill_large W len hL)
    go_enter Try.func40, Try.ntmps40
    go_wp2_with fail
    go_ret2
    refine ⟨?_, rfl⟩
    rw [hf.out.1, hf.out.2]
    rfl
  · go_enter Try.func40, Try.ntmps40
    go_wp2_with fail
    go_loop [4, 12] (fun t i => ∃ k : Nat, k ≤ len ∧ i = .int .i64 k ∧ t = .int .i64 (fillN W k : Nat) ∧ (∀ i, i < k → lenB (W i) = true)) (fun _ i => len - (intOf i).toNat)
    case atStart => exact ⟨0, Nat.zero_le _, rfl, rfl, fun i hi => by omega⟩
    case round =>
      obtain ⟨k, hk, rfl, rfl, hok⟩ := hrel
      have hws := sumP_le W (fun _ _ => true) k
      rw [← fillN] at hws
      have HO := Hid.mk' hok
      clear hok
      by_cases hlt : k < len
      · obtain ⟨b, off, rfl, hb, hc⟩ := HP.out.at' (by omega)
        have c0 := hc k hlt
        clear hc
        have hS := Hid.mk' (fillN_succ W k)
        cases hw : lenB (W k) with
        | true =>
          have hw2 := len_of hw
          have HO1 : Hid (∀ i, i < k + 1 → lenB (W i) = true) := fun i hi => by
            rcases Nat.lt_succ_iff_lt_or_eq.1 hi with h1 | rfl
            · exact HO.out i h1
            · exact hw
          have hw0 := hw2.1
          have hw1 := hw2.2
          clear hw2 hw
          by_cases h0 : W k = 0
          · rw [h0] at c0
            have ht : Hid (tk (W k) = 0) := by rw [h0]; exact tk_zero
            clear h0
            go_wp2_with fail
            go_round
            case rel => exact ⟨k + 1, by omega, by go_num, by rw [hS.out, ht.out]; rfl, HO1.out⟩
            case measure => simp [intOf]; omega
          · have hr := room_shr (W k) (by omega) hw1
            have htk := tk_le (W k)
            have h0' : (W k != 0) = true := by rw [bne_iff_ne]; exact h0
            generalize W k = x at *
            generalize tk x = y at *
            go_wp2_with fail
            go_round
            case rel => exact ⟨k + 1, by omega, by go_num, by rw [hS.out]; go_num, HO1.out⟩
            case measure => simp [intOf]; omega
        | false =>
          have hpb := Hid.mk' (fill_bad W len hL (all_not k hlt hw))
          have hnw := len_not hw
          clear hw
          by_cases hneg : W k < 0
          all_goals
            go_wp2_with fail
            go_ret2
            refine ⟨?_, rfl⟩
            rw [hpb.out.1, hpb.out.2]
            rfl
      · have hkl : k = len := by omega
        have hf := Hid.mk' (fill_ok W len hL (all_mk (fun i hi => HO.out i (by omega))))
        go_wp2_with fail
        go_ret2
        refine ⟨?_, rfl⟩
        rw [hf.out.1, hf.out.2]
        rfl
end Go.Proofs.Ytganplceeapjcaa
