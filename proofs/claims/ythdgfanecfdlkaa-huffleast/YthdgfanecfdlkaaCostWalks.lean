/- What huff.Cost answers. -/
import Derived.Test.YthdgfanecfdlkaaFreqWalks
import Derived.Test.YthdgfanecfdlkaaFillWalks
namespace Go.Proofs.Ythdgfanecfdlkaa
open Go.RowKit

set_option maxRecDepth 20000 in
set_option maxHeartbeats 800000 in
theorem cost_any (a0 : Option Addr) (len cap : Nat) (F : Nat → Int) (a1 : Option Addr) (len1 cap1 : Nat) (W : Nat → Int) (w : World) (hP : Wds w a0 len F) (hQ : Wds w a1 len1 W) :
    Calls Try.prog 7 #[.slice a0 len cap, .slice a1 len1 cap1] w fun e w' => e = .returned (.tuple #[.int .i64 (costA F len W len1 : Nat), .int .i64 (costE F len W len1)]) ∧ w' = w := by
  have hlen := hP.lenB
  have hlen1 := hQ.lenB
  have HP := Hid.mk' hP
  have HQ := Hid.mk' hQ
  clear hP hQ
  by_cases hE : freqE F len = 0
  · by_cases hG : fillE W len1 = 0
    · by_cases hn : len = len1
      · subst hn
        have hco := Hid.mk' (cost_ok hE hG)
        have hF := Hid.mk' (freqE_zero hE).2
        have hW := Hid.mk' (fillE_all hG).2
        have hl := (freqE_zero hE).1
        have HE := Hid.mk' hE
        have HG := Hid.mk' hG
        have hne : ((len : Int) != (len : Int)) = false := by simp
        clear hE hG
        go_enter Try.func7, Try.ntmps7
        go_wp2_with fail
        refine (chk_any a0 len cap F _ HP.out).mono ?_
        rintro e w' ⟨rfl, rfl⟩
        rw [HE.out]
        go_wp2_with fail
        refine (fill_any a1 len cap1 W _ HQ.out).mono ?_
        rintro e w' ⟨rfl, rfl⟩
        rw [HG.out]
        go_wp2_with fail
        go_loop [9, 32] (fun t i => ∃ k : Nat, k ≤ len ∧ i = .int .i64 k ∧ t = .int .i64 (costN F W k : Nat)) (fun _ i => len - (intOf i).toNat)
        case atStart => exact ⟨0, Nat.zero_le _, rfl, rfl⟩
        case round =>
          obtain ⟨k, hk, rfl, rfl⟩ := hrel
          have hcb := costN_le F W k (fun i hi => hF.out i (by omega)) (fun i hi => hW.out i (by omega))
          by_cases hlt : k < len
          · obtain ⟨b, off, rfl, hb, hc⟩ := HP.out.at' (by omega)
            have c0 := hc k hlt
            clear hc
            obtain ⟨b1, off1, rfl, hb1, hc1⟩ := HQ.out.at' (by omega)
            have c1 := hc1 k hlt
            clear hc1
            obtain ⟨x, hx⟩ : ∃ x : Nat, F k = x := ⟨(F k).toNat, by have := hF.out k hlt; omega⟩
            obtain ⟨y, hy⟩ : ∃ y : Nat, W k = y := ⟨(W k).toNat, by have := len_of (hW.out k hlt); omega⟩
            have hxb : x ≤ 1048576 := by have := hF.out k hlt; omega
            have hyb : y ≤ 15 := by have := len_of (hW.out k hlt); omega
            have hs : Hid (costN F W (k + 1) = costN F W k + x * y) := by show _ = _; rw [costN, hx, hy]; rfl
            rw [hx] at c0
            rw [hy] at c1
            clear hx hy
            have hp : x * y ≤ 1048576 * 15 := Nat.mul_le_mul hxb hyb
            obtain ⟨z, hz⟩ : ∃ z : Nat, z = x * y := ⟨_, rfl⟩
            have hz1 : (x : Int) * (y : Int) = (z : Int) := by rw [hz]; push_cast; rfl
            rw [← hz] at hs hp
            clear hz
            generalize costN F W k = q at *
            go_wp2_with fail
            go_round
            case rel => exact ⟨k + 1, by omega, by go_num, by rw [hs.out]; exact int_eq (by omega)⟩
            case measure => simp [intOf]; omega
          · have hkl : k = len := by omega
            have hkl' := Hid.mk' hkl
            clear hkl
            generalize hcq : costN F W k = q at *
            have hcq' := Hid.mk' hcq
            clear hcq
            go_wp2_with fail
            go_ret2
            refine ⟨?_, rfl⟩
            rw [hco.out.1, hco.out.2, ← hkl'.out, hcq'.out]; rfl
      · have hco := Hid.mk' (cost_len hE hG hn)
        have hne : ((len : Int) != (len1 : Int)) = true := by rw [bne_iff_ne]; omega
        have HE := Hid.mk' hE
        have HG := Hid.mk' hG
        clear hE hG
        go_enter Try.func7, Try.ntmps7
        go_wp2_with fail
        refine (chk_any a0 len cap F _ HP.out).mono ?_
        rintro e w' ⟨rfl, rfl⟩
        rw [HE.out]
        go_wp2_with fail
        refine (fill_any a1 len1 cap1 W _ HQ.out).mono ?_
        rintro e w' ⟨rfl, rfl⟩
        rw [HG.out]
        go_wp2_with fail
        go_ret2
        refine ⟨?_, rfl⟩
        rw [hco.out.1, hco.out.2]; rfl
    · have hco := Hid.mk' (cost_fill hE hG)
      have HE := Hid.mk' hE
      have hb := fillE_is W len1
      have hne : (fillE W len1 != 0) = true := by rw [bne_iff_ne]; exact hG
      obtain ⟨y, hy⟩ : ∃ y, Hid (fillE W len1 = y) := ⟨_, Hid.mk' rfl⟩
      rw [hy.out] at hb hne
      clear hE hG
      go_enter Try.func7, Try.ntmps7
      go_wp2_with fail
      refine (chk_any a0 len cap F _ HP.out).mono ?_
      rintro e w' ⟨rfl, rfl⟩
      rw [HE.out]
      go_wp2_with fail
      refine (fill_any a1 len1 cap1 W _ HQ.out).mono ?_
      rintro e w' ⟨rfl, rfl⟩
      rw [hy.out]
      go_wp2_with fail
      go_ret2
      refine ⟨?_, rfl⟩
      rw [hco.out.1, hco.out.2, hy.out]; rfl
  · have hco := Hid.mk' (cost_freq (W := W) (m := len1) hE)
    have hb := freqE_is F len
    have hne : (freqE F len != 0) = true := freqE_ne hE
    obtain ⟨y, hy⟩ : ∃ y, Hid (freqE F len = y) := ⟨_, Hid.mk' rfl⟩
    rw [hy.out] at hb hne
    clear hE
    go_enter Try.func7, Try.ntmps7
    go_wp2_with fail
    refine (chk_any a0 len cap F _ HP.out).mono ?_
    rintro e w' ⟨rfl, rfl⟩
    rw [hy.out]
    go_wp2_with fail
    go_ret2
    refine ⟨?_, rfl⟩
    rw [hco.out.1, hco.out.2, hy.out]; rfl
end Go.Proofs.Ythdgfanecfdlkaa
