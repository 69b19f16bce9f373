/- What huff.checkFreq answers. -/
import Derived.Test.YthdgfanecfdlkaaWds
import Derived.Test.YthdgfanecfdlkaaFreqMath
namespace Go.Proofs.Ythdgfanecfdlkaa
open Go.RowKit

set_option maxRecDepth 20000 in
set_option maxHeartbeats 800000 in
theorem chk_any (a0 : Option Addr) (len cap : Nat) (F : Nat → Int) (w : World) (hP : Wds w a0 len F) :
    Calls Try.prog 12 #[.slice a0 len cap] w fun e w' => e = .returned (.int .i64 (freqE F len)) ∧ w' = w := by
  have hlen := hP.lenB
  have HP := Hid.mk' hP
  clear hP
  by_cases hL : 320 < len
  · have hf : Hid (freqE F len = 2) := by show _ = _; unfold freqE; rw [if_pos hL]
    go_enter Try.func12, Try.ntmps12
    go_wp2_with fail
    go_ret
    refine ⟨?_, rfl⟩
    rw [hf.out]; rfl
  · have hf : Hid (freqE F len = frP F len) := by show _ = _; unfold freqE; rw [if_neg hL]
    go_enter Try.func12, Try.ntmps12
    go_wp2_with fail
    go_loop [10] (fun i => ∃ k : Nat, k ≤ len ∧ i = .int .i64 k ∧ (∀ i, i < k → 0 ≤ F i ∧ F i ≤ 1048576)) (fun i => len - (intOf i).toNat)
    case atStart => exact ⟨0, Nat.zero_le _, rfl, fun i hi => by omega⟩
    case round =>
      obtain ⟨k, hk, rfl, hok⟩ := hrel
      have HO := Hid.mk' hok
      clear hok
      by_cases hlt : k < len
      · obtain ⟨b, off, rfl, hb, hc⟩ := HP.out.at' (by omega)
        have c0 := hc k hlt
        clear hc
        by_cases h1 : F k < 0
        · have he := Hid.mk' (frP_neg HO.out hlt h1)
          go_wp2_with fail
          go_ret
          refine ⟨?_, rfl⟩
          rw [hf.out, he.out]; rfl
        · by_cases h2 : 1048576 < F k
          · have he := Hid.mk' (frP_big HO.out hlt h2)
            go_wp2_with fail
            go_ret
            refine ⟨?_, rfl⟩
            rw [hf.out, he.out]; rfl
          · have HO1 : Hid (∀ i, i < k + 1 → 0 ≤ F i ∧ F i ≤ 1048576) := fun i hi => by
              rcases Nat.lt_succ_iff_lt_or_eq.1 hi with h | rfl
              · exact HO.out i h
              · omega
            generalize F k = x at *
            go_wp2_with fail
            go_round
            case rel => exact ⟨k + 1, by omega, by go_num, HO1.out⟩
            case measure => simp [intOf]; omega
      · have hkl : k = len := by omega
        have he : Hid (frP F len = 0) := frP_mk fun i hi => HO.out i (by omega)
        go_wp2_with fail
        go_ret
        refine ⟨?_, rfl⟩
        rw [hf.out, he.out]; rfl
end Go.Proofs.Ythdgfanecfdlkaa
