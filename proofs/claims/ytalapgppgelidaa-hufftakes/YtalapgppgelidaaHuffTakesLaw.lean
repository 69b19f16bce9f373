/- The law HuffTakes, walked. -/
import Derived.Test.YtalapgppgelidaaHLensWalks
import Derived.Test.YtalapgppgelidaaLnFacts
import Derived.Test.YtalapgppgelidaaComesWalks
import Derived.Test.YtalapgppgelidaaPow2Walks
import Derived.Test.YtalapgppgelidaaRFreqWalks
import Derived.Test.YtalapgppgelidaaRFillWalks
import Derived.SizedLaws
namespace Go.Proofs.Ytalapgppgelidaa
open Go.RowKit

theorem ln_single {F : Nat → Int} {len m : Nat} {T : Nat → Nat} (h : LnOk F len m T) (hm : 1 ≤ m) (h1 : (cmL F len).length = 1) (i : Nat) (hi : i < len) : T i ≤ 1 := by
  by_cases hp : 0 < F i
  · have hmem := cmL_has F len i hi hp
    obtain ⟨j, hj⟩ := List.length_eq_one_iff.1 h1
    rw [hj, List.mem_singleton] at hmem
    subst hmem
    have hB := h.best
    rw [hj] at hB
    have hc : (F i).toNat * T i + 0 ≤ (F i).toNat * 1 + 0 := hB.2 [((F i).toNat, 1)] (List.Perm.refl _) ⟨fun p hp => by simp at hp; rw [hp]; exact Nat.le_refl _, fun p hp => by simp at hp; rw [hp]; exact hm, by simp [krf, sm]⟩
    exact Nat.le_of_mul_le_mul_left (by omega : (F i).toNat * T i ≤ (F i).toNat * 1) (by omega)
  · rw [h.out i hi (by omega)]; omega
theorem wds_row' {w : World} {g len : Nat} {T : Nat → Nat} (h : Row64 w g len (fun i => (T i : Int))) (hl : len ≤ 320) (hT : ∀ i, i < len → T i ≤ 15) : Wds w (some ⟨g, 0, none⟩) len (fun i => (T i : Int)) :=
  ⟨by omega, fun _ => ⟨g, 0, rfl, h.lt, fun i hi => by rw [Nat.zero_add]; exact h.cell i hi⟩, fun i hi => by have := hT i hi; omega⟩

set_option maxRecDepth 20000 in
set_option maxHeartbeats 4000000 in
theorem huffTakes_walk (a0 : Option Addr) (len cap : Nat) (F : Nat → Int) (a1 : Int) (w : World) (w0 : Wds w a0 len F) (w1 : (Lit.int .i64 a1).wf = true) :
    Calls Try.prog 3 #[.slice a0 len cap, .int .i64 a1] w fun e w' => e = .returned (.bool true) ∧ Below w.heap.size w w' := by
  have HB := Hid.mk' (bounds_i64 w1)
  have HP := Hid.mk' w0
  have hlen := w0.lenB
  clear w0 w1
  go_enter Try.func3, Try.ntmps3
  go_wp2_with fail
  refine (hlens_any a0 len cap F a1 _ HP.out HB.out).mono ?_
  rintro e w1 ⟨⟨v, rfl, hans⟩, hb1⟩
  have HB1 := Hid.mk' hb1
  have HAn := Hid.mk' hans
  clear hb1 hans
  have HP1 : Hid (Wds w1 a0 len F) := wds_below HP.out HB1.out
  by_cases hE : freqE F len = 0
  · have HE := Hid.mk' hE
    by_cases hM : a1 < 1 ∨ 15 < a1
    · have hr := lensE_most hE hM
      rw [hr]
      obtain rfl : v = .slice none 0 0 := by
        rcases HAn.out with ⟨_, h⟩ | ⟨h, _⟩
        · exact h
        · rw [hr] at h; omega
      clear hE hr
      go_wp2_with fail
      refine (rfreq_any a0 len cap F _ HP1.out).mono ?_
      rintro e w' ⟨rfl, hw'⟩; obtain rfl := hw'.symm
      rw [HE.out]
      by_cases h1 : a1 < 1
      all_goals
        go_wp2_with fail
        go_ret
        exact ⟨rfl, HB1.out⟩
    · obtain ⟨m, rfl⟩ : ∃ m : Nat, a1 = m := ⟨a1.toNat, by omega⟩
      have hm0 : 1 ≤ m := by omega
      have hm1 : m ≤ 15 := by omega
      obtain ⟨hl3, hF⟩ := freqE_zero hE
      have HF := Hid.mk' hF
      have HFn : Hid (∀ i, i < len → 0 ≤ F i) := fun i hi => (hF i hi).1
      obtain ⟨c, hc⟩ : ∃ c, Hid ((cmL F len).length = c) := ⟨_, Hid.mk' rfl⟩
      have hcl : Hid ((comL F len).length = c) := by show _ = _; rw [com_len F len HFn.out]; exact hc.out
      have hcb : c ≤ len := by rw [← hc.out]; exact cmL_len F len
      obtain ⟨p, hp⟩ : ∃ p : Nat, Hid (2 ^ m = p) := ⟨_, Hid.mk' rfl⟩
      have hpb : p ≤ 32768 := by rw [← hp.out]; exact pow_le15 m hm1
      have hov : Hid (p < c → lensE F len (m : Int) = 6) := fun h => lensE_over hE ⟨hm0, hm1⟩ (by rw [hp.out, hc.out]; exact h)
      have hok : Hid (c ≤ p → lensE F len (m : Int) = 0) := fun h => lensE_ok hE ⟨hm0, hm1⟩ (by rw [hp.out, hc.out]; exact h)
      clear hE hF hM
      by_cases hover : p < c
      · have hr := hov.out hover
        rw [hr]
        obtain rfl : v = .slice none 0 0 := by
          rcases HAn.out with ⟨_, h⟩ | ⟨h, _⟩
          · exact h
          · rw [hr] at h; omega
        clear hr
        go_wp2_with fail
        refine (rfreq_any a0 len cap F _ HP1.out).mono ?_
        rintro e w' ⟨rfl, hw'⟩; obtain rfl := hw'.symm
        rw [HE.out]
        go_wp2_with fail
        refine (comes_any a0 len cap F _ HP1.out hl3 HF.out).mono ?_
        rintro e w2 ⟨⟨v, rfl, hown⟩, hb2⟩
        rw [hcl.out] at hown
        obtain ⟨ao, cp, rfl⟩ := own_sl hown
        have HB2 : Hid (Below w.heap.size w w2) := HB1.out.trans (hb2.mono HB1.out.size)
        clear hown hb2
        go_wp2_with fail
        refine (pow2_any m _ (by omega)).mono ?_
        rintro e w' ⟨rfl, hw'⟩; obtain rfl := hw'.symm
        rw [hp.out]
        go_wp2_with fail
        go_ret
        exact ⟨rfl, HB2.out⟩
      · have hr := hok.out (by omega)
        rw [hr]
        obtain ⟨T, g, rfl, hg, hrow, hln⟩ : ∃ T g, v = .slice (some ⟨g, 0, none⟩) len len ∧ w.heap.size ≤ g ∧ Row64 w1 g len (fun i => (T i : Int)) ∧ LnOk F len m T := by
          rcases HAn.out with ⟨h, _⟩ | ⟨_, T, g, h1, h2, h3, h4⟩
          · exact absurd hr h
          · exact ⟨T, g, h1, h2, h3, by simpa using h4⟩
        have HR := Hid.mk' hrow
        have HT : Hid (∀ i, i < len → T i ≤ 15) := fun i hi => hln.le hm1 i hi
        have HZ : Hid (∀ i, i < len → F i = 0 → T i = 0) := fun i hi h => hln.out i hi (by omega)
        have HL : Hid (∀ i, i < len → 0 < F i → 1 ≤ T i ∧ T i ≤ m) := fun i hi h => hln.lo i hi h
        have H1 : Hid (c = 1 → ∀ i, i < len → T i ≤ 1) := fun h i hi => ln_single hln hm0 (by rw [hc.out]; exact h) i hi
        have HFi := Hid.mk' (hln.lens hm1 hl3)
        clear hr hrow hln HAn
        go_wp2_with fail
        refine (rfreq_any a0 len cap F _ HP1.out).mono ?_
        rintro e w' ⟨rfl, hw'⟩; obtain rfl := hw'.symm
        rw [HE.out]
        go_wp2_with fail
        refine (comes_any a0 len cap F _ HP1.out hl3 HF.out).mono ?_
        rintro e w2 ⟨⟨v, rfl, hown⟩, hb2⟩
        rw [hcl.out] at hown
        obtain ⟨ao, cp, rfl⟩ := own_sl hown
        have HB2 := Hid.mk' hb2
        clear hown hb2
        go_wp2_with fail
        refine (pow2_any m _ (by omega)).mono ?_
        rintro e w' ⟨rfl, hw'⟩; obtain rfl := hw'.symm
        rw [hp.out]
        have hnl : ((len : Int) != (len : Int)) = false := by simp
        go_wp2_with fail
        go_loopw [61] (fun i wr => ∃ k : Nat, k ≤ len ∧ i = .int .i64 k ∧ Below w1.heap.size w1 wr) (fun i _ => len - (intOf i).toNat)
        case atStart => exact ⟨0, Nat.zero_le _, rfl, HB2.out⟩
        case round =>
          obtain ⟨k, hk, rfl, hbr⟩ := hrel
          have HBr := Hid.mk' hbr
          have HPr : Hid (Wds wr a0 len F) := wds_below HP1.out hbr
          clear hbr
          by_cases hlt : k < len
          · have c1 := (HBr.out.cell (p := ⟨g, k, none⟩) HR.out.lt).trans (HR.out.cell k hlt)
            obtain ⟨b, off, rfl, hb, hcc⟩ := HPr.out.at' (by omega)
            have c2 := hcc k hlt
            clear hcc
            have ht := HT.out k hlt
            have hz := HZ.out k hlt
            have hl := HL.out k hlt
            have h1 := fun h => H1.out h k hlt
            obtain ⟨y, hy⟩ : ∃ y : Nat, F k = y := ⟨(F k).toNat, by have := HF.out k hlt; omega⟩
            have hyb : y ≤ 1048576 := by have := HF.out k hlt; omega
            rw [hy] at c2 hz hl
            clear hy
            generalize T k = t at *
            by_cases hy0 : y = 0
            · have ht0 : t = 0 := hz (by omega)
              subst ht0
              subst hy0
              clear hz hl h1
              go_wp2_with fail
              refine (comes_any _ len cap F _ HPr.out hl3 HF.out).mono ?_
              rintro e w3 ⟨⟨v, rfl, hown⟩, hb3⟩
              rw [hcl.out] at hown
              obtain ⟨ao, cp, rfl⟩ := own_sl hown
              have HB3 : Hid (Below w1.heap.size w1 w3) := HBr.out.trans (hb3.mono HBr.out.size)
              clear hown hb3
              by_cases hc1 : c = 1
              · have hq : ((c : Int) == 1) = true := by rw [beq_iff_eq]; omega
                clear hc1
                go_wp2_with fail
                go_roundw
                case rel => exact ⟨k + 1, by omega, by go_num, HB3.out⟩
                case measure => simp [intOf]; omega
              · have hq : ((c : Int) == 1) = false := by rw [beq_eq_false_iff_ne]; omega
                clear hc1
                go_wp2_with fail
                go_roundw
                case rel => exact ⟨k + 1, by omega, by go_num, HB3.out⟩
                case measure => simp [intOf]; omega
            · have hyp : 0 < y := by omega
              have hyn : ((y : Int) == 0) = false := by rw [beq_eq_false_iff_ne]; omega
              have hl1 := (hl (by omega)).1
              have hl2 := (hl (by omega)).2
              have d1 : decide (t < 1) = false := decide_eq_false (by omega)
              have d2 : decide (m < t) = false := decide_eq_false (by omega)
              clear hz hl hy0
              go_wp2_with fail
              refine (comes_any _ len cap F _ HPr.out hl3 HF.out).mono ?_
              rintro e w3 ⟨⟨v, rfl, hown⟩, hb3⟩
              rw [hcl.out] at hown
              obtain ⟨ao, cp, rfl⟩ := own_sl hown
              have HB3 : Hid (Below w1.heap.size w1 w3) := HBr.out.trans (hb3.mono HBr.out.size)
              clear hown hb3
              by_cases hc1 : c = 1
              · have hq : ((c : Int) == 1) = true := by rw [beq_iff_eq]; omega
                have d3 : decide (1 < t) = false := decide_eq_false (by have := h1 hc1; omega)
                have d4 : ¬ 1 < t := by have := h1 hc1; omega
                clear hc1 h1
                go_wp2_with fail
                go_roundw
                case rel => exact ⟨k + 1, by omega, by go_num, HB3.out⟩
                case measure => simp [intOf]; omega
              · have hq : ((c : Int) == 1) = false := by rw [beq_eq_false_iff_ne]; omega
                clear hc1 h1
                go_wp2_with fail
                go_roundw
                case rel => exact ⟨k + 1, by omega, by go_num, HB3.out⟩
                case measure => simp [intOf]; omega
          · have HRr : Hid (Wds wr (some ⟨g, 0, none⟩) len (fun i => (T i : Int))) := wds_below (wds_row' HR.out hl3 HT.out) HBr.out
            have HBz : Hid (Below w.heap.size w wr) := HB1.out.trans (HBr.out.mono HB1.out.size)
            go_wp2_with fail
            refine (rfill_any _ len len (fun i => (T i : Int)) _ HRr.out).mono ?_
            rintro e w' ⟨rfl, hw'⟩; obtain rfl := hw'.symm
            rw [HFi.out.1]
            have hfb := HFi.out.2
            generalize fillA (fun i => (T i : Int)) len = q at hfb ⊢
            go_wp2_with fail
            go_ret
            refine ⟨?_, HBz.out⟩
            show Ending.returned (.bool (decide ((q : Int) ≤ 32768))) = .returned (.bool true)
            rw [decide_eq_true (by omega)]
  · have hr := lensE_freq (most := a1) hE
    obtain rfl : v = .slice none 0 0 := by
      rcases HAn.out with ⟨_, h⟩ | ⟨h, _⟩
      · exact h
      · rw [hr] at h; exact absurd h hE
    rw [hr]
    have his := freqE_is F len
    obtain ⟨x, hx⟩ : ∃ x, Hid (freqE F len = x) := ⟨_, Hid.mk' rfl⟩
    rw [hx.out] at hE his ⊢
    have e1 : (x == 0) = false := by rw [beq_eq_false_iff_ne]; exact hE
    have e2 : (x != 0) = true := by rw [bne_iff_ne]; exact hE
    have e3 : (x != x) = false := by simp
    have e4 : (x == x) = true := by simp
    clear hE hr HAn
    go_wp2_with fail
    refine (rfreq_any a0 len cap F _ HP1.out).mono ?_
    rintro e w' ⟨rfl, hw'⟩; obtain rfl := hw'.symm
    rw [hx.out]
    go_wp2_with fail
    go_ret
    exact ⟨rfl, HB1.out⟩
end Go.Proofs.Ytalapgppgelidaa
