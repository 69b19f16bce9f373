import Derived.Test.YtcalbicfnhoklaaDoorMsat
import Derived.Test.YtcalbicfnhoklaaDoorSpendWalks
import Derived.Test.YtcalbicfnhoklaaDoorMsac

/- What huff.Lens answers. -/
namespace Go.Proofs.YtcalbicfnhoklaaDoor
open Go.RowKit

/-- lengths that Lens answers: none where it refuses -/
def LnAns (F : Nat → Int) (len : Nat) (most : Int) (N : Nat) (w : World) (v : Value) : Prop :=
  (lensE F len most ≠ 0 ∧ v = .slice none 0 0) ∨ (lensE F len most = 0 ∧ ∃ T g, v = .slice (some ⟨g, 0, none⟩) len len ∧ N ≤ g ∧ Row64 w g len (fun i => (T i : Int)) ∧ LnOk F len most.toNat T)
theorem lensE_freq {F : Nat → Int} {len : Nat} {most : Int} (h : freqE F len ≠ 0) : lensE F len most = freqE F len := by unfold lensE; rw [if_pos h]
theorem lensE_most {F : Nat → Int} {len : Nat} {most : Int} (h : freqE F len = 0) (h1 : most < 1 ∨ 15 < most) : lensE F len most = 1 := by unfold lensE; rw [if_neg (by simp [h]), if_pos h1]
theorem lensE_over {F : Nat → Int} {len m : Nat} (h : freqE F len = 0) (h1 : 1 ≤ m ∧ m ≤ 15) (h2 : 2 ^ m < (cmL F len).length) : lensE F len (m : Int) = 6 := by
  unfold lensE; rw [if_neg (by simp [h]), if_neg (by omega), if_pos (by rw [Int.toNat_natCast]; exact h2)]
theorem lensE_ok {F : Nat → Int} {len m : Nat} (h : freqE F len = 0) (h1 : 1 ≤ m ∧ m ≤ 15) (h2 : (cmL F len).length ≤ 2 ^ m) : lensE F len (m : Int) = 0 := by
  unfold lensE; rw [if_neg (by simp [h]), if_neg (by omega), if_neg (by rw [Int.toNat_natCast]; omega)]

theorem row64_one (w : World) (len k : Nat) (t : TypeId) : Row64 (w.alloc (.cells ((madeCells #[.int .i64 0] len).setIfInBounds k (.int .i64 1)) t)) w.heap.size len (fun i => ((if i = k then 1 else 0 : Nat) : Int)) := by
  refine ⟨fun i hi => ?_, fun i hi => ?_, by simp⟩
  · rw [World.cell?_alloc_new, Array.getElem?_setIfInBounds]
    by_cases e : k = i
    · subst e
      simp [madeCells, hi]
    · rw [if_neg e, if_neg (by intro h; exact e h.symm)]
      simp [madeCells, hi, Nat.mod_one]
  · unfold World.frozen?
    rw [heap_alloc_new]
    rfl

set_option maxRecDepth 20000 in
set_option maxHeartbeats 2000000 in
theorem hlens_any (a0 : Option Addr) (len cap : Nat) (F : Nat → Int) (most : Int) (w : World) (hP : Wds w a0 len F) (hb : -9223372036854775808 ≤ most ∧ most ≤ 9223372036854775807) :
    Calls Tryd.prog 36 #[.slice a0 len cap, .int .i64 most] w fun e w' => (∃ v, e = .returned (.tuple #[v, .int .i64 (lensE F len most)]) ∧ LnAns F len most w.heap.size w' v) ∧ Below w.heap.size w w' := by
  have hlen := hP.lenB
  have HP := Hid.mk' hP
  clear hP
  by_cases hE : freqE F len = 0
  · have HE := Hid.mk' hE
    by_cases hM : most < 1 ∨ 15 < most
    · have hr := Hid.mk' (lensE_most hE hM)
      clear hE
      go_enter Tryd.func36, Tryd.ntmps36
      go_wp2_with fail
      refine (chk_any a0 len cap F _ HP.out).mono ?_
      rintro e w' ⟨rfl, hw'⟩; obtain rfl := hw'.symm
      rw [HE.out]
      by_cases h1 : most < 1
      all_goals
        go_wp2_with fail
        go_ret2
        exact ⟨⟨_, by rw [hr.out]; rfl, .inl ⟨by rw [hr.out]; decide, rfl⟩⟩, Below.refl _ _⟩
    · obtain ⟨m, rfl⟩ : ∃ m : Nat, most = m := ⟨most.toNat, by omega⟩
      have hm : 1 ≤ m ∧ m ≤ 15 := by omega
      have hm0 := hm.1
      have hm1 := hm.2
      obtain ⟨hl3, hF⟩ := freqE_zero hE
      have HF := Hid.mk' hF
      obtain ⟨p, hp⟩ : ∃ p : Nat, Hid (2 ^ m = p) := ⟨_, Hid.mk' rfl⟩
      have hpz : (2 : Int) ^ m = (p : Int) := by rw [← hp.out]; norm_cast
      have hpb : p ≤ 32768 := by rw [← hp.out]; exact pow_le15 m hm1
      have hnl := cmL_len F len
      have hov : Hid (p < (cmL F len).length → lensE F len (m : Int) = 6) := fun h => lensE_over hE hm (by rw [hp.out]; exact h)
      have hok : Hid ((cmL F len).length ≤ p → lensE F len (m : Int) = 0) := fun h => lensE_ok hE hm (by rw [hp.out]; exact h)
      have hnn : Hid ((cmL F len).length = 0 → LnOk F len m (fun _ => 0)) := fun h => ln_none h
      clear hE hF hb hM hm
      have HM := Hid.mk' (fun i (hi : i < (cmL F len).length) => cmL_mem F len ((cmL F len).getD i 0) (by rw [List.getD_eq_getElem?_getD, List.getElem?_eq_getElem hi]; exact List.getElem_mem hi))
      have hmk := fun w => run_make_row' (P := Tryd.prog) 50 3 (.int .i64 0) 8 Tryd.underlying50 infoI64 rfl .i64 .i64 len (by omega) (by omega) w
      go_enter Tryd.func36, Tryd.ntmps36
      go_wp2_with fail
      refine (chk_any a0 len cap F _ HP.out).mono ?_
      rintro e w' ⟨rfl, hw'⟩; obtain rfl := hw'.symm
      rw [HE.out]
      go_wp2_with fail
      refine (coming_any a0 len cap F _ HP.out hl3).mono ?_
      rintro e w1 ⟨⟨v, s, rfl, hi64, hper, hso⟩, hb1⟩
      have HPe := Hid.mk' hper
      have HSo := Hid.mk' hso
      have HB1 := Hid.mk' hb1
      have hs1 := hb1.size
      have HI := Hid.mk' hi64
      obtain ⟨a1, cap1, rfl, hq⟩ := hi64.is
      have HQ := Hid.mk' hq
      have hmem : Hid (∀ j, j < (cmL F len).length → s j < len ∧ 0 < F (s j)) := fun j hj => by
        obtain ⟨y, _, hy, he⟩ := hper.mem j (Nat.zero_le _) hj
        rw [he]; exact HM.out y hy
      clear hi64 hper hso hb1 hq
      obtain ⟨n, hn⟩ : ∃ n, Hid ((cmL F len).length = n) := ⟨_, Hid.mk' rfl⟩
      rw [hn.out] at hnl hov hok hnn HI HQ hmem HPe HSo ⊢
      by_cases hover : p < n
      · have hr := Hid.mk' (hov.out hover)
        go_wp2_with fail
        go_ret2
        exact ⟨⟨_, by rw [hr.out]; rfl, .inl ⟨by rw [hr.out]; decide, rfl⟩⟩, HB1.out⟩
      · have hr := Hid.mk' (hok.out (by omega))
        obtain ⟨w2, hw2⟩ : ∃ w2, Hid (w1.alloc (.cells (madeCells #[.int .i64 0] len) 3) = w2) := ⟨_, Hid.mk' rfl⟩
        have HS2 : Hid (w2.heap.size = w1.heap.size + 1) := by show _ = _; rw [← hw2.out]; simp
        have HBa : Hid (Below w1.heap.size w1 w2) := by rw [← hw2.out]; exact (Below.refl _ _).alloc (Nat.le_refl _) _
        have HB2 : Hid (Below w.heap.size w w2) := HB1.out.trans (HBa.out.mono hs1)
        have HR2 : Hid (Row64 w2 w1.heap.size len (fun _ => 0)) := by rw [← hw2.out]; exact row64_made _ _ _
        by_cases hn0 : n = 0
        · have hfin := Hid.mk' (hnn.out hn0)
          subst hn0
          go_wp2_with fail
          rw [hw2.out]
          go_ret2
          exact ⟨⟨_, by rw [hr.out]; rfl, .inr ⟨hr.out, fun _ => 0, w1.heap.size, rfl, hs1, HR2.out, by rw [Int.toNat_natCast]; exact hfin.out⟩⟩, HB2.out⟩
        · obtain ⟨b1, off1, rfl, hbl1, hc1⟩ := HQ.out (by omega)
          have HC1 := Hid.mk' hc1
          clear hc1
          by_cases hn1 : n = 1
          · subst hn1
            have hm0' := hmem.out 0 (by omega)
            have hs0 := hm0'.1
            have c1 := (HBa.out.cell (p := ⟨b1, off1 + 0, none⟩) hbl1).trans (HC1.out 0 (by omega))
            rw [Nat.add_zero] at c1
            have c2 := HR2.out.cell (s 0) hs0
            have f2 := HR2.out.open' (s 0) hs0
            have hfin : Hid (LnOk F len m (fun x => if x = s 0 then 1 else 0)) := by
              have h1 := ids_perm (l := cmL F len) (s := s) (by rw [hn.out]; exact HPe.out)
              rw [hn.out] at h1
              exact ln_one hm0 (List.perm_singleton.1 h1.symm)
            have HR3 := Hid.mk' (row64_one w1 len (s 0) 3)
            have HB3 : Hid (Below w.heap.size w (w1.alloc (.cells ((madeCells #[.int .i64 0] len).setIfInBounds (s 0) (.int .i64 1)) 3))) := HB1.out.alloc hs1 _
            generalize s 0 = t at *
            rw [← hw2.out] at c1 c2 f2
            go_wp2_with fail
            go_ret2
            exact ⟨⟨_, by rw [hr.out]; rfl, .inr ⟨hr.out, _, w1.heap.size, rfl, hs1, HR3.out, by rw [Int.toNat_natCast]; exact hfin.out⟩⟩, HB3.out⟩
          · have HIl : Hid (I64s w2 (.slice (some ⟨b1, off1, none⟩) n cap1) n (fun i => (s i : Int))) := i64s_below HI.out HBa.out
            have HP2 : Hid (Wds w2 a0 len F) := wds_below HP.out HB2.out
            go_wp2_with fail
            rw [hw2.out]
            refine (levels_any a0 len cap F (some ⟨b1, off1, none⟩) n cap1 s m _ HP2.out HIl.out (by omega) (by omega) hm1 fun j hj => ⟨(hmem.out j hj).1, by have := (hmem.out j hj).2; omega, (HF.out _ (hmem.out j hj).1).2⟩).mono ?_
            rintro e w3 ⟨⟨L, V, rfl, hlv, hrv, hat⟩, hb3⟩
            have HL := Hid.mk' hlv
            have HV := Hid.mk' hrv
            have HA := Hid.mk' hat
            have HB3 := Hid.mk' hb3
            have hs3 := hb3.size
            clear hlv hrv hat hb3
            have hmany := ln_many (F := F) (len := len) (m := m) (s := s) (L := L) hm0 hm1 (by rw [hn.out]; omega) (by rw [hn.out, hp.out]; omega) (by rw [hn.out]; exact HPe.out) (by rw [hn.out]; exact HSo.out) HL.out.z (by rw [hn.out]; exact HL.out.s)
            rw [hn.out] at hmany
            have HR3 : Hid (Row64 w3 w1.heap.size len (fun _ => 0)) := ⟨fun i hi => (HB3.out.cell (p := ⟨w1.heap.size, i, none⟩) HR2.out.lt).trans (HR2.out.cell i hi), fun i hi => (HB3.out.frozen (p := ⟨w1.heap.size, i, none⟩) HR2.out.lt).trans (HR2.out.open' i hi), Nat.lt_of_lt_of_le HR2.out.lt hs3⟩
            have HC3 : Hid (∀ j, j < n → w3.cell? ⟨b1, off1 + j, none⟩ = some (.int .i64 (s j : Int))) := fun j hj => (HB3.out.cell (p := ⟨b1, off1 + j, none⟩) (by show b1 < w2.heap.size; rw [HS2.out]; omega)).trans ((HBa.out.cell (p := ⟨b1, off1 + j, none⟩) hbl1).trans (HC1.out j hj))
            have hroom := hmany.1
            have HM2 := Hid.mk' hmany.2
            have HU : Hid (((List.range n).map fun j => (F (s j)).toNat).Pairwise (· ≤ ·)) := ids_up HSo.out
            clear hmany
            go_wp2_with fail
            have hle2 : w1.heap.size + 1 ≤ w2.heap.size := Nat.le_of_eq HS2.out.symm
            refine (spend_any w1.heap.size len len b1 off1 n cap1 s w2.heap.size m (w2.heap.size + 1) (fun j => (F (s j)).toNat) L V _ hm0 hm1 (by omega) (by omega) HR3.out (by omega) (by omega) HC3.out (fun j hj => (hmem.out j hj).1) HV.out (by omega) HA.out (by omega) HL.out HU.out hroom).mono ?_
            rintro e w4 ⟨rfl, hg4⟩
            have HB4 : Hid (Below w.heap.size w w4) := (HB2.out.trans (HB3.out.mono (by omega))).grown hg4.gr (by omega) fun i hi => by cases hi; exact hs1
            have HG := Hid.mk' hg4.row
            clear hg4
            go_wp2_with fail
            go_ret2
            exact ⟨⟨_, by rw [hr.out]; rfl, .inr ⟨hr.out, _, w1.heap.size, rfl, hs1, HG.out, by rw [Int.toNat_natCast]; exact HM2.out⟩⟩, HB4.out⟩
  · have hr := Hid.mk' (lensE_freq (most := most) hE)
    have hne := freqE_ne hE
    have HE := Hid.mk' hE
    have his := freqE_is F len
    obtain ⟨x, hx⟩ : ∃ x, Hid (freqE F len = x) := ⟨_, Hid.mk' rfl⟩
    rw [hx.out] at hr hne HE his
    clear hE
    go_enter Tryd.func36, Tryd.ntmps36
    go_wp2_with fail
    refine (chk_any a0 len cap F _ HP.out).mono ?_
    rintro e w' ⟨rfl, hw'⟩; obtain rfl := hw'.symm
    rw [hx.out]
    go_wp2_with fail
    go_ret2
    exact ⟨⟨_, by rw [hr.out]; rfl, .inl ⟨by rw [hr.out]; exact HE.out, rfl⟩⟩, Below.refl _ _⟩
end Go.Proofs.YtcalbicfnhoklaaDoor
