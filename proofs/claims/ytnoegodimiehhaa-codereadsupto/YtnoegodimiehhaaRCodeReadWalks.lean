/- What linenref.CodeRead answers. -/
import Derived.Test.YtnoegodimiehhaaRSignWalks
import Derived.Test.YtnoegodimiehhaaRBitsWalks
import Derived.Test.YtnoegodimiehhaaCellsC
namespace Go.Proofs.Ytnoegodimiehhaa
open Go.RowKit

theorem below_drewNR {B : Nat} {a w : World} (h : Below B a w) (q : Nat) : Below B a (w.drewN q) := ⟨h.os, h.tape, h.output, h.size, h.block⟩
theorem bv_bts {w : World} {ao : Option Addr} {n cap X a : Nat} (h : BV w (.slice ao n cap) X a n) : n ≤ cap ∧ Bts w ao (X / 2 ^ a) n := by
  obtain ⟨ao', cap', h1, h2, h3⟩ := h.is
  cases h1
  refine ⟨h2, ⟨fun hp => ?_⟩⟩
  obtain ⟨g, off, k1, k2, k3⟩ := h3 hp
  refine ⟨g, off, k1, k2, fun i hi => ?_⟩
  rw [k3 i hi, Nat.pow_add, Nat.div_div_eq_div_mul]
theorem Bts.below {w w' : World} {ao : Option Addr} {X n : Nat} (h : Bts w ao X n) (hb : Below w.heap.size w w') : Bts w' ao X n :=
  ⟨fun hp => by obtain ⟨g, off, k1, k2, k3⟩ := h.at' hp; exact ⟨g, off, k1, Nat.lt_of_lt_of_le k2 hb.size, fun i hi => (hb.cell (p := ⟨g, off + i, none⟩) k2).trans (k3 i hi)⟩⟩
theorem i64s_of_rd {w : World} {N n : Nat} {v : Value} {W : Nat → Int} (h : w.ownsRow N 3 1 v n (cellsC W n)) : I64s w v n W := by
  rcases h.2 with ⟨rfl, rfl⟩ | ⟨g, cap, cur, rfl, _, hg, _, _, _, hx⟩
  · exact i64s_nil _ _
  · refine ⟨some ⟨g, 0, none⟩, cap, rfl, fun _ => ⟨g, 0, rfl, (Array.getElem?_eq_some_iff.1 hg).1, fun i hi => ?_⟩⟩
    rw [Nat.zero_add, h.cellAt i (by omega)]
    simp [cellsC, hi]

set_option maxRecDepth 20000 in
set_option maxHeartbeats 1000000 in
theorem rcoderead_any (a0 : Option Addr) (len cap : Nat) (L : Nat → Int) (s : ByteArray) (a n : Int) (w : World) (hP : Wds w a0 len L) (hs : s.size ≤ 1048576) (ha : -9223372036854775808 ≤ a ∧ a ≤ 9223372036854775807) (hn : -9223372036854775808 ≤ n ∧ n ≤ 9223372036854775807) :
    Calls Try.prog 8 #[.slice a0 len cap, .string s, .int .i64 a, .int .i64 n] w fun e w' => (∃ v, e = .returned (.tuple #[v, .int .i64 (readK L len s a n : Nat), .int .i64 (readE L len s a n)]) ∧ I64s w' v (readL L len s a n) (rdF L len s a.toNat)) ∧ Below w.heap.size w w' := by
  have HP := Hid.mk' hP
  clear hP
  obtain ⟨tn, htn⟩ : ∃ x, Hid (8 * s.size = x) := ⟨_, Hid.mk' rfl⟩
  have htb : tn ≤ 8388608 := by have := htn.out; omega
  by_cases hE : canE L len = 0
  · have HE := Hid.mk' hE
    obtain ⟨_, _, _, hcl⟩ := canE_ok hE
    have HC := Hid.mk' hcl
    clear hcl
    cases hab : argB s a n with
    | true =>
      have hra := Hid.mk' (read_arg hE hab)
      have hy := arg_yes hab
      have hfin : Hid (∀ wx : World, Below w.heap.size w wx → (∃ v, Ending.returned (.tuple #[.slice none 0 0, .int .i64 0, .int .i64 1]) = .returned (.tuple #[v, .int .i64 (readK L len s a n : Nat), .int .i64 (readE L len s a n)]) ∧ I64s wx v (readL L len s a n) (rdF L len s a.toNat)) ∧ Below w.heap.size w wx) := by
        intro wx hx
        rw [hra.out.1, hra.out.2.1, hra.out.2.2]
        exact ⟨⟨_, rfl, i64s_nil _ _⟩, hx⟩
      have HY := Hid.mk' hy
      clear hy hab hE
      by_cases h1 : a < 0
      case' pos =>
        have t1 : decide (a < 0) = true := decide_eq_true h1
      case' neg =>
        have t1 : decide (a < 0) = false := decide_eq_false h1
        obtain ⟨A, hA⟩ : ∃ A : Nat, a = (A : Int) := ⟨a.toNat, by omega⟩
        subst hA
        by_cases h2 : tn < A
        case' pos =>
          have t2 : decide (tn < A) = true := decide_eq_true h2
          have t3 : decide ((tn : Int) < (A : Int)) = true := decide_eq_true (by omega)
        case' neg =>
          have t2 : decide (tn < A) = false := decide_eq_false h2
          have t3 : decide ((tn : Int) < (A : Int)) = false := decide_eq_false (by omega)
          have h3 : n < 0 := by have h5 := HY.out; have h6 := htn.out; omega
          have t4 : decide (n < 0) = true := decide_eq_true h3
      all_goals
        go_enter Try.func8, Try.ntmps8
        go_wp2_with fail
        refine (rcanon_any a0 len cap L _ HP.out).mono ?_
        rintro e w1 ⟨⟨v, rfl, hI⟩, hb⟩
        rw [HE.out]
        have HB := Hid.mk' hb
        clear hI hb
        go_wp2_with fail
        refine (rbits_any s _ hs).mono ?_
        rintro e w2 ⟨⟨v2, rfl, ho⟩, hb⟩
        rw [htn.out] at ho
        obtain ⟨ao, cp, rfl⟩ := own_slice' ho
        have HB2 := Hid.mk' (HB.out.trans (hb.mono HB.out.size))
        clear ho hb
        go_wp2_with fail
        go_ret3
        exact hfin.out _ HB2.out
    | false =>
      obtain ⟨k1, k2, k3⟩ := arg_of hab
      obtain ⟨A, rfl⟩ : ∃ A : Nat, a = (A : Int) := ⟨a.toNat, by omega⟩
      obtain ⟨N, rfl⟩ : ∃ N : Nat, n = (N : Int) := ⟨n.toNat, by omega⟩
      have hAs : A ≤ 8 * s.size := by omega
      have hAt : A ≤ tn := by have := htn.out; omega
      have t1 : decide ((A : Int) < 0) = false := decide_eq_false (by omega)
      have t2 : decide (tn < A) = false := decide_eq_false (by omega)
      have t3 : decide ((tn : Int) < (A : Int)) = false := decide_eq_false (by omega)
      have t4 : decide ((N : Int) < 0) = false := decide_eq_false (by omega)
      by_cases h5 : 1024 < N
      · have hrm := Hid.mk' (read_many hE hab (by omega))
        have t5 : decide (1024 < N) = true := decide_eq_true h5
        clear k1 k2 k3 ha hE hab
        go_enter Try.func8, Try.ntmps8
        go_wp2_with fail
        refine (rcanon_any a0 len cap L _ HP.out).mono ?_
        rintro e w1 ⟨⟨v, rfl, hI⟩, hb⟩
        rw [HE.out]
        have HB := Hid.mk' hb
        clear hI hb
        go_wp2_with fail
        refine (rbits_any s _ hs).mono ?_
        rintro e w2 ⟨⟨v2, rfl, ho⟩, hb⟩
        rw [htn.out] at ho
        obtain ⟨ao, cp, rfl⟩ := own_slice' ho
        have HB2 := Hid.mk' (HB.out.trans (hb.mono HB.out.size))
        clear ho hb
        go_wp2_with fail
        go_ret3
        refine ⟨⟨.slice none 0 0, ?_, ?_⟩, HB2.out⟩
        · rw [hrm.out.1, hrm.out.2.2]; rfl
        · rw [hrm.out.2.1]; exact i64s_nil _ _
      · have t5 : decide (1024 < N) = false := decide_eq_false h5
        have hrok := Hid.mk' (fun h0 => read_ok (n := N) hE hAs (by omega) h0)
        have hrer := Hid.mk' (fun (k : Nat) hk h0 h1 => read_err (n := N) (k := k) hE hAs (by omega) hk h0 h1)
        have hN : N ≤ 1024 := by omega
        obtain ⟨i0, hi, hz0, hz1, hz2⟩ := info_parts infoIntB
        have KI := Hid.mk' hi
        have KZ0 := Hid.mk' hz0
        have KZ1 := Hid.mk' hz1
        have KZ2 := Hid.mk' hz2
        clear k1 k2 k3 ha hn hab h5 hi hz0 hz1 hz2 hE
        go_enter Try.func8, Try.ntmps8
        go_wp2_with fail
        refine (rcanon_any a0 len cap L _ HP.out).mono ?_
        rintro e w1 ⟨⟨v, rfl, hI⟩, hb⟩
        rw [HE.out]
        have HB1 := Hid.mk' hb
        clear hI hb
        go_wp2_with fail
        refine (rbits_any s _ hs).mono ?_
        rintro e w2 ⟨⟨v2, rfl, ho⟩, hb⟩
        rw [htn.out] at ho
        obtain ⟨ao, cp, rfl⟩ := own_slice' ho
        have hbv := bv_of_own ho
        have hcap : cp ≤ 9223372036854775807 ∧ tn ≤ cp := by
          rcases ho.2 with ⟨h1, h2⟩ | ⟨g, cap', cur, h1, _, _, h3, h4, _, _⟩
          · cases h1; omega
          · cases h1; exact ⟨h4, h3⟩
        have HCP := Hid.mk' hcap
        have hcp1 := hcap.1
        clear hcap
        have HBV := Hid.mk' hbv
        have HB2 := Hid.mk' (HB1.out.trans (hb.mono HB1.out.size))
        clear ho hb hbv
        go_wp2_with fail
        refine (rwords_any a0 len cap L _ (wds_below HP.out HB2.out) HE.out).mono ?_
        rintro e w3 ⟨⟨g, R, rfl, hwd⟩, hb⟩
        have HWD := Hid.mk' hwd
        have HB23 := Hid.mk' hb
        have HB3 := Hid.mk' (HB2.out.trans (hb.mono HB2.out.size))
        clear hwd hb
        go_wp2_with fail
        go_loopw [2, 15, 46] (fun at' ov i wr => ∃ k : Nat, k ≤ N ∧ i = .int .i64 k ∧ at' = .int .i64 (rdA L len s A k : Nat) ∧ rdE L len s A k = 0 ∧ wr.ownsRow w3.heap.size 3 1 ov k (cellsC (rdF L len s A) k) ∧ Below w3.heap.size w3 wr) (fun _ _ i _ => N - (intOf i).toNat)
        case atStart => exact ⟨0, Nat.zero_le _, rfl, rfl, rfl, World.ownsRow_nil _ _ _ _, Below.refl _ _⟩
        case round =>
          obtain ⟨k, hk, rfl, rfl, h0, hown, hbl⟩ := hrel
          have H0 := Hid.mk' h0
          have HO := Hid.mk' hown
          have HBl := Hid.mk' hbl
          have hsl := hbl.size
          have hal := rdA_le hAs k h0
          clear hown hbl h0
          by_cases hlt : k < N
          · obtain ⟨B, hB⟩ : ∃ B, Hid (rdA L len s A k = B) := ⟨_, Hid.mk' rfl⟩
            obtain ⟨⟨ri, rk, re⟩, hr⟩ : ∃ r, Hid (stpS L len s B = r) := ⟨_, Hid.mk' rfl⟩
            rw [hB.out] at hal ⊢
            have hBt : B ≤ tn := by have := htn.out; omega
            have hcap := HCP.out.2
            have hr2 : Hid (sgnS L len (txtN s.data.toList / 2 ^ B) (tn - B) 16 0 = (ri, rk, re)) := by have := hr.out; unfold stpS at this; rw [htn.out] at this; exact this
            obtain ⟨ao', cp', hv', hcc', hrow'⟩ := HBV.out.is
            cases hv'
            have hnx := bv_next (a := 0) (wd := B) hBt hcc' hrow'
            rw [Nat.zero_add] at hnx
            obtain ⟨hc2, hbt⟩ := bv_bts hnx
            have HBT := Hid.mk' ((hbt.below HB23.out).below HBl.out)
            have B0 : (0 : Int) ≤ (B : Int) := by omega
            have B1 : (B : Int) ≤ (tn : Int) := by omega
            have B2 : (B : Int) ≤ (cp : Int) := by omega
            clear hrow' hnx hbt
            by_cases hcB : cp = B
            case' pos =>
              have hcB2 : B = cp := hcB.symm
              clear hcB
              subst hcB2
              have hz0 : tn - B = 0 := by omega
              have HBT2 : Hid (Bts wr ao (txtN s.data.toList / 2 ^ B) 0) := by have := HBT.out; rwa [if_pos rfl, hz0] at this
              have HC3 : Hid (0 ≤ 0) := Nat.le_refl 0
              rw [hz0] at hr2
              clear hz0
            case' neg =>
              have HBT2 : Hid (Bts wr (ao.map fun x => x.add B) (txtN s.data.toList / 2 ^ B) (tn - B)) := by have := HBT.out; rwa [if_neg hcB] at this
              have HC3 : Hid (tn - B ≤ cp - B) := hc2
            all_goals
              clear HBT hc2 hcap
              by_cases hre : re = 0
              · subst hre
                have hst : (stpS L len s (rdA L len s A k)).2.2 = 0 := by rw [hB.out, hr.out]
                have hsk := stp_ok hst
                rw [hB.out, hr.out] at hsk
                have hE1 : Hid (rdE L len s A (k + 1) = 0) := by show _ = _; rw [rdE, if_pos H0.out]; exact hst
                have hA1 : Hid (rdA L len s A (k + 1) = B + rk) := by show _ = _; rw [rdA, hB.out, hr.out]
                have hF1 : Hid (rdF L len s A k = (ri : Int)) := by show _ = _; unfold rdF; rw [hB.out, hr.out]
                have hrl : ri < len := hsk.1
                have hkl2 : rk ≤ 8 * s.size - B := hsk.2.2.1
                have h320 := (canE_ok HE.out).1
                clear hst hsk
                go_wp2_with fail
                refine (rsign_any g L len R _ _ _ (txtN s.data.toList / 2 ^ B) _ HE.out (HWD.out.below HBl.out) HBT2.out (by omega) HC3.out _ hr2.out).mono ?_
                rintro e w4 ⟨rfl, q, rfl⟩
                obtain ⟨W2, hW2⟩ : ∃ W2, Hid (wr.drewN q = W2) := ⟨_, Hid.mk' rfl⟩
                have HO2 : Hid (W2.ownsRow w3.heap.size 3 1 u15 k (cellsC (rdF L len s A) k)) := by rw [← hW2.out]; exact HO.out
                have HBl2 : Hid (Below w3.heap.size w3 W2) := by rw [← hW2.out]; exact below_drewNR HBl.out q
                have hsl2 : w3.heap.size ≤ W2.heap.size := HBl2.out.size
                rw [hW2.out]
                go_wp2_with (at_builtin; refine wpList_append_own _ rfl (.tmp 60) (.tmp 62) 22 rfl w3.heap.size 3 i0 (.int .i64 0) 1 8 Try.underlying22 KI.out KZ0.out KZ1.out KZ2.out rfl (by decide) u15 _ _ rfl (HO2.out.alloc _) ⟨W2.heap.size, 0, none⟩ 1 1 [.int .i64 (ri : Int)] rfl rfl (cell_one_new _ _ _) (one_int _ _) (by unfold maxLen; omega) (by omega) (by simp; omega) ?_; intro v5 w5 hown5 hgrow5 _)
                have HB5 := Hid.mk' (below_grow' HO2.out HBl2.out hsl2 hgrow5)
                have HO5 : Hid (w5.ownsRow w3.heap.size 3 1 v5 (k + 1) (cellsC (rdF L len s A) (k + 1))) := by
                  have e : cellsC (rdF L len s A) (k + 1) = cellsC (rdF L len s A) k ++ [.int .i64 (ri : Int)] := by
                    unfold cellsC
                    rw [List.range_succ, List.map_append, List.map_singleton, hF1.out]
                  rw [e]; exact hown5
                clear hown5 hgrow5
                go_wp2_with fail
                go_roundw
                case rel => exact ⟨k + 1, by omega, by go_num, by rw [hA1.out]; go_num, hE1.out, HO5.out, HB5.out⟩
                case measure => simp [intOf]; omega
              · have hsh := sgnS_shape L len (txtN s.data.toList / 2 ^ B) (8 * s.size - B) 16 0
                have hst0 : sgnS L len (txtN s.data.toList / 2 ^ B) (8 * s.size - B) 16 0 = (ri, rk, re) := hr.out
                rw [hst0] at hsh
                obtain ⟨hs1', hs2', hs3'⟩ := hsh hre
                simp only [Prod.mk.injEq] at hs1'
                obtain ⟨rfl, rfl, _⟩ := hs1'
                have hre2 : (re != 0) = true := by rw [bne_iff_ne]; exact hre
                have hst : (stpS L len s (rdA L len s A k)).2.2 ≠ 0 := by rw [hB.out, hr.out]; exact hre
                have hrr := Hid.mk' (hrer.out k hlt H0.out hst)
                have hee : Hid ((stpS L len s (rdA L len s A k)).2.2 = re) := by show _ = _; rw [hB.out, hr.out]
                have hs2x : re ≤ 7 := hs2'
                have hs3x : 0 < re := hs3'
                clear hst hst0 hsh hs2' hs3' hre
                go_wp2_with fail
                refine (rsign_any g L len R _ _ _ (txtN s.data.toList / 2 ^ B) _ HE.out (HWD.out.below HBl.out) HBT2.out (by omega) HC3.out _ hr2.out).mono ?_
                rintro e w4 ⟨rfl, q, rfl⟩
                have HBl2 : Hid (Below w.heap.size w (wr.drewN q)) := HB3.out.trans ((below_drewNR HBl.out q).mono HB3.out.size)
                go_wp2_with fail
                go_ret3
                refine ⟨⟨.slice none 0 0, ?_, ?_⟩, HBl2.out⟩
                · rw [hrr.out.1, hrr.out.2.2, hee.out]; rfl
                · rw [hrr.out.2.1]; exact i64s_nil _ _
          · have hkl : k = N := by omega
            have hro := Hid.mk' (hrok.out (by rw [← hkl]; exact H0.out))
            have hkl' := Hid.mk' hkl
            clear hkl
            go_wp2_with fail
            go_ret3
            refine ⟨⟨u15, ?_, ?_⟩, HB3.out.trans (HBl.out.mono HB3.out.size)⟩
            · rw [hro.out.1, hro.out.2.2, hkl'.out]; rfl
            · rw [hro.out.2.1, Int.toNat_natCast]
              have := i64s_of_rd HO.out
              rwa [hkl'.out] at this
  · have hrc := Hid.mk' (read_can (s := s) (a := a) (n := n) hE)
    have hb2 := canE_is L len
    have hne : (canE L len != 0) = true := by rw [bne_iff_ne]; exact hE
    obtain ⟨y, hy⟩ : ∃ y, Hid (canE L len = y) := ⟨_, Hid.mk' rfl⟩
    rw [hy.out] at hb2 hne
    clear hE
    go_enter Try.func8, Try.ntmps8
    go_wp2_with fail
    refine (rcanon_any a0 len cap L _ HP.out).mono ?_
    rintro e w1 ⟨⟨v, rfl, hI⟩, hb⟩
    rw [hy.out]
    clear hI
    go_wp2_with fail
    go_ret3
    refine ⟨⟨.slice none 0 0, ?_, ?_⟩, hb⟩
    · rw [hrc.out.1, hrc.out.2.2, hy.out]; rfl
    · rw [hrc.out.2.1]; exact i64s_nil _ _
end Go.Proofs.Ytnoegodimiehhaa
