/- The law DiskCrashes, walked. -/
import Derived.Test.YtlcfccnkplmpgabRowBo
import Derived.Test.YtlcfccnkplmpgabHasPutWalks
import Derived.Test.YtlcfccnkplmpgabDiskSyncWalks
import Derived.Test.YtlcfccnkplmpgabSameDkWalks
namespace Go.Proofs.Ytlcfccnkplmpgab
open Go.RowKit

theorem known_crash : chkD [(⟨#[97]⟩ : ByteArray), ⟨#[98]⟩] [⟨0, ⟨#[99]⟩⟩, ⟨1, ⟨#[100]⟩⟩] = 0 ∧ landL (keepL [false, true]) [⟨0, ⟨#[99]⟩⟩, ⟨1, ⟨#[100]⟩⟩] 0 [(⟨#[97]⟩ : ByteArray), ⟨#[98]⟩] = [⟨#[97]⟩, ⟨#[100]⟩] := by decide
set_option maxRecDepth 20000 in
set_option maxHeartbeats 4000000 in
theorem diskCrashes_walk (a0 : Option Addr) (n c : Nat) (b0 : Option Addr) (m d : Nat) (C : List ByteArray) (P : List Pt) (ak : Option Addr) (k0 kcap : Nat) (K : List Bool) (w : World) (h : Dk w a0 n b0 m C P) (hK : Bos w ak k0 K) :
    Calls Try.prog 4 #[.agg #[.slice a0 n c, .slice b0 m d], .slice ak k0 kcap] w fun e w' => e = .returned (.bool true) ∧ Below w.heap.size w w' := by
  obtain ⟨W0, hW0⟩ : ∃ W, Hid (w.alloc (.cells #[.slice a0 n c, .slice b0 m d] 25) = W) := ⟨_, Hid.mk' rfl⟩
  have HB0 : Hid (Below w.heap.size w W0) := by rw [← hW0.out]; exact (Below.refl _ w).alloc (Nat.le_refl _) _
  have HX0 : Hid (Box2 W0 w.heap.size (.slice a0 n c) (.slice b0 m d)) := by rw [← hW0.out]; exact box2_new w _ _ _
  have HKw := Hid.mk' h
  have HBo := Hid.mk' hK
  have hN := Hid.mk' h.nC
  have hM := Hid.mk' h.mP
  have hkn := Hid.mk' known_crash
  have hchk := chkD_range C P
  clear h hK
  go_enter Try.func4, Try.ntmps4
  go_wp2_with fail
  rw [hW0.out]
  have hs0 : Hid (W0.heap.size = w.heap.size + 1) := by rw [← hW0.out]; show _ = _; simp
  have hlit := lit_disk2 W0 ⟨#[97]⟩ ⟨#[98]⟩ ⟨#[99]⟩ ⟨#[100]⟩ 1 (by decide) (by decide) (by decide) (by decide) (by decide)
  rw [hs0.out] at hlit
  obtain ⟨wl0, hwl0⟩ : ∃ W, Hid ((W0.alloc (.cells #[.string ⟨#[97]⟩, .string ⟨#[98]⟩] 9)).alloc (.cells #[.int .i64 0, .string ⟨#[99]⟩, .int .i64 1, .string ⟨#[100]⟩] 31) = W) := ⟨_, Hid.mk' rfl⟩
  have hsl0 : Hid (wl0.heap.size = w.heap.size + 1 + 1 + 1) := by rw [← hwl0.out]; show _ = _; simp [hs0.out]
  rw [hwl0.out] at hlit ⊢
  have HBl0 : Hid (Below W0.heap.size W0 wl0) := by rw [← hwl0.out]; exact ((Below.refl _ _).alloc (Nat.le_refl _) _).alloc (by simp) _
  obtain ⟨wl, hwl⟩ : ∃ W, Hid (wl0.alloc (.cells #[.bool false, .bool true] 4) = W) := ⟨_, Hid.mk' rfl⟩
  have hlb : Bos wl (some ⟨w.heap.size + 1 + 1 + 1, 0, none⟩) 2 [false, true] := by
    rw [← hwl.out, ← hsl0.out]; exact lit_bo2
  have HBl1 : Hid (Below wl0.heap.size wl0 wl) := by rw [← hwl.out]; exact (Below.refl _ _).alloc (Nat.le_refl _) _
  have HBl : Hid (Below W0.heap.size W0 wl) := HBl0.out.trans (HBl1.out.mono HBl0.out.size)
  rw [hwl.out]
  have HBlw := Hid.mk' (HB0.out.trans (HBl.out.mono HB0.out.size))
  have HLit := Hid.mk' (hlit.below HBl1.out)
  have HLb := Hid.mk' hlb
  clear hlit hlb
  refine (dcrash_any _ _ 2 2 2 2 _ _ [false, true] 2 2 _ wl HLit.out HLb.out HLb.out.low).mono ?_
  rintro e w1 ⟨hans, hb1⟩
  rw [hkn.out.1, hkn.out.2] at hans
  obtain ⟨x0, xn, xc, x1, xm, xd, rfl, hres⟩ := res_of_ans hans (fun _ => by have h := ok_land (chkD_ok hkn.out.1) (keepL [false, true]); rw [hkn.out.2] at h; exact h)
  have hd := hres.yes rfl
  have hxm : xm = 0 := by simpa using hd.mP.symm
  have hxn : xn = 2 := by simpa using hd.nC.symm
  subst hxm hxn
  have HD1 := Hid.mk' hd
  have HB1 := Hid.mk' (HBlw.out.trans (hb1.mono HBlw.out.size))
  have HX1 := Hid.mk' ((HX0.out.below HBl.out).below hb1)
  clear hans hb1 hres hd
  go_wp2_with fail
  obtain ⟨wa, hwa⟩ : ∃ W, Hid (w1.alloc (.cells #[.slice x0 2 xc, .slice x1 0 xd] 25) = W) := ⟨_, Hid.mk' rfl⟩
  have HBa : Hid (Below w1.heap.size w1 wa) := by rw [← hwa.out]; exact (Below.refl _ _).alloc (Nat.le_refl _) _
  have HDa := Hid.mk' (HD1.out.below HBa.out)
  have HXa := Hid.mk' (HX1.out.below HBa.out)
  have HBaw := Hid.mk' (HB1.out.trans (HBa.out.mono HB1.out.size))
  rw [hwa.out]
  have hsa : wa.heap.size = w1.heap.size + 1 := by rw [← hwa.out]; simp
  have hlo := @lit_two wa ⟨#[97]⟩ ⟨#[100]⟩
  rw [hsa] at hlo
  refine (equalS_any x0 (some ⟨w1.heap.size + 1, 0, none⟩) 2 xc 2 2 [⟨#[97]⟩, ⟨#[100]⟩] [⟨#[97]⟩, ⟨#[100]⟩] (wa.alloc (.cells #[.string ⟨#[97]⟩, .string ⟨#[100]⟩] 9)) (HDa.out.rc.below ((Below.refl _ _).alloc (Nat.le_refl _) _)) hlo rfl rfl (by omega) (by omega)).mono ?_
  rintro e w2 ⟨⟨b, rfl, hb⟩, q2, hw2⟩
  obtain rfl := hb.yes rfl
  have HB2 : Hid (Below w.heap.size w w2) := by rw [hw2]; exact below_dS (HBaw.out.alloc HBaw.out.size _) _
  have HX2 : Hid (Box2 w2 w.heap.size (.slice a0 n c) (.slice b0 m d)) := by rw [hw2]; exact (HXa.out.alloc _).dN _
  have d0 := HX2.out.c0
  have d1 := HX2.out.c1
  clear hb hw2 hlo hsa
  go_wp2_with fail
  refine (dcrash_any a0 b0 n c m d C P K k0 kcap ak w2 (HKw.out.below HB2.out) (HBo.out.below HB2.out) (HBo.out.below HB2.out).low).mono ?_
  rintro e w3 ⟨hans, hb3⟩
  obtain ⟨q, hq⟩ : ∃ q, Hid (chkD C P = q) := ⟨_, Hid.mk' rfl⟩
  obtain ⟨y0, yn, yc, y1, ym, yd, rfl, hres⟩ := res_of_ans hans (fun h => ok_land (chkD_ok h) (keepL K))
  rw [hq.out] at hres hchk ⊢
  have HR3 := Hid.mk' hres
  have HB3 := Hid.mk' (HB2.out.trans (hb3.mono HB2.out.size))
  have HX3 := Hid.mk' (HX2.out.below hb3)
  have hz3 : w.heap.size < w3.heap.size := by have := HX3.out.lt; omega
  have e0 := HX3.out.c0
  have e1 := HX3.out.c1
  clear hans hb3 hres d0 d1
  by_cases h0 : q = 0
  · subst h0
    have HOk := Hid.mk' (chkD_ok hq.out)
    have hn128 : n ≤ 128 := by have := HOk.out.n2; rw [hN.out] at this; exact this
    have hm400 : m ≤ 400 := by have := HOk.out.m; rw [hM.out] at this; exact this
    have HSr : Hid (∀ k, k < n → (landL (keepL K) P 0 C).getD k ⟨#[]⟩ = C.getD k ⟨#[]⟩ ∨ (⟨(k : Int), (landL (keepL K) P 0 C).getD k ⟨#[]⟩⟩ : Pt) ∈ P) := fun k hk => land_src HOk.out (keepL K) k (by rw [hN.out]; exact hk)
    have HLn : Hid ((landL (keepL K) P 0 C).length = n) := by show _ = _; rw [landL_length]; exact hN.out
    obtain ⟨C', hC'⟩ : ∃ C', Hid (landL (keepL K) P 0 C = C') := ⟨_, Hid.mk' rfl⟩
    rw [hC'.out] at HSr HR3 HLn
    have HD3 := Hid.mk' (HR3.out.yes rfl)
    have hym : ym = 0 := by simpa using HD3.out.mP.symm
    have hyn : yn = n := HD3.out.nC.symm.trans HLn.out
    subst hym hyn
    clear hchk
    have tn : ((yn : Int) != (yn : Int)) = false := by simp
    go_wp2_with fail
    obtain ⟨wb, hwb⟩ : ∃ W, Hid (w3.alloc (.cells #[.slice y0 yn yc, .slice y1 0 yd] 25) = W) := ⟨_, Hid.mk' rfl⟩
    have HBb : Hid (Below w3.heap.size w3 wb) := by rw [← hwb.out]; exact (Below.refl _ _).alloc (Nat.le_refl _) _
    have HXb := Hid.mk' (HX3.out.below HBb.out)
    have HDb := Hid.mk' (HD3.out.below HBb.out)
    have HBbw := Hid.mk' (HB3.out.trans (HBb.out.mono HB3.out.size))
    rw [hwb.out]
    clear e0 e1 tn hz3
    have HB1st : Hid (w.heap.size < wb.heap.size) := by have := HXb.out.lt; exact this
    have f0 := HXb.out.c0
    have f1 := HXb.out.c1
    have HYb : Hid (Box2 wb w3.heap.size (.slice y0 yn yc) (.slice y1 0 yd)) := by rw [← hwb.out]; exact box2_new w3 _ _ _
    have g0 := HYb.out.c0
    have g1 := HYb.out.c1
    go_loopw [65] (fun i wr => ∃ k : Nat, k ≤ yn ∧ i = .int .i64 k ∧ Below wb.heap.size wb wr) (fun i _ => yn - (intOf i).toNat)
    case atStart => exact ⟨0, Nat.zero_le _, rfl, Below.refl _ _⟩
    case round =>
      obtain ⟨k, hk, rfl, hbr⟩ := hrel
      have HBr := Hid.mk' hbr
      have HBrw := Hid.mk' (HBbw.out.trans (hbr.mono HBbw.out.size))
      have HXr := Hid.mk' (HXb.out.below hbr)
      have HDr := Hid.mk' (HDb.out.below hbr)
      have HKr := Hid.mk' (HKw.out.below HBrw.out)
      clear f0 f1 g0 g1 hbr
      have f0 := HXr.out.c0
      have f1 := HXr.out.c1
      by_cases hlt : k < yn
      · obtain ⟨g1, o1, rfl, _, d1⟩ := HDr.out.rc.at' (by omega)
        obtain ⟨g2, o2, rfl, _, d2⟩ := HKr.out.rc.at' (by omega)
        have hsrc := HSr.out k hlt
        have e1 := d1 k _ (stC_at C' k (by rw [HLn.out]; exact hlt))
        have e2 := d2 k _ (stC_at C k (by rw [hN.out]; exact hlt))
        have hCk : Hid (C'.getD k ⟨#[]⟩ = C'.getD k ⟨#[]⟩) := Hid.mk' rfl
        generalize C'.getD k ⟨#[]⟩ = x at *
        generalize C.getD k ⟨#[]⟩ = y at *
        clear d1 d2 hCk
        by_cases hfg : x = y
        · subst hfg
          have t0 : (x.toList == x.toList) = true := by simp
          have t1 : (x.toList != x.toList) = false := by simp
          clear hsrc
          go_wp2_with fail
          go_roundw
          case rel => exact ⟨k + 1, by omega, by go_num, HBr.out⟩
          case measure => simp [intOf]; omega
        · have hin := Hid.mk' (hsrc.resolve_left hfg)
          have t0 : (x.toList == y.toList) = false := by rw [beq_eq_false_iff_ne]; exact fun h => hfg (toList_injP h)
          have t1 : (x.toList != y.toList) = true := by rw [bne_iff_ne]; exact fun h => hfg (toList_injP h)
          clear hsrc hfg
          go_wp2_with fail
          refine (hasP_any b0 m d P k x _ HKr.out.rp hM.out (by omega)).mono ?_
          rintro e w4 ⟨⟨b, rfl, hb⟩, hb4⟩
          obtain rfl := hb.yes hin.out
          have HB4 := Hid.mk' (HBr.out.trans (hb4.mono HBr.out.size))
          clear hb hb4
          go_wp2_with fail
          go_roundw
          case rel => exact ⟨k + 1, by omega, by go_num, HB4.out⟩
          case measure => simp [intOf]; omega
      · have hkl : k = yn := by omega
        have hwl : w.heap.size < wr.heap.size := by have := HXr.out.lt; exact this
        have hmk := fun w => make_bos m (by omega) w
        have HRo : Hid (RowBo (wr.alloc (.cells (madeCells #[.bool false] m) 4)) wr.heap.size m (fun j => decide (j < 0))) := (rowBo_made wr m _).congr fun i _ => by simp
        have HBo1 : Hid (Below wr.heap.size wr (wr.alloc (.cells (madeCells #[.bool false] m) 4))) := (Below.refl _ _).alloc (Nat.le_refl _) _
        go_wp2_with fail
        clear hmk f0 f1
        obtain ⟨W1, hW1⟩ : ∃ W, Hid (wr = W) := ⟨_, Hid.mk' rfl⟩
        rw [hW1.out] at HBr HBrw HXr HDr HKr HRo HBo1 hwl ⊢
        clear hW1
        go_loopw [93] (fun i wv => ∃ k : Nat, k ≤ m ∧ i = .int .i64 k ∧ RowBo wv W1.heap.size m (fun j => decide (j < k)) ∧ Below W1.heap.size W1 wv) (fun i _ => m - (intOf i).toNat)
        case atStart => exact ⟨0, Nat.zero_le _, rfl, HRo.out, HBo1.out⟩
        case round =>
          obtain ⟨j, hj, rfl, hrow, hbel⟩ := hrel
          by_cases hlt2 : j < m
          · have c := hrow.cell j hlt2
            have fz := hrow.open' j hlt2
            have HR : Hid (RowBo (wr.setCell ⟨W1.heap.size, j, none⟩ (.bool true)) W1.heap.size m (fun t => decide (t < j + 1))) := (hrow.set j hlt2 true).congr fun i hi => by
              by_cases e : i = j
              · subst e; rw [if_pos rfl]; simp
              · rw [if_neg e]
                by_cases h : i < j
                · rw [decide_eq_true h, decide_eq_true (by omega)]
                · rw [decide_eq_false h, decide_eq_false (by omega)]
            have HBx := Hid.mk' (hbel.setCell (p := ⟨W1.heap.size, j, none⟩) (Nat.le_refl _) (.bool true))
            clear hrow hbel
            go_wp2_with fail
            go_roundw
            case rel => exact ⟨j + 1, by omega, by go_num, HR.out, HBx.out⟩
            case measure => simp [intOf]; omega
          · have HEv : Hid (Bos wr (some ⟨W1.heap.size, 0, none⟩) m (List.replicate m true)) := (hrow.congr fun i hi => by rw [decide_eq_true (by omega)]).bos (by omega)
            have HBv := Hid.mk' (HBrw.out.trans (hbel.mono (Nat.le_of_lt hwl)))
            have HXv := Hid.mk' (HXr.out.below hbel)
            have HKv := Hid.mk' (HKw.out.below HBv.out)
            have v0 := HXv.out.c0
            have v1 := HXv.out.c1
            have HEa : Hid (landL (keepL (List.replicate m true)) P 0 C = landL allL P 0 C) := by show _ = _; rw [← hM.out]; exact land_every C P
            obtain ⟨Cs, hCs⟩ : ∃ Cs, Hid (landL allL P 0 C = Cs) := ⟨_, Hid.mk' rfl⟩
            have HOs : Hid (OkD Cs []) := by rw [← hCs.out]; exact ok_land HOk.out allL
            rw [hCs.out] at HEa
            clear hrow hbel
            go_wp2_with fail
            refine (dcrash_any a0 b0 yn c m d C P (List.replicate m true) m m (some ⟨W1.heap.size, 0, none⟩) wr HKv.out HEv.out HEv.out.low).mono ?_
            rintro e w5 ⟨hans, hb5⟩
            rw [HEa.out, hq.out] at hans
            obtain ⟨p0, pn, pc, p1, pm, pd, rfl, hres⟩ := res_of_ans hans (fun _ => HOs.out)
            have HD5 : Hid (Dk w5 p0 pn p1 pm Cs []) := hres.yes rfl
            have HB5 := Hid.mk' (HBv.out.trans (hb5.mono HBv.out.size))
            have HX5 := Hid.mk' (HXv.out.below hb5)
            clear hans hb5 hres v0 v1
            have v0 := HX5.out.c0
            have v1 := HX5.out.c1
            have hz5 : w.heap.size < w5.heap.size := HX5.out.lt
            go_wp2_with fail
            obtain ⟨W6, hW6⟩ : ∃ W, Hid (w5.alloc (.cells #[.slice p0 pn pc, .slice p1 pm pd] 25) = W) := ⟨_, Hid.mk' rfl⟩
            have HBa6 : Hid (Below w5.heap.size w5 W6) := by rw [← hW6.out]; exact (Below.refl _ _).alloc (Nat.le_refl _) _
            have HP6 : Hid (Box2 W6 w5.heap.size (.slice p0 pn pc) (.slice p1 pm pd)) := by rw [← hW6.out]; exact box2_new w5 _ _ _
            have HD6 := Hid.mk' (HD5.out.below HBa6.out)
            have HB6 := Hid.mk' (HB5.out.trans (HBa6.out.mono HB5.out.size))
            have HX6 := Hid.mk' (HX5.out.below HBa6.out)
            rw [hW6.out]
            clear v0 v1 hz5
            refine (dsync_any a0 b0 yn c m d C P W6 (HKw.out.below HB6.out)).mono ?_
            rintro e w7 ⟨hans, hb7⟩
            rw [hCs.out, hq.out] at hans
            obtain ⟨r0, rn, rc, r1, rm, rd, rfl, hres⟩ := res_of_ans hans (fun _ => HOs.out)
            have HR7 : Hid (Dk w7 r0 rn r1 rm Cs []) := hres.yes rfl
            have HB7 := Hid.mk' (HB6.out.trans (hb7.mono HB6.out.size))
            have HX7 := Hid.mk' (HX6.out.below hb7)
            have HP7 := Hid.mk' (HP6.out.below hb7)
            have HD7 := Hid.mk' (HD6.out.below hb7)
            clear hans hb7 hres
            have v0 := HX7.out.c0
            have v1 := HX7.out.c1
            have hz7 : w.heap.size < w7.heap.size := HX7.out.lt
            go_wp2_with fail
            obtain ⟨W8, hW8⟩ : ∃ W, Hid (w7.alloc (.cells #[.slice r0 rn rc, .slice r1 rm rd] 25) = W) := ⟨_, Hid.mk' rfl⟩
            have HBa8 : Hid (Below w7.heap.size w7 W8) := by rw [← hW8.out]; exact (Below.refl _ _).alloc (Nat.le_refl _) _
            have HQ8 : Hid (Box2 W8 w7.heap.size (.slice r0 rn rc) (.slice r1 rm rd)) := by rw [← hW8.out]; exact box2_new w7 _ _ _
            have HP8 := Hid.mk' (HP7.out.below HBa8.out)
            have HD8 := Hid.mk' (HD7.out.below HBa8.out)
            have HR8 := Hid.mk' (HR7.out.below HBa8.out)
            have HB8 := Hid.mk' (HB7.out.trans (HBa8.out.mono HB7.out.size))
            have HX8 := Hid.mk' (HX7.out.below HBa8.out)
            rw [hW8.out]
            clear v0 v1 hz7
            refine (dcrash_any a0 b0 yn c m d C P [] 0 0 none W8 (HKw.out.below HB8.out) (bos_nil _) (fun h => by omega)).mono ?_
            rintro e w9 ⟨hans, hb9⟩
            rw [land_none, hq.out] at hans
            obtain ⟨s0, sn, sc, s1, sm, sd, rfl, hres⟩ := res_of_ans hans (fun _ => by have h := ok_land HOk.out (keepL []); rw [land_none] at h; exact h)
            have HS9 : Hid (Dk w9 s0 sn s1 sm C []) := hres.yes rfl
            have HB9 := Hid.mk' (HB8.out.trans (hb9.mono HB8.out.size))
            have HX9 := Hid.mk' (HX8.out.below hb9)
            have HP9 := Hid.mk' (HP8.out.below hb9)
            have HQ9 := Hid.mk' (HQ8.out.below hb9)
            have HD9 := Hid.mk' (HD8.out.below hb9)
            have HR9 := Hid.mk' (HR8.out.below hb9)
            clear hans hb9 hres
            have v0 := HP9.out.c0
            have v1 := HP9.out.c1
            have v2 := HQ9.out.c0
            have v3 := HQ9.out.c1
            have hz8 : w5.heap.size < w9.heap.size := HP9.out.lt
            have hz9 : w7.heap.size < w9.heap.size := HQ9.out.lt
            go_wp2_with fail
            obtain ⟨W10, hW10⟩ : ∃ W, Hid (w9.alloc (.cells #[.slice s0 sn sc, .slice s1 sm sd] 25) = W) := ⟨_, Hid.mk' rfl⟩
            have HBa10 : Hid (Below w9.heap.size w9 W10) := by rw [← hW10.out]; exact (Below.refl _ _).alloc (Nat.le_refl _) _
            have HT10 : Hid (Box2 W10 w9.heap.size (.slice s0 sn sc) (.slice s1 sm sd)) := by rw [← hW10.out]; exact box2_new w9 _ _ _
            have HB10 := Hid.mk' (HB9.out.trans (HBa10.out.mono HB9.out.size))
            have HX10 := Hid.mk' (HX9.out.below HBa10.out)
            have HD10 := Hid.mk' (HD9.out.below HBa10.out)
            have HR10 := Hid.mk' (HR9.out.below HBa10.out)
            have HS10 := Hid.mk' (HS9.out.below HBa10.out)
            rw [hW10.out]
            clear v0 v1 v2 v3 hz8 hz9
            refine (sameDk_any p0 p1 pn pc pm pd Cs [] r0 r1 rn rc rm rd Cs [] W10 HD10.out HR10.out).mono ?_
            rintro e w11 ⟨⟨b, rfl, hb⟩, hb11⟩
            obtain rfl := hb.yes ⟨rfl, rfl⟩
            have HB11 := Hid.mk' (HB10.out.trans (hb11.mono HB10.out.size))
            have HX11 := Hid.mk' (HX10.out.below hb11)
            have HT11 := Hid.mk' (HT10.out.below hb11)
            have HS11 := Hid.mk' (HS10.out.below hb11)
            clear hb hb11
            have v0 := HX11.out.c0
            have v1 := HX11.out.c1
            have v2 := HT11.out.c0
            have v3 := HT11.out.c1
            go_wp2_with fail
            have hsn : sn = yn := HS11.out.nC.symm.trans hN.out
            refine (equalS_any s0 a0 sn sc yn c C C w11 HS11.out.rc (HKw.out.below HB11.out).rc HS11.out.nC hN.out (by omega) (by omega)).mono ?_
            rintro e w12 ⟨⟨b, rfl, hb⟩, q12, hw12⟩
            obtain rfl := hb.yes rfl
            have HB12 : Hid (Below w.heap.size w w12) := by rw [hw12]; exact below_dS HB11.out _
            clear hb hw12
            go_wp2_with fail
            go_ret
            exact ⟨rfl, HB12.out⟩
  · have tq : (q != 0) = true := by rw [bne_iff_ne]; exact h0
    go_wp2_with fail
    refine (dchk_any a0 b0 n c m d C P _ ((HKw.out.below HB3.out).below ((Below.refl _ _).alloc (Nat.le_refl _) _))).mono ?_
    rintro e w4 ⟨rfl, hb4⟩
    rw [hq.out]
    have HB4 := Hid.mk' ((HB3.out.alloc HB3.out.size (.cells #[.slice y0 yn yc, .slice y1 ym yd] 25)).trans (hb4.mono (by have := HB3.out.size; simp; omega)))
    have tqq : (q == q) = true := by simp
    clear hb4
    go_wp2_with fail
    go_ret
    exact ⟨rfl, HB4.out⟩
end Go.Proofs.Ytlcfccnkplmpgab
