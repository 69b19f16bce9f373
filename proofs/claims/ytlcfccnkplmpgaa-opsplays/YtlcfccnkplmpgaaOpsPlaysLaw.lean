/- The law OpsPlays, walked. -/
import Derived.Test.YtlcfccnkplmpgaaOwnRes
import Derived.Test.YtlcfccnkplmpgaaOUntilWalks
import Derived.Test.YtlcfccnkplmpgaaRPlayWalks
import Derived.Test.YtlcfccnkplmpgaaRLandedP
import Derived.Test.YtlcfccnkplmpgaaSameDkWalks
import Derived.Test.YtlcfccnkplmpgaaIn5
namespace Go.Proofs.Ytlcfccnkplmpgaa
open Go.RowKit

theorem untE_okD {C : List ByteArray} {P : List Pt} {l : List Opp} {z : Int} {K : List Bool} (h : (untE C P l z K).1 = 0) : OkD (untE C P l z K).2.1 (untE C P l z K).2.2 := by
  unfold untE at h ⊢
  by_cases hz : z < 0
  · rw [if_pos hz] at h
    exact absurd h (by decide)
  · rw [if_neg hz] at h ⊢
    by_cases h0 : (playE C P (l.take z.toNat)).1 = 0
    · rw [if_pos h0] at h ⊢
      exact ok_land (play_ok h0) _
    · rw [if_neg h0] at h
      exact absurd h h0
theorem pair3 {q : Int} {C : List ByteArray} {P : List Pt} {R : Int × List ByteArray × List Pt} (h : R = (q, C, P)) (hq : q ≠ 0) (hn : R.1 ≠ 0 → R.2 = ([], [])) : R = (q, [], []) := by
  subst h
  have := hn hq
  simp only [Prod.mk.injEq] at this
  rw [this.1, this.2]

set_option maxRecDepth 20000 in
set_option maxHeartbeats 4000000 in
theorem opsPlays_walk (a0 : Option Addr) (n c : Nat) (b0 : Option Addr) (m d : Nat) (C : List ByteArray) (P : List Pt) (al : Option Addr) (nl capl : Nat) (l : List Opp) (z : Int) (ak : Option Addr) (k0 kcap : Nat) (K : List Bool) (w : World) (h : Dk w a0 n b0 m C P) (hl : Ops w al nl capl l) (_hz : (Lit.int .i64 z).wf = true) (hK : Bos w ak k0 K) :
    Calls Try.prog 6 #[.agg #[.slice a0 n c, .slice b0 m d], .slice al nl capl, .int .i64 z, .slice ak k0 kcap] w fun e w' => e = .returned (.bool true) ∧ Below w.heap.size w w' := by
  obtain ⟨W0, hW0⟩ : ∃ W, Hid ((w.alloc (.cells #[.slice a0 n c, .slice b0 m d] 25)).alloc (.cells #[.slice ak k0 kcap] 44) = W) := ⟨_, Hid.mk' rfl⟩
  have hin := in5_new (c := c) (d := d) (kcap := kcap) h hK 25 44
  rw [hW0.out] at hin
  have HI0 := Hid.mk' hin.1
  have HB0 := Hid.mk' hin.2
  have HL0 := Hid.mk' (hl.below hin.2)
  have hnl := hl.nB
  have hkc := hl.kc
  have hkm : capl ≤ 9223372036854775807 := by have := hl.km; unfold maxLen at this; omega
  obtain ⟨⟨qR, CR, PR⟩, hR⟩ : ∃ R, Hid (playE C P l = R) := ⟨_, Hid.mk' rfl⟩
  have hRok : Hid (qR = 0 → OkD CR PR) := fun h0 => by have := @play_ok C P l; rw [hR.out] at this; exact this h0
  have hRr : 0 ≤ qR ∧ qR ≤ 9 := by have := play_range C P l; rw [hR.out] at this; exact this
  obtain ⟨⟨qU, CU, PU⟩, hU⟩ : ∃ R, Hid (untE C P l z K = R) := ⟨_, Hid.mk' rfl⟩
  have hUok : Hid (qU = 0 → OkD CU PU) := fun h0 => by have := @untE_okD C P l z K; rw [hU.out] at this; exact this h0
  clear h hK hin hl _hz
  go_enter Try.func6, Try.ntmps6
  go_wp2_with fail
  rw [hW0.out]
  refine (oPlay_any a0 b0 n c m d C P al nl capl l W0 HI0.out.dk HL0.out).mono ?_
  rintro e w1 ⟨hans, hb1⟩
  rw [hR.out] at hans
  obtain ⟨x0, xn, xc, x1, xm, xd, rfl, hres⟩ := ores_of_ans hans hRok.out
  have HR1 := Hid.mk' hres
  have HB1w := Hid.mk' (HB0.out.trans (hb1.mono HB0.out.size))
  have HI1 := Hid.mk' (HI0.out.below hb1)
  have HL1 := Hid.mk' (HL0.out.below hb1)
  have hz1 := HI1.out.kl
  have hy1 : w.heap.size < w1.heap.size := by omega
  have d0 := HI1.out.bx.c0
  have d1 := HI1.out.bx.c1
  clear hans hb1 hres
  go_wp2_with fail
  obtain ⟨wa, hwa⟩ : ∃ W, Hid (w1.alloc (.cells #[.slice x0 xn xc, .slice x1 xm xd] 25) = W) := ⟨_, Hid.mk' rfl⟩
  have HBa : Hid (Below w1.heap.size w1 wa) := by rw [← hwa.out]; exact (Below.refl _ _).alloc (Nat.le_refl _) _
  have HXa : Hid (Box2 wa w1.heap.size (.slice x0 xn xc) (.slice x1 xm xd)) := by rw [← hwa.out]; exact box2_new w1 _ _ _
  have HRa := Hid.mk' (HR1.out.below HBa.out)
  rw [hwa.out]
  clear d0 d1 hy1
  refine (rplay_any a0 b0 n c m d C P al nl capl l wa (HI1.out.below HBa.out).dk (HL1.out.below HBa.out)).mono ?_
  rintro e w2 ⟨hans, hb2⟩
  rw [hR.out] at hans
  obtain ⟨y0, yn, yc, y1, ym, yd, rfl, hres⟩ := ores_of_ans hans hRok.out
  have HR2 := Hid.mk' hres
  have HB2 : Hid (Below w1.heap.size w1 w2) := HBa.out.trans (hb2.mono HBa.out.size)
  have HRa2 := Hid.mk' (HRa.out.below hb2)
  have HXa2 := Hid.mk' (HXa.out.below hb2)
  have hz2 : w1.heap.size < w2.heap.size := HXa2.out.lt
  have d0 := HXa2.out.c0
  have d1 := HXa2.out.c1
  clear hans hb2 hres
  go_wp2_with fail
  obtain ⟨wb, hwb⟩ : ∃ W, Hid (w2.alloc (.cells #[.slice y0 yn yc, .slice y1 ym yd] 25) = W) := ⟨_, Hid.mk' rfl⟩
  have HBb : Hid (Below w2.heap.size w2 wb) := by rw [← hwb.out]; exact (Below.refl _ _).alloc (Nat.le_refl _) _
  have HXb : Hid (Box2 wb w2.heap.size (.slice y0 yn yc) (.slice y1 ym yd)) := by rw [← hwb.out]; exact box2_new w2 _ _ _
  have HR2b := Hid.mk' (HR2.out.below HBb.out)
  have HRab := Hid.mk' (HRa2.out.below HBb.out)
  have HXab := Hid.mk' (HXa2.out.below HBb.out)
  have HBb1 : Hid (Below w1.heap.size w1 wb) := HB2.out.trans (HBb.out.mono HB2.out.size)
  rw [hwb.out]
  clear d0 d1
  refine (sameDk_any x0 x1 xn xc xm xd _ _ y0 y1 yn yc ym yd _ _ wb HRab.out.dk HR2b.out.dk).mono ?_
  rintro e w3 ⟨⟨b, rfl, hb⟩, hb3⟩
  obtain rfl := hb.yes ⟨rfl, rfl⟩
  have HB3 : Hid (Below w1.heap.size w1 w3) := HBb1.out.trans (hb3.mono HBb1.out.size)
  have HXa3 := Hid.mk' (HXab.out.below hb3)
  have HXb3 := Hid.mk' (HXb.out.below hb3)
  have HI3 := Hid.mk' (HI1.out.below HB3.out)
  have HL3 := Hid.mk' (HL1.out.below HB3.out)
  have hz3 : w2.heap.size < w3.heap.size := HXb3.out.lt
  have d0 := HI3.out.bx.c0
  have d1 := HI3.out.bx.c1
  have d2 := HI3.out.kb
  have tqq : (qR != qR) = false := by simp
  clear hb hb3
  go_wp2_with fail
  refine (ountil_any a0 b0 n c m d C P al nl capl l z ak k0 kcap K w3 HI3.out.dk HL3.out HI3.out.bo).mono ?_
  rintro e w4 ⟨hans, hb4⟩
  rw [hU.out] at hans
  obtain ⟨u0, un, uc, u1, um, ud, rfl, hres⟩ := ores_of_ans hans hUok.out
  have HU4 := Hid.mk' hres
  have HB4 : Hid (Below w1.heap.size w1 w4) := HB3.out.trans (hb4.mono HB3.out.size)
  have HXa4 := Hid.mk' (HXa3.out.below hb4)
  have HXb4 := Hid.mk' (HXb3.out.below hb4)
  clear hans hb4 hres d0 d1 d2 tqq
  have s0 := HXa4.out.c0
  have s1 := HXa4.out.c1
  have s2 := HXa4.out.f0
  have s3 := HXa4.out.f1
  by_cases hz : z < 0
  · have hzd : decide (z < 0) = true := decide_eq_true hz
    have hU1 : Hid ((qU, CU, PU) = (1, [], [])) := hU.out.symm.trans (untE_neg hz)
    have hq1 : qU = 1 := congrArg Prod.fst hU1.out
    subst hq1
    have HX5 := Hid.mk' (HXa4.out.set (.slice u0 un uc) (.slice u1 um ud))
    have HU5 := Hid.mk' (HU4.out.set2 (g := w1.heap.size) (by omega) (.slice u0 un uc) (.slice u1 um ud))
    have HB5 := Hid.mk' (below_set2 HB4.out (Nat.le_refl _) (.slice u0 un uc) (.slice u1 um ud))
    have g0 := HX5.out.c0
    have g1 := HX5.out.c1
    have HUd := Hid.mk' (HU5.out.no (show (1 : Int) ≠ 0 by decide))
    clear hz
    go_wp2_with fail
    refine (sameDk_any u0 u1 un uc um ud [] [] none none 0 0 0 0 [] [] _ HUd.out (dk_nil _)).mono ?_
    rintro e w9 ⟨⟨b, rfl, hb⟩, hb9⟩
    obtain rfl := hb.yes ⟨rfl, rfl⟩
    have HB9 := Hid.mk' (HB1w.out.trans ((HB5.out.trans (hb9.mono HB5.out.size)).mono HB1w.out.size))
    clear hb hb9
    go_wp2_with fail
    go_ret
    exact ⟨rfl, HB9.out⟩
  · have hzd : decide (z < 0) = false := decide_eq_false hz
    obtain ⟨p, hp⟩ : ∃ p, Hid (min z.toNat nl = p) := ⟨_, Hid.mk' rfl⟩
    have hpn : p ≤ nl := by have := hp.out; omega
    have hmin : (if (nl : Int) < z then (nl : Int) else z) = (p : Int) := by have := hp.out; split <;> omega
    have hpc : p ≤ capl := by omega
    have HTk : Hid (l.take p = l.take z.toNat) := by
      show _ = _
      rw [← hp.out, ← HL0.out.nL]; exact take_min l _
    clear hz
    go_wp2_with fail
    obtain ⟨W5, hW5⟩ : ∃ W, Hid ((w4.setCell ⟨w1.heap.size, 0, none⟩ (.slice u0 un uc)).setCell ⟨w1.heap.size, 1, none⟩ (.slice u1 um ud) = W) := ⟨_, Hid.mk' rfl⟩
    have HXa5 : Hid (Box2 W5 w1.heap.size (.slice u0 un uc) (.slice u1 um ud)) := by rw [← hW5.out]; exact HXa4.out.set _ _
    have HXb5 : Hid (Box2 W5 w2.heap.size (.slice y0 yn yc) (.slice y1 ym yd)) := by rw [← hW5.out]; exact (HXb4.out.setOther (a := ⟨w1.heap.size, 0, none⟩) (by simp only; omega) _).setOther (a := ⟨w1.heap.size, 1, none⟩) (by simp only; omega) _
    have HU5 : Hid (OwnRes W5 w3.heap.size qU (.slice u0 un uc) (.slice u1 um ud) CU PU) := by rw [← hW5.out]; exact HU4.out.set2 (by omega) _ _
    have HB5 : Hid (Below w1.heap.size w1 W5) := by rw [← hW5.out]; exact below_set2 HB4.out (Nat.le_refl _) _ _
    have HI5 := Hid.mk' (HI1.out.below HB5.out)
    have HL5 := Hid.mk' ((HL1.out.below HB5.out).pre p hpn)
    have hz5 : w2.heap.size < W5.heap.size := HXb5.out.lt
    rw [hW5.out]
    clear s0 s1 s2 s3
    obtain ⟨⟨q2, C2, P2⟩, hR2⟩ : ∃ R, Hid (playE C P (l.take p) = R) := ⟨_, Hid.mk' rfl⟩
    have hR2ok : Hid (q2 = 0 → OkD C2 P2) := fun h0 => by have := @play_ok C P (l.take p); rw [hR2.out] at this; exact this h0
    have d0 := HI5.out.bx.c0
    have d1 := HI5.out.bx.c1
    have hw12 : w.heap.size ≠ w2.heap.size := by omega
    go_region_held3 (fun X => X.cell? ⟨w.heap.size, 0, none⟩ = some (.slice a0 n c) ∧ X.cell? ⟨w.heap.size, 1, none⟩ = some (.slice b0 m d)) (first | exact ⟨t0, t1⟩ | exact ⟨p0, p1⟩ | exact ⟨d0, d1⟩) (first
      | (go_at_call 15; refine (rplay_any a0 b0 n c m d C P al p capl (l.take p) _ HI5.out.drew.dk (HL5.out.below (Below.refl _ _).drew)).mono ?_; rintro e w6 ⟨hans, hb6⟩; rw [hR2.out] at hans; obtain ⟨v0, vn, vc, v1, vm, vd, rfl, hres⟩ := ores_of_ans hans hR2ok.out; have HV6 := Hid.mk' hres; have HB6 := Hid.mk' hb6; have hX6 := HXb5.out.drew.below hb6; have s0 := hX6.c0; have s1 := hX6.c1; have s2 := hX6.f0; have s3 := hX6.f1; have hI6 := HI5.out.drew.below hb6; have p0 := hI6.bx.c0; have p1 := hI6.bx.c1; have hT6 := ((hI6.bx.setOther (a := ⟨w2.heap.size, 0, none⟩) hw12 (.slice v0 vn vc)).setOther (a := ⟨w2.heap.size, 1, none⟩) hw12 (.slice v1 vm vd)); have t0 := hT6.c0; have t1 := hT6.c1; clear hans hb6 hres hX6 hI6 hT6)
      | fail)
    all_goals
      have HB6w : Hid (Below w1.heap.size w1 w6) := HB5.out.drew.trans (HB6.out.mono HB5.out.size)
      have HXa6 := Hid.mk' (HXa5.out.drew.below HB6.out)
      have HXb6 := Hid.mk' (HXb5.out.drew.below HB6.out)
      have HU6 := Hid.mk' (HU5.out.below ((Below.refl _ _).drew) |>.below HB6.out)
      clear t0 t1 p0 p1 s0 s1 s2 s3 d0 d1
      obtain ⟨W7, hW7⟩ : ∃ W, Hid ((w6.setCell ⟨w2.heap.size, 0, none⟩ (.slice v0 vn vc)).setCell ⟨w2.heap.size, 1, none⟩ (.slice v1 vm vd) = W) := ⟨_, Hid.mk' rfl⟩
      have HXa7 : Hid (Box2 W7 w1.heap.size (.slice u0 un uc) (.slice u1 um ud)) := by rw [← hW7.out]; exact (HXa6.out.setOther (a := ⟨w2.heap.size, 0, none⟩) (by simp only; omega) _).setOther (a := ⟨w2.heap.size, 1, none⟩) (by simp only; omega) _
      have HXb7 : Hid (Box2 W7 w2.heap.size (.slice v0 vn vc) (.slice v1 vm vd)) := by rw [← hW7.out]; exact HXb6.out.set _ _
      have HU7 : Hid (OwnRes W7 w3.heap.size qU (.slice u0 un uc) (.slice u1 um ud) CU PU) := by rw [← hW7.out]; exact HU6.out.set2 hz3 _ _
      have HV7 : Hid (OwnRes W7 W5.heap.size q2 (.slice v0 vn vc) (.slice v1 vm vd) C2 P2) := by rw [← hW7.out]; exact HV6.out.set2 (by exact hz5) _ _
      have HB7 : Hid (Below w1.heap.size w1 W7) := by rw [← hW7.out]; exact below_set2 HB6w.out (by omega) _ _
      rw [hW7.out]
      have g0 := HXb7.out.c0
      have g1 := HXb7.out.c1
      have g2 := HXa7.out.c0
      have g3 := HXa7.out.c1
      have hzz : ¬ z < 0 := of_decide_eq_false hzd
      rw [HTk.out] at hR2
      by_cases h2 : q2 = 0
      · subst h2
        have hUU : Hid ((qU, CU, PU) = (0, landL (keepL K) P2 0 C2, [])) := hU.out.symm.trans (untE_ok hzz hR2.out)
        have hq0 : qU = 0 := congrArg Prod.fst hUU.out
        have hC0 : CU = landL (keepL K) P2 0 C2 := congrArg (fun r => r.2.1) hUU.out
        have hP0 : PU = [] := congrArg (fun r => r.2.2) hUU.out
        subst hq0 hC0 hP0
        have HOk := Hid.mk' (hR2ok.out rfl)
        have HI7 := Hid.mk' (HI1.out.below HB7.out)
        have f2 := HXb7.out.f0
        have f3 := HXb7.out.f1
        clear hzz
        go_wp2_with fail
        refine (rlandedP_any v0 v1 vn vc vm vd C2 P2 K k0 kcap (w.heap.size + 1) ak W7 (HV7.out.yes rfl) (fun p hp => (putE_zero (HOk.out.ps p hp)).1) HI7.out.bo HI7.out.kb HI7.out.kl).mono ?_
        rintro e w8 ⟨⟨t, rfl, ho⟩, hb8⟩
        have hz7 : w2.heap.size < W7.heap.size := HXb7.out.lt
        have ho9 := (ho.setLow (a := ⟨w2.heap.size, 0, none⟩) (by exact hz7) t).setLow (a := ⟨w2.heap.size, 1, none⟩) (by exact hz7) (.slice none 0 0)
        obtain ⟨z0, zn, zc, z1, zm, zd, rfl, hz1', hdz⟩ := dk_of_own ho9 (ok_land HOk.out (keepL K))
        simp only [Value.slice.injEq] at hz1'
        obtain ⟨rfl, rfl, rfl⟩ := hz1'
        have HXa8 := Hid.mk' (HXa7.out.below hb8)
        have HXb8 := Hid.mk' (HXb7.out.below hb8)
        have HU8 := Hid.mk' (HU7.out.below hb8)
        have HB8 : Hid (Below w1.heap.size w1 w8) := HB7.out.trans (hb8.mono HB7.out.size)
        have HZ := Hid.mk' hdz
        clear g0 g1 g2 g3 f2 f3 ho ho9 hb8 hdz
        have s0 := HXb8.out.c0
        have s1 := HXb8.out.c1
        have s2 := HXb8.out.f0
        have s3 := HXb8.out.f1
        have hT := Hid.mk' ((HXa8.out.setOther (a := ⟨w2.heap.size, 0, none⟩) (by simp only; omega) (.slice z0 zn zc)).setOther (a := ⟨w2.heap.size, 1, none⟩) (by simp only; omega) (.slice none 0 0))
        have hS := Hid.mk' (HXb8.out.set (.slice z0 zn zc) (.slice none 0 0))
        have hUn := Hid.mk' (HU8.out.set2 hz3 (.slice z0 zn zc) (.slice none 0 0))
        have hBn := Hid.mk' (below_set2 HB8.out (show w1.heap.size ≤ w2.heap.size by omega) (.slice z0 zn zc) (.slice none 0 0))
        have g0 := hT.out.c0
        have g1 := hT.out.c1
        have g2 := hS.out.c0
        have g3 := hS.out.c1
        go_wp2_with fail
        refine (sameDk_any u0 u1 un uc um ud _ _ z0 none zn zc 0 0 _ _ _ (hUn.out.yes rfl) HZ.out).mono ?_
        rintro e w9 ⟨⟨b, rfl, hb⟩, hb9⟩
        obtain rfl := hb.yes ⟨rfl, rfl⟩
        have HB9 := Hid.mk' (HB1w.out.trans ((hBn.out.trans (hb9.mono hBn.out.size)).mono HB1w.out.size))
        clear hb hb9
        go_wp2_with fail
        go_ret
        exact ⟨rfl, HB9.out⟩
      · have tq2 : (q2 == 0) = false := by rw [beq_eq_false_iff_ne]; exact h2
        have hbad : playE C P (l.take z.toNat) = (q2, [], []) := pair3 hR2.out h2 (fun h => play_no h)
        have hUU : Hid ((qU, CU, PU) = (q2, [], [])) := hU.out.symm.trans (untE_bad hzz h2 hbad)
        have hq0 : qU = q2 := congrArg Prod.fst hUU.out
        subst hq0
        have HUd := Hid.mk' (HU7.out.no h2)
        have HVd := Hid.mk' (HV7.out.no h2)
        have tqe : (qU == qU) = true := by simp
        clear hbad h2 hzz
        go_wp2_with fail
        refine (sameDk_any u0 u1 un uc um ud [] [] v0 v1 vn vc vm vd [] [] W7 HUd.out HVd.out).mono ?_
        rintro e w9 ⟨⟨b, rfl, hb⟩, hb9⟩
        obtain rfl := hb.yes ⟨rfl, rfl⟩
        have HB9 := Hid.mk' (HB1w.out.trans ((HB7.out.trans (hb9.mono HB7.out.size)).mono HB1w.out.size))
        clear hb hb9
        go_wp2_with fail
        go_ret
        exact ⟨rfl, HB9.out⟩
end Go.Proofs.Ytlcfccnkplmpgaa
