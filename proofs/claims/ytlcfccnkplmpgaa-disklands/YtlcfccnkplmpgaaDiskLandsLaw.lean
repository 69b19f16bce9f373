/- The law DiskLands, walked. -/
import Derived.Test.YtlcfccnkplmpgaaDiskSyncWalks
import Derived.Test.YtlcfccnkplmpgaaDkAnsKit
import Derived.Test.YtlcfccnkplmpgaaRDiskWalks
import Derived.Test.YtlcfccnkplmpgaaRLandedE
import Derived.Test.YtlcfccnkplmpgaaRLandedL
import Derived.Test.YtlcfccnkplmpgaaSameDkWalks
import Derived.Test.YtlcfccnkplmpgaaIn5
namespace Go.Proofs.Ytlcfccnkplmpgaa
open Go.RowKit

set_option maxRecDepth 20000 in
set_option maxHeartbeats 2000000 in
theorem diskLands_walk (a0 : Option Addr) (n c : Nat) (b0 : Option Addr) (m d : Nat) (C : List ByteArray) (P : List Pt) (ak : Option Addr) (k0 kcap : Nat) (K : List Bool) (w : World) (h : Dk w a0 n b0 m C P) (hK : Bos w ak k0 K) :
    Calls Try.prog 5 #[.agg #[.slice a0 n c, .slice b0 m d], .slice ak k0 kcap] w fun e w' => e = .returned (.bool true) ∧ Below w.heap.size w w' := by
  obtain ⟨W0, hW0⟩ : ∃ W, Hid ((w.alloc (.cells #[.slice a0 n c, .slice b0 m d] 25)).alloc (.cells #[.slice ak k0 kcap] 44) = W) := ⟨_, Hid.mk' rfl⟩
  have hin := in5_new (c := c) (d := d) (kcap := kcap) h hK 25 44
  rw [hW0.out] at hin
  have HI0 := Hid.mk' hin.1
  have HB0 := Hid.mk' hin.2
  have hrange := chkD_range C P
  have hokF := Hid.mk' (@chkD_ok C P)
  clear h hK hin
  go_enter Try.func5, Try.ntmps5
  go_wp2_with fail
  rw [hW0.out]
  refine (dsync_any a0 b0 n c m d C P W0 HI0.out.dk).mono ?_
  rintro e w1 ⟨hans, hb1⟩
  have HB1 := Hid.mk' hb1
  obtain ⟨x0, xn, xc, x1, xm, xd, rfl, hres⟩ := res_of_ans hans (fun h => ok_land (chkD_ok h) allL)
  have HR1 := Hid.mk' hres
  obtain ⟨q, hq⟩ : ∃ q, Hid (chkD C P = q) := ⟨_, Hid.mk' rfl⟩
  rw [hq.out] at hrange hokF HR1 ⊢
  have HB1w := Hid.mk' (HB0.out.trans (hb1.mono HB0.out.size))
  have HI1 := Hid.mk' (HI0.out.below hb1)
  have hz1 := HI1.out.kl
  have hy1 : w.heap.size < w1.heap.size := by omega
  have d0 := HI1.out.bx.c0
  have d1 := HI1.out.bx.c1
  have d2 := HI1.out.kb
  clear hans hb1 hres
  go_wp2_with fail
  obtain ⟨wa, hwa⟩ : ∃ W, Hid (w1.alloc (.cells #[.slice x0 xn xc, .slice x1 xm xd] 25) = W) := ⟨_, Hid.mk' rfl⟩
  have HBa : Hid (Below w1.heap.size w1 wa) := by rw [← hwa.out]; exact (Below.refl _ _).alloc (Nat.le_refl _) _
  have HXa : Hid (Box2 wa w1.heap.size (.slice x0 xn xc) (.slice x1 xm xd)) := by rw [← hwa.out]; exact box2_new w1 _ _ _
  have HIa := Hid.mk' (HI1.out.below HBa.out)
  have HRa := Hid.mk' (HR1.out.below HBa.out)
  have HBaw := Hid.mk' (HB1w.out.trans (HBa.out.mono HB1w.out.size))
  rw [hwa.out]
  clear d0 d1 d2 hz1 hy1
  refine (dcrash_any a0 b0 n c m d C P K k0 kcap ak wa HIa.out.dk HIa.out.bo HIa.out.bo.low).mono ?_
  rintro e w2 ⟨hans, hb2⟩
  rw [hq.out] at hans
  obtain ⟨y0, yn, yc, y1, ym, yd, rfl, hres⟩ := res_of_ans hans (fun h => ok_land (hokF.out h) (keepL K))
  have HR2 := Hid.mk' hres
  have HB2w := Hid.mk' (HBaw.out.trans (hb2.mono HBaw.out.size))
  have HI2 := Hid.mk' (HIa.out.below hb2)
  have HRa2 := Hid.mk' (HRa.out.below hb2)
  have HXa2 := Hid.mk' (HXa.out.below hb2)
  have hz2 := HI2.out.kl
  have hy2 : w.heap.size < w2.heap.size := by omega
  have d0 := HI2.out.bx.c0
  have d1 := HI2.out.bx.c1
  clear hans hb2 hres
  go_wp2_with fail
  obtain ⟨wb, hwb⟩ : ∃ W, Hid (w2.alloc (.cells #[.slice y0 yn yc, .slice y1 ym yd] 25) = W) := ⟨_, Hid.mk' rfl⟩
  have HBb : Hid (Below w2.heap.size w2 wb) := by rw [← hwb.out]; exact (Below.refl _ _).alloc (Nat.le_refl _) _
  have HXb : Hid (Box2 wb w2.heap.size (.slice y0 yn yc) (.slice y1 ym yd)) := by rw [← hwb.out]; exact box2_new w2 _ _ _
  have HIb := Hid.mk' (HI2.out.below HBb.out)
  have HR1b := Hid.mk' (HRa2.out.below HBb.out)
  have HR2b := Hid.mk' (HR2.out.below HBb.out)
  have HXab := Hid.mk' (HXa2.out.below HBb.out)
  have HBbw := Hid.mk' (HB2w.out.trans (HBb.out.mono HB2w.out.size))
  rw [hwb.out]
  clear d0 d1 hz2 hy2
  refine (rdisk_any a0 b0 n c m d C P wb HIb.out.dk).mono ?_
  rintro e w3 ⟨rfl, hb3⟩
  rw [hq.out]
  have HI3 := Hid.mk' (HIb.out.below hb3)
  have HR13 := Hid.mk' (HR1b.out.below hb3)
  have HR23 := Hid.mk' (HR2b.out.below hb3)
  have HXa3 := Hid.mk' (HXab.out.below hb3)
  have HXb3 := Hid.mk' (HXb.out.below hb3)
  have HB3w := Hid.mk' (HBbw.out.trans (hb3.mono HBbw.out.size))
  have e0 := HXa3.out.c0
  have e1 := HXa3.out.c1
  have g0 := HXb3.out.c0
  have g1 := HXb3.out.c1
  have d0 := HI3.out.bx.c0
  have d1 := HI3.out.bx.c1
  clear hb3
  by_cases h0 : q = 0
  · subst h0
    clear hrange
    have HOk := Hid.mk' (chkD_ok hq.out)
    clear hokF
    go_wp2_with fail
    refine (rlandedL_any a0 b0 n c m d C P K k0 kcap (w.heap.size + 1) ak w3 HI3.out.dk (fun p hp => (putE_zero (HOk.out.ps p hp)).1) HI3.out.bo HI3.out.kb HI3.out.kl).mono ?_
    rintro e w4 ⟨⟨u, rfl, ho⟩, hb4⟩
    obtain ⟨z0, zn, zc, z1, zm, zd, rfl, hz1, hdz⟩ := dk_of_own ho (ok_land HOk.out (keepL K))
    have hzn := hdz.mP
    simp only [Value.slice.injEq] at hz1
    obtain ⟨rfl, rfl, rfl⟩ := hz1
    have HZ := Hid.mk' hdz
    have HI4 := Hid.mk' (HI3.out.below hb4)
    have HA4 := Hid.mk' ((HR13.out.yes rfl).below hb4)
    have HBd4 := Hid.mk' ((HR23.out.yes rfl).below hb4)
    have HXa4 := Hid.mk' (HXa3.out.below hb4)
    have HXb4 := Hid.mk' (HXb3.out.below hb4)
    have HB4w := Hid.mk' (HB3w.out.trans (hb4.mono HB3w.out.size))
    clear ho hb4 hdz hzn e0 e1 g0 g1 d0 d1
    go_wp2_with fail
    obtain ⟨wc, hwc⟩ : ∃ W, Hid (w4.alloc (.cells #[.slice z0 zn zc, .slice none 0 0] 25) = W) := ⟨_, Hid.mk' rfl⟩
    have HBc : Hid (Below w4.heap.size w4 wc) := by rw [← hwc.out]; exact (Below.refl _ _).alloc (Nat.le_refl _) _
    have HXc : Hid (Box2 wc w4.heap.size (.slice z0 zn zc) (.slice none 0 0)) := by rw [← hwc.out]; exact box2_new w4 _ _ _
    have HZc := Hid.mk' (HZ.out.below HBc.out)
    have HIc := Hid.mk' (HI4.out.below HBc.out)
    have HAc := Hid.mk' (HA4.out.below HBc.out)
    have HBdc := Hid.mk' (HBd4.out.below HBc.out)
    have HXac := Hid.mk' (HXa4.out.below HBc.out)
    have HXbc := Hid.mk' (HXb4.out.below HBc.out)
    have HBcw := Hid.mk' (HB4w.out.trans (HBc.out.mono HB4w.out.size))
    rw [hwc.out]
    have s0 := HXac.out.c0
    have s1 := HXac.out.c1
    have s2 := HIc.out.bx.c0
    have s3 := HIc.out.bx.c1
    have s4 := HXbc.out.c0
    have s5 := HXbc.out.c1
    have s6 := HXc.out.c0
    have s7 := HXc.out.c1
    have hww : w.heap.size ≤ wc.heap.size := HBcw.out.size
    go_region_held3 (fun X => X.cell? ⟨w1.heap.size, 0, none⟩ = some (.slice x0 xn xc) ∧ X.cell? ⟨w1.heap.size, 1, none⟩ = some (.slice x1 xm xd) ∧ X.cell? ⟨w.heap.size, 0, none⟩ = some (.slice a0 n c) ∧ X.cell? ⟨w.heap.size, 1, none⟩ = some (.slice b0 m d) ∧ X.cell? ⟨w2.heap.size, 0, none⟩ = some (.slice y0 yn yc) ∧ X.cell? ⟨w2.heap.size, 1, none⟩ = some (.slice y1 ym yd) ∧ X.cell? ⟨w4.heap.size, 0, none⟩ = some (.slice z0 zn zc) ∧ X.cell? ⟨w4.heap.size, 1, none⟩ = some (.slice none 0 0))
      (first | exact ⟨r0, r1, r2, r3, r4, r5, r6, r7⟩ | exact ⟨q0, q1, q2, q3, q4, q5, q6, q7⟩ | exact ⟨p0, p1, p2, p3, p4, p5, p6, p7⟩ | exact ⟨s0, s1, s2, s3, s4, s5, s6, s7⟩)
      (first
        | (go_at_call 22; refine (rlandedE_any a0 b0 n c m d C P _ HIc.out.dk.drew (fun p hp => (putE_zero (HOk.out.ps p hp)).1)).mono ?_; rintro e w5 ⟨⟨u, rfl, ho⟩, hb5⟩; obtain ⟨v0, vn, vc, v1, vm, vd, rfl, hv1, hdv⟩ := dk_of_own ho (ok_land HOk.out allL); simp only [Value.slice.injEq] at hv1; obtain ⟨rfl, rfl, rfl⟩ := hv1; have HV := Hid.mk' hdv; have HA5 := Hid.mk' (HAc.out.drew.below hb5); have HBd5 := Hid.mk' (HBdc.out.drew.below hb5); have HZ5 := Hid.mk' (HZc.out.drew.below hb5); have hXa5 := HXac.out.drew.below hb5; have hXb5 := HXbc.out.drew.below hb5; have hI5 := HIc.out.drew.below hb5; have hXc5 := HXc.out.drew.below hb5; have p0 := hXa5.c0; have p1 := hXa5.c1; have p2 := hI5.bx.c0; have p3 := hI5.bx.c1; have p4 := hXb5.c0; have p5 := hXb5.c1; have p6 := hXc5.c0; have p7 := hXc5.c1; have HX5a := Hid.mk' hXa5; have HX5b := Hid.mk' hXb5; have HX5c := Hid.mk' hXc5; have HI5 := Hid.mk' hI5; have HB5w := Hid.mk' (HBcw.out.drew.trans (hb5.mono hww)); clear ho hb5 hdv hXa5 hXb5 hI5 hXc5)
        | (go_at_call_of 17 (Value.agg #[Value.slice x0 xn xc, Value.slice x1 xm xd]); refine (sameDk_any x0 x1 xn xc xm xd _ _ v0 none vn vc 0 0 _ _ _ HA5.out HV.out).mono ?_; rintro e w6 ⟨⟨b, rfl, hb⟩, hb6⟩; obtain rfl := hb.yes ⟨rfl, rfl⟩; have HBd6 := Hid.mk' (HBd5.out.below hb6); have HZ6 := Hid.mk' (HZ5.out.below hb6); have hXa6 := HX5a.out.below hb6; have hXb6 := HX5b.out.below hb6; have hI6 := HI5.out.below hb6; have hXc6 := HX5c.out.below hb6; have q0 := hXa6.c0; have q1 := hXa6.c1; have q2 := hI6.bx.c0; have q3 := hI6.bx.c1; have q4 := hXb6.c0; have q5 := hXb6.c1; have q6 := hXc6.c0; have q7 := hXc6.c1; have HX6a := Hid.mk' hXa6; have HX6b := Hid.mk' hXb6; have HX6c := Hid.mk' hXc6; have HI6 := Hid.mk' hI6; have HB6w := Hid.mk' (HB5w.out.trans (hb6.mono HB5w.out.size)); clear hb hb6 hXa6 hXb6 hI6 hXc6)
        | (go_at_call_of 17 (Value.agg #[Value.slice y0 yn yc, Value.slice y1 ym yd]); refine (sameDk_any y0 y1 yn yc ym yd _ _ z0 none zn zc 0 0 _ _ _ HBd6.out HZ6.out).mono ?_; rintro e w7 ⟨⟨b, rfl, hb⟩, hb7⟩; obtain rfl := hb.yes ⟨rfl, rfl⟩; have hXa7 := HX6a.out.below hb7; have hXb7 := HX6b.out.below hb7; have hI7 := HI6.out.below hb7; have hXc7 := HX6c.out.below hb7; have r0 := hXa7.c0; have r1 := hXa7.c1; have r2 := hI7.bx.c0; have r3 := hI7.bx.c1; have r4 := hXb7.c0; have r5 := hXb7.c1; have r6 := hXc7.c0; have r7 := hXc7.c1; have HB7w := Hid.mk' (HB6w.out.trans (hb7.mono HB6w.out.size)); clear hb hb7 hXa7 hXb7 hI7 hXc7)
        | fail)
    go_wp2_with fail
    go_ret
    exact ⟨rfl, HB7w.out⟩
  · have tq : (q != 0) = true := by rw [bne_iff_ne]; exact h0
    have tqq : (q == q) = true := by simp
    have hA := Hid.mk' (HR13.out.no h0)
    have hBn := Hid.mk' (HR23.out.no h0)
    go_wp2_with fail
    refine (sameDk_any x0 x1 xn xc xm xd [] [] none none 0 0 0 0 [] [] _ hA.out (dk_nil _)).mono ?_
    rintro e w4 ⟨⟨b, rfl, hb⟩, hb4⟩
    obtain rfl := hb.yes ⟨rfl, rfl⟩
    have HB4 := Hid.mk' (HB3w.out.trans (hb4.mono HB3w.out.size))
    have hB4 := Hid.mk' (hBn.out.below hb4)
    have g2 := (HXb3.out.below hb4).c0
    have g3 := (HXb3.out.below hb4).c1
    clear hb hb4
    go_wp2_with fail
    refine (sameDk_any y0 y1 yn yc ym yd [] [] none none 0 0 0 0 [] [] _ hB4.out (dk_nil _)).mono ?_
    rintro e w5 ⟨⟨b, rfl, hb⟩, hb5⟩
    obtain rfl := hb.yes ⟨rfl, rfl⟩
    have HB5 := Hid.mk' (HB4.out.trans (hb5.mono HB4.out.size))
    clear hb hb5
    go_wp2_with fail
    go_ret
    exact ⟨rfl, HB5.out⟩
end Go.Proofs.Ytlcfccnkplmpgaa
