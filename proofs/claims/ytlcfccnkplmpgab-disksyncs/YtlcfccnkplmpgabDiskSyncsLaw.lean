/- The law DiskSyncs, walked. -/
import Derived.Test.YtlcfccnkplmpgabDkAnsKit
import Derived.Test.YtlcfccnkplmpgabDiskSyncWalks
import Derived.Test.YtlcfccnkplmpgabDiskReadWalks
import Derived.Test.YtlcfccnkplmpgabSameDkWalks
namespace Go.Proofs.Ytlcfccnkplmpgab
open Go.RowKit

theorem lit_one {w : World} {s : ByteArray} : Rd (w.alloc (.cells #[.string s] 9)) (some ⟨w.heap.size, 0, none⟩) 1 1 (stC [s]) :=
  ⟨rfl, fun _ => ⟨w.heap.size, 0, rfl, by simp, fun j u hj => by
    rw [Nat.zero_add, World.cell?_alloc_new]
    match j with
    | 0 => exact hj
    | j + 1 => simp [stC] at hj⟩⟩
theorem lit_pt {w : World} {x : Int} {s : ByteArray} : Rd (w.alloc (.cells #[.int .i64 x, .string s] 31)) (some ⟨w.heap.size, 0, none⟩) 1 2 (ptC [⟨x, s⟩]) :=
  ⟨rfl, fun _ => ⟨w.heap.size, 0, rfl, by simp, fun j u hj => by
    rw [Nat.zero_add, World.cell?_alloc_new]
    match j with
    | 0 => exact hj
    | 1 => exact hj
    | j + 2 => simp [ptC, pt2] at hj⟩⟩
theorem lit_disk (w : World) (s t : ByteArray) (hs : s.size ≤ 140737488355328) (ht : t.size ≤ 140737488355328) : Dk ((w.alloc (.cells #[.string s] 9)).alloc (.cells #[.int .i64 0, .string t] 31)) (some ⟨w.heap.size, 0, none⟩) 1 (some ⟨w.heap.size + 1, 0, none⟩) 1 [s] [⟨0, t⟩] := by
  refine ⟨rfl, rfl, by omega, by omega, lit_one.below ((Below.refl _ _).alloc (Nat.le_refl _) _), ?_, fun p hp => ?_, fun x hx => ?_, fun p hp => ?_⟩
  · have h := @lit_pt (w.alloc (.cells #[.string s] 9)) 0 t
    rw [show (w.alloc (.cells #[.string s] 9)).heap.size = w.heap.size + 1 by simp] at h
    exact h
  · rw [List.mem_singleton.1 hp]; simp only; omega
  · rw [List.mem_singleton.1 hx]; exact hs
  · rw [List.mem_singleton.1 hp]; exact ht
theorem known_syncs : chkD [(⟨#[97]⟩ : ByteArray)] [⟨0, ⟨#[98]⟩⟩] = 0 ∧ landL allL [⟨0, ⟨#[98]⟩⟩] 0 [(⟨#[97]⟩ : ByteArray)] = [⟨#[98]⟩] := by decide
/-- what is read behind a sync -/
theorem sync_reads {C : List ByteArray} {P : List Pt} (hok : OkD C P) (z : Int) : rdD (landL allL P 0 C) [] z = rdD C P z ∧ (rdD C P z = 0 → cellL allL z [] 0 ((landL allL P 0 C).getD z.toNat ⟨#[]⟩) = cellL allL z P 0 (C.getD z.toNat ⟨#[]⟩)) := by
  have h1 : rdD C P z = if hasB C.length z = true then 0 else 1 := by unfold rdD; rw [if_pos (ok_chkD hok)]
  refine ⟨?_, fun h0 => ?_⟩
  · rw [h1]
    unfold rdD
    rw [if_pos (ok_chkD (ok_land hok allL)), landL_length]
  · rw [h1] at h0
    have hh : hasB C.length z = true := by
      cases hh : hasB C.length z with
      | true => rfl
      | false => rw [hh] at h0; exact absurd h0 (by decide)
    have hz : 0 ≤ z ∧ z < (C.length : Int) := of_decide_eq_true hh
    have := land_cell allL P 0 C z.toNat (by omega) (fun p hp => (putE_zero (hok.ps p hp)).1)
    rw [Int.toNat_of_nonneg hz.1] at this
    exact this
set_option maxRecDepth 20000 in
set_option maxHeartbeats 2000000 in
theorem diskSyncs_walk (a0 : Option Addr) (n c : Nat) (b0 : Option Addr) (m d : Nat) (C : List ByteArray) (P : List Pt) (z : Int) (ak : Option Addr) (k0 kcap : Nat) (K : List Bool) (w : World) (h : Dk w a0 n b0 m C P) (_hz : (Lit.int .i64 z).wf = true) (hK : Bos w ak k0 K) :
    Calls Try.prog 3 #[.agg #[.slice a0 n c, .slice b0 m d], .int .i64 z, .slice ak k0 kcap] w fun e w' => e = .returned (.bool true) ∧ Below w.heap.size w w' := by
  obtain ⟨W0, hW0⟩ : ∃ W, Hid (w.alloc (.cells #[.slice a0 n c, .slice b0 m d] 25) = W) := ⟨_, Hid.mk' rfl⟩
  have HB0 : Hid (Below w.heap.size w W0) := by rw [← hW0.out]; exact (Below.refl _ w).alloc (Nat.le_refl _) _
  have HX0 : Hid (Box2 W0 w.heap.size (.slice a0 n c) (.slice b0 m d)) := by rw [← hW0.out]; exact box2_new w _ _ _
  have HKw := Hid.mk' h
  have HBo := Hid.mk' hK
  have hN := Hid.mk' h.nC
  have hkn := Hid.mk' known_syncs
  have hchk := chkD_range C P
  clear h hK
  go_enter Try.func3, Try.ntmps3
  go_wp2_with fail
  rw [hW0.out]
  have hs0 : Hid (W0.heap.size = w.heap.size + 1) := by rw [← hW0.out]; show _ = _; simp
  have hlit := lit_disk W0 ⟨#[97]⟩ ⟨#[98]⟩ (by decide) (by decide)
  rw [hs0.out] at hlit
  obtain ⟨wl, hwl⟩ : ∃ W, Hid ((W0.alloc (.cells #[.string ⟨#[97]⟩] 9)).alloc (.cells #[.int .i64 0, .string ⟨#[98]⟩] 31) = W) := ⟨_, Hid.mk' rfl⟩
  rw [hwl.out] at hlit ⊢
  have HBl : Hid (Below W0.heap.size W0 wl) := by rw [← hwl.out]; exact ((Below.refl _ _).alloc (Nat.le_refl _) _).alloc (by simp) _
  have HBlw := Hid.mk' (HB0.out.trans (HBl.out.mono HB0.out.size))
  have HLit := Hid.mk' hlit
  clear hlit
  refine (dsync_any _ _ 1 1 1 1 _ _ wl HLit.out).mono ?_
  rintro e w1 ⟨hans, hb1⟩
  rw [hkn.out.1, hkn.out.2] at hans
  obtain ⟨x0, xn, xc, x1, xm, xd, rfl, hres⟩ := res_of_ans hans (fun _ => by have h := ok_land (chkD_ok hkn.out.1) allL; rw [hkn.out.2] at h; exact h)
  have hd := hres.yes rfl
  have hxm : xm = 0 := by simpa using hd.mP.symm
  have hxn : xn = 1 := by simpa using hd.nC.symm
  subst hxm hxn
  have HD1 := Hid.mk' hd
  have HB1 := Hid.mk' (HBlw.out.trans (hb1.mono HBlw.out.size))
  have HX1 := Hid.mk' ((HX0.out.below HBl.out).below hb1)
  clear hans hb1 hres hd
  go_wp2_with fail
  obtain ⟨wa, hwa⟩ : ∃ W, Hid (w1.alloc (.cells #[.slice x0 1 xc, .slice x1 0 xd] 25) = W) := ⟨_, Hid.mk' rfl⟩
  have HBa : Hid (Below w1.heap.size w1 wa) := by rw [← hwa.out]; exact (Below.refl _ _).alloc (Nat.le_refl _) _
  have HDa := Hid.mk' (HD1.out.below HBa.out)
  have HXa := Hid.mk' (HX1.out.below HBa.out)
  have HBaw := Hid.mk' (HB1.out.trans (HBa.out.mono HB1.out.size))
  rw [hwa.out]
  have hsa : wa.heap.size = w1.heap.size + 1 := by rw [← hwa.out]; simp
  have hlo := @lit_one wa ⟨#[98]⟩
  rw [hsa] at hlo
  refine (equalS_any x0 (some ⟨w1.heap.size + 1, 0, none⟩) 1 xc 1 1 [⟨#[98]⟩] [⟨#[98]⟩] (wa.alloc (.cells #[.string ⟨#[98]⟩] 9)) (HDa.out.rc.below ((Below.refl _ _).alloc (Nat.le_refl _) _)) hlo rfl rfl (by omega) (by omega)).mono ?_
  rintro e w2 ⟨⟨b, rfl, hb⟩, q2, hw2⟩
  obtain rfl := hb.yes rfl
  have HB2 : Hid (Below w.heap.size w w2) := by rw [hw2]; exact below_dS (HBaw.out.alloc HBaw.out.size _) _
  have HX2 : Hid (Box2 w2 w.heap.size (.slice a0 n c) (.slice b0 m d)) := by rw [hw2]; exact (HXa.out.alloc _).dN _
  have d0 := HX2.out.c0
  have d1 := HX2.out.c1
  clear hb hw2 hlo hsa
  go_wp2_with fail
  refine (dsync_any a0 b0 n c m d C P w2 (HKw.out.below HB2.out)).mono ?_
  rintro e w3 ⟨hans, hb3⟩
  obtain ⟨q, hq⟩ : ∃ q, Hid (chkD C P = q) := ⟨_, Hid.mk' rfl⟩
  obtain ⟨y0, yn, yc, y1, ym, yd, rfl, hres⟩ := res_of_ans hans (fun h => ok_land (chkD_ok h) allL)
  rw [hq.out] at hres hchk ⊢
  have HR3 := Hid.mk' hres
  have HB3 := Hid.mk' (HB2.out.trans (hb3.mono HB2.out.size))
  have HX3 := Hid.mk' (HX2.out.below hb3)
  have hz3 : w.heap.size < w3.heap.size := by have := HX3.out.lt; omega
  have e0 := HX3.out.c0
  have e1 := HX3.out.c1
  clear hans hb3 hres d0 d1
  by_cases h0 : q = 0
  · subst h0
    have HOk := Hid.mk' (chkD_ok hq.out)
    have HSr := Hid.mk' (sync_reads HOk.out z)
    obtain ⟨C', hC'⟩ : ∃ C', Hid (landL allL P 0 C = C') := ⟨_, Hid.mk' rfl⟩
    have HOk' : Hid (OkD C' []) := by rw [← hC'.out]; exact ok_land HOk.out allL
    rw [hC'.out] at HSr HR3
    have HD3 := Hid.mk' (HR3.out.yes rfl)
    have hym : ym = 0 := by simpa using HD3.out.mP.symm
    subst hym
    clear hchk
    go_wp2_with fail
    obtain ⟨wb, hwb⟩ : ∃ W, Hid (w3.alloc (.cells #[.slice y0 yn yc, .slice y1 0 yd] 25) = W) := ⟨_, Hid.mk' rfl⟩
    have HBb : Hid (Below w3.heap.size w3 wb) := by rw [← hwb.out]; exact (Below.refl _ _).alloc (Nat.le_refl _) _
    have HXb : Hid (Box2 wb w3.heap.size (.slice y0 yn yc) (.slice y1 0 yd)) := by rw [← hwb.out]; exact box2_new w3 _ _ _
    have HDb := Hid.mk' (HD3.out.below HBb.out)
    have HBbw := Hid.mk' (HB3.out.trans (HBb.out.mono HB3.out.size))
    rw [hwb.out]
    clear e0 e1
    refine (dread_any a0 b0 n c m d C P z wb (HKw.out.below HBbw.out)).mono ?_
    rintro e w4 ⟨hra, hb4⟩
    have HB4 := Hid.mk' (HBbw.out.trans (hb4.mono HBbw.out.size))
    have HXb4 := Hid.mk' (HXb.out.below hb4)
    have HD4 := Hid.mk' (HDb.out.below hb4)
    have r0 := HXb4.out.c0
    have r1 := HXb4.out.c1
    obtain ⟨A, qa, rfl, hA1, hA2⟩ : ∃ A qa, e = .returned (.tuple #[.string A, .int .i64 qa]) ∧ rdD C P z = qa ∧ (qa = 0 ∧ A = cellL allL z P 0 (C.getD z.toNat ⟨#[]⟩) ∨ qa ≠ 0 ∧ A = ⟨#[]⟩) := by
      rcases hra with ⟨h1, h2⟩ | ⟨q, h1, h2, h3⟩
      · exact ⟨_, _, h2, h1, .inl ⟨rfl, rfl⟩⟩
      · exact ⟨_, _, h3, h2.out, .inr ⟨h1, rfl⟩⟩
    have HA1 := Hid.mk' hA1
    have HA2 := Hid.mk' hA2
    clear hra hb4 hA1 hA2
    go_wp2_with fail
    refine (dread_any y0 y1 yn yc 0 yd C' [] z w4 HD4.out).mono ?_
    rintro e w5 ⟨hrb, hb5⟩
    have HB5 := Hid.mk' (HB4.out.trans (hb5.mono HB4.out.size))
    have HXb5 := Hid.mk' (HXb4.out.below hb5)
    have HD5 := Hid.mk' (HD4.out.below hb5)
    obtain rfl : e = .returned (.tuple #[.string A, .int .i64 qa]) := by
      rcases hrb with ⟨h1, h2⟩ | ⟨q, h1, h2, h3⟩
      · have h1' := h1
        rw [HSr.out.1, HA1.out] at h1'
        subst h1'
        rw [HSr.out.2 HA1.out] at h2
        rcases HA2.out with ⟨_, h⟩ | ⟨h, _⟩
        · rw [h]; exact h2
        · exact absurd rfl h
      · have h2' := h2.out
        rw [HSr.out.1, HA1.out] at h2'
        subst h2'
        rcases HA2.out with ⟨h, _⟩ | ⟨_, h⟩
        · exact absurd h h1
        · rw [h]; exact h3
    have s0 := HXb5.out.c0
    have s1 := HXb5.out.c1
    clear hrb hb5 r0 r1
    go_wp2_with fail
    refine (dcrash_any y0 y1 yn yc 0 yd C' [] K k0 kcap ak w5 HD5.out (HBo.out.below HB5.out) (HBo.out.below HB5.out).low).mono ?_
    rintro e w6 ⟨hans, hb6⟩
    rw [ok_chkD HOk'.out] at hans
    obtain ⟨v0, vn, vc, v1, vm, vd, rfl, hres⟩ := res_of_ans hans (fun _ => by exact HOk'.out)
    have HD6 : Hid (Dk w6 v0 vn v1 vm C' []) := hres.yes rfl
    have HDy := Hid.mk' (HD5.out.below hb6)
    have HB6 := Hid.mk' (HB5.out.trans (hb6.mono HB5.out.size))
    have HXb6 := Hid.mk' (HXb5.out.below hb6)
    have hz6 : w3.heap.size < w6.heap.size := HXb6.out.lt
    have t0 := HXb6.out.c0
    have t1 := HXb6.out.c1
    have tq : (qa == qa) = true := by simp
    have tA : (A.toList == A.toList) = true := by simp
    clear hans hb6 hres s0 s1
    go_wp2_with fail
    refine (sameDk_any y0 y1 yn yc 0 yd C' [] v0 v1 vn vc vm vd C' [] _ (HDy.out.below ((Below.refl _ _).alloc (Nat.le_refl _) _)) (HD6.out.below ((Below.refl _ _).alloc (Nat.le_refl _) _))).mono ?_
    rintro e w7 ⟨⟨b, rfl, hb⟩, hb7⟩
    obtain rfl := hb.yes ⟨rfl, rfl⟩
    have HB7 := Hid.mk' ((HB6.out.alloc HB6.out.size (.cells #[.slice v0 vn vc, .slice v1 vm vd] 25)).trans (hb7.mono (by have := HB6.out.size; simp; omega)))
    clear hb hb7
    go_wp2_with fail
    go_ret
    exact ⟨rfl, HB7.out⟩
  · have tq : (q != 0) = true := by rw [bne_iff_ne]; exact h0
    go_wp2_with fail
    refine (dchk_any a0 b0 n c m d C P _ ((HKw.out.below HB3.out).below ((Below.refl _ _).alloc (Nat.le_refl _) _))).mono ?_
    rintro e w4 ⟨rfl, hb4⟩
    rw [hq.out]
    have HB4 := Hid.mk' ((HB3.out.alloc HB3.out.size (.cells #[.slice y0 yn yc, .slice y1 ym yd] 25)).trans (hb4.mono (by have := HB3.out.size; simp; omega)))
    have tqq : (q == q) = true := by simp
    clear hb4
    go_wp2_with fail
    go_ret
    exact ⟨rfl, HB4.out⟩
end Go.Proofs.Ytlcfccnkplmpgab
