import Derived.Test.YtbakgobgjfhhhaaDoorPmap
import Derived.Test.YtbakgobgjfhhhaaDoorRPointReadWalks
import Derived.Test.YtbakgobgjfhhhaaDoorRDiskWalks
import Derived.Test.YtbakgobgjfhhhaaDoorRCellE

/- What linenref.Newest answers. -/
namespace Go.Proofs.YtbakgobgjfhhhaaDoor
open Go.RowKit

theorem rcel_in (a0 a1 : Option Addr) (n c m d : Nat) (C : List ByteArray) (P : List Pt) (k : Nat) (w : World) (h : Dk w a0 n a1 m C P) (hk : k < n) :
    Calls Tryd.prog 39 #[.agg #[.slice a0 n c, .slice a1 m d], .int .i64 (k : Int), .func (.func 40) #[] #[]] w fun e w' => e = .returned (.string (cel C P k)) ∧ Below w.heap.size w w' := rcellE_any a0 a1 n c m d C P k w h hk
theorem nwD_one {C : List ByteArray} {P : List Pt} (hc : chkD C P = 0) (h : C.length = 1) : nwD C P = rdPt (cel C P 0).data.toList := by
  unfold nwD
  rw [if_pos hc, h]
  exact nwS_first _
theorem nwD_two {C : List ByteArray} {P : List Pt} (hc : chkD C P = 0) (h : 1 < C.length) : nwD C P = nwS (rdPt (cel C P 0).data.toList) (cel C P 1).data.toList := by
  unfold nwD
  rw [if_pos hc, show nwM C.length = 2 by unfold nwM; split <;> omega]
  show nwS (nwS none (cel C P 0).data.toList) (cel C P 1).data.toList = _
  rw [nwS_first]
theorem nwE_of {C : List ByteArray} {P : List Pt} {O : Fnd} (hc : chkD C P = 0) (h : nwD C P = O) : nwE C P = if O.isNone then 18 else 0 := by
  unfold nwD at h
  rw [if_pos hc] at h
  unfold nwE
  rw [if_pos hc, h]
theorem rdPE_of (s : List UInt8) : (rdPE s = 0 ∧ ∃ v, rdPt s = some v) ∨ (rdPE s ≠ 0 ∧ rdPt s = none) := by
  cases h : rdPt s with
  | none => exact .inr ⟨rdPE_none h, rfl⟩
  | some v => obtain ⟨t, n, P, G⟩ := v; exact .inl ⟨rdPE_yes h, ⟨_, rfl⟩⟩
set_option maxRecDepth 20000 in
set_option maxHeartbeats 3200000 in
theorem rnewest_any (a0 a1 : Option Addr) (n c m d : Nat) (C : List ByteArray) (P : List Pt) (w : World) (h : Dk w a0 n a1 m C P) :
    Calls Tryd.prog 15 #[.agg #[.slice a0 n c, .slice a1 m d]] w fun z w' => NwA w.heap.size w' (nwD C P) (nwE C P) z ∧ Below w.heap.size w w' := by
  have hN := Hid.mk' h.nC
  have hd0 := (boxV_new w [.slice a0 n c, .slice a1 m d] 39).alloc (.cells #[.int .i64 0, .slice none 0 0, .slice none 0 0] 27)
  have hr0 := boxV_new (w.alloc (.cells #[.slice a0 n c, .slice a1 m d] 39)) [.int .i64 0, .slice none 0 0, .slice none 0 0] 27
  have hs0 : (w.alloc (.cells #[.slice a0 n c, .slice a1 m d] 39)).heap.size = w.heap.size + 1 := by simp
  rw [hs0] at hr0
  have hb0 := (below_boxP (w := w) #[.slice a0 n c, .slice a1 m d] 39).alloc (by simp) (.cells #[.int .i64 0, .slice none 0 0, .slice none 0 0] 27)
  have hs1 : ((w.alloc (.cells #[.slice a0 n c, .slice a1 m d] 39)).alloc (.cells #[.int .i64 0, .slice none 0 0, .slice none 0 0] 27)).heap.size = w.heap.size + 2 := by simp
  obtain ⟨W0, hW0⟩ : ∃ W, Hid ((w.alloc (.cells #[.slice a0 n c, .slice a1 m d] 39)).alloc (.cells #[.int .i64 0, .slice none 0 0, .slice none 0 0] 27) = W) := ⟨_, Hid.mk' rfl⟩
  have HD0 : Hid (BoxV W0 w.heap.size [.slice a0 n c, .slice a1 m d]) := by rw [← hW0.out]; exact hd0
  have HR0 : Hid (BoxV W0 (w.heap.size + 1) [.int .i64 0, .slice none 0 0, .slice none 0 0]) := by rw [← hW0.out]; exact hr0
  have HB0 : Hid (Below w.heap.size w W0) := by rw [← hW0.out]; exact hb0
  rw [hW0.out] at hs1
  have HS0 := Hid.mk' hs1
  have HKw := Hid.mk' h
  have HK0 := Hid.mk' (h.below HB0.out)
  have hck := Hid.mk' (fun w h => rdisk_any a0 a1 n c m d C P w h)
  obtain ⟨q, hq⟩ : ∃ q, Hid (chkD C P = q) := ⟨_, Hid.mk' rfl⟩
  rw [hq.out] at hck
  clear hd0 hr0 hs0 hb0 hs1 h
  have p0 := HD0.out.c 0 _ rfl
  have p1 := HD0.out.c 1 _ rfl
  go_enter Tryd.func15, Tryd.ntmps15
  go_wp2_with fail
  rw [hW0.out]
  go_wp2_with fail
  refine (hck.out W0 HK0.out).mono ?_
  rintro z w1 ⟨rfl, hb⟩
  have HR1 := Hid.mk' (HR0.out.below hb)
  have HD1 := Hid.mk' (HD0.out.below hb)
  have HB1 := Hid.mk' (HB0.out.trans (hb.mono HB0.out.size))
  have HK1 := Hid.mk' (HK0.out.below hb)
  have hz1 : w.heap.size + 2 ≤ w1.heap.size := by have := HS0.out; have := hb.size; omega
  have HZ1 := Hid.mk' hz1
  clear hb hz1 p0 p1
  have r0 := HR1.out.c 0 _ rfl
  have r1 := HR1.out.c 1 _ rfl
  have r2 := HR1.out.c 2 _ rfl
  have rf0 := HR1.out.f 0 (by simp)
  have rf1 := HR1.out.f 1 (by simp)
  have rf2 := HR1.out.f 2 (by simp)
  have p0 := HD1.out.c 0 _ rfl
  have p1 := HD1.out.c 1 _ rfl
  have hRS := Hid.mk' (HR1.out.set3P (.int .i64 0) (.slice none 0 0) (.slice none 0 0))
  have hBS := Hid.mk' (below_set3P (g := w.heap.size + 1) HB1.out (Nat.le_succ _) (.int .i64 0) (.slice none 0 0) (.slice none 0 0))
  by_cases h0 : q = 0
  rotate_left
  · have tq : (q != 0) = true := by rw [bne_iff_ne]; exact h0
    have h1 : Hid (nwD C P = none) := by show _ = _; unfold nwD; rw [if_neg (by rw [hq.out]; exact h0)]
    have h2 : Hid (nwE C P = q) := by show _ = _; unfold nwE; rw [if_neg (by rw [hq.out]; exact h0), hq.out]
    clear h0
    go_wp2_with fail
    refine bodyPost_ret (results_pt3 rfl _ _ (w.heap.size + 1) 3 _ _ _ rfl rfl rfl hRS.out rfl infoSzPt (aggPt _)) rfl ⟨nwA_none h1.out h2.out rfl, hBS.out⟩
  subst h0
  have hokn : Hid (1 ≤ n ∧ n ≤ 128) := by
    have ho := chkD_ok hq.out
    have := ho.n1; have := ho.n2; have := hN.out
    exact ⟨by omega, by omega⟩
  have hcell := Hid.mk' (fun k w h hk => rcel_in a0 a1 n c m d C P k w h hk)
  have hPt := Hid.mk' (fun k w => rreadpt_any (cel C P k) w (HKw.out.celB k))
  have h1n := hokn.out.1
  obtain ⟨s0, hs0⟩ : ∃ s, Hid (cel C P 0 = s) := ⟨_, Hid.mk' rfl⟩
  have hC0 := Hid.mk' (fun w h => hcell.out 0 w h (by omega))
  have hP0 := Hid.mk' (fun w => hPt.out 0 w)
  rw [hs0.out] at hC0 hP0
  unfold RdPA at hP0
  obtain ⟨O, hO⟩ : ∃ O, Hid (rdPt s0.data.toList = O) := ⟨_, Hid.mk' rfl⟩
  obtain ⟨E, hE⟩ : ∃ O, Hid (rdPE s0.data.toList = O) := ⟨_, Hid.mk' rfl⟩
  have hOE := Hid.mk' (rdPE_of s0.data.toList)
  have k1 : rdPT s0.data.toList = oT O := by rw [← hO.out]; rfl
  have k2 : rdPN s0.data.toList = oN O := by rw [← hO.out]; rfl
  have k3 : rdPP s0.data.toList = oP O := by rw [← hO.out]; rfl
  have k4 : rdPG s0.data.toList = oG O := by rw [← hO.out]; rfl
  rw [k1, k2, k3, k4, hE.out] at hP0
  rw [hO.out, hE.out] at hOE
  clear k1 k2 k3 k4 r0 r1 r2 rf0 rf1 rf2 hRS hBS
  go_wp2_with fail
  refine (hC0.out w1 HK1.out).mono ?_
  rintro z w2 ⟨rfl, hb2⟩
  have p0 := (HD1.out.below hb2).c 0 _ rfl
  have p1 := (HD1.out.below hb2).c 1 _ rfl
  go_wp2_with fail
  refine (hP0.out w2).mono ?_
  rintro z w3 ⟨⟨a, cc, b, ee, rfl, h1, h2, l1, l2⟩, hb3⟩
  have hbx := below_boxP (w := w3) #[.int .i64 (oN O), .slice a (oP O).length cc, .slice b (oG O).length ee] 27
  have hbb := (hb2.trans (hb3.mono hb2.size)).trans (hbx.mono (Nat.le_trans hb2.size hb3.size))
  have hX := PtAt.new (t := oN O) h1 h2 27
  have HR4 := Hid.mk' (HR1.out.below hbb)
  have HD4 := Hid.mk' (HD1.out.below hbb)
  have HB4 := Hid.mk' (HB1.out.trans (hbb.mono HB1.out.size))
  have hlw : w.heap.size + 2 ≤ w2.heap.size := Nat.le_trans HZ1.out hb2.size
  have hlg : w.heap.size + 2 ≤ w3.heap.size := Nat.le_trans hlw hb3.size
  obtain ⟨gf, hgf⟩ : ∃ g, Hid (w3.heap.size = g) := ⟨_, Hid.mk' rfl⟩
  have hs4 : (w3.alloc (.cells #[.int .i64 (oN O), .slice a (oP O).length cc, .slice b (oG O).length ee] 27)).heap.size = w3.heap.size + 1 := by simp
  obtain ⟨W4, hW4⟩ : ∃ W, Hid (w3.alloc (.cells #[.int .i64 (oN O), .slice a (oP O).length cc, .slice b (oG O).length ee] 27) = W) := ⟨_, Hid.mk' rfl⟩
  rw [hW4.out, hgf.out] at hX hs4
  rw [hW4.out] at HR4 HD4 HB4
  rw [hgf.out] at hlg
  have HF4 : Hid (NwT W4 gf (w.heap.size + 2) O a cc b ee) := ⟨hX, l1.mono hlw, l2.mono hlw⟩
  have HGZ := Hid.mk' hlg
  have HS4 := Hid.mk' hs4
  have HK4 := Hid.mk' (HKw.out.below HB4.out)
  clear hb2 hb3 hbx hbb h1 h2 l1 l2 hX hlw hlg hs4 p0 p1
  by_cases hn1 : 1 < n
  rotate_left
  · have tn : decide ((1 : Int) < (n : Int)) = false := decide_eq_false (by omega)
    have hDO : Hid (nwD C P = O) := by show _ = _; rw [nwD_one hq.out (by rw [hN.out]; omega), hs0.out, hO.out]
    have hEO := Hid.mk' (nwE_of hq.out hDO.out)
    rcases hOE.out with ⟨hE0, ⟨⟨t, u, P2, G2⟩, rfl⟩⟩ | ⟨hE0, rfl⟩
    · subst hE0
      simp only [oN, oP, oG] at hW4
      simp only [oT, oN, oP, oG]
      have p0 := HD4.out.c 0 _ rfl
      have p1 := HD4.out.c 1 _ rfl
      rw [← hW4.out] at p0 p1
      go_wp2_with fail
      rw [hW4.out, hgf.out]
      clear p0 p1
      have r0 := HR4.out.c 0 _ rfl
      have r1 := HR4.out.c 1 _ rfl
      have r2 := HR4.out.c 2 _ rfl
      have rf0 := HR4.out.f 0 (by simp)
      have rf1 := HR4.out.f 1 (by simp)
      have rf2 := HR4.out.f 2 (by simp)
      have f0 := HF4.out.at'.bx.c 0 _ rfl
      have f1 := HF4.out.at'.bx.c 1 _ rfl
      have f2 := HF4.out.at'.bx.c 2 _ rfl
      simp only [oN, oP, oG] at f0 f1 f2
      have hRS := Hid.mk' (HR4.out.set3P (.int .i64 u) (.slice a P2.length cc) (.slice b G2.length ee)).drew
      have hBS := Hid.mk' (below_set3P (g := w.heap.size + 1) HB4.out (Nat.le_succ _) (.int .i64 u) (.slice a P2.length cc) (.slice b G2.length ee)).drew
      have hlo : w.heap.size + 1 < w.heap.size + 2 := Nat.lt_succ_self _
      have HP2 := Hid.mk' ((((HF4.out.at'.pl.setLow (p := ⟨w.heap.size + 1, 0, none⟩) HF4.out.la hlo (.int .i64 u)).setLow (p := ⟨w.heap.size + 1, 1, none⟩) HF4.out.la hlo (.slice a P2.length cc)).setLow (p := ⟨w.heap.size + 1, 2, none⟩) HF4.out.la hlo (.slice b G2.length ee)).below (below_d1 _))
      have HG2 := Hid.mk' ((((HF4.out.at'.it.setLow (p := ⟨w.heap.size + 1, 0, none⟩) HF4.out.lb hlo (.int .i64 u)).setLow (p := ⟨w.heap.size + 1, 1, none⟩) HF4.out.lb hlo (.slice a P2.length cc)).setLow (p := ⟨w.heap.size + 1, 2, none⟩) HF4.out.lb hlo (.slice b G2.length ee)).below (below_d1 _))
      clear hlo
      go_region
      go_wp2_with fail
      refine bodyPost_ret (results_pt3 rfl _ _ (w.heap.size + 1) 3 _ _ _ rfl rfl rfl hRS.out rfl infoSzPt (aggPt _)) rfl ⟨nwA_some hDO.out hEO.out rfl rfl rfl HP2.out HG2.out (HF4.out.la.mono (by omega)) (HF4.out.lb.mono (by omega)), hBS.out⟩
    · have tq : (E != 0) = true := by rw [bne_iff_ne]; exact hE0
      clear hE0
      have r0 := HR4.out.c 0 _ rfl
      have r1 := HR4.out.c 1 _ rfl
      have r2 := HR4.out.c 2 _ rfl
      have rf0 := HR4.out.f 0 (by simp)
      have rf1 := HR4.out.f 1 (by simp)
      have rf2 := HR4.out.f 2 (by simp)
      have p0 := HD4.out.c 0 _ rfl
      have p1 := HD4.out.c 1 _ rfl
      rw [← hW4.out] at p0 p1
      rw [← hW4.out] at r0 r1 r2 rf0 rf1 rf2
      have hRS := Hid.mk' (HR4.out.set3P (.int .i64 0) (.slice none 0 0) (.slice none 0 0))
      have hBS := Hid.mk' (below_set3P (g := w.heap.size + 1) HB4.out (Nat.le_succ _) (.int .i64 0) (.slice none 0 0) (.slice none 0 0))
      go_wp2_with fail
      rw [hW4.out]
      refine bodyPost_ret (results_pt3 rfl _ _ (w.heap.size + 1) 3 _ _ _ rfl rfl rfl hRS.out rfl infoSzPt (aggPt _)) rfl ⟨nwA_none hDO.out hEO.out rfl, hBS.out⟩
  have tn : decide ((1 : Int) < (n : Int)) = true := decide_eq_true (by omega)
  have hD2 : Hid (nwD C P = nwS O (cel C P 1).data.toList) := by show _ = _; rw [nwD_two hq.out (by rw [hN.out]; omega), hs0.out, hO.out]
  obtain ⟨s1, hs1⟩ : ∃ s, Hid (cel C P 1 = s) := ⟨_, Hid.mk' rfl⟩
  have hC1 := Hid.mk' (fun w h => hcell.out 1 w h (by omega))
  have hP1 := Hid.mk' (fun w => hPt.out 1 w)
  rw [hs1.out] at hC1 hP1 hD2
  unfold RdPA at hP1
  have p0 := HD4.out.c 0 _ rfl
  have p1 := HD4.out.c 1 _ rfl
  rw [← hW4.out] at p0 p1
  go_wp2_with fail
  rw [hW4.out, hgf.out]
  refine (hC1.out W4 HK4.out).mono ?_
  rintro z w5 ⟨rfl, hb5⟩
  have HR5 := Hid.mk' (HR4.out.below hb5)
  have HB5 := Hid.mk' (HB4.out.trans (hb5.mono HB4.out.size))
  have HF5 := Hid.mk' (HF4.out.below hb5)
  have HS5 : Hid (gf + 1 ≤ w5.heap.size) := by show _ ≤ _; have := HS4.out; have := hb5.size; omega
  clear hb5 p0 p1
  go_wp2_with fail
  cases hr : rdPt s1.data.toList with
  | none =>
    have hDO : Hid (nwD C P = O) := by show _ = _; rw [hD2.out, nwS_none hr]
    have hEO := Hid.mk' (nwE_of hq.out hDO.out)
    have hq1 := rdPE_none hr
    obtain ⟨e1, e2, e3, e4⟩ := rdP_no hr
    obtain ⟨q, hq'⟩ : ∃ q, Hid (rdPE s1.data.toList = q) := ⟨_, Hid.mk' rfl⟩
    rw [hq'.out] at hq1
    rw [e1, e2, e3, e4, hq'.out] at hP1
    have tq1 : (q == 0) = false := by rw [beq_eq_false_iff_ne]; exact hq1
    clear e1 e2 e3 e4 hr hq1
    refine (hP1.out w5).mono ?_
    rintro z w6 ⟨⟨x0, xc, x1, xe, rfl, _, _, _, _⟩, hb⟩
    have hbx := below_boxP (w := w6) #[.int .i64 0, .slice x0 0 xc, .slice x1 0 xe] 27
    have hbb := hb.trans (hbx.mono hb.size)
    have HR6 := Hid.mk' (HR5.out.below hbb)
    have HB6 := Hid.mk' (HB5.out.trans (hbb.mono HB5.out.size))
    have HF6 := Hid.mk' (HF5.out.below hbb)
    obtain ⟨W6, hW6⟩ : ∃ W, Hid (w6.alloc (.cells #[.int .i64 0, .slice x0 0 xc, .slice x1 0 xe] 27) = W) := ⟨_, Hid.mk' rfl⟩
    rw [hW6.out] at HR6 HB6 HF6
    clear hb hbx hbb
    rcases hOE.out with ⟨hE0, ⟨⟨t, u, P2, G2⟩, rfl⟩⟩ | ⟨hE0, rfl⟩
    · subst hE0
      simp only [oT, oN, oP, oG]
      go_wp2_with fail
      rw [hW6.out]
      have r0 := HR6.out.c 0 _ rfl
      have r1 := HR6.out.c 1 _ rfl
      have r2 := HR6.out.c 2 _ rfl
      have rf0 := HR6.out.f 0 (by simp)
      have rf1 := HR6.out.f 1 (by simp)
      have rf2 := HR6.out.f 2 (by simp)
      have f0 := HF6.out.at'.bx.c 0 _ rfl
      have f1 := HF6.out.at'.bx.c 1 _ rfl
      have f2 := HF6.out.at'.bx.c 2 _ rfl
      simp only [oN, oP, oG] at f0 f1 f2
      have hRS := Hid.mk' (HR6.out.set3P (.int .i64 u) (.slice a P2.length cc) (.slice b G2.length ee)).drew
      have hBS := Hid.mk' (below_set3P (g := w.heap.size + 1) HB6.out (Nat.le_succ _) (.int .i64 u) (.slice a P2.length cc) (.slice b G2.length ee)).drew
      have hlo : w.heap.size + 1 < w.heap.size + 2 := Nat.lt_succ_self _
      have HP2 := Hid.mk' ((((HF6.out.at'.pl.setLow (p := ⟨w.heap.size + 1, 0, none⟩) HF6.out.la hlo (.int .i64 u)).setLow (p := ⟨w.heap.size + 1, 1, none⟩) HF6.out.la hlo (.slice a P2.length cc)).setLow (p := ⟨w.heap.size + 1, 2, none⟩) HF6.out.la hlo (.slice b G2.length ee)).below (below_d1 _))
      have HG2 := Hid.mk' ((((HF6.out.at'.it.setLow (p := ⟨w.heap.size + 1, 0, none⟩) HF6.out.lb hlo (.int .i64 u)).setLow (p := ⟨w.heap.size + 1, 1, none⟩) HF6.out.lb hlo (.slice a P2.length cc)).setLow (p := ⟨w.heap.size + 1, 2, none⟩) HF6.out.lb hlo (.slice b G2.length ee)).below (below_d1 _))
      clear hlo
      go_region
      go_wp2_with fail
      refine bodyPost_ret (results_pt3 rfl _ _ (w.heap.size + 1) 3 _ _ _ rfl rfl rfl hRS.out rfl infoSzPt (aggPt _)) rfl ⟨nwA_some hDO.out hEO.out rfl rfl rfl HP2.out HG2.out (HF6.out.la.mono (by omega)) (HF6.out.lb.mono (by omega)), hBS.out⟩
    · have tq : (E != 0) = true := by rw [bne_iff_ne]; exact hE0
      clear hE0
      have r0 := HR6.out.c 0 _ rfl
      have r1 := HR6.out.c 1 _ rfl
      have r2 := HR6.out.c 2 _ rfl
      have rf0 := HR6.out.f 0 (by simp)
      have rf1 := HR6.out.f 1 (by simp)
      have rf2 := HR6.out.f 2 (by simp)
      rw [← hW6.out] at r0 r1 r2 rf0 rf1 rf2
      have hRS := Hid.mk' (HR6.out.set3P (.int .i64 0) (.slice none 0 0) (.slice none 0 0))
      have hBS := Hid.mk' (below_set3P (g := w.heap.size + 1) HB6.out (Nat.le_succ _) (.int .i64 0) (.slice none 0 0) (.slice none 0 0))
      go_wp2_with fail
      rw [hW6.out]
      refine bodyPost_ret (results_pt3 rfl _ _ (w.heap.size + 1) 3 _ _ _ rfl rfl rfl hRS.out rfl infoSzPt (aggPt _)) rfl ⟨nwA_none hDO.out hEO.out rfl, hBS.out⟩
  | some v =>
    obtain ⟨t2, u2, P3, G3⟩ := v
    obtain ⟨e1, e2, e3, e4⟩ := rdP_yes hr
    have hst : Hid (nwD C P = if nwI O < t2 then some (t2, u2, P3, G3) else O) := by show _ = _; rw [hD2.out, nwS_some hr]
    rw [e1, e2, e3, e4, rdPE_yes hr] at hP1
    have htb := rdPt_turn hr
    simp only at htb
    clear e1 e2 e3 e4 hr
    refine (hP1.out w5).mono ?_
    rintro z w6 ⟨⟨x0, xc, x1, xe, rfl, h1, h2, l1, l2⟩, hb⟩
    have hbx := below_boxP (w := w6) #[.int .i64 u2, .slice x0 P3.length xc, .slice x1 G3.length xe] 27
    have hbb := hb.trans (hbx.mono hb.size)
    have HX6 := Hid.mk' (PtAt.new (t := u2) h1 h2 27)
    have HR6 := Hid.mk' (HR5.out.below hbb)
    have HB6 := Hid.mk' (HB5.out.trans (hbb.mono HB5.out.size))
    have HF6 := Hid.mk' (HF5.out.below hbb)
    have L1 := Hid.mk' (l1.mono HS5.out)
    have L2 := Hid.mk' (l2.mono HS5.out)
    obtain ⟨gx, hgx⟩ : ∃ g, Hid (w6.heap.size = g) := ⟨_, Hid.mk' rfl⟩
    obtain ⟨W6, hW6⟩ : ∃ W, Hid (w6.alloc (.cells #[.int .i64 u2, .slice x0 P3.length xc, .slice x1 G3.length xe] 27) = W) := ⟨_, Hid.mk' rfl⟩
    rw [hW6.out] at HX6 HR6 HB6 HF6
    rw [hgx.out] at HX6
    clear hb hbx hbb h1 h2 l1 l2
    have hge1 : gf ≠ w.heap.size + 1 := by have := HGZ.out; omega
    have hB7 := (below_set3P (g := gf) HB6.out (by have := HGZ.out; omega) (.int .i64 u2) (.slice x0 P3.length xc) (.slice x1 G3.length xe)).drew
    have hst7 := (box_store (t := u2) HF6.out.at'.bx HX6.out.pl HX6.out.it L1.out L2.out).below (below_d1 _)
    have x0' := HX6.out.c0
    have x1' := HX6.out.c1
    have x2' := HX6.out.c2
    have f0 := HF6.out.at'.bx.c 0 _ rfl
    have f1 := HF6.out.at'.bx.c 1 _ rfl
    have f2 := HF6.out.at'.bx.c 2 _ rfl
    have ff0 := HF6.out.at'.bx.f 0 (by simp [ptV])
    have ff1 := HF6.out.at'.bx.f 1 (by simp [ptV])
    have ff2 := HF6.out.at'.bx.f 2 (by simp [ptV])
    have HR7 := Hid.mk' ((((HR6.out.other ⟨gf, 0, none⟩ (.int .i64 u2) hge1).other ⟨gf, 1, none⟩ (.slice x0 P3.length xc) hge1).other ⟨gf, 2, none⟩ (.slice x1 G3.length xe) hge1).drew)
    have HB7 := Hid.mk' hB7
    have hlg2 : w.heap.size + 2 ≤ gf + 1 := Nat.le_succ_of_le HGZ.out
    have HF7 : Hid (NwT _ gf (w.heap.size + 2) (some (t2, u2, P3, G3)) x0 xc x1 xe) := ⟨hst7, L1.out.mono hlg2, L2.out.mono hlg2⟩
    clear hge1 hB7 hst7 hlg2
    obtain ⟨W7, hW7⟩ : ∃ W, Hid ((((W6.setCell ⟨gf, 0, none⟩ (.int .i64 u2)).setCell ⟨gf, 1, none⟩ (.slice x0 P3.length xc)).setCell ⟨gf, 2, none⟩ (.slice x1 G3.length xe)).drew = W) := ⟨_, Hid.mk' rfl⟩
    rw [hW7.out] at HR7 HB7 HF7
    rcases hOE.out with ⟨hE0, ⟨⟨t, u, P2, G2⟩, rfl⟩⟩ | ⟨hE0, rfl⟩
    · subst hE0
      rw [nwI_some] at hst
      simp only [oN, oP, oG] at f0 f1 f2
      simp only [oT, oN, oP, oG]
      by_cases hgt : t < t2
      · have tg : decide (t < t2) = true := decide_eq_true hgt
        have hDO : Hid (nwD C P = some (t2, u2, P3, G3)) := by show _ = _; rw [hst.out, if_pos hgt]
        have hEO := Hid.mk' (nwE_of hq.out hDO.out)
        clear hgt
        go_wp2_with fail
        rw [hW6.out, hgx.out]
        go_region
        rw [hW7.out]
        clear f0 f1 f2 ff0 ff1 ff2 x0' x1' x2'
        have r0 := HR7.out.c 0 _ rfl
        have r1 := HR7.out.c 1 _ rfl
        have r2 := HR7.out.c 2 _ rfl
        have rf0 := HR7.out.f 0 (by simp)
        have rf1 := HR7.out.f 1 (by simp)
        have rf2 := HR7.out.f 2 (by simp)
        have f0 := HF7.out.at'.bx.c 0 _ rfl
        have f1 := HF7.out.at'.bx.c 1 _ rfl
        have f2 := HF7.out.at'.bx.c 2 _ rfl
        simp only [oN, oP, oG] at f0 f1 f2
        have hRS := Hid.mk' (HR7.out.set3P (.int .i64 u2) (.slice x0 P3.length xc) (.slice x1 G3.length xe)).drew
        have hBS := Hid.mk' (below_set3P (g := w.heap.size + 1) HB7.out (Nat.le_succ _) (.int .i64 u2) (.slice x0 P3.length xc) (.slice x1 G3.length xe)).drew
        have hlo : w.heap.size + 1 < w.heap.size + 2 := Nat.lt_succ_self _
        have HP2 := Hid.mk' ((((HF7.out.at'.pl.setLow (p := ⟨w.heap.size + 1, 0, none⟩) HF7.out.la hlo (.int .i64 u2)).setLow (p := ⟨w.heap.size + 1, 1, none⟩) HF7.out.la hlo (.slice x0 P3.length xc)).setLow (p := ⟨w.heap.size + 1, 2, none⟩) HF7.out.la hlo (.slice x1 G3.length xe)).below (below_d1 _))
        have HG2 := Hid.mk' ((((HF7.out.at'.it.setLow (p := ⟨w.heap.size + 1, 0, none⟩) HF7.out.lb hlo (.int .i64 u2)).setLow (p := ⟨w.heap.size + 1, 1, none⟩) HF7.out.lb hlo (.slice x0 P3.length xc)).setLow (p := ⟨w.heap.size + 1, 2, none⟩) HF7.out.lb hlo (.slice x1 G3.length xe)).below (below_d1 _))
        clear hlo
        go_wp2_with fail
        go_region
        go_wp2_with fail
        refine bodyPost_ret (results_pt3 rfl _ _ (w.heap.size + 1) 3 _ _ _ rfl rfl rfl hRS.out rfl infoSzPt (aggPt _)) rfl ⟨nwA_some hDO.out hEO.out rfl rfl rfl HP2.out HG2.out (HF7.out.la.mono (by omega)) (HF7.out.lb.mono (by omega)), hBS.out⟩
      · have tg : decide (t < t2) = false := decide_eq_false hgt
        have hDO : Hid (nwD C P = some (t, u, P2, G2)) := by show _ = _; rw [hst.out, if_neg hgt]
        have hEO := Hid.mk' (nwE_of hq.out hDO.out)
        clear hgt f0 f1 f2 ff0 ff1 ff2 x0' x1' x2'
        go_wp2_with fail
        rw [hW6.out, hgx.out]
        have r0 := HR6.out.c 0 _ rfl
        have r1 := HR6.out.c 1 _ rfl
        have r2 := HR6.out.c 2 _ rfl
        have rf0 := HR6.out.f 0 (by simp)
        have rf1 := HR6.out.f 1 (by simp)
        have rf2 := HR6.out.f 2 (by simp)
        have f0 := HF6.out.at'.bx.c 0 _ rfl
        have f1 := HF6.out.at'.bx.c 1 _ rfl
        have f2 := HF6.out.at'.bx.c 2 _ rfl
        simp only [oN, oP, oG] at f0 f1 f2
        have hRS := Hid.mk' (HR6.out.set3P (.int .i64 u) (.slice a P2.length cc) (.slice b G2.length ee)).drew
        have hBS := Hid.mk' (below_set3P (g := w.heap.size + 1) HB6.out (Nat.le_succ _) (.int .i64 u) (.slice a P2.length cc) (.slice b G2.length ee)).drew
        have hlo : w.heap.size + 1 < w.heap.size + 2 := Nat.lt_succ_self _
        have HP2 := Hid.mk' ((((HF6.out.at'.pl.setLow (p := ⟨w.heap.size + 1, 0, none⟩) HF6.out.la hlo (.int .i64 u)).setLow (p := ⟨w.heap.size + 1, 1, none⟩) HF6.out.la hlo (.slice a P2.length cc)).setLow (p := ⟨w.heap.size + 1, 2, none⟩) HF6.out.la hlo (.slice b G2.length ee)).below (below_d1 _))
        have HG2 := Hid.mk' ((((HF6.out.at'.it.setLow (p := ⟨w.heap.size + 1, 0, none⟩) HF6.out.lb hlo (.int .i64 u)).setLow (p := ⟨w.heap.size + 1, 1, none⟩) HF6.out.lb hlo (.slice a P2.length cc)).setLow (p := ⟨w.heap.size + 1, 2, none⟩) HF6.out.lb hlo (.slice b G2.length ee)).below (below_d1 _))
        clear hlo
        go_region
        go_wp2_with fail
        refine bodyPost_ret (results_pt3 rfl _ _ (w.heap.size + 1) 3 _ _ _ rfl rfl rfl hRS.out rfl infoSzPt (aggPt _)) rfl ⟨nwA_some hDO.out hEO.out rfl rfl rfl HP2.out HG2.out (HF6.out.la.mono (by omega)) (HF6.out.lb.mono (by omega)), hBS.out⟩
    · have tq : (E != 0) = true := by rw [bne_iff_ne]; exact hE0
      have hDO : Hid (nwD C P = some (t2, u2, P3, G3)) := by show _ = _; rw [hst.out, nwI_none, if_pos (by omega)]
      have hEO := Hid.mk' (nwE_of hq.out hDO.out)
      simp only [oN, oP, oG] at f0 f1 f2
      simp only [oT, oN, oP, oG]
      clear hE0
      go_wp2_with fail
      rw [hW6.out, hgx.out]
      go_region
      rw [hW7.out]
      clear f0 f1 f2 ff0 ff1 ff2 x0' x1' x2'
      have r0 := HR7.out.c 0 _ rfl
      have r1 := HR7.out.c 1 _ rfl
      have r2 := HR7.out.c 2 _ rfl
      have rf0 := HR7.out.f 0 (by simp)
      have rf1 := HR7.out.f 1 (by simp)
      have rf2 := HR7.out.f 2 (by simp)
      have f0 := HF7.out.at'.bx.c 0 _ rfl
      have f1 := HF7.out.at'.bx.c 1 _ rfl
      have f2 := HF7.out.at'.bx.c 2 _ rfl
      simp only [oN, oP, oG] at f0 f1 f2
      have hRS := Hid.mk' (HR7.out.set3P (.int .i64 u2) (.slice x0 P3.length xc) (.slice x1 G3.length xe)).drew
      have hBS := Hid.mk' (below_set3P (g := w.heap.size + 1) HB7.out (Nat.le_succ _) (.int .i64 u2) (.slice x0 P3.length xc) (.slice x1 G3.length xe)).drew
      have hlo : w.heap.size + 1 < w.heap.size + 2 := Nat.lt_succ_self _
      have HP2 := Hid.mk' ((((HF7.out.at'.pl.setLow (p := ⟨w.heap.size + 1, 0, none⟩) HF7.out.la hlo (.int .i64 u2)).setLow (p := ⟨w.heap.size + 1, 1, none⟩) HF7.out.la hlo (.slice x0 P3.length xc)).setLow (p := ⟨w.heap.size + 1, 2, none⟩) HF7.out.la hlo (.slice x1 G3.length xe)).below (below_d1 _))
      have HG2 := Hid.mk' ((((HF7.out.at'.it.setLow (p := ⟨w.heap.size + 1, 0, none⟩) HF7.out.lb hlo (.int .i64 u2)).setLow (p := ⟨w.heap.size + 1, 1, none⟩) HF7.out.lb hlo (.slice x0 P3.length xc)).setLow (p := ⟨w.heap.size + 1, 2, none⟩) HF7.out.lb hlo (.slice x1 G3.length xe)).below (below_d1 _))
      clear hlo
      go_wp2_with fail
      go_region
      go_wp2_with fail
      refine bodyPost_ret (results_pt3 rfl _ _ (w.heap.size + 1) 3 _ _ _ rfl rfl rfl hRS.out rfl infoSzPt (aggPt _)) rfl ⟨nwA_some hDO.out hEO.out rfl rfl rfl HP2.out HG2.out (HF7.out.la.mono (by omega)) (HF7.out.lb.mono (by omega)), hBS.out⟩
end Go.Proofs.YtbakgobgjfhhhaaDoor
