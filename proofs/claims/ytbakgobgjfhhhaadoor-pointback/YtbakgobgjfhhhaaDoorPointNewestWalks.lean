import Derived.Test.YtbakgobgjfhhhaaDoorPmap
import Derived.Test.YtbakgobgjfhhhaaDoorPointReadWalks

/- What point.Newest answers. -/
namespace Go.Proofs.YtbakgobgjfhhhaaDoor
open Go.RowKit

theorem min_two (n : Nat) : (if (n : Int) < 2 then (n : Int) else 2) = (nwM n : Nat) := by
  unfold nwM
  split <;> split <;> omega
set_option maxRecDepth 20000 in
set_option maxHeartbeats 3200000 in
theorem newest_any (a0 a1 : Option Addr) (n c m d : Nat) (C : List ByteArray) (P : List Pt) (w : World) (hT : Tab w) (h : Dk w a0 n a1 m C P) :
    Calls Tryd.prog 14 #[.agg #[.slice a0 n c, .slice a1 m d]] w fun z w' => NwA w.heap.size w' (nwD C P) (nwE C P) z ∧ Below w.heap.size w w' := by
  have hN := Hid.mk' h.nC
  have hd0 := (boxV_new w [.slice a0 n c, .slice a1 m d] 39).alloc (.cells #[.int .i64 0, .slice none 0 0, .slice none 0 0] 27)
  have hr0 := boxV_new (w.alloc (.cells #[.slice a0 n c, .slice a1 m d] 39)) [.int .i64 0, .slice none 0 0, .slice none 0 0] 27
  have hs0 : (w.alloc (.cells #[.slice a0 n c, .slice a1 m d] 39)).heap.size = w.heap.size + 1 := by simp
  rw [hs0] at hr0
  have hb0 := (below_boxP (w := w) #[.slice a0 n c, .slice a1 m d] 39).alloc (by simp) (.cells #[.int .i64 0, .slice none 0 0, .slice none 0 0] 27)
  have hs1 : ((w.alloc (.cells #[.slice a0 n c, .slice a1 m d] 39)).alloc (.cells #[.int .i64 0, .slice none 0 0, .slice none 0 0] 27)).heap.size = w.heap.size + 2 := by simp
  obtain ⟨W0, hW0⟩ : ∃ W, Hid ((w.alloc (.cells #[.slice a0 n c, .slice a1 m d] 39)).alloc (.cells #[.int .i64 0, .slice none 0 0, .slice none 0 0] 27) = W) := ⟨_, Hid.mk' rfl⟩
  have HD0 : Hid (BoxV W0 w.heap.size [.slice a0 n c, .slice a1 m d]) := by rw [← hW0.out]; exact hd0
  have HR0 : Hid (BoxV W0 (w.heap.size + 1) [.int .i64 0, .slice none 0 0, .slice none 0 0]) := by rw [← hW0.out]; exact hr0
  have HB0 : Hid (Below w.heap.size w W0) := by rw [← hW0.out]; exact hb0
  rw [hW0.out] at hs1
  have HS0 := Hid.mk' hs1
  have HKw := Hid.mk' h
  have HTw := Hid.mk' hT
  have HK0 := Hid.mk' (h.below HB0.out)
  have HT0 := Hid.mk' (tab_belowS hT HB0.out)
  have hck := Hid.mk' (fun w h => dchk_any a0 a1 n c m d C P w h)
  obtain ⟨q, hq⟩ : ∃ q, Hid (chkD C P = q) := ⟨_, Hid.mk' rfl⟩
  rw [hq.out] at hck
  clear hd0 hr0 hs0 hb0 hs1 h hT
  have p0 := HD0.out.c 0 _ rfl
  have p1 := HD0.out.c 1 _ rfl
  go_enter Tryd.func14, Tryd.ntmps14
  go_wp2_with fail
  rw [hW0.out]
  go_wp2_with fail
  refine (hck.out W0 HK0.out).mono ?_
  rintro z w1 ⟨rfl, hb⟩
  have HR1 := Hid.mk' (HR0.out.below hb)
  have HD1 := Hid.mk' (HD0.out.below hb)
  have HB1 := Hid.mk' (HB0.out.trans (hb.mono HB0.out.size))
  have HK1 := Hid.mk' (HK0.out.below hb)
  have HT1 := Hid.mk' (tab_belowS HT0.out hb)
  have hz1 : w.heap.size + 2 ≤ w1.heap.size := by have := HS0.out; have := hb.size; omega
  have HZ1 := Hid.mk' hz1
  clear hb hz1 p0 p1
  have r0 := HR1.out.c 0 _ rfl
  have r1 := HR1.out.c 1 _ rfl
  have r2 := HR1.out.c 2 _ rfl
  have rf0 := HR1.out.f 0 (by simp)
  have rf1 := HR1.out.f 1 (by simp)
  have rf2 := HR1.out.f 2 (by simp)
  have p0 := HD1.out.c 0 _ rfl
  have p1 := HD1.out.c 1 _ rfl
  have hRS := Hid.mk' (HR1.out.set3P (.int .i64 0) (.slice none 0 0) (.slice none 0 0))
  have hBS := Hid.mk' (below_set3P (g := w.heap.size + 1) HB1.out (Nat.le_succ _) (.int .i64 0) (.slice none 0 0) (.slice none 0 0))
  by_cases h0 : q = 0
  rotate_left
  · have tq : (q != 0) = true := by rw [bne_iff_ne]; exact h0
    have h1 : Hid (nwD C P = none) := by show _ = _; unfold nwD; rw [if_neg (by rw [hq.out]; exact h0)]
    have h2 : Hid (nwE C P = q) := by show _ = _; unfold nwE; rw [if_neg (by rw [hq.out]; exact h0), hq.out]
    clear h0
    go_wp2_with fail
    refine bodyPost_ret (results_pt3 rfl _ _ (w.heap.size + 1) 3 _ _ _ rfl rfl rfl hRS.out rfl infoSzPt (aggPt _)) rfl ⟨nwA_none h1.out h2.out rfl, hBS.out⟩
  subst h0
  have hokn : Hid (1 ≤ n ∧ n ≤ 128) := by
    have ho := chkD_ok hq.out
    have := ho.n1; have := ho.n2; have := hN.out
    exact ⟨by omega, by omega⟩
  have hmn := min_two n
  have hM : Hid (nwM n ≤ n) := by show _ ≤ _; unfold nwM; split <;> omega
  obtain ⟨M, hMM⟩ : ∃ M, Hid (nwM n = M) := ⟨_, Hid.mk' rfl⟩
  rw [hMM.out] at hmn hM
  have hrd := Hid.mk' (fun k w h hk => dread_in a0 a1 n c m d C P k w h hq.out hk)
  have hf0 := boxV_new w1 [.int .i64 0, .slice none 0 0, .slice none 0 0] 27
  have hbx := below_boxP (w := w1) #[.int .i64 0, .slice none 0 0, .slice none 0 0] 27
  have hs2 : (w1.alloc (.cells #[.int .i64 0, .slice none 0 0, .slice none 0 0] 27)).heap.size = w1.heap.size + 1 := by simp
  obtain ⟨W2, hW2⟩ : ∃ W, Hid (w1.alloc (.cells #[.int .i64 0, .slice none 0 0, .slice none 0 0] 27) = W) := ⟨_, Hid.mk' rfl⟩
  have e2 : (w1.alloc (.cells [.int .i64 0, .slice none 0 0, .slice none 0 0].toArray 27)) = W2 := hW2.out
  rw [e2] at hf0
  rw [hW2.out] at hbx hs2
  obtain ⟨gf, hgf⟩ : ∃ g, Hid (w1.heap.size = g) := ⟨_, Hid.mk' rfl⟩
  rw [hgf.out] at hf0 hs2
  have HF2 : Hid (NwS W2 gf none none 0 none 0) := ⟨⟨hf0, pls_none _, its_none _⟩, LowA.none _, LowA.none _⟩
  have HR2 := Hid.mk' (HR1.out.below hbx)
  have HD2 := Hid.mk' (HD1.out.below hbx)
  have HB2 := Hid.mk' (HB1.out.trans (hbx.mono HB1.out.size))
  have HK2 := Hid.mk' (HK1.out.below hbx)
  have HT2 := Hid.mk' (tab_belowS HT1.out hbx)
  have HZ2 := Hid.mk' hs2
  have hgz : w.heap.size + 2 ≤ gf := by rw [← hgf.out]; exact HZ1.out
  have HGZ := Hid.mk' hgz
  clear hf0 hbx hs2 e2 r0 r1 r2 rf0 rf1 rf2 hRS hBS hgz
  have q0 := HD2.out.c 0 _ rfl
  have q1 := HD2.out.c 1 _ rfl
  rw [← hW2.out] at q0 q1
  go_wp2_with fail
  rw [hW2.out, hgf.out]
  clear q0 q1 p0 p1
  have hg2 := hgf.out
  clear hg2
  go_loopw [6, 25] (fun nw i wr => ∃ (k : Nat) (a : Option Addr) (cc : Nat) (b : Option Addr) (ee : Nat), k ≤ M ∧ i = .int .i64 k ∧ nw = .int .i64 (nwI (nwK C P k)) ∧ NwS wr gf (nwK C P k) a cc b ee ∧ BoxV wr (w.heap.size + 1) [.int .i64 0, .slice none 0 0, .slice none 0 0] ∧ BoxV wr w.heap.size [.slice a0 n c, .slice a1 m d] ∧ Dk wr a0 n a1 m C P ∧ Tab wr ∧ Below w.heap.size w wr ∧ gf + 1 ≤ wr.heap.size) (fun _ i _ => M - (intOf i).toNat)
  case atStart => exact ⟨0, none, 0, none, 0, Nat.zero_le _, rfl, rfl, HF2.out, HR2.out, HD2.out, HK2.out, HT2.out, HB2.out, by rw [HZ2.out]; exact Nat.le_refl _⟩
  case round =>
    obtain ⟨k, a, cc, b, ee, hk, rfl, rfl, hF, hR, hD, hK, hTt, hB, hz⟩ := hrel
    have HF := Hid.mk' hF
    have HR := Hid.mk' hR
    have HD := Hid.mk' hD
    have HK := Hid.mk' hK
    have HTt := Hid.mk' hTt
    have HB := Hid.mk' hB
    have HZ := Hid.mk' hz
    have hob := (nwK_ok C P k).bound
    have hon := Hid.mk' (nwK_ok C P k).no
    clear hF hR hD hK hTt hB hz
    have p0 := HD.out.c 0 _ rfl
    have p1 := HD.out.c 1 _ rfl
    by_cases hlt : k < M
    · have hkn : k < n := by have := hM.out; omega
      have hM2 : M ≤ 2 := by rw [← hMM.out]; unfold nwM; split <;> omega
      have hRd := Hid.mk' (fun w h => hrd.out k w h hkn)
      have hPt := Hid.mk' (fun w hT => ptread_any (cel C P k) w hT (HK.out.celB k))
      have hstep : Hid (nwK C P (k + 1) = nwS (nwK C P k) (cel C P k).data.toList) := rfl
      obtain ⟨S, hS⟩ : ∃ S, Hid (cel C P k = S) := ⟨_, Hid.mk' rfl⟩
      rw [hS.out] at hRd hPt hstep
      obtain ⟨O, hO⟩ : ∃ O, Hid (nwK C P k = O) := ⟨_, Hid.mk' rfl⟩
      rw [hO.out] at hstep HF hob hon ⊢
      unfold RdPA at hPt
      go_wp2_with fail
      refine (hRd.out wr HK.out).mono ?_
      rintro z w3 ⟨rfl, hb⟩
      have HF3 := Hid.mk' (HF.out.below hb)
      have HR3 := Hid.mk' (HR.out.below hb)
      have HD3 := Hid.mk' (HD.out.below hb)
      have HK3 := Hid.mk' (HK.out.below hb)
      have HT3 := Hid.mk' (tab_belowS HTt.out hb)
      have HB3 := Hid.mk' (HB.out.trans (hb.mono HB.out.size))
      have HZ3 := Hid.mk' (Nat.le_trans HZ.out hb.size)
      clear hb p0 p1
      have p0 := HD3.out.c 0 _ rfl
      have p1 := HD3.out.c 1 _ rfl
      go_wp2_with fail
      cases hr : rdPt S.data.toList with
      | none =>
        have hq1 := rdPE_none hr
        have hst : Hid (nwK C P (k + 1) = O) := by show _ = _; rw [hstep.out, nwS_none hr]
        obtain ⟨e1, e2, e3, e4⟩ := rdP_no hr
        obtain ⟨q, hq'⟩ : ∃ q, Hid (rdPE S.data.toList = q) := ⟨_, Hid.mk' rfl⟩
        rw [hq'.out] at hq1
        rw [e1, e2, e3, e4, hq'.out] at hPt
        have tq : (q == 0) = false := by rw [beq_eq_false_iff_ne]; exact hq1
        clear e1 e2 e3 e4 hr hq1
        refine (hPt.out w3 HT3.out).mono ?_
        rintro z w4 ⟨⟨x0, xc, x1, xe, rfl, _, _, _, _⟩, hb⟩
        have hbx := below_boxP (w := w4) #[.int .i64 0, .slice x0 ([] : List Pla).length xc, .slice x1 ([] : List Int).length xe] 27
        have hbb := hb.trans (hbx.mono hb.size)
        have HF4 := Hid.mk' (HF3.out.below hbb)
        have HR4 := Hid.mk' (HR3.out.below hbb)
        have HD4 := Hid.mk' (HD3.out.below hbb)
        have HK4 := Hid.mk' (HK3.out.below hbb)
        have HT4 := Hid.mk' (tab_belowS HT3.out hbb)
        have HB4 := Hid.mk' (HB3.out.trans (hbb.mono HB3.out.size))
        have HZ4 := Hid.mk' (Nat.le_trans HZ3.out hbb.size)
        clear hb hbx hbb p0 p1
        go_wp2_with fail
        go_roundw
        case rel => exact ⟨k + 1, a, cc, b, ee, by omega, by go_num, by rw [hst.out], by rw [hst.out]; exact HF4.out, HR4.out, HD4.out, HK4.out, HT4.out, HB4.out, HZ4.out⟩
        case measure => simp [intOf]; omega
      | some v =>
        obtain ⟨t, u, P2, G2⟩ := v
        obtain ⟨e1, e2, e3, e4⟩ := rdP_yes hr
        have hst : Hid (nwK C P (k + 1) = if nwI O < t then some (t, u, P2, G2) else O) := by show _ = _; rw [hstep.out, nwS_some hr]
        have htb := rdPt_turn hr
        simp only at htb
        rw [e1, e2, e3, e4, rdPE_yes hr] at hPt
        clear e1 e2 e3 e4 hr
        refine (hPt.out w3 HT3.out).mono ?_
        rintro z w4 ⟨⟨x0, xc, x1, xe, rfl, h1, h2, l1, l2⟩, hb⟩
        have hbx := below_boxP (w := w4) #[.int .i64 u, .slice x0 P2.length xc, .slice x1 G2.length xe] 27
        have hbb := hb.trans (hbx.mono hb.size)
        have HX4 := Hid.mk' (PtAt.new (t := u) h1 h2 27)
        have HF4 := Hid.mk' (HF3.out.below hbb)
        have HR4 := Hid.mk' (HR3.out.below hbb)
        have HD4 := Hid.mk' (HD3.out.below hbb)
        have HK4 := Hid.mk' (HK3.out.below hbb)
        have HT4 := Hid.mk' (tab_belowS HT3.out hbb)
        have HB4 := Hid.mk' (HB3.out.trans (hbb.mono HB3.out.size))
        have HZ4 := Hid.mk' (Nat.le_trans HZ3.out hbb.size)
        have L1 := Hid.mk' (l1.mono HZ3.out)
        have L2 := Hid.mk' (l2.mono HZ3.out)
        obtain ⟨gx, hgx⟩ : ∃ g, Hid (w4.heap.size = g) := ⟨_, Hid.mk' rfl⟩
        obtain ⟨W4, hW4⟩ : ∃ W, Hid (w4.alloc (.cells #[.int .i64 u, .slice x0 P2.length xc, .slice x1 G2.length xe] 27) = W) := ⟨_, Hid.mk' rfl⟩
        rw [hW4.out] at HX4 HF4 HR4 HD4 HK4 HT4 HB4 HZ4
        rw [hgx.out] at HX4
        clear hb hbx hbb h1 h2 l1 l2 p0 p1
        by_cases hgt : nwI O < t
        · have tg : decide (nwI O < t) = true := decide_eq_true hgt
          have hst2 : Hid (nwK C P (k + 1) = some (t, u, P2, G2)) := by show _ = _; rw [hst.out, if_pos hgt]
          clear hgt
          go_wp2_with fail
          rw [hW4.out, hgx.out]
          have x0' := HX4.out.c0
          have x1' := HX4.out.c1
          have x2' := HX4.out.c2
          have f0 := HF4.out.at'.bx.c 0 _ rfl
          have f1 := HF4.out.at'.bx.c 1 _ rfl
          have f2 := HF4.out.at'.bx.c 2 _ rfl
          have ff0 := HF4.out.at'.bx.f 0 (by simp [ptV])
          have ff1 := HF4.out.at'.bx.f 1 (by simp [ptV])
          have ff2 := HF4.out.at'.bx.f 2 (by simp [ptV])
          have hge1 : gf ≠ w.heap.size + 1 := by have := HGZ.out; omega
          have hge0 : gf ≠ w.heap.size := by have := HGZ.out; omega
          have hB5 := (below_set3P (g := gf) HB4.out (by have := HGZ.out; omega) (.int .i64 u) (.slice x0 P2.length xc) (.slice x1 G2.length xe)).drew
          have HF5 := Hid.mk' (((HF4.out.store (t := u) HX4.out.pl HX4.out.it L1.out L2.out)).below (below_d1 _))
          have HR5 := Hid.mk' ((((HR4.out.other ⟨gf, 0, none⟩ (.int .i64 u) hge1).other ⟨gf, 1, none⟩ (.slice x0 P2.length xc) hge1).other ⟨gf, 2, none⟩ (.slice x1 G2.length xe) hge1).drew)
          have HD5 := Hid.mk' ((((HD4.out.other ⟨gf, 0, none⟩ (.int .i64 u) hge0).other ⟨gf, 1, none⟩ (.slice x0 P2.length xc) hge0).other ⟨gf, 2, none⟩ (.slice x1 G2.length xe) hge0).drew)
          have HB5 := Hid.mk' hB5
          clear hge0 hge1 hB5
          go_region
          go_wp2_with fail
          go_roundw
          case rel => exact ⟨k + 1, x0, xc, x1, xe, by omega, by go_num, by rw [hst2.out]; rfl, by rw [hst2.out]; exact ⟨HF5.out, L1.out, L2.out⟩, HR5.out, HD5.out, HKw.out.below HB5.out, tab_belowS HTw.out HB5.out, HB5.out, by have := HZ4.out; simpa [World.setCell] using this⟩
          case measure => simp [intOf]; omega
        · have tg : decide (nwI O < t) = false := decide_eq_false hgt
          have hst2 : Hid (nwK C P (k + 1) = O) := by show _ = _; rw [hst.out, if_neg hgt]
          clear hgt
          go_wp2_with fail
          rw [hW4.out]
          go_roundw
          case rel => exact ⟨k + 1, a, cc, b, ee, by omega, by go_num, by rw [hst2.out], by rw [hst2.out]; exact HF4.out, HR4.out, HD4.out, HK4.out, HT4.out, HB4.out, HZ4.out⟩
          case measure => simp [intOf]; omega
    · obtain rfl : k = M := by omega
      obtain ⟨O, hO⟩ : ∃ O, Hid (nwK C P k = O) := ⟨_, Hid.mk' rfl⟩
      have hD1 : Hid (nwD C P = O) := by show _ = _; unfold nwD; rw [if_pos hq.out, hN.out, hMM.out, hO.out]
      have hE1 : Hid (nwE C P = if O.isNone then 18 else 0) := by show _ = _; unfold nwE; rw [if_pos hq.out, hN.out, hMM.out, hO.out]
      rw [hO.out] at HF hob hon ⊢
      have r0 := HR.out.c 0 _ rfl
      have r1 := HR.out.c 1 _ rfl
      have r2 := HR.out.c 2 _ rfl
      have rf0 := HR.out.f 0 (by simp)
      have rf1 := HR.out.f 1 (by simp)
      have rf2 := HR.out.f 2 (by simp)
      cases O with
      | none =>
        have hRS := Hid.mk' (HR.out.set3P (.int .i64 0) (.slice none 0 0) (.slice none 0 0))
        have hBS := Hid.mk' (below_set3P (g := w.heap.size + 1) HB.out (Nat.le_succ _) (.int .i64 0) (.slice none 0 0) (.slice none 0 0))
        rw [nwI_none]
        go_wp2_with fail
        refine bodyPost_ret (results_pt3 rfl _ _ (w.heap.size + 1) 3 _ _ _ rfl rfl rfl hRS.out rfl infoSzPt (aggPt _)) rfl ⟨nwA_none hD1.out hE1.out rfl, hBS.out⟩
      | some v =>
        obtain ⟨t, u, P2, G2⟩ := v
        have tn : (t == -1) = false := by
          rw [beq_eq_false_iff_ne]
          intro e
          have := hon.out.1 e
          cases this
        have f0 := HF.out.at'.bx.c 0 _ rfl
        have f1 := HF.out.at'.bx.c 1 _ rfl
        have f2 := HF.out.at'.bx.c 2 _ rfl
        simp only [oN, oP, oG] at f0 f1 f2
        have hRS := Hid.mk' (HR.out.set3P (.int .i64 u) (.slice a P2.length cc) (.slice b G2.length ee)).drew
        have hBS := Hid.mk' (below_set3P (g := w.heap.size + 1) HB.out (Nat.le_succ _) (.int .i64 u) (.slice a P2.length cc) (.slice b G2.length ee)).drew
        have hlo : w.heap.size + 1 < gf + 1 := by have := HGZ.out; omega
        have HP2 := Hid.mk' ((((HF.out.at'.pl.setLow (p := ⟨w.heap.size + 1, 0, none⟩) HF.out.la hlo (.int .i64 u)).setLow (p := ⟨w.heap.size + 1, 1, none⟩) HF.out.la hlo (.slice a P2.length cc)).setLow (p := ⟨w.heap.size + 1, 2, none⟩) HF.out.la hlo (.slice b G2.length ee)).below (below_d1 _))
        have HG2 := Hid.mk' ((((HF.out.at'.it.setLow (p := ⟨w.heap.size + 1, 0, none⟩) HF.out.lb hlo (.int .i64 u)).setLow (p := ⟨w.heap.size + 1, 1, none⟩) HF.out.lb hlo (.slice a P2.length cc)).setLow (p := ⟨w.heap.size + 1, 2, none⟩) HF.out.lb hlo (.slice b G2.length ee)).below (below_d1 _))
        clear hlo
        rw [nwI_some]
        go_wp2_with fail
        go_region
        go_wp2_with fail
        refine bodyPost_ret (results_pt3 rfl _ _ (w.heap.size + 1) 3 _ _ _ rfl rfl rfl hRS.out rfl infoSzPt (aggPt _)) rfl ⟨nwA_some hD1.out hE1.out rfl rfl rfl HP2.out HG2.out (HF.out.la.mono (by have := HGZ.out; omega)) (HF.out.lb.mono (by have := HGZ.out; omega)), hBS.out⟩
end Go.Proofs.YtbakgobgjfhhhaaDoor
