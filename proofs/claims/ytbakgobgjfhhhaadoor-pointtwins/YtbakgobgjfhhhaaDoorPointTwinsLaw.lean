import Derived.Test.YtbakgobgjfhhhaaDoorPmay
import Derived.Test.YtbakgobgjfhhhaaDoorPointNewestWalks
import Derived.Test.YtbakgobgjfhhhaaDoorPmaf

/- The law PointTwins, walked. -/
namespace Go.Proofs.YtbakgobgjfhhhaaDoor
open Go.RowKit

set_option maxRecDepth 20000 in
set_option maxHeartbeats 3200000 in
theorem pointTwins_at (t ua : Int) (a0 : Option Addr) (n0 c0 : Nat) (a1 : Option Addr) (m0 e0 : Nat) (P : List Pla) (G : List Int) (ub : Int) (b0 : Option Addr) (n1 c1 : Nat) (b1 : Option Addr) (m1 e1 : Nat) (P2 : List Pla) (G2 : List Int) (s : ByteArray) (w : World) (hT : Tab w) (hp : Pls w a0 n0 c0 P) (hg : Its w a1 m0 e0 G) (hp2 : Pls w b0 n1 c1 P2) (hg2 : Its w b1 m1 e1 G2) (hs : s.size ≤ 140737488355328) :
    Calls Tryd.prog 8 #[.int .i64 t, .agg #[.int .i64 ua, .slice a0 n0 c0, .slice a1 m0 e0], .agg #[.int .i64 ub, .slice b0 n1 c1, .slice b1 m1 e1], .string s] w fun z w' => z = .returned (.bool true) ∧ Below w.heap.size w w' := by
  have hba := below_boxP (w := w) #[.int .i64 ua, .slice a0 n0 c0, .slice a1 m0 e0] 27
  have hA0 := PtAt.new (t := ua) hp hg 27
  have hsz : (w.alloc (.cells #[.int .i64 ua, .slice a0 n0 c0, .slice a1 m0 e0] 27)).heap.size = w.heap.size + 1 := by simp
  have hbb := below_boxP (w := w.alloc (.cells #[.int .i64 ua, .slice a0 n0 c0, .slice a1 m0 e0] 27)) #[.int .i64 ub, .slice b0 n1 c1, .slice b1 m1 e1] 27
  have hB0 := PtAt.new (t := ub) (hp2.below hba) (hg2.below hba) 27
  rw [hsz] at hB0
  have hA1 := hA0.below hbb
  have hB := hba.trans (hbb.mono hba.size)
  obtain ⟨W0, hW0⟩ : ∃ W, Hid ((w.alloc (.cells #[.int .i64 ua, .slice a0 n0 c0, .slice a1 m0 e0] 27)).alloc (.cells #[.int .i64 ub, .slice b0 n1 c1, .slice b1 m1 e1] 27) = W) := ⟨_, Hid.mk' rfl⟩
  rw [hW0.out] at hB0 hA1 hB
  have HA := Hid.mk' hA1
  have HP := Hid.mk' hB0
  have HB := Hid.mk' hB
  have HTw := Hid.mk' hT
  have HPw := Hid.mk' hp
  have HGw := Hid.mk' hg
  clear hba hA0 hsz hbb hB0 hA1 hB hp hg hp2 hg2 hT
  have hw1 := Hid.mk' (fun w hT h h' => ptwrite_any t ua a0 n0 c0 a1 m0 e0 P G w hT h h')
  obtain ⟨S, hS⟩ : ∃ T, Hid (ptT t ua P G = T) := ⟨_, Hid.mk' rfl⟩
  obtain ⟨q, hq⟩ : ∃ q, Hid (ptE t ua P G = q) := ⟨_, Hid.mk' rfl⟩
  rw [hS.out, hq.out] at hw1
  have d0 := HA.out.c0
  have d1 := HA.out.c1
  have d2 := HA.out.c2
  go_enter Tryd.func8, Tryd.ntmps8
  go_wp2_with fail
  rw [hW0.out]
  go_wp2_with fail
  refine (hw1.out W0 (tab_belowS HTw.out HB.out) HA.out.pl HA.out.it).mono ?_
  rintro z w1 ⟨rfl, hb⟩
  have HA1 := Hid.mk' (HA.out.below hb)
  have HP1 := Hid.mk' (HP.out.below hb)
  have HB1 := Hid.mk' (HB.out.trans (hb.mono HB.out.size))
  clear hb d0 d1 d2
  by_cases h0 : q = 0
  rotate_left
  · have hSe : S = ⟨#[]⟩ := by rw [← hS.out]; exact ptT_no (by rw [hq.out]; exact h0)
    subst hSe
    have tq : (q != 0) = true := by rw [bne_iff_ne]; exact h0
    clear h0
    go_wp2_with fail
    go_ret
    exact ⟨rfl, HB1.out⟩
  subst h0
  obtain ⟨T, rfl⟩ := Int.eq_ofNat_of_zero_le (srlB_is (ptE_ok hq.out).1).1
  have hTm := (srlB_is (ptE_ok hq.out).1).2
  have hw2 := Hid.mk' (fun w hT h h' => ptwrite_any ((T : Int) + 1) ub b0 n1 c1 b1 m1 e1 P2 G2 w hT h h')
  obtain ⟨R, hR⟩ : ∃ U, Hid (ptT ((T : Int) + 1) ub P2 G2 = U) := ⟨_, Hid.mk' rfl⟩
  obtain ⟨r, hr⟩ : ∃ q, Hid (ptE ((T : Int) + 1) ub P2 G2 = q) := ⟨_, Hid.mk' rfl⟩
  rw [hR.out, hr.out] at hw2
  have d0 := HP1.out.c0
  have d1 := HP1.out.c1
  have d2 := HP1.out.c2
  go_wp2_with fail
  refine (hw2.out w1 (tab_belowS HTw.out HB1.out) HP1.out.pl HP1.out.it).mono ?_
  rintro z w2 ⟨rfl, hb⟩
  have HA2 := Hid.mk' (HA1.out.below hb)
  have HP2 := Hid.mk' (HP1.out.below hb)
  have HB2 := Hid.mk' (HB1.out.trans (hb.mono HB1.out.size))
  clear hb d0 d1 d2
  by_cases h0 : r = 0
  rotate_left
  · have hRe : R = ⟨#[]⟩ := by rw [← hR.out]; exact ptT_no (by rw [hr.out]; exact h0)
    subst hRe
    have tq : (r != 0) = true := by rw [bne_iff_ne]; exact h0
    clear h0
    go_wp2_with fail
    go_ret
    exact ⟨rfl, HB2.out⟩
  subst h0
  have rdS : Hid (rdPt S.data.toList = some ((T : Int), ua, P, G)) := by show _ = _; rw [← hS.out, ptT_list]; exact rdPt_back hq.out
  have rdR : Hid (rdPt R.data.toList = some ((T : Int) + 1, ub, P2, G2)) := by show _ = _; rw [← hR.out, ptT_list]; exact rdPt_back hr.out
  have hSz : Hid (S.size ≤ 1024) := by have := ptT_small (T : Int) ua P G; rw [hS.out] at this; show _ ≤ _; omega
  have hRz : Hid (R.size ≤ 1024) := by have := ptT_small ((T : Int) + 1) ub P2 G2; rw [hR.out] at this; show _ ≤ _; omega
  obtain ⟨i, hi, hi1, hi2⟩ := rem_two T
  have HI := Hid.mk' hi
  have hib : i < 4 := by omega
  have hib2 : 1 - i < 4 := by omega
  have hmk := make_four w2
  have heq : (([.string ⟨#[]⟩, .string ⟨#[]⟩, .string ⟨#[]⟩, .string ⟨#[]⟩] : List Value).set i (.string S)).set (1 - i) (.string R) = twV i S R := by rcases hi with rfl | rfl <;> rfl
  have HE := Hid.mk' heq
  have hv := boxV_new w2 (twV i S R) 9
  have hbx := below_boxP (w := w2) (twV i S R).toArray 9
  have HA3 := Hid.mk' (HA2.out.below hbx)
  have HP3 := Hid.mk' (HP2.out.below hbx)
  have HB3 := Hid.mk' (HB2.out.trans (hbx.mono HB2.out.size))
  have hg2 : w.heap.size + 2 ≤ w2.heap.size := by have := HP2.out.bx.lt; omega
  have HG2 := Hid.mk' hg2
  obtain ⟨g, hg⟩ : ∃ g, Hid (w2.heap.size = g) := ⟨_, Hid.mk' rfl⟩
  obtain ⟨W3, hW3⟩ : ∃ W, Hid (w2.alloc (.cells (twV i S R).toArray 9) = W) := ⟨_, Hid.mk' rfl⟩
  rw [hW3.out, hg.out] at hv
  rw [hW3.out] at HA3 HP3 HB3
  rw [hg.out] at HG2
  have HV3 := Hid.mk' hv
  have hn1 := Hid.mk' (tw_both HI.out hSz.out hRz.out rdS.out rdR.out)
  have hN := Hid.mk' (fun w hT h => newest_any (some ⟨g, 0, none⟩) none 4 4 0 0 (twC i S R) [] w hT h)
  unfold NwA at hN
  rw [twC_err hSz.out hRz.out hn1.out, hn1.out] at hN
  simp only [oT, oN, oP, oG] at hN
  clear heq hv hbx hg2
  go_wp2_with fail
  rw [HE.out, hW3.out, hg.out]
  refine (hN.out W3 (tab_belowS HTw.out HB3.out) (tw_dk HV3.out hSz.out hRz.out)).mono ?_
  rintro z w4 ⟨⟨x0, xc, x1, xe, rfl, h1, h2, la, lb⟩, hb⟩
  have hbx := below_boxP (w := w4) #[.int .i64 ub, .slice x0 P2.length xc, .slice x1 G2.length xe] 27
  have hbb := hb.trans (hbx.mono hb.size)
  have HX4 := Hid.mk' (PtAt.new (t := ub) h1 h2 27)
  have HA4 := Hid.mk' (HA3.out.below hbb)
  have HP4 := Hid.mk' (HP3.out.below hbb)
  have HV4 := Hid.mk' (HV3.out.below hbb)
  have HB4 := Hid.mk' (HB3.out.trans (hbb.mono HB3.out.size))
  have hgx4 : g < w4.heap.size := Nat.lt_of_lt_of_le HV3.out.lt hb.size
  obtain ⟨gx, hgx⟩ : ∃ g, Hid (w4.heap.size = g) := ⟨_, Hid.mk' rfl⟩
  obtain ⟨W4, hW4⟩ : ∃ W, Hid (w4.alloc (.cells #[.int .i64 ub, .slice x0 P2.length xc, .slice x1 G2.length xe] 27) = W) := ⟨_, Hid.mk' rfl⟩
  rw [hW4.out] at HX4 HA4 HP4 HV4 HB4
  rw [hgx.out] at HX4 hgx4
  have HGX := Hid.mk' hgx4
  clear hb hbx hbb h1 h2 la lb hgx4
  have d0 := HP4.out.c0
  have d1 := HP4.out.c1
  have d2 := HP4.out.c2
  have x0' := HX4.out.c0
  have x1' := HX4.out.c1
  have x2' := HX4.out.c2
  rw [← hW4.out] at d0 d1 d2
  go_wp2_with fail
  rw [hW4.out, hgx.out]
  refine (sameim_yes x0 P2.length xc x1 G2.length xe b0 n1 c1 b1 m1 e1 P2 G2 W4 HX4.out.pl HX4.out.it HP4.out.pl HP4.out.it).mono ?_
  rintro z w5 ⟨rfl, hb⟩
  have HX5 := Hid.mk' (HX4.out.below hb)
  have HA5 := Hid.mk' (HA4.out.below hb)
  have HV5 := Hid.mk' (HV4.out.below hb)
  have HB5 := Hid.mk' (HB4.out.trans (hb.mono HB4.out.size))
  clear hb d0 d1 d2 x0' x1' x2'
  by_cases hz : 1024 < s.size
  · have tz : decide ((1024 : Int) < (s.size : Int)) = true := decide_eq_true (by omega)
    go_wp2_with fail
    go_ret
    exact ⟨rfl, HB5.out⟩
  have tz : decide ((1024 : Int) < (s.size : Int)) = false := decide_eq_false (by omega)
  have hsz2 : Hid (s.size ≤ 1024) := by show _ ≤ _; omega
  have hA := Hid.mk' (fun w hT => ptread_any s w hT hs)
  unfold RdPA at hA
  obtain ⟨k1, hk1⟩ : ∃ I, Hid (rdPT s.data.toList = I) := ⟨_, Hid.mk' rfl⟩
  obtain ⟨k2, hk2⟩ : ∃ I, Hid (rdPN s.data.toList = I) := ⟨_, Hid.mk' rfl⟩
  obtain ⟨J, hJ⟩ : ∃ I, Hid (rdPP s.data.toList = I) := ⟨_, Hid.mk' rfl⟩
  obtain ⟨K, hK⟩ : ∃ I, Hid (rdPG s.data.toList = I) := ⟨_, Hid.mk' rfl⟩
  obtain ⟨r, hr⟩ : ∃ I, Hid (rdPE s.data.toList = I) := ⟨_, Hid.mk' rfl⟩
  rw [hk1.out, hk2.out, hJ.out, hK.out, hr.out] at hA
  go_wp2_with fail
  refine (hA.out w5 (tab_belowS HTw.out HB5.out)).mono ?_
  rintro z w6 ⟨⟨y0, yc, y1, ye, rfl, _, _, _, _⟩, hb⟩
  have hbx := below_boxP (w := w6) #[.int .i64 k2, .slice y0 J.length yc, .slice y1 K.length ye] 27
  have hbb := hb.trans (hbx.mono hb.size)
  have HX6 := Hid.mk' (HX5.out.below hbb)
  have HA6 := Hid.mk' (HA5.out.below hbb)
  have HV6 := Hid.mk' (HV5.out.below hbb)
  have HB6 := Hid.mk' (HB5.out.trans (hbb.mono HB5.out.size))
  obtain ⟨W6, hW6⟩ : ∃ W, Hid (w6.alloc (.cells #[.int .i64 k2, .slice y0 J.length yc, .slice y1 K.length ye] 27) = W) := ⟨_, Hid.mk' rfl⟩
  rw [hW6.out] at HX6 HA6 HV6 HB6
  clear hb hbx hbb
  by_cases h0 : r = 0
  · subst h0
    go_wp2_with fail
    rw [hW6.out]
    go_ret
    exact ⟨rfl, HB6.out⟩
  have tq : (r == 0) = false := by rw [beq_eq_false_iff_ne]; exact h0
  have hno : Hid (rdPt s.data.toList = none) := by
    show _ = _
    rcases hcs : rdPt s.data.toList with _ | ⟨t1, n1', P1, G1⟩
    · rfl
    · exact absurd (hr.out.symm.trans (rdPE_yes hcs)) h0
  have hn2 := Hid.mk' (tw_one HI.out hSz.out hsz2.out rdS.out hno.out)
  have hN2 := Hid.mk' (fun w hT h => newest_any (some ⟨g, 0, none⟩) none 4 4 0 0 (twC i S s) [] w hT h)
  unfold NwA at hN2
  rw [twC_err hSz.out hsz2.out hn2.out, hn2.out] at hN2
  simp only [oT, oN, oP, oG] at hN2
  have hcl := tw_cell HV6.out HI.out
  have v1 := hcl.2.1
  have vf1 := hcl.2.2.2
  rw [← hW6.out] at v1 vf1
  have hgz : w.heap.size + 2 ≤ g := HG2.out
  have hne0 : g ≠ w.heap.size := by omega
  have hnex : g ≠ gx := by have := HGX.out; omega
  have HV7 := Hid.mk' (tw_set (s' := s) (t' := s) HV6.out HI.out).2
  have HX7b := Hid.mk' (HX6.out.bx.other ⟨g, 1 - i, none⟩ (.string s) hnex)
  have HA7b := Hid.mk' (HA6.out.bx.other ⟨g, 1 - i, none⟩ (.string s) hne0)
  have HB7 := Hid.mk' (HB6.out.setCell (p := ⟨g, 1 - i, none⟩) (by show w.heap.size ≤ g; omega) (.string s))
  obtain ⟨W7, hW7⟩ : ∃ W, Hid (W6.setCell ⟨g, 1 - i, none⟩ (.string s) = W) := ⟨_, Hid.mk' rfl⟩
  rw [hW7.out] at HV7 HX7b HA7b HB7
  clear h0 hcl hne0 hnex
  go_wp2_with fail
  rw [hW6.out, hW7.out]
  refine (hN2.out W7 (tab_belowS HTw.out HB7.out) (tw_dk HV7.out hSz.out hsz2.out)).mono ?_
  rintro z w8 ⟨⟨z0, zc, z1, ze, rfl, h1, h2, la, lb⟩, hb⟩
  have HX8 := Hid.mk' (HX7b.out.below hb)
  have HA8 := Hid.mk' (HA7b.out.below hb)
  have HB8 := Hid.mk' (HB7.out.trans (hb.mono HB7.out.size))
  have hlx : gx + 1 ≤ W7.heap.size := HX7b.out.lt
  have hgxw : w.heap.size ≤ gx := by have := HGX.out; have := HG2.out; omega
  have hnea : gx ≠ w.heap.size := by have := HGX.out; have := HG2.out; omega
  have HS9 := Hid.mk' (box_store (t := ua) HX8.out h1 h2 (la.mono hlx) (lb.mono hlx))
  have HA9 := Hid.mk' (((HA8.out.other ⟨gx, 0, none⟩ (.int .i64 ua) hnea).other ⟨gx, 1, none⟩ (.slice z0 P.length zc) hnea).other ⟨gx, 2, none⟩ (.slice z1 G.length ze) hnea)
  have HB9 := Hid.mk' (below_set3P (g := gx) HB8.out hgxw (.int .i64 ua) (.slice z0 P.length zc) (.slice z1 G.length ze))
  have b0' := HX8.out.c 0 _ rfl
  have b1' := HX8.out.c 1 _ rfl
  have b2' := HX8.out.c 2 _ rfl
  have bf0 := HX8.out.f 0 (by simp [ptV])
  have bf1 := HX8.out.f 1 (by simp [ptV])
  have bf2 := HX8.out.f 2 (by simp [ptV])
  have k0 := HA8.out.c 0 _ rfl
  have k1' := HA8.out.c 1 _ rfl
  have k2' := HA8.out.c 2 _ rfl
  have hneb : w.heap.size ≠ gx := fun e => hnea e.symm
  clear hb h1 h2 la lb hlx hgxw v1 vf1
  go_wp2_with fail
  refine (sameim_yes z0 P.length zc z1 G.length ze a0 n0 c0 a1 m0 e0 P G _ HS9.out.pl HS9.out.it (HPw.out.below HB9.out) (HGw.out.below HB9.out)).mono ?_
  rintro z w10 ⟨rfl, hb⟩
  have HB10 := Hid.mk' (HB9.out.trans (hb.mono HB9.out.size))
  clear hb
  go_wp2_with fail
  go_ret
  exact ⟨rfl, HB10.out⟩
theorem pointTwins_walk (t ua : Int) (a0 : Option Addr) (n0 c0 : Nat) (a1 : Option Addr) (m0 e0 : Nat) (P : List Pla) (G : List Int) (ub : Int) (b0 : Option Addr) (n1 c1 : Nat) (b1 : Option Addr) (m1 e1 : Nat) (P2 : List Pla) (G2 : List Int) (s : ByteArray) (w : World) (_w0 : (Lit.int .i64 t).wf = true) (_z1 : (Lit.int .i64 ua).wf = true) (hp : Pls w a0 n0 c0 P) (hg : Its w a1 m0 e0 G) (_z2 : (Lit.int .i64 ub).wf = true) (hp2 : Pls w b0 n1 c1 P2) (hg2 : Its w b1 m1 e1 G2) (_w3 : s.size ≤ maxLen) (z3 : s.data.toList.length ≤ reachBytes) (hT : Tab w) :
    Calls Tryd.prog 8 #[.int .i64 t, .agg #[.int .i64 ua, .slice a0 n0 c0, .slice a1 m0 e0], .agg #[.int .i64 ub, .slice b0 n1 c1, .slice b1 m1 e1], .string s] w fun z w' => z = .returned (.bool true) ∧ Below w.heap.size w w' := by
  have hr := reachBytes_lt
  have e0' : s.data.toList.length = s.size := by rw [Array.length_toList]; rfl
  exact pointTwins_at t ua a0 n0 c0 a1 m0 e0 P G ub b0 n1 c1 b1 m1 e1 P2 G2 s w hT hp hg hp2 hg2 (by omega)
end Go.Proofs.YtbakgobgjfhhhaaDoor
