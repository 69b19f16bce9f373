/- Texts of ours, one behind the other: PointReadsLaw PointNewestLaw PointBackLaw TwinsKit -/
import Derived.Test.YtbakgobgjfhhhaaDoorPointReadWalks
import Derived.Test.YtbakgobgjfhhhaaDoorRPointReadWalks
import Derived.Test.YtbakgobgjfhhhaaDoorPmaf
import Derived.Test.YtbakgobgjfhhhaaDoorPointNewestWalks
import Derived.Test.YtbakgobgjfhhhaaDoorRNewestWalks
import Derived.Test.YtbakgobgjfhhhaaDoorPointWriteWalks
import Derived.Test.YtbakgobgjfhhhaaDoorPmaj
import Derived.Test.YtbakgobgjfhhhaaDoorPmap

/- The law PointReads, walked. -/
namespace Go.Proofs.YtbakgobgjfhhhaaDoor
open Go.RowKit

set_option maxRecDepth 20000 in
set_option maxHeartbeats 1600000 in
theorem pointReads_at (s : ByteArray) (w : World) (hT : Tab w) (hs : s.size ≤ 140737488355328) :
    Calls Tryd.prog 4 #[.string s] w fun z w' => z = .returned (.bool true) ∧ Below w.heap.size w w' := by
  obtain ⟨t, ht⟩ : ∃ I, Hid (rdPT s.data.toList = I) := ⟨_, Hid.mk' rfl⟩
  obtain ⟨u, hu⟩ : ∃ I, Hid (rdPN s.data.toList = I) := ⟨_, Hid.mk' rfl⟩
  obtain ⟨J, hJ⟩ : ∃ I, Hid (rdPP s.data.toList = I) := ⟨_, Hid.mk' rfl⟩
  obtain ⟨K, hK⟩ : ∃ I, Hid (rdPG s.data.toList = I) := ⟨_, Hid.mk' rfl⟩
  obtain ⟨q, hq⟩ : ∃ q, Hid (rdPE s.data.toList = q) := ⟨_, Hid.mk' rfl⟩
  have hA := Hid.mk' (fun w hT => ptread_any s w hT hs)
  have hR := Hid.mk' (fun w => rreadpt_any s w hs)
  unfold RdPA at hA hR
  rw [ht.out, hu.out, hJ.out, hK.out, hq.out] at hA hR
  go_enter Tryd.func4, Tryd.ntmps4
  go_wp2_with fail
  refine (hA.out w hT).mono ?_
  rintro z w1 ⟨⟨a, c, b, e, rfl, h1, h2, _, _⟩, hb1⟩
  have hbx := below_boxP (w := w1) #[.int .i64 u, .slice a J.length c, .slice b K.length e] 27
  have HM1 := Hid.mk' (PtAt.new (t := u) h1 h2 27)
  have HB2 := Hid.mk' (hb1.trans (hbx.mono hb1.size))
  have hlt1 : w1.heap.size < (w1.alloc (.cells #[.int .i64 u, .slice a J.length c, .slice b K.length e] 27)).heap.size := by simp
  obtain ⟨W2, hW2⟩ : ∃ W, Hid (w1.alloc (.cells #[.int .i64 u, .slice a J.length c, .slice b K.length e] 27) = W) := ⟨_, Hid.mk' rfl⟩
  rw [hW2.out] at HM1 HB2 hlt1
  clear hb1 h1 h2 hbx
  go_wp2_with fail
  rw [hW2.out]
  refine (hR.out W2).mono ?_
  rintro z w3 ⟨⟨a2, c2, b2, e2, rfl, h1, h2, _, _⟩, hb3⟩
  have hbx := below_boxP (w := w3) #[.int .i64 u, .slice a2 J.length c2, .slice b2 K.length e2] 27
  have hbb := hb3.trans (hbx.mono hb3.size)
  have HM3 := Hid.mk' (HM1.out.below hbb)
  have HN3 := Hid.mk' (PtAt.new (t := u) h1 h2 27)
  have HB3 := Hid.mk' (HB2.out.trans (hbb.mono HB2.out.size))
  have c0 := HM3.out.c0
  have c1 := HM3.out.c1
  have c2' := HM3.out.c2
  have hlt3 : w1.heap.size < w3.heap.size := Nat.lt_of_lt_of_le hlt1 hb3.size
  clear h1 h2 hb3 hbx hbb
  go_wp2_with fail
  refine (sameim_yes a J.length c b K.length e a2 J.length c2 b2 K.length e2 J K _ HM3.out.pl HM3.out.it HN3.out.pl HN3.out.it).mono ?_
  rintro z w4 ⟨rfl, hb4⟩
  have HB4 := Hid.mk' (HB3.out.trans (hb4.mono HB3.out.size))
  clear hb4
  go_wp2_with fail
  go_ret
  exact ⟨rfl, HB4.out⟩
theorem pointReads_walk (s : ByteArray) (w : World) (_w0 : s.size ≤ maxLen) (z0 : s.data.toList.length ≤ reachBytes) (hT : Tab w) :
    Calls Tryd.prog 4 #[.string s] w fun z w' => z = .returned (.bool true) ∧ Below w.heap.size w w' := by
  have hr := reachBytes_lt
  have e0 : s.data.toList.length = s.size := by rw [Array.length_toList]; rfl
  exact pointReads_at s w hT (by omega)
end Go.Proofs.YtbakgobgjfhhhaaDoor

/- The law PointNewest, walked. -/
namespace Go.Proofs.YtbakgobgjfhhhaaDoor
open Go.RowKit

set_option maxRecDepth 20000 in
set_option maxHeartbeats 1600000 in
theorem pointNewest_at (a0 a1 : Option Addr) (n c m d : Nat) (C : List ByteArray) (P : List Pt) (w : World) (hT : Tab w) (h : Dk w a0 n a1 m C P) :
    Calls Tryd.prog 5 #[.agg #[.slice a0 n c, .slice a1 m d]] w fun z w' => z = .returned (.bool true) ∧ Below w.heap.size w w' := by
  have HD := Hid.mk' (boxV_new w [.slice a0 n c, .slice a1 m d] 39)
  have hB := below_boxP (w := w) #[.slice a0 n c, .slice a1 m d] 39
  obtain ⟨W0, hW0⟩ : ∃ W, Hid (w.alloc (.cells #[.slice a0 n c, .slice a1 m d] 39) = W) := ⟨_, Hid.mk' rfl⟩
  have e0 : (w.alloc (.cells [.slice a0 n c, .slice a1 m d].toArray 39)) = W0 := hW0.out
  rw [e0] at HD
  rw [hW0.out] at hB
  have HB := Hid.mk' hB
  have HKw := Hid.mk' h
  have HTw := Hid.mk' hT
  clear hB h hT e0
  obtain ⟨t, ht⟩ : ∃ I, Hid (oT (nwD C P) = I) := ⟨_, Hid.mk' rfl⟩
  obtain ⟨u, hu⟩ : ∃ I, Hid (oN (nwD C P) = I) := ⟨_, Hid.mk' rfl⟩
  obtain ⟨J, hJ⟩ : ∃ I, Hid (oP (nwD C P) = I) := ⟨_, Hid.mk' rfl⟩
  obtain ⟨K, hK⟩ : ∃ I, Hid (oG (nwD C P) = I) := ⟨_, Hid.mk' rfl⟩
  obtain ⟨q, hq⟩ : ∃ q, Hid (nwE C P = q) := ⟨_, Hid.mk' rfl⟩
  have hA := Hid.mk' (fun w hT h => newest_any a0 a1 n c m d C P w hT h)
  have hR := Hid.mk' (fun w h => rnewest_any a0 a1 n c m d C P w h)
  unfold NwA at hA hR
  rw [ht.out, hu.out, hJ.out, hK.out, hq.out] at hA hR
  have p0 := HD.out.c 0 _ rfl
  have p1 := HD.out.c 1 _ rfl
  go_enter Tryd.func5, Tryd.ntmps5
  go_wp2_with fail
  rw [hW0.out]
  go_wp2_with fail
  refine (hA.out W0 (tab_belowS HTw.out HB.out) (HKw.out.below HB.out)).mono ?_
  rintro z w1 ⟨⟨a, cc, b, e, rfl, h1, h2, _, _⟩, hb1⟩
  have hbx := below_boxP (w := w1) #[.int .i64 u, .slice a J.length cc, .slice b K.length e] 27
  have HM1 := Hid.mk' (PtAt.new (t := u) h1 h2 27)
  have HB2 := Hid.mk' (HB.out.trans ((hb1.trans (hbx.mono hb1.size)).mono HB.out.size))
  have HD2 := Hid.mk' ((HD.out.below hb1).below hbx)
  have hlt1 : w1.heap.size < (w1.alloc (.cells #[.int .i64 u, .slice a J.length cc, .slice b K.length e] 27)).heap.size := by simp
  obtain ⟨W2, hW2⟩ : ∃ W, Hid (w1.alloc (.cells #[.int .i64 u, .slice a J.length cc, .slice b K.length e] 27) = W) := ⟨_, Hid.mk' rfl⟩
  rw [hW2.out] at HM1 HB2 hlt1 HD2
  clear hb1 h1 h2 hbx p0 p1
  have p0 := HD2.out.c 0 _ rfl
  have p1 := HD2.out.c 1 _ rfl
  rw [← hW2.out] at p0 p1
  go_wp2_with fail
  rw [hW2.out]
  refine (hR.out W2 (HKw.out.below HB2.out)).mono ?_
  rintro z w3 ⟨⟨a2, c2, b2, e2, rfl, h1, h2, _, _⟩, hb3⟩
  have hbx := below_boxP (w := w3) #[.int .i64 u, .slice a2 J.length c2, .slice b2 K.length e2] 27
  have hbb := hb3.trans (hbx.mono hb3.size)
  have HM3 := Hid.mk' (HM1.out.below hbb)
  have HN3 := Hid.mk' (PtAt.new (t := u) h1 h2 27)
  have HB3 := Hid.mk' (HB2.out.trans (hbb.mono HB2.out.size))
  have c0 := HM3.out.c0
  have c1 := HM3.out.c1
  have c2' := HM3.out.c2
  have hlt3 : w1.heap.size < w3.heap.size := Nat.lt_of_lt_of_le hlt1 hb3.size
  clear h1 h2 hb3 hbx hbb p0 p1
  go_wp2_with fail
  refine (sameim_yes a J.length cc b K.length e a2 J.length c2 b2 K.length e2 J K _ HM3.out.pl HM3.out.it HN3.out.pl HN3.out.it).mono ?_
  rintro z w4 ⟨rfl, hb4⟩
  have HB4 := Hid.mk' (HB3.out.trans (hb4.mono HB3.out.size))
  clear hb4
  go_wp2_with fail
  go_ret
  exact ⟨rfl, HB4.out⟩
theorem pointNewest_walk (a0 : Option Addr) (n c : Nat) (a1 : Option Addr) (m d : Nat) (C : List ByteArray) (P : List Pt) (w : World) (h : Dk w a0 n a1 m C P) (hT : Tab w) :
    Calls Tryd.prog 5 #[.agg #[.slice a0 n c, .slice a1 m d]] w fun z w' => z = .returned (.bool true) ∧ Below w.heap.size w w' :=
  pointNewest_at a0 a1 n c m d C P w hT h
end Go.Proofs.YtbakgobgjfhhhaaDoor

/- The law PointBack, walked. -/
namespace Go.Proofs.YtbakgobgjfhhhaaDoor
open Go.RowKit

theorem fresh_txP : (imB frA frG).length = 144 := by decide +kernel
theorem fresh_pt : ptE 1 0 frA frG = 0 := ptE_mk (by decide) (by decide) (chkM_yes fresh_ok)
set_option maxRecDepth 20000 in
set_option maxHeartbeats 3200000 in
theorem pointBack_at (t u : Int) (a0 : Option Addr) (n c : Nat) (a1 : Option Addr) (m e : Nat) (P : List Pla) (G : List Int) (s : ByteArray) (w : World) (hT : Tab w) (h : Pls w a0 n c P) (h' : Its w a1 m e G) (hs : s.size ≤ 140737488355328) :
    Calls Tryd.prog 7 #[.int .i64 t, .agg #[.int .i64 u, .slice a0 n c, .slice a1 m e], .string s] w fun z w' => z = .returned (.bool true) ∧ Below w.heap.size w w' := by
  have HI := Hid.mk' (fun w hT h h' => ptwrite_any t u a0 n c a1 m e P G w hT h h')
  obtain ⟨T, hTt⟩ : ∃ T, Hid (ptT t u P G = T) := ⟨_, Hid.mk' rfl⟩
  obtain ⟨q, hq⟩ : ∃ q, Hid (ptE t u P G = q) := ⟨_, Hid.mk' rfl⟩
  have HT0 : Hid (q = 0 → T.size ≤ 400 ∧ rdPT T.data.toList = t ∧ rdPN T.data.toList = u ∧ rdPP T.data.toList = P ∧ rdPG T.data.toList = G ∧ rdPE T.data.toList = 0) := fun h0 => by
    have hc := hq.out.trans h0
    have hr := rdPt_back hc
    rw [← hTt.out, ptT_list]
    obtain ⟨p1, p2, p3, p4⟩ := rdP_yes hr
    exact ⟨ptT_small t u P G, p1, p2, p3, p4, rdPE_yes hr⟩
  have HT1 : Hid (q ≠ 0 → T = ⟨#[]⟩) := fun h0 => by
    rw [← hTt.out]
    exact ptT_no (by rw [hq.out]; exact h0)
  rw [hTt.out, hq.out] at HI
  obtain ⟨F, hF⟩ : ∃ T, Hid (ptT 1 0 frA frG = T) := ⟨_, Hid.mk' rfl⟩
  have hFz : F.size = 159 := by rw [← hF.out, ptT_size fresh_pt, fresh_txP]
  have HFr := Hid.mk' (fun a0 n c a1 m e w hT h h' => ptwrite_any 1 0 a0 n c a1 m e frA frG w hT h h')
  rw [hF.out, fresh_pt] at HFr
  have hm0 := PtAt.new (t := u) h h' 27
  have hb0 := below_boxP (w := w) #[.int .i64 u, .slice a0 n c, .slice a1 m e] 27
  obtain ⟨W0, hW0⟩ : ∃ W, Hid (w.alloc (.cells #[.int .i64 u, .slice a0 n c, .slice a1 m e] 27) = W) := ⟨_, Hid.mk' rfl⟩
  rw [hW0.out] at hm0 hb0
  have HM := Hid.mk' hm0
  have HB := Hid.mk' hb0
  have HTa := Hid.mk' (tab_belowS hT hb0)
  clear hm0 hb0 h h' hT
  go_enter Tryd.func7, Tryd.ntmps7
  go_wp2_with fail
  rw [hW0.out]
  refine (fresh_any W0).mono ?_
  rintro z w1 ⟨hfr, hb⟩
  obtain ⟨fa, fc, fb, fe, rfl, hf1, hf2⟩ := fresh_maps hfr
  have HM1 := Hid.mk' (HM.out.below hb)
  have HB1 := Hid.mk' (HB.out.trans (hb.mono HB.out.size))
  have HT1a := Hid.mk' (tab_belowS HTa.out hb)
  have HF1 := Hid.mk' hf1
  have HF2 := Hid.mk' hf2
  clear hb hfr hf1 hf2
  go_wp2_with fail
  refine (HFr.out fa 48 fc fb 48 fe w1 HT1a.out HF1.out HF2.out).mono ?_
  rintro z w2 ⟨rfl, hb⟩
  have HM2 := Hid.mk' (HM1.out.below hb)
  have HB2 := Hid.mk' (HB1.out.trans (hb.mono HB1.out.size))
  have HT2a := Hid.mk' (tab_belowS HT1a.out hb)
  clear hb HF1 HF2
  go_wp2_with fail
  obtain ⟨rt, hrt⟩ : ∃ I, Hid (rdPT s.data.toList = I) := ⟨_, Hid.mk' rfl⟩
  obtain ⟨rn, hrn⟩ : ∃ I, Hid (rdPN s.data.toList = I) := ⟨_, Hid.mk' rfl⟩
  obtain ⟨J, hJ⟩ : ∃ I, Hid (rdPP s.data.toList = I) := ⟨_, Hid.mk' rfl⟩
  obtain ⟨K, hK⟩ : ∃ I, Hid (rdPG s.data.toList = I) := ⟨_, Hid.mk' rfl⟩
  obtain ⟨r, hr⟩ : ∃ q, Hid (rdPE s.data.toList = q) := ⟨_, Hid.mk' rfl⟩
  have hA := Hid.mk' (fun w hT => ptread_any s w hT hs)
  unfold RdPA at hA
  rw [hrt.out, hrn.out, hJ.out, hK.out, hr.out] at hA
  refine (hA.out w2 HT2a.out).mono ?_
  rintro z w3 ⟨⟨x0, xc, x1, xe, rfl, h1, h2, _, _⟩, hb3⟩
  have hbx := below_boxP (w := w3) #[.int .i64 rn, .slice x0 J.length xc, .slice x1 K.length xe] 27
  have hbb := hb3.trans (hbx.mono hb3.size)
  have HX3 := Hid.mk' (PtAt.new (t := rn) h1 h2 27)
  have HB3 := Hid.mk' (HB2.out.trans (hbb.mono HB2.out.size))
  have HM3 := Hid.mk' (HM2.out.below hbb)
  have HT3 := Hid.mk' (tab_belowS HT2a.out hbb)
  obtain ⟨W3, hW3⟩ : ∃ W, Hid (w3.alloc (.cells #[.int .i64 rn, .slice x0 J.length xc, .slice x1 K.length xe] 27) = W) := ⟨_, Hid.mk' rfl⟩
  rw [hW3.out] at HX3 HB3 HM3 HT3
  clear h1 h2 hb3 hbx hbb
  have d0 := HM3.out.c0
  have d1 := HM3.out.c1
  have d2 := HM3.out.c2
  by_cases hr0 : r = 0
  · subst hr0
    obtain ⟨t2, n2, P2, G2, hrd⟩ := rdPE_zero hr.out
    obtain ⟨p1, p2, p3, p4⟩ := rdP_yes hrd
    rw [hrt.out] at p1
    rw [hrn.out] at p2
    rw [hJ.out] at p3
    rw [hK.out] at p4
    subst p1 p2 p3 p4
    have hinv := rdPt_inv hrd
    have hJ0 : Hid (ptE rt rn J K = 0) := hinv.1
    have hJT : Hid (ptT rt rn J K = s) := by
      show _ = _
      apply bytes_ext
      rw [ptT_list, hinv.2]
    have tq : (s.toList == s.toList) = true := by simp
    have hwr := Hid.mk' (fun a0 n c a1 m e w hT h h' => ptwrite_any rt rn a0 n c a1 m e J K w hT h h')
    rw [hJ0.out, hJT.out] at hwr
    clear hrd hinv
    go_wp2_with fail
    rw [hW3.out]
    go_wp2_with fail
    refine (hwr.out x0 J.length xc x1 K.length xe W3 HT3.out HX3.out.pl HX3.out.it).mono ?_
    rintro z w4 ⟨rfl, hb⟩
    have HBt := Hid.mk' (HB3.out.trans (hb.mono HB3.out.size))
    have HMt := Hid.mk' (HM3.out.below hb)
    have HTt := Hid.mk' (tab_belowS HT3.out hb)
    have d0 := HMt.out.c0
    have d1 := HMt.out.c1
    have d2 := HMt.out.c2
    clear hb
    go_wp2_with fail
    refine (HI.out _ HTt.out HMt.out.pl HMt.out.it).mono ?_
    rintro z w5 ⟨rfl, hb⟩
    have HB5 := Hid.mk' (HBt.out.trans (hb.mono HBt.out.size))
    have HM5 := Hid.mk' (HMt.out.below hb)
    have HT5 := Hid.mk' (tab_belowS HTt.out hb)
    clear hb
    by_cases h0 : q = 0
    · have hT2 := HT0.out h0
      have hrd := Hid.mk' (fun w hT => ptread_any T w hT (by have := hT2.1; omega))
      unfold RdPA at hrd
      rw [hT2.2.1, hT2.2.2.1, hT2.2.2.2.1, hT2.2.2.2.2.1, hT2.2.2.2.2.2] at hrd
      subst h0
      clear hT2
      go_wp2_with fail
      refine (hrd.out w5 HT5.out).mono ?_
      rintro z w6 ⟨⟨y0, yc, y1, ye, rfl, h1, h2, _, _⟩, hb6⟩
      have hbx := below_boxP (w := w6) #[.int .i64 u, .slice y0 P.length yc, .slice y1 G.length ye] 27
      have hbb := hb6.trans (hbx.mono hb6.size)
      have HY6 := Hid.mk' (PtAt.new (t := u) h1 h2 27)
      have HB6 := Hid.mk' (HB5.out.trans (hbb.mono HB5.out.size))
      have HM6 := Hid.mk' (HM5.out.below hbb)
      have d0 := HM6.out.c0
      have d1 := HM6.out.c1
      have d2 := HM6.out.c2
      clear h1 h2 hb6 hbx hbb
      go_wp2_with fail
      refine (sameim_yes a0 n c a1 m e y0 P.length yc y1 G.length ye P G _ HM6.out.pl HM6.out.it HY6.out.pl HY6.out.it).mono ?_
      rintro z w7 ⟨rfl, hb⟩
      have HB7 := Hid.mk' (HB6.out.trans (hb.mono HB6.out.size))
      clear hb
      go_wp2_with fail
      go_ret
      exact ⟨rfl, HB7.out⟩
    · have hTe := HT1.out h0
      subst hTe
      have tq2 : (q != 0) = true := by rw [bne_iff_ne]; exact h0
      clear h0
      go_wp2_with fail
      go_ret
      exact ⟨rfl, HB5.out⟩
  · have tq : (r == 0) = false := by rw [beq_eq_false_iff_ne]; exact hr0
    have HBt := HB3
    have HMt := HM3
    have HTt := HT3
    rw [← hW3.out] at d0 d1 d2
    clear hr0
    go_wp2_with fail
    rw [hW3.out]
    refine (HI.out _ HTt.out HMt.out.pl HMt.out.it).mono ?_
    rintro z w5 ⟨rfl, hb⟩
    have HB5 := Hid.mk' (HBt.out.trans (hb.mono HBt.out.size))
    have HM5 := Hid.mk' (HMt.out.below hb)
    have HT5 := Hid.mk' (tab_belowS HTt.out hb)
    clear hb
    by_cases h0 : q = 0
    · have hT2 := HT0.out h0
      have hrd := Hid.mk' (fun w hT => ptread_any T w hT (by have := hT2.1; omega))
      unfold RdPA at hrd
      rw [hT2.2.1, hT2.2.2.1, hT2.2.2.2.1, hT2.2.2.2.2.1, hT2.2.2.2.2.2] at hrd
      subst h0
      clear hT2
      go_wp2_with fail
      refine (hrd.out w5 HT5.out).mono ?_
      rintro z w6 ⟨⟨y0, yc, y1, ye, rfl, h1, h2, _, _⟩, hb6⟩
      have hbx := below_boxP (w := w6) #[.int .i64 u, .slice y0 P.length yc, .slice y1 G.length ye] 27
      have hbb := hb6.trans (hbx.mono hb6.size)
      have HY6 := Hid.mk' (PtAt.new (t := u) h1 h2 27)
      have HB6 := Hid.mk' (HB5.out.trans (hbb.mono HB5.out.size))
      have HM6 := Hid.mk' (HM5.out.below hbb)
      have d0 := HM6.out.c0
      have d1 := HM6.out.c1
      have d2 := HM6.out.c2
      clear h1 h2 hb6 hbx hbb
      go_wp2_with fail
      refine (sameim_yes a0 n c a1 m e y0 P.length yc y1 G.length ye P G _ HM6.out.pl HM6.out.it HY6.out.pl HY6.out.it).mono ?_
      rintro z w7 ⟨rfl, hb⟩
      have HB7 := Hid.mk' (HB6.out.trans (hb.mono HB6.out.size))
      clear hb
      go_wp2_with fail
      go_ret
      exact ⟨rfl, HB7.out⟩
    · have hTe := HT1.out h0
      subst hTe
      have tq2 : (q != 0) = true := by rw [bne_iff_ne]; exact h0
      clear h0
      go_wp2_with fail
      go_ret
      exact ⟨rfl, HB5.out⟩
theorem pointBack_walk (t u : Int) (a0 : Option Addr) (n c : Nat) (a1 : Option Addr) (m e : Nat) (P : List Pla) (G : List Int) (s : ByteArray) (w : World) (_w0 : (Lit.int .i64 t).wf = true) (_z1 : (Lit.int .i64 u).wf = true) (h : Pls w a0 n c P) (h' : Its w a1 m e G) (_w2 : s.size ≤ maxLen) (z2 : s.data.toList.length ≤ reachBytes) (hT : Tab w) :
    Calls Tryd.prog 7 #[.int .i64 t, .agg #[.int .i64 u, .slice a0 n c, .slice a1 m e], .string s] w fun z w' => z = .returned (.bool true) ∧ Below w.heap.size w w' := by
  have hr := reachBytes_lt
  have e0 : s.data.toList.length = s.size := by rw [Array.length_toList]; rfl
  exact pointBack_at t u a0 n c a1 m e P G s w hT h h' (by omega)
end Go.Proofs.YtbakgobgjfhhhaaDoor

/- Two check points on a disk of four cells: kit. -/
namespace Go.Proofs.YtbakgobgjfhhhaaDoor
open Go.RowKit

theorem infoStrT : (Tryd.prog.info? 9).map (fun i => (i.zero, i.size, i.bytes)) = some (some (.string ⟨#[]⟩), 1, 16) := by kernel_rfl
theorem make_four (w : World) : (Instr.makeSlice 36 (.int .i64 4) (.int .i64 4)).run Tryd.prog w = .ok (.slice (some ⟨w.heap.size, 0, none⟩) 4 4) (w.alloc (.cells #[.string ⟨#[]⟩, .string ⟨#[]⟩, .string ⟨#[]⟩, .string ⟨#[]⟩] 9)) := by
  have h := run_make_row' (P := Tryd.prog) 36 9 (.string ⟨#[]⟩) 16 Tryd.underlying36 infoStrT rfl .i64 .i64 4 (by omega) (by omega) w
  rw [show madeCells #[.string ⟨#[]⟩] 4 = #[.string ⟨#[]⟩, .string ⟨#[]⟩, .string ⟨#[]⟩, .string ⟨#[]⟩] from Array.toList_inj.1 (by kernel_rfl)] at h
  exact h
/-- the four cells: s at i, t at the other of the first two -/
def twC (i : Nat) (s t : ByteArray) : List ByteArray := if i = 0 then [s, t, ⟨#[]⟩, ⟨#[]⟩] else [t, s, ⟨#[]⟩, ⟨#[]⟩]
def twV (i : Nat) (s t : ByteArray) : List Value := (twC i s t).map .string
theorem twC_len (i : Nat) (s t : ByteArray) : (twC i s t).length = 4 := by unfold twC; split <;> rfl
theorem twC_chk {i : Nat} {s t : ByteArray} (hs : s.size ≤ 1024) (ht : t.size ≤ 1024) : chkD (twC i s t) [] = 0 := by
  have he : ¬ 1024 < (⟨#[]⟩ : ByteArray).size := by decide
  have n1 : ¬ 1024 < s.size := by omega
  have n2 : ¬ 1024 < t.size := by omega
  unfold chkD
  rw [twC_len, if_neg (by omega)]
  have hc : celE (twC i s t) = 0 := by
    unfold twC
    split
    · simp only [celE, if_neg n1, if_neg n2, if_neg he]
    · simp only [celE, if_neg n1, if_neg n2, if_neg he]
  rw [if_pos hc]
  rfl
theorem cel_nil (C : List ByteArray) (k : Nat) : cel C [] k = C.getD k ⟨#[]⟩ := rfl
theorem nwM_four (i : Nat) (s t : ByteArray) : nwM (twC i s t).length = 2 := by rw [twC_len]; rfl
theorem twC_nw {i : Nat} (hi : i = 0 ∨ i = 1) {s t : ByteArray} (hs : s.size ≤ 1024) (ht : t.size ≤ 1024) : nwD (twC i s t) [] = if i = 0 then nwS (rdPt s.data.toList) t.data.toList else nwS (rdPt t.data.toList) s.data.toList := by
  unfold nwD
  rw [if_pos (twC_chk hs ht), nwM_four]
  show nwS (nwS none (cel (twC i s t) [] 0).data.toList) (cel (twC i s t) [] 1).data.toList = _
  rw [nwS_first, cel_nil, cel_nil]
  rcases hi with rfl | rfl
  · rfl
  · rfl
theorem twC_err {i : Nat} {s t : ByteArray} {v : Int × Int × List Pla × List Int} (hs : s.size ≤ 1024) (ht : t.size ≤ 1024) (h : nwD (twC i s t) [] = some v) : nwE (twC i s t) [] = 0 := by
  unfold nwD at h
  rw [if_pos (twC_chk hs ht)] at h
  unfold nwE
  rw [if_pos (twC_chk hs ht), h]
  rfl
/-- both may be read: the later one is the newest -/
theorem tw_both {i : Nat} (hi : i = 0 ∨ i = 1) {s t : ByteArray} {x : Int} {r r' : Int × List Pla × List Int} (hs : s.size ≤ 1024) (ht : t.size ≤ 1024) (h1 : rdPt s.data.toList = some (x, r)) (h2 : rdPt t.data.toList = some (x + 1, r')) : nwD (twC i s t) [] = some (x + 1, r') := by
  rw [twC_nw hi hs ht]
  rcases hi with rfl | rfl
  · rw [if_pos rfl, h1, nwS_some h2, if_pos]
    rw [nwI_some]; simp only; omega
  · rw [if_neg (by omega), h2, nwS_some h1, if_neg]
    rw [nwI_some]; simp only; omega
/-- one may be read -/
theorem tw_one {i : Nat} (hi : i = 0 ∨ i = 1) {s t : ByteArray} {v : Int × Int × List Pla × List Int} (hs : s.size ≤ 1024) (ht : t.size ≤ 1024) (h1 : rdPt s.data.toList = some v) (h2 : rdPt t.data.toList = none) : nwD (twC i s t) [] = some v := by
  rw [twC_nw hi hs ht]
  rcases hi with rfl | rfl
  · rw [if_pos rfl, nwS_none h2, h1]
  · rw [if_neg (by omega), h2, nwS_first, h1]
/-- a text is stored at i, another at the other place -/
theorem tw_set {X : World} {g i : Nat} {s t s' t' : ByteArray} (h : BoxV X g (twV i s t)) (hi : i = 0 ∨ i = 1) : BoxV (X.setCell ⟨g, i, none⟩ (.string s')) g (twV i s' t) ∧ BoxV (X.setCell ⟨g, 1 - i, none⟩ (.string t')) g (twV i s t') := by
  rcases hi with rfl | rfl
  · exact ⟨h.set 0 (.string s') (by simp [twV, twC_len]), h.set 1 (.string t') (by simp [twV, twC_len])⟩
  · exact ⟨h.set 1 (.string s') (by simp [twV, twC_len]), h.set 0 (.string t') (by simp [twV, twC_len])⟩
theorem tw_cell {X : World} {g i : Nat} {s t : ByteArray} (h : BoxV X g (twV i s t)) (hi : i = 0 ∨ i = 1) : X.cell? ⟨g, i, none⟩ = some (.string s) ∧ X.cell? ⟨g, 1 - i, none⟩ = some (.string t) ∧ X.frozen? ⟨g, i, none⟩ = false ∧ X.frozen? ⟨g, 1 - i, none⟩ = false := by
  have hl : (twV i s t).length = 4 := by simp [twV, twC_len]
  rcases hi with rfl | rfl
  · exact ⟨h.c 0 _ rfl, h.c 1 _ rfl, h.f 0 (by omega), h.f 1 (by omega)⟩
  · exact ⟨h.c 1 _ rfl, h.c 0 _ rfl, h.f 1 (by omega), h.f 0 (by omega)⟩
/-- the four cells are a disk -/
theorem tw_dk {X : World} {g i : Nat} {s t : ByteArray} (h : BoxV X g (twV i s t)) (hs : s.size ≤ 1024) (ht : t.size ≤ 1024) : Dk X (some ⟨g, 0, none⟩) 4 none 0 (twC i s t) [] := by
  refine ⟨twC_len i s t, rfl, by omega, by omega, ⟨by simp [stC, twC_len], fun _ => ⟨g, 0, rfl, h.lt, fun j u hj => by rw [Nat.zero_add]; exact h.c j u hj⟩⟩, Rd.nil _ _ _, fun p hp => (by cases hp), fun x hx => ?_, fun p hp => (by cases hp)⟩
  have he : (⟨#[]⟩ : ByteArray).size = 0 := rfl
  unfold twC at hx
  split at hx
  · simp only [List.mem_cons, List.not_mem_nil, or_false] at hx
    rcases hx with rfl | rfl | rfl | rfl <;> omega
  · simp only [List.mem_cons, List.not_mem_nil, or_false] at hx
    rcases hx with rfl | rfl | rfl | rfl <;> omega
theorem rem_two (n : Nat) : ∃ i, (i = 0 ∨ i = 1) ∧ Int.tmod (n : Int) 2 = (i : Nat) ∧ Int.tmod ((n : Int) + 1) 2 = ((1 - i : Nat) : Int) := by
  refine ⟨n % 2, by omega, ?_, ?_⟩
  · rw [Int.tmod_eq_emod_of_nonneg (by omega)]; omega
  · rw [Int.tmod_eq_emod_of_nonneg (by omega)]; omega
end Go.Proofs.YtbakgobgjfhhhaaDoor
