/- The law ImapBack, walked. -/
import Derived.Test.YtbailfianjmflabImReadWalks
import Derived.Test.YtbailfianjmflabImWriteWalks
import Derived.Test.YtbailfianjmflabSameImWalks
namespace Go.Proofs.Ytbailfianjmflab
open Go.RowKit

theorem fresh_tx : (imB frA frG).length = 144 := by decide +kernel
set_option maxRecDepth 20000 in
set_option maxHeartbeats 3200000 in
theorem imapBack_at (a0 : Option Addr) (n c : Nat) (a1 : Option Addr) (m e : Nat) (P : List Pla) (G : List Int) (s : ByteArray) (w : World) (h : Pls w a0 n c P) (h' : Its w a1 m e G) (hs : s.size ≤ 140737488355328) :
    Calls Try.prog 4 #[.agg #[.slice a0 n c, .slice a1 m e], .string s] w fun z w' => z = .returned (.bool true) ∧ Below w.heap.size w w' := by
  have HI := Hid.mk' (fun w h h' => imwrite_any a0 n c a1 m e P G w h h')
  obtain ⟨T, hT⟩ : ∃ T, Hid (wmT P G = T) := ⟨_, Hid.mk' rfl⟩
  obtain ⟨q, hq⟩ : ∃ q, Hid (chkM P G = q) := ⟨_, Hid.mk' rfl⟩
  have HT0 : Hid (q = 0 → T.size ≤ 400 ∧ rdP T.data.toList = P ∧ rdG T.data.toList = G ∧ rdME T.data.toList = 0) := fun h0 => by
    have hc := hq.out.trans h0
    have e : T = txp (imB P G) := by rw [← hT.out]; exact wmT_ok hc
    have hr := readM_back (chkM_ok hc)
    refine ⟨?_, ?_⟩
    · rw [e, txp_size]
      have := imK_len (chkM_ok hc) 48 (by omega)
      show (imK P G 48).length ≤ 400
      omega
    · rw [e, txp_list]
      exact rdM_yes hr
  have HT1 : Hid (q ≠ 0 → T = ⟨#[]⟩) := fun h0 => by
    rw [← hT.out]
    exact wmT_no (by rw [hq.out]; exact h0)
  rw [hT.out, hq.out] at HI
  obtain ⟨F, hF⟩ : ∃ T, Hid (wmT frA frG = T) := ⟨_, Hid.mk' rfl⟩
  have hFz : F.size = 144 := by rw [← hF.out, wmT_ok (chkM_yes fresh_ok), txp_size]; exact fresh_tx
  have tF : ((F.size : Int) != 144) = false := by rw [hFz]; rfl
  have hm0 := MapAt.new h h' 36
  have hb0 := below_boxP (w := w) #[.slice a0 n c, .slice a1 m e] 36
  obtain ⟨W0, hW0⟩ : ∃ W, Hid (w.alloc (.cells #[.slice a0 n c, .slice a1 m e] 36) = W) := ⟨_, Hid.mk' rfl⟩
  rw [hW0.out] at hm0 hb0
  have HM := Hid.mk' hm0
  have HB := Hid.mk' hb0
  clear hm0 hb0 h h'
  go_enter Try.func4, Try.ntmps4
  go_wp2_with fail
  rw [hW0.out]
  refine (fresh_any W0).mono ?_
  rintro z w1 ⟨hfr, hb⟩
  obtain ⟨fa, fc, fb, fe, rfl, hf1, hf2⟩ := fresh_maps hfr
  have HM1 := Hid.mk' (HM.out.below hb)
  have HB1 := Hid.mk' (HB.out.trans (hb.mono HB.out.size))
  have HF1 := Hid.mk' hf1
  have HF2 := Hid.mk' hf2
  clear hb hfr hf1 hf2
  go_wp2_with fail
  refine (imwrite_any fa 48 fc fb 48 fe frA frG w1 HF1.out HF2.out).mono ?_
  rintro z w2 ⟨rfl, hb⟩
  rw [hF.out, chkM_yes fresh_ok]
  have HM2 := Hid.mk' (HM1.out.below hb)
  have HB2 := Hid.mk' (HB1.out.trans (hb.mono HB1.out.size))
  clear hb HF1 HF2
  go_wp2_with fail
  obtain ⟨J, hJ⟩ : ∃ I, Hid (rdP s.data.toList = I) := ⟨_, Hid.mk' rfl⟩
  obtain ⟨K, hK⟩ : ∃ I, Hid (rdG s.data.toList = I) := ⟨_, Hid.mk' rfl⟩
  obtain ⟨r, hr⟩ : ∃ q, Hid (rdME s.data.toList = q) := ⟨_, Hid.mk' rfl⟩
  refine (imread_any s w2 hs).mono ?_
  rintro z w3 ⟨⟨x0, xc, x1, xe, rfl, h1, h2⟩, hb3⟩
  rw [hJ.out] at h1
  rw [hK.out] at h2
  rw [hJ.out, hK.out, hr.out]
  have hbx := below_boxP (w := w3) #[.slice x0 J.length xc, .slice x1 K.length xe] 36
  have hbb := hb3.trans (hbx.mono hb3.size)
  have HX3 := Hid.mk' (MapAt.new h1 h2 36)
  have HB3 := Hid.mk' (HB2.out.trans (hbb.mono HB2.out.size))
  have HM3 := Hid.mk' (HM2.out.below hbb)
  obtain ⟨W3, hW3⟩ : ∃ W, Hid (w3.alloc (.cells #[.slice x0 J.length xc, .slice x1 K.length xe] 36) = W) := ⟨_, Hid.mk' rfl⟩
  rw [hW3.out] at HX3 HB3 HM3
  clear h1 h2 hb3 hbx hbb
  have d0 := HM3.out.c0
  have d1 := HM3.out.c1
  by_cases hr0 : r = 0
  · subst hr0
    have hrI : readM s.data.toList = some (J, K) := by
      cases hh : readM s.data.toList with
      | none => have := (rdM_no hh).2.2; rw [hr.out] at this; simp at this
      | some v =>
        obtain ⟨P2, G2⟩ := v
        rw [← hJ.out, ← hK.out, (rdM_yes hh).1, (rdM_yes hh).2.1]
    have hinv := readM_inv hrI
    have hJ0 : Hid (chkM J K = 0) := hinv.1
    have hJT : Hid (wmT J K = s) := by
      show _ = _
      rw [wmT_ok hinv.1, hinv.2]
      apply bytes_ext
      rfl
    have tq : (s.toList == s.toList) = true := by simp
    clear hrI hinv
    go_wp2_with fail
    rw [hW3.out]
    go_wp2_with fail
    refine (imwrite_any x0 J.length xc x1 K.length xe J K W3 HX3.out.pl HX3.out.it).mono ?_
    rintro z w4 ⟨rfl, hb⟩
    rw [hJ0.out, hJT.out]
    have HBt := Hid.mk' (HB3.out.trans (hb.mono HB3.out.size))
    have HMt := Hid.mk' (HM3.out.below hb)
    have d0 := HMt.out.c0
    have d1 := HMt.out.c1
    clear hb
    go_wp2_with fail
    refine (HI.out _ HMt.out.pl HMt.out.it).mono ?_
    rintro z w5 ⟨rfl, hb⟩
    have HB5 := Hid.mk' (HBt.out.trans (hb.mono HBt.out.size))
    have HM5 := Hid.mk' (HMt.out.below hb)
    clear hb
    by_cases h0 : q = 0
    · have hT2 := HT0.out h0
      subst h0
      go_wp2_with fail
      refine (imread_any T w5 (by omega)).mono ?_
      rintro z w6 ⟨⟨y0, yc, y1, ye, rfl, h1, h2⟩, hb6⟩
      rw [hT2.2.1] at h1
      rw [hT2.2.2.1] at h2
      rw [hT2.2.1, hT2.2.2.1, hT2.2.2.2]
      have hbx := below_boxP (w := w6) #[.slice y0 P.length yc, .slice y1 G.length ye] 36
      have hbb := hb6.trans (hbx.mono hb6.size)
      have HY6 := Hid.mk' (MapAt.new h1 h2 36)
      have HB6 := Hid.mk' (HB5.out.trans (hbb.mono HB5.out.size))
      have HM6 := Hid.mk' (HM5.out.below hbb)
      have d0 := HM6.out.c0
      have d1 := HM6.out.c1
      clear h1 h2 hb6 hbx hbb hT2
      go_wp2_with fail
      refine (sameim_yes a0 n c a1 m e y0 P.length yc y1 G.length ye P G _ HM6.out.pl HM6.out.it HY6.out.pl HY6.out.it).mono ?_
      rintro z w7 ⟨rfl, hb⟩
      have HB7 := Hid.mk' (HB6.out.trans (hb.mono HB6.out.size))
      clear hb
      go_wp2_with fail
      go_ret
      exact ⟨rfl, HB7.out⟩
    · have hTe := HT1.out h0
      subst hTe
      have tq2 : (q != 0) = true := by rw [bne_iff_ne]; exact h0
      clear h0
      go_wp2_with fail
      go_ret
      exact ⟨rfl, HB5.out⟩
  · have tq : (r == 0) = false := by rw [beq_eq_false_iff_ne]; exact hr0
    have HBt := HB3
    have HMt := HM3
    rw [← hW3.out] at d0 d1
    clear hr0
    go_wp2_with fail
    rw [hW3.out]
    refine (HI.out _ HMt.out.pl HMt.out.it).mono ?_
    rintro z w5 ⟨rfl, hb⟩
    have HB5 := Hid.mk' (HBt.out.trans (hb.mono HBt.out.size))
    have HM5 := Hid.mk' (HMt.out.below hb)
    clear hb
    by_cases h0 : q = 0
    · have hT2 := HT0.out h0
      subst h0
      go_wp2_with fail
      refine (imread_any T w5 (by omega)).mono ?_
      rintro z w6 ⟨⟨y0, yc, y1, ye, rfl, h1, h2⟩, hb6⟩
      rw [hT2.2.1] at h1
      rw [hT2.2.2.1] at h2
      rw [hT2.2.1, hT2.2.2.1, hT2.2.2.2]
      have hbx := below_boxP (w := w6) #[.slice y0 P.length yc, .slice y1 G.length ye] 36
      have hbb := hb6.trans (hbx.mono hb6.size)
      have HY6 := Hid.mk' (MapAt.new h1 h2 36)
      have HB6 := Hid.mk' (HB5.out.trans (hbb.mono HB5.out.size))
      have HM6 := Hid.mk' (HM5.out.below hbb)
      have d0 := HM6.out.c0
      have d1 := HM6.out.c1
      clear h1 h2 hb6 hbx hbb hT2
      go_wp2_with fail
      refine (sameim_yes a0 n c a1 m e y0 P.length yc y1 G.length ye P G _ HM6.out.pl HM6.out.it HY6.out.pl HY6.out.it).mono ?_
      rintro z w7 ⟨rfl, hb⟩
      have HB7 := Hid.mk' (HB6.out.trans (hb.mono HB6.out.size))
      clear hb
      go_wp2_with fail
      go_ret
      exact ⟨rfl, HB7.out⟩
    · have hTe := HT1.out h0
      subst hTe
      have tq2 : (q != 0) = true := by rw [bne_iff_ne]; exact h0
      clear h0
      go_wp2_with fail
      go_ret
      exact ⟨rfl, HB5.out⟩
theorem imapBack_walk (a0 : Option Addr) (n c : Nat) (a1 : Option Addr) (m e : Nat) (P : List Pla) (G : List Int) (s : ByteArray) (w : World) (h : Pls w a0 n c P) (h' : Its w a1 m e G) (_w1 : s.size ≤ maxLen) (z1 : s.data.toList.length ≤ reachBytes) :
    Calls Try.prog 4 #[.agg #[.slice a0 n c, .slice a1 m e], .string s] w fun z w' => z = .returned (.bool true) ∧ Below w.heap.size w w' := by
  have hr := reachBytes_lt
  have e0 : s.data.toList.length = s.size := by rw [Array.length_toList]; rfl
  exact imapBack_at a0 n c a1 m e P G s w h h' (by omega)
end Go.Proofs.Ytbailfianjmflab
