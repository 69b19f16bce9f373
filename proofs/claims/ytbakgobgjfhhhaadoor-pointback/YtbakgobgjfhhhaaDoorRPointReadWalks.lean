import Derived.Test.YtbakgobgjfhhhaaDoorPmap
import Derived.Test.YtbakgobgjfhhhaaDoorRUnsealWalks
import Derived.Test.YtbakgobgjfhhhaaDoorPmad
import Derived.Test.YtbakgobgjfhhhaaDoorRImReadWalks
import Derived.BigRegion

/- What linenref.ReadPoint answers. -/
namespace Go.Proofs.YtbakgobgjfhhhaaDoor
open Go.RowKit

set_option maxRecDepth 20000 in
set_option maxHeartbeats 3200000 in
theorem rreadpt_any (s : ByteArray) (w : World) (hs : s.size ≤ 140737488355328) :
    Calls Tryd.prog 12 #[.string s] w fun z w' => RdPA w.heap.size w' s.data.toList z ∧ Below w.heap.size w w' := by
  have HXr := boxV_new w [.int .i64 0, .slice none 0 0, .slice none 0 0] 27
  have hbr := below_boxP (w := w) #[.int .i64 0, .slice none 0 0, .slice none 0 0] 27
  have hsr : (w.alloc (.cells #[.int .i64 0, .slice none 0 0, .slice none 0 0] 27)).heap.size = w.heap.size + 1 := by simp
  obtain ⟨W0, hW0⟩ : ∃ W, Hid (w.alloc (.cells #[.int .i64 0, .slice none 0 0, .slice none 0 0] 27) = W) := ⟨_, Hid.mk' rfl⟩
  have e0 : (w.alloc (.cells [.int .i64 0, .slice none 0 0, .slice none 0 0].toArray 27)) = W0 := hW0.out
  rw [e0] at HXr
  rw [hW0.out] at hbr hsr
  have HR0 := Hid.mk' HXr
  have HB0 := Hid.mk' hbr
  have hs0 := Hid.mk' hsr
  obtain ⟨g, hg⟩ : ∃ g, Hid (w.heap.size = g) := ⟨_, Hid.mk' rfl⟩
  clear HXr hbr hsr e0
  rw [hg.out] at HR0 hs0
  obtain ⟨L, hL⟩ : ∃ L, Hid (s.data.toList = L) := ⟨_, Hid.mk' rfl⟩
  have hans := Hid.mk' (fun w => unseal_any s w hs)
  rw [hL.out]
  go_enter Tryd.func12, Tryd.ntmps12
  go_wp2_with fail
  rw [hW0.out, hg.out]
  refine (hans.out W0).mono ?_
  rintro z w1 ⟨hz, hb⟩
  have hz1 := opn_ans hz
  rw [hL.out] at hz1
  subst hz1
  have HR1 := Hid.mk' (HR0.out.below hb)
  have HB1 := Hid.mk' (HB0.out.trans (hb.mono HB0.out.size))
  have hs1 : g + 1 ≤ w1.heap.size := by have := hs0.out; have := hb.size; omega
  have HS1 := Hid.mk' hs1
  clear hb hz hs1
  have r0 := HR1.out.c 0 _ rfl
  have r1 := HR1.out.c 1 _ rfl
  have r2 := HR1.out.c 2 _ rfl
  have rf0 := HR1.out.f 0 (by simp)
  have rf1 := HR1.out.f 1 (by simp)
  have rf2 := HR1.out.f 2 (by simp)
  have hRS := Hid.mk' (HR1.out.set3P (.int .i64 0) (.slice none 0 0) (.slice none 0 0))
  have hBS := Hid.mk' (below_set3P (g := g) HB1.out (by rw [hg.out]; exact Nat.le_refl _) (.int .i64 0) (.slice none 0 0) (.slice none 0 0))
  by_cases h0 : opnE L = 0
  rotate_left
  · have hq := rdPE_open h0
    have hn := Hid.mk' hq.2
    have hp := Hid.mk' hq.1
    have ho : opn4 L = ((0, 0), (⟨#[]⟩, opnE L)) := by unfold opn4; rw [if_neg h0]
    rw [ho]
    have te : (opnE L != 0) = true := by rw [bne_iff_ne]; exact h0
    obtain ⟨q, hqq⟩ : ∃ q, Hid (opnE L = q) := ⟨_, Hid.mk' rfl⟩
    rw [hqq.out] at te hp
    rw [hqq.out]
    clear h0 hq ho
    go_wp2_with fail
    refine bodyPost_ret (results_pt3 rfl _ _ g 3 _ _ _ rfl rfl rfl hRS.out rfl infoSzPt (aggPt _)) rfl ⟨rdPA_no hn.out hp.out rfl, hBS.out⟩
  have ho : opn4 L = ((((kiS L : Nat) : Int), ((srS L : Nat) : Int)), (txS (bdS L), 0)) := by unfold opn4; rw [if_pos h0]
  rw [ho]
  have HO := Hid.mk' h0
  have hbz : (bdS L).length ≤ 1000 := by
    have := (opE_ok h0).1
    rw [bd_len this.1]; omega
  have hfail : Hid (rdPt L = none → rdPE L = 4) := fun h => rdPE_no HO.out h
  obtain ⟨D, hD⟩ : ∃ D, Hid (txS (bdS L) = D) := ⟨_, Hid.mk' rfl⟩
  have hDl : Hid (D.data.toList = bdS L) := by show _ = _; rw [← hD.out, txS_list]
  have HDz : Hid (D.size = (bdS L).length) := by show _ = _; rw [← hD.out, txS_size]
  obtain ⟨k, hk⟩ : ∃ k, Hid (kiS L = k) := ⟨_, Hid.mk' rfl⟩
  obtain ⟨r, hr⟩ : ∃ k, Hid (srS L = k) := ⟨_, Hid.mk' rfl⟩
  rw [hD.out, hk.out, hr.out]
  clear ho h0
  by_cases hk2 : k = 2
  rotate_left
  · have tk : ((k : Int) != 2) = true := by rw [bne_iff_ne]; omega
    have hn : Hid (rdPt L = none) := rdPt_bad (fun h => hk2 (by rw [← hk.out]; exact h.2.1))
    clear hk2
    go_wp2_with fail
    refine bodyPost_ret (results_pt3 rfl _ _ g 3 _ _ _ rfl rfl rfl hRS.out rfl infoSzPt (aggPt _)) rfl ⟨rdPA_no hn.out (hfail.out hn.out) rfl, hBS.out⟩
  subst hk2
  by_cases h4 : D.size < 4
  · have hn : Hid (rdPt L = none) := rdPt_bad (fun h => by have := h.2.2.1; have := HDz.out; omega)
    have t4 : decide ((D.size : Int) < 4) = true := decide_eq_true (by omega)
    go_wp2_with fail
    refine bodyPost_ret (results_pt3 rfl _ _ g 3 _ _ _ rfl rfl rfl hRS.out rfl infoSzPt (aggPt _)) rfl ⟨rdPA_no hn.out (hfail.out hn.out) rfl, hBS.out⟩
  have t4 : decide ((D.size : Int) < 4) = false := decide_eq_false (by omega)
  have h4' : 4 ≤ D.size := by omega
  obtain ⟨x, hx⟩ : ∃ x, Hid (D.extract 0 4 = x) := ⟨_, Hid.mk' rfl⟩
  obtain ⟨y, hy⟩ : ∃ x, Hid (D.extract 4 D.size = x) := ⟨_, Hid.mk' rfl⟩
  have hxl : Hid (x.data.toList = (bdS L).take 4) := by show _ = _; rw [← hx.out, ext_listS, List.drop_zero, hDl.out]
  have hyl : Hid (y.data.toList = (bdS L).drop 4) := by show _ = _; rw [← hy.out, ext_listP, hDl.out]
  have hxz : x.size ≤ 8 := by rw [← size_list, hxl.out, List.length_take]; omega
  have hyz : y.size ≤ 140737488355328 := by rw [← size_list, hyl.out, List.length_drop]; omega
  have hun := Hid.mk' (fun w => runfix_in x w hxz)
  rw [hxl.out] at hun
  have him := Hid.mk' (fun w => rreadimap_low y w hyz)
  rw [hyl.out] at him
  have hlt : unfN ((bdS L).take 4) < 4294967296 := by
    have h1 := unfN_lt ((bdS L).take 4)
    have e : ((bdS L).take 4).length = 4 := by rw [List.length_take]; have := HDz.out; omega
    rw [e] at h1
    exact h1
  obtain ⟨n, hn⟩ : ∃ n, Hid (unfN ((bdS L).take 4) = n) := ⟨_, Hid.mk' rfl⟩
  rw [hn.out] at hun hlt
  have hx' := hx.out
  have hy' := hy.out
  have HX := Hid.mk' (And.intro hx.out hy.out)
  go_wp2_with fail
  refine (him.out w1).mono ?_
  rintro z w3 ⟨⟨a, c, b, e, rfl, h1, h2, l1, l2⟩, hb⟩
  obtain ⟨P, hP⟩ : ∃ I, Hid (rdP ((bdS L).drop 4) = I) := ⟨_, Hid.mk' rfl⟩
  obtain ⟨G, hG⟩ : ∃ I, Hid (rdG ((bdS L).drop 4) = I) := ⟨_, Hid.mk' rfl⟩
  obtain ⟨q, hq⟩ : ∃ I, Hid (rdME ((bdS L).drop 4) = I) := ⟨_, Hid.mk' rfl⟩
  rw [hP.out] at h1
  rw [hG.out] at h2
  rw [hP.out, hG.out, hq.out]
  have hbx := below_boxP (w := w3) #[.slice a P.length c, .slice b G.length e] 25
  have hbb := hb.trans (hbx.mono hb.size)
  have H1 := Hid.mk' (h1.below hbx)
  have H2 := Hid.mk' (h2.below hbx)
  have HV := Hid.mk' (boxV_new w3 [.slice a P.length c, .slice b G.length e] 25)
  have HR3 := Hid.mk' (HR1.out.below hbb)
  have HB3 := Hid.mk' (HB1.out.trans (hbb.mono HB1.out.size))
  have L1 := Hid.mk' (l1.mono HS1.out)
  have L2 := Hid.mk' (l2.mono HS1.out)
  obtain ⟨gm, hgm⟩ : ∃ g, Hid (w3.heap.size = g) := ⟨_, Hid.mk' rfl⟩
  obtain ⟨W3, hW3⟩ : ∃ W, Hid (w3.alloc (.cells #[.slice a P.length c, .slice b G.length e] 25) = W) := ⟨_, Hid.mk' rfl⟩
  have e3 : (w3.alloc (.cells [.slice a P.length c, .slice b G.length e].toArray 25)) = W3 := hW3.out
  have hgne : g < gm := by have := HS1.out; have := hb.size; rw [← hgm.out]; omega
  rw [e3, hgm.out] at HV
  rw [hW3.out] at H1 H2 HR3 HB3
  clear hb h1 h2 l1 l2 hbx hbb r0 r1 r2 rf0 rf1 rf2 hRS hBS e3
  have r0 := HR3.out.c 0 _ rfl
  have r1 := HR3.out.c 1 _ rfl
  have r2 := HR3.out.c 2 _ rfl
  have rf0 := HR3.out.f 0 (by simp)
  have rf1 := HR3.out.f 1 (by simp)
  have rf2 := HR3.out.f 2 (by simp)
  have v0 := HV.out.c 0 _ rfl
  have v1 := HV.out.c 1 _ rfl
  have hRS := Hid.mk' (HR3.out.set3P (.int .i64 0) (.slice none 0 0) (.slice none 0 0))
  have hBS := Hid.mk' (below_set3P (g := g) HB3.out (by rw [hg.out]; exact Nat.le_refl _) (.int .i64 0) (.slice none 0 0) (.slice none 0 0))
  clear hy'
  go_wp2_with fail
  rw [hW3.out, hgm.out]
  refine (hun.out W3).mono ?_
  rintro z w4 ⟨rfl, hw4⟩
  subst hw4
  clear hx'
  by_cases hq0 : q = 0
  rotate_left
  · have tq : (q != 0) = true := by rw [bne_iff_ne]; exact hq0
    have hnn : Hid (rdPt L = none) := by
      show _ = _
      cases hh : readM ((bdS L).drop 4) with
      | none => exact rdPt_none hh
      | some v =>
        obtain ⟨P2, G2⟩ := v
        have := (rdM_yes hh).2.2
        rw [hq.out] at this
        exact absurd this hq0
    clear hq0
    go_wp2_with fail
    refine bodyPost_ret (results_pt3 rfl _ _ g 3 _ _ _ rfl rfl rfl hRS.out rfl infoSzPt (aggPt _)) rfl ⟨rdPA_no hnn.out (hfail.out hnn.out) rfl, hBS.out⟩
  subst hq0
  have hrd : Hid (readM ((bdS L).drop 4) = some (P, G)) := by
    show _ = _
    cases hh : readM ((bdS L).drop 4) with
    | none => have := (rdM_no hh).2.2; rw [hq.out] at this; simp at this
    | some v =>
      obtain ⟨P2, G2⟩ := v
      rw [← hP.out, ← hG.out, (rdM_yes hh).1, (rdM_yes hh).2.1]
  by_cases hn7 : 2147483647 < n
  · have tn : decide ((2147483647 : Int) < (n : Int)) = true := decide_eq_true (by omega)
    have hnn : Hid (rdPt L = none) := rdPt_bad (fun h => by have := h.2.2.2; rw [hn.out] at this; omega)
    go_wp2_with fail
    refine bodyPost_ret (results_pt3 rfl _ _ g 3 _ _ _ rfl rfl rfl hRS.out rfl infoSzPt (aggPt _)) rfl ⟨rdPA_no hnn.out (hfail.out hnn.out) rfl, hBS.out⟩
  have tn : decide ((2147483647 : Int) < (n : Int)) = false := decide_eq_false (by omega)
  have hyes : Hid (rdPt L = some ((r : Int), (n : Int), P, G)) := by
    have := rdPt_some HO.out hk.out (by have := HDz.out; omega) (by rw [hn.out]; omega) hrd.out
    rw [hr.out, hn.out] at this
    exact this
  have e7 : IntKind.i64.wrap (n : Int) = n := by rw [IntKind.wrap_i64]; omega
  have hRS2 := Hid.mk' (HR3.out.set3P (.int .i64 (n : Int)) (.slice a P.length c) (.slice b G.length e))
  have hBS2 := Hid.mk' (below_set3P (g := g) HB3.out (by rw [hg.out]; exact Nat.le_refl _) (.int .i64 (n : Int)) (.slice a P.length c) (.slice b G.length e))
  have HP2 := Hid.mk' (((H1.out.setLow (p := ⟨g, 0, none⟩) L1.out (Nat.lt_succ_self g) (.int .i64 (n : Int))).setLow (p := ⟨g, 1, none⟩) L1.out (Nat.lt_succ_self g) (.slice a P.length c)).setLow (p := ⟨g, 2, none⟩) L1.out (Nat.lt_succ_self g) (.slice b G.length e))
  have HG2 := Hid.mk' (((H2.out.setLow (p := ⟨g, 0, none⟩) L2.out (Nat.lt_succ_self g) (.int .i64 (n : Int))).setLow (p := ⟨g, 1, none⟩) L2.out (Nat.lt_succ_self g) (.slice a P.length c)).setLow (p := ⟨g, 2, none⟩) L2.out (Nat.lt_succ_self g) (.slice b G.length e))
  clear hn7 hRS hBS
  go_wp2_with fail
  go_region
  go_wp2_with fail
  refine bodyPost_ret (results_pt3 rfl _ _ g 3 _ _ _ rfl rfl rfl hRS2.out.drew rfl infoSzPt (aggPt _)) rfl ⟨rdPA_yes hyes.out rfl rfl rfl (HP2.out.below (Below.refl _ _).drew) (HG2.out.below (Below.refl _ _).drew) (L1.out.mono (by rw [hg.out]; omega)) (L2.out.mono (by rw [hg.out]; omega)), hBS2.out.drew⟩
end Go.Proofs.YtbakgobgjfhhhaaDoor
