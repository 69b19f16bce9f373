/- What imap.Set answers. -/
import Derived.Test.YtbailfianjmflabImTakeWalks
import Derived.Test.YtbailfianjmflabCopyImWalks
import Derived.Test.YtbailfianjmflabOwnImSet
namespace Go.Proofs.Ytbailfianjmflab
open Go.RowKit

/-- what Set answers: an error, and the map's lists -/
def stE (P : List Pla) (G : List Int) (n : Int) (p : Pla) : Int := if chkM P G ≠ 0 then chkM P G else if numM n = true ∧ rtB p = true ∧ nonB p = false then 0 else 1
def stP (P : List Pla) (G : List Int) (n : Int) (p : Pla) : List Pla := if stE P G n p = 0 then P.set n.toNat p else []
def stG (P : List Pla) (G : List Int) (n : Int) (p : Pla) : List Int := if stE P G n p = 0 then G else []
theorem stE_chk {P : List Pla} {G : List Int} {n : Int} {p : Pla} (h : chkM P G ≠ 0) : stE P G n p = chkM P G := if_pos h
theorem stE_bad {P : List Pla} {G : List Int} {n : Int} {p : Pla} (h0 : chkM P G = 0) (h : ¬ (numM n = true ∧ rtB p = true ∧ nonB p = false)) : stE P G n p = 1 := by
  unfold stE; rw [if_neg (fun hh => hh h0), if_neg h]
theorem stE_ok {P : List Pla} {G : List Int} {n : Int} {p : Pla} (h0 : chkM P G = 0) (h : numM n = true ∧ rtB p = true ∧ nonB p = false) : stE P G n p = 0 := by
  unfold stE; rw [if_neg (fun hh => hh h0), if_pos h]
/-- an answered map with an error -/
def ImA (w' : World) (N : Nat) (P : List Pla) (G : List Int) (q : Int) (z : Ending) : Prop := ∃ u v, z = .returned (.tuple #[.agg #[u, v], .int .i64 q]) ∧ OwnIm w' N u v P.length G.length P G
theorem imA_nil {w' : World} {N : Nat} {q : Int} : ImA w' N [] [] q (.returned (.tuple #[.agg #[.slice none 0 0, .slice none 0 0], .int .i64 q])) := ⟨_, _, rfl, OwnIm.nil _ _⟩
theorem imA_set {w' : World} {N : Nat} {P : List Pla} {G : List Int} {n : Int} {p : Pla} {q : Int} (h : stE P G n p = q) (hq : q ≠ 0) {z : Ending} (hz : z = .returned (.tuple #[.agg #[.slice none 0 0, .slice none 0 0], .int .i64 q])) : ImA w' N (stP P G n p) (stG P G n p) (stE P G n p) z := by
  subst hz
  unfold stP stG
  rw [h, if_neg hq, if_neg hq]
  exact imA_nil
theorem cell_ne {X : World} {g b k j : Nat} {v : Value} (h : X.cell? ⟨g, k, none⟩ = some v) (hne : b ≠ g) (a : Value) : (X.setCell ⟨b, j, none⟩ a).cell? ⟨g, k, none⟩ = some v := by
  rw [World.cell?_setCell_other _ _ _ _ (fun e => by simp only [Addr.mk.injEq] at e; omega)]
  exact h
set_option maxRecDepth 20000 in
set_option maxHeartbeats 6400000 in
theorem imset_any (a0 : Option Addr) (n c : Nat) (a1 : Option Addr) (m e : Nat) (P : List Pla) (G : List Int) (x : Int) (p : Pla) (w : World) (h : Pls w a0 n c P) (h' : Its w a1 m e G) :
    Calls Try.prog 15 #[.agg #[.slice a0 n c, .slice a1 m e], .int .i64 x, .agg #[.int .i64 p.cl, .int .i64 p.nh]] w fun z w' => ImA w' w.heap.size (stP P G x p) (stG P G x p) (stE P G x p) z ∧ Below w.heap.size w w' := by
  have H1 := Hid.mk' (fun w => right_any p w)
  have H2 := Hid.mk' (fun w => none_any p w)
  obtain ⟨rt, hrt⟩ : ∃ q, Hid (rtB p = q) := ⟨_, Hid.mk' rfl⟩
  obtain ⟨no, hno⟩ : ∃ q, Hid (nonB p = q) := ⟨_, Hid.mk' rfl⟩
  rw [hrt.out] at H1
  rw [hno.out] at H2
  have HBX := Hid.mk' (fun w => bxPl w p 29)
  obtain ⟨pc, pn⟩ := p
  simp only at H1 H2 HBX ⊢
  have hv := boxV_new w [.slice a0 n c, .slice a1 m e] 36
  have hb := below_boxP (w := w) #[.slice a0 n c, .slice a1 m e] 36
  have hs : (w.alloc (.cells #[.slice a0 n c, .slice a1 m e] 36)).heap.size = w.heap.size + 1 := by simp
  obtain ⟨Wa, hWa⟩ : ∃ W, Hid (w.alloc (.cells #[.slice a0 n c, .slice a1 m e] 36) = W) := ⟨_, Hid.mk' rfl⟩
  have e0 : (w.alloc (.cells [.slice a0 n c, .slice a1 m e].toArray 36)) = Wa := hWa.out
  rw [e0] at hv
  rw [hWa.out] at hb hs
  have hva := (hv.alloc (.cells #[.int .i64 pc, .int .i64 pn] 29)).alloc (.cells #[.slice none 0 0, .slice none 0 0] 36)
  have hxa := (HBX.out Wa).below (below_boxP (w := Wa.alloc (.cells #[.int .i64 pc, .int .i64 pn] 29)) #[.slice none 0 0, .slice none 0 0] 36)
  have hra := boxV_new (Wa.alloc (.cells #[.int .i64 pc, .int .i64 pn] 29)) [.slice none 0 0, .slice none 0 0] 36
  have hba := (hb.alloc (by omega) (.cells #[.int .i64 pc, .int .i64 pn] 29)).alloc (by simp; omega) (.cells #[.slice none 0 0, .slice none 0 0] 36)
  rw [show (Wa.alloc (.cells #[.int .i64 pc, .int .i64 pn] 29)).heap.size = w.heap.size + 2 by simp; omega] at hra
  rw [hs] at hxa
  have hsa : ((Wa.alloc (.cells #[.int .i64 pc, .int .i64 pn] 29)).alloc (.cells #[.slice none 0 0, .slice none 0 0] 36)).heap.size = w.heap.size + 3 := by simp; omega
  obtain ⟨W0, hW0⟩ : ∃ W, Hid ((Wa.alloc (.cells #[.int .i64 pc, .int .i64 pn] 29)).alloc (.cells #[.slice none 0 0, .slice none 0 0] 36) = W) := ⟨_, Hid.mk' rfl⟩
  have HV : Hid (BoxV W0 w.heap.size [.slice a0 n c, .slice a1 m e]) := by rw [← hW0.out]; exact hva
  have HX : Hid (BxPl W0 (w.heap.size + 1) ⟨pc, pn⟩) := by rw [← hW0.out]; exact hxa
  have HR : Hid (BoxV W0 (w.heap.size + 2) [.slice none 0 0, .slice none 0 0]) := by rw [← hW0.out]; exact hra
  have HB : Hid (Below w.heap.size w W0) := by rw [← hW0.out]; exact hba
  rw [hW0.out] at hsa
  have hs0 := Hid.mk' hsa
  have HL := Hid.mk' (h.below HB.out)
  have HG := Hid.mk' (h'.below HB.out)
  have hnL := Hid.mk' h.nL
  have hmL := Hid.mk' h'.nL
  have hck := Hid.mk' (fun w h h' => imcheck_any a0 n c a1 m e P G w h h')
  obtain ⟨q, hq⟩ : ∃ q, Hid (chkM P G = q) := ⟨_, Hid.mk' rfl⟩
  rw [hq.out] at hck
  have HNL := Hid.mk' h
  clear h h' hv hb hs e0 hva hxa hra hba hsa HBX
  go_enter Try.func15, Try.ntmps15
  go_wp2_with fail
  rw [hWa.out, hW0.out]
  refine (hck.out W0 HL.out HG.out).mono ?_
  rintro z w1 ⟨rfl, hb⟩
  have HV1 := Hid.mk' (HV.out.below hb)
  have HX1 := Hid.mk' (HX.out.below hb)
  have HR1 := Hid.mk' (HR.out.below hb)
  have HL1 := Hid.mk' (HL.out.below hb)
  have HG1 := Hid.mk' (HG.out.below hb)
  have HB1 := Hid.mk' (HB.out.trans (hb.mono HB.out.size))
  have hz1 : w.heap.size + 3 ≤ w1.heap.size := by have := hb.size; have := hs0.out; omega
  have r0 := HR1.out.c 0 _ rfl
  have r1 := HR1.out.c 1 _ rfl
  have f0 := HR1.out.f 0 (by simp)
  have f1 := HR1.out.f 1 (by simp)
  have hRS : Hid (∀ X : World, BoxV X (w.heap.size + 2) [.slice none 0 0, .slice none 0 0] → BoxV ((X.setCell ⟨w.heap.size + 2, 0, none⟩ (.slice none 0 0)).setCell ⟨w.heap.size + 2, 1, none⟩ (.slice none 0 0)) (w.heap.size + 2) [.slice none 0 0, .slice none 0 0]) := fun X h => h.set2M _ _
  have hBS : Hid (∀ X : World, Below w.heap.size w X → Below w.heap.size w ((X.setCell ⟨w.heap.size + 2, 0, none⟩ (.slice none 0 0)).setCell ⟨w.heap.size + 2, 1, none⟩ (.slice none 0 0))) := fun X h => (h.setCell (by show w.heap.size ≤ w.heap.size + 2; omega) _).setCell (by show w.heap.size ≤ w.heap.size + 2; omega) _
  clear hb
  by_cases h0 : q = 0
  rotate_left
  · have tq : (q != 0) = true := by rw [bne_iff_ne]; exact h0
    have HN := Hid.mk' h0
    clear h0
    go_wp2_with fail
    refine bodyPost_ret (results_boxV2M rfl _ _ (w.heap.size + 2) 2 _ _ rfl rfl (hRS.out w1 HR1.out) rfl infoSzIm (aggIm _)) rfl ⟨imA_set (by rw [stE_chk (by rw [hq.out]; exact HN.out)]; exact hq.out) HN.out rfl, hBS.out _ HB1.out⟩
  subst h0
  have hnum := Hid.mk' (fun w => isnum_any x w)
  obtain ⟨nu, hnu⟩ : ∃ q, Hid (numM x = q) := ⟨_, Hid.mk' rfl⟩
  rw [hnu.out] at hnum
  cases nu with
  | false =>
    go_wp2_with fail
    refine (hnum.out w1).mono ?_
    rintro z w2 ⟨rfl, rfl⟩
    go_wp2_with fail
    refine bodyPost_ret (results_boxV2M rfl _ _ (w.heap.size + 2) 2 _ _ rfl rfl (hRS.out _ HR1.out) rfl infoSzIm (aggIm _)) rfl ⟨imA_set (stE_bad hq.out (by rw [hnu.out]; simp)) (by decide) rfl, hBS.out _ HB1.out⟩
  | true =>
    have d0 := HX1.out.c0
    have d1 := HX1.out.c1
    simp only at d0 d1
    go_wp2_with fail
    refine (hnum.out w1).mono ?_
    rintro z w2 ⟨rfl, rfl⟩
    go_wp2_with fail
    refine (H1.out _).mono ?_
    rintro z w3 ⟨rfl, hb⟩
    have HV3 := Hid.mk' (HV1.out.below hb)
    have HX3 := Hid.mk' (HX1.out.below hb)
    have HR3 := Hid.mk' (HR1.out.below hb)
    have HL3 := Hid.mk' (HL1.out.below hb)
    have HG3 := Hid.mk' (HG1.out.below hb)
    have HB3 := Hid.mk' (HB1.out.trans (hb.mono HB1.out.size))
    have hz3 : w.heap.size + 3 ≤ w3.heap.size := by have := hb.size; omega
    have r0 := HR3.out.c 0 _ rfl
    have r1 := HR3.out.c 1 _ rfl
    have f0 := HR3.out.f 0 (by simp)
    have f1 := HR3.out.f 1 (by simp)
    have d0 := HX3.out.c0
    have d1 := HX3.out.c1
    simp only at d0 d1
    clear hb
    cases rt with
    | false =>
      go_wp2_with fail
      refine bodyPost_ret (results_boxV2M rfl _ _ (w.heap.size + 2) 2 _ _ rfl rfl (hRS.out _ HR3.out) rfl infoSzIm (aggIm _)) rfl ⟨imA_set (stE_bad hq.out (by rw [hrt.out]; simp)) (by decide) rfl, hBS.out _ HB3.out⟩
    | true =>
      go_wp2_with fail
      refine (H2.out _).mono ?_
      rintro z w4 ⟨rfl, hb⟩
      have HV4 := Hid.mk' (HV3.out.below hb)
      have HX4 := Hid.mk' (HX3.out.below hb)
      have HR4 := Hid.mk' (HR3.out.below hb)
      have HL4 := Hid.mk' (HL3.out.below hb)
      have HG4 := Hid.mk' (HG3.out.below hb)
      have HB4 := Hid.mk' (HB3.out.trans (hb.mono HB3.out.size))
      have hz4 : w.heap.size + 3 ≤ w4.heap.size := by have := hb.size; omega
      have r0 := HR4.out.c 0 _ rfl
      have r1 := HR4.out.c 1 _ rfl
      have f0 := HR4.out.f 0 (by simp)
      have f1 := HR4.out.f 1 (by simp)
      have v0 := HV4.out.c 0 _ rfl
      have v1 := HV4.out.c 1 _ rfl
      clear hb
      cases no with
      | true =>
        go_wp2_with fail
        refine bodyPost_ret (results_boxV2M rfl _ _ (w.heap.size + 2) 2 _ _ rfl rfl (hRS.out _ HR4.out) rfl infoSzIm (aggIm _)) rfl ⟨imA_set (stE_bad hq.out (by rw [hno.out]; simp)) (by decide) rfl, hBS.out _ HB4.out⟩
      | false =>
        have hst : Hid (stE P G x ⟨pc, pn⟩ = 0) := stE_ok hq.out ⟨hnu.out, hrt.out, hno.out⟩
        have hok := chkM_ok hq.out
        have hn : n = 48 := by rw [← hnL.out]; exact hok.p
        have hm : m = 48 := by rw [← hmL.out]; exact hok.g
        subst hn hm
        have hxx : 0 ≤ x ∧ x < 48 := of_decide_eq_true hnu.out
        obtain ⟨k, rfl⟩ := Int.eq_ofNat_of_zero_le hxx.1
        have hk : k < 48 := by omega
        have hstP : Hid (stP P G (k : Int) ⟨pc, pn⟩ = P.set k ⟨pc, pn⟩) := by show _ = _; unfold stP; rw [hst.out, if_pos rfl]; rfl
        have hstG : Hid (stG P G (k : Int) ⟨pc, pn⟩ = G) := by show _ = _; unfold stG; rw [hst.out, if_pos rfl]
        clear hok hxx r0 r1 f0 f1
        go_wp2_with fail
        refine (copyim_any a0 48 c a1 48 e P G w4 HL4.out HG4.out).mono ?_
        rintro z w5 ⟨⟨u, v, rfl, ho⟩, hb⟩
        obtain ⟨gp, cp, gg, cg, rfl, rfl, k1, k2, k3, k4, k5⟩ := ho.blk (by omega) (by omega)
        have HO := Hid.mk' ho
        have HV5 := Hid.mk' (HV4.out.below hb)
        have HX5 := Hid.mk' (HX4.out.below hb)
        have HR5 := Hid.mk' (HR4.out.below hb)
        have HB5 := Hid.mk' (HB4.out.trans (hb.mono HB4.out.size))
        have hz5 : w.heap.size + 3 ≤ w5.heap.size := by have := hb.size; omega
        have v0 := HV5.out.c 0 _ rfl
        have v1 := HV5.out.c 1 _ rfl
        have vf0 := HV5.out.f 0 (by simp)
        have vf1 := HV5.out.f 1 (by simp)
        have d0 := HX5.out.c0
        have d1 := HX5.out.c1
        simp only at d0 d1
        have r0 := HR5.out.c 0 _ rfl
        have r1 := HR5.out.c 1 _ rfl
        have f0 := HR5.out.f 0 (by simp)
        have f1 := HR5.out.f 1 (by simp)
        obtain ⟨p0, p1, pf0, pf1⟩ := ho.cellP (k := k) hk
        have n1 : gp ≠ w.heap.size := by omega
        have n2 : gp ≠ w.heap.size + 1 := by omega
        have n3 : gp ≠ w.heap.size + 2 := by omega
        have n4 : w.heap.size ≠ gp := by omega
        have n5 : w.heap.size + 1 ≠ gp := by omega
        have n6 : w.heap.size + 2 ≠ gp := by omega
        have hO1 := (ho.setLow (a := ⟨w.heap.size, 0, none⟩) (by show w.heap.size < w4.heap.size; omega) (.slice (some ⟨gp, 0, none⟩) 48 cp)).setLow (a := ⟨w.heap.size, 1, none⟩) (by show w.heap.size < w4.heap.size; omega) (.slice (some ⟨gg, 0, none⟩) 48 cg)
        have hO2 := hO1.setP hk ⟨pc, pn⟩
        simp only at hO2
        have hO3 := Hid.mk' ((hO2.setLow (a := ⟨w.heap.size + 2, 0, none⟩) (by show w.heap.size + 2 < w4.heap.size; omega) (.slice (some ⟨gp, 0, none⟩) 48 cp)).setLow (a := ⟨w.heap.size + 2, 1, none⟩) (by show w.heap.size + 2 < w4.heap.size; omega) (.slice (some ⟨gg, 0, none⟩) 48 cg))
        have hR2 := Hid.mk' (((((HR5.out.other ⟨w.heap.size, 0, none⟩ (.slice (some ⟨gp, 0, none⟩) 48 cp) (by show w.heap.size ≠ w.heap.size + 2; omega)).other ⟨w.heap.size, 1, none⟩ (.slice (some ⟨gg, 0, none⟩) 48 cg) (by show w.heap.size ≠ w.heap.size + 2; omega)).other ⟨gp, k * 2, none⟩ (.int .i64 pc) n3).other ⟨gp, k * 2 + 1, none⟩ (.int .i64 pn) n3).set2M (.slice (some ⟨gp, 0, none⟩) 48 cp) (.slice (some ⟨gg, 0, none⟩) 48 cg))
        have hB2 := Hid.mk' ((((((HB5.out.setCell (p := ⟨w.heap.size, 0, none⟩) (Nat.le_refl _) (.slice (some ⟨gp, 0, none⟩) 48 cp)).setCell (p := ⟨w.heap.size, 1, none⟩) (Nat.le_refl _) (.slice (some ⟨gg, 0, none⟩) 48 cg)).setCell (p := ⟨gp, k * 2, none⟩) (by show w.heap.size ≤ gp; omega) (.int .i64 pc)).setCell (p := ⟨gp, k * 2 + 1, none⟩) (by show w.heap.size ≤ gp; omega) (.int .i64 pn)).setCell (p := ⟨w.heap.size + 2, 0, none⟩) (by show w.heap.size ≤ w.heap.size + 2; omega) (.slice (some ⟨gp, 0, none⟩) 48 cp)).setCell (p := ⟨w.heap.size + 2, 1, none⟩) (by show w.heap.size ≤ w.heap.size + 2; omega) (.slice (some ⟨gg, 0, none⟩) 48 cg))
        clear hb ho hO1 hO2
        go_wp2_with fail
        refine bodyPost_ret (results_boxV2M rfl _ _ (w.heap.size + 2) 2 _ _ rfl rfl hR2.out rfl infoSzIm (aggIm _)) rfl ⟨?_, hB2.out⟩
        rw [hst.out, hstP.out, hstG.out]
        refine ⟨_, _, rfl, ?_⟩
        rw [List.length_set, hnL.out, hmL.out]
        exact hO3.out.mono (by omega)
end Go.Proofs.Ytbailfianjmflab
