/- What imap.Cut answers. -/
import Derived.Test.YtbailfianjmflabImSetWalks
namespace Go.Proofs.Ytbailfianjmflab
open Go.RowKit

/-- what Cut answers: an error, and the map's lists -/
def cuE (P : List Pla) (G : List Int) (n : Int) : Int := if chkM P G ≠ 0 then chkM P G else if numM n = false then 1 else if nonB (P.getD n.toNat noPl) = true then 12 else if G.getD n.toNat 0 = 2147483647 then 10 else 0
def cuP (P : List Pla) (G : List Int) (n : Int) : List Pla := if cuE P G n = 0 then P.set n.toNat noPl else []
def cuG (P : List Pla) (G : List Int) (n : Int) : List Int := if cuE P G n = 0 then G.set n.toNat (G.getD n.toNat 0 + 1) else []
theorem cuE_chk {P : List Pla} {G : List Int} {n : Int} (h : chkM P G ≠ 0) : cuE P G n = chkM P G := if_pos h
theorem cuE_num {P : List Pla} {G : List Int} {n : Int} (h0 : chkM P G = 0) (h : numM n = false) : cuE P G n = 1 := by
  unfold cuE; rw [if_neg (fun hh => hh h0), if_pos h]
theorem cuE_none {P : List Pla} {G : List Int} {n : Int} (h0 : chkM P G = 0) (h : numM n = true) (h1 : nonB (P.getD n.toNat noPl) = true) : cuE P G n = 12 := by
  unfold cuE; rw [if_neg (fun hh => hh h0), if_neg (by rw [h]; simp), if_pos h1]
theorem cuE_many {P : List Pla} {G : List Int} {n : Int} (h0 : chkM P G = 0) (h : numM n = true) (h1 : nonB (P.getD n.toNat noPl) = false) (h2 : G.getD n.toNat 0 = 2147483647) : cuE P G n = 10 := by
  unfold cuE; rw [if_neg (fun hh => hh h0), if_neg (by rw [h]; simp), if_neg (by rw [h1]; simp), if_pos h2]
theorem cuE_ok {P : List Pla} {G : List Int} {n : Int} (h0 : chkM P G = 0) (h : numM n = true) (h1 : nonB (P.getD n.toNat noPl) = false) (h2 : ¬ G.getD n.toNat 0 = 2147483647) : cuE P G n = 0 := by
  unfold cuE; rw [if_neg (fun hh => hh h0), if_neg (by rw [h]; simp), if_neg (by rw [h1]; simp), if_neg h2]
theorem imA_cut {w' : World} {N : Nat} {P : List Pla} {G : List Int} {n : Int} {q : Int} (h : cuE P G n = q) (hq : q ≠ 0) {z : Ending} (hz : z = .returned (.tuple #[.agg #[.slice none 0 0, .slice none 0 0], .int .i64 q])) : ImA w' N (cuP P G n) (cuG P G n) (cuE P G n) z := by
  subst hz
  unfold cuP cuG
  rw [h, if_neg hq, if_neg hq]
  exact imA_nil
set_option maxRecDepth 20000 in
set_option maxHeartbeats 6400000 in
theorem imcut_any (a0 : Option Addr) (n c : Nat) (a1 : Option Addr) (m e : Nat) (P : List Pla) (G : List Int) (x : Int) (w : World) (h : Pls w a0 n c P) (h' : Its w a1 m e G) :
    Calls Try.prog 17 #[.agg #[.slice a0 n c, .slice a1 m e], .int .i64 x] w fun z w' => ImA w' w.heap.size (cuP P G x) (cuG P G x) (cuE P G x) z ∧ Below w.heap.size w w' := by
  have hv := boxV_new w [.slice a0 n c, .slice a1 m e] 36
  have hb := below_boxP (w := w) #[.slice a0 n c, .slice a1 m e] 36
  have hs : (w.alloc (.cells #[.slice a0 n c, .slice a1 m e] 36)).heap.size = w.heap.size + 1 := by simp
  obtain ⟨Wa, hWa⟩ : ∃ W, Hid (w.alloc (.cells #[.slice a0 n c, .slice a1 m e] 36) = W) := ⟨_, Hid.mk' rfl⟩
  have e0 : (w.alloc (.cells [.slice a0 n c, .slice a1 m e].toArray 36)) = Wa := hWa.out
  rw [e0] at hv
  rw [hWa.out] at hb hs
  have hva := hv.alloc (.cells #[.slice none 0 0, .slice none 0 0] 36)
  have hra := boxV_new Wa [.slice none 0 0, .slice none 0 0] 36
  have hba := hb.alloc (by omega) (.cells #[.slice none 0 0, .slice none 0 0] 36)
  rw [hs] at hra
  have hsa : (Wa.alloc (.cells #[.slice none 0 0, .slice none 0 0] 36)).heap.size = w.heap.size + 2 := by simp; omega
  obtain ⟨W0, hW0⟩ : ∃ W, Hid (Wa.alloc (.cells #[.slice none 0 0, .slice none 0 0] 36) = W) := ⟨_, Hid.mk' rfl⟩
  have HV : Hid (BoxV W0 w.heap.size [.slice a0 n c, .slice a1 m e]) := by rw [← hW0.out]; exact hva
  have HR : Hid (BoxV W0 (w.heap.size + 1) [.slice none 0 0, .slice none 0 0]) := by rw [← hW0.out]; exact hra
  have HB : Hid (Below w.heap.size w W0) := by rw [← hW0.out]; exact hba
  rw [hW0.out] at hsa
  have hs0 := Hid.mk' hsa
  have HL := Hid.mk' (h.below HB.out)
  have HG := Hid.mk' (h'.below HB.out)
  have hnL := Hid.mk' h.nL
  have hmL := Hid.mk' h'.nL
  have hck := Hid.mk' (fun w h h' => imcheck_any a0 n c a1 m e P G w h h')
  obtain ⟨q, hq⟩ : ∃ q, Hid (chkM P G = q) := ⟨_, Hid.mk' rfl⟩
  rw [hq.out] at hck
  clear h h' hv hb hs e0 hva hra hba hsa
  go_enter Try.func17, Try.ntmps17
  go_wp2_with fail
  rw [hWa.out, hW0.out]
  refine (hck.out W0 HL.out HG.out).mono ?_
  rintro z w1 ⟨rfl, hb⟩
  have HV1 := Hid.mk' (HV.out.below hb)
  have HR1 := Hid.mk' (HR.out.below hb)
  have HL1 := Hid.mk' (HL.out.below hb)
  have HG1 := Hid.mk' (HG.out.below hb)
  have HB1 := Hid.mk' (HB.out.trans (hb.mono HB.out.size))
  have hz1 : w.heap.size + 2 ≤ w1.heap.size := by have := hb.size; have := hs0.out; omega
  have r0 := HR1.out.c 0 _ rfl
  have r1 := HR1.out.c 1 _ rfl
  have f0 := HR1.out.f 0 (by simp)
  have f1 := HR1.out.f 1 (by simp)
  have v0 := HV1.out.c 0 _ rfl
  have v1 := HV1.out.c 1 _ rfl
  have hRS : Hid (∀ X : World, BoxV X (w.heap.size + 1) [.slice none 0 0, .slice none 0 0] → BoxV ((X.setCell ⟨w.heap.size + 1, 0, none⟩ (.slice none 0 0)).setCell ⟨w.heap.size + 1, 1, none⟩ (.slice none 0 0)) (w.heap.size + 1) [.slice none 0 0, .slice none 0 0]) := fun X h => h.set2M _ _
  have hBS : Hid (∀ X : World, Below w.heap.size w X → Below w.heap.size w ((X.setCell ⟨w.heap.size + 1, 0, none⟩ (.slice none 0 0)).setCell ⟨w.heap.size + 1, 1, none⟩ (.slice none 0 0))) := fun X h => (h.setCell (by show w.heap.size ≤ w.heap.size + 1; omega) _).setCell (by show w.heap.size ≤ w.heap.size + 1; omega) _
  clear hb
  by_cases h0 : q = 0
  rotate_left
  · have tq : (q != 0) = true := by rw [bne_iff_ne]; exact h0
    have HN := Hid.mk' h0
    clear h0
    go_wp2_with fail
    refine bodyPost_ret (results_boxV2M rfl _ _ (w.heap.size + 1) 2 _ _ rfl rfl (hRS.out w1 HR1.out) rfl infoSzIm (aggIm _)) rfl ⟨imA_cut (by rw [cuE_chk (by rw [hq.out]; exact HN.out)]; exact hq.out) HN.out rfl, hBS.out _ HB1.out⟩
  subst h0
  have hnum := Hid.mk' (fun w => isnum_any x w)
  obtain ⟨nu, hnu⟩ : ∃ q, Hid (numM x = q) := ⟨_, Hid.mk' rfl⟩
  rw [hnu.out] at hnum
  cases nu with
  | false =>
    go_wp2_with fail
    refine (hnum.out w1).mono ?_
    rintro z w2 ⟨rfl, rfl⟩
    go_wp2_with fail
    refine bodyPost_ret (results_boxV2M rfl _ _ (w.heap.size + 1) 2 _ _ rfl rfl (hRS.out _ HR1.out) rfl infoSzIm (aggIm _)) rfl ⟨imA_cut (cuE_num hq.out hnu.out) (by decide) rfl, hBS.out _ HB1.out⟩
  | true =>
    have hok := chkM_ok hq.out
    have hn : n = 48 := by rw [← hnL.out]; exact hok.p
    have hm : m = 48 := by rw [← hmL.out]; exact hok.g
    subst hn hm
    have hxx : 0 ≤ x ∧ x < 48 := of_decide_eq_true hnu.out
    obtain ⟨k, rfl⟩ := Int.eq_ofNat_of_zero_le hxx.1
    have hk : k < 48 := by omega
    have hgb := hok.n k hk
    obtain ⟨b, off, rfl, hbb, hx1, hx2⟩ := HL1.out.at k hk
    obtain ⟨b1, off1, rfl, hb1, hy1⟩ := HG1.out.at k hk
    have H2 := Hid.mk' (fun w => none_any (P.getD k noPl) w)
    obtain ⟨no, hno⟩ : ∃ q, Hid (nonB (P.getD k noPl) = q) := ⟨_, Hid.mk' rfl⟩
    rw [hno.out] at H2
    obtain ⟨o, ho'⟩ : ∃ o, Hid (P.getD k noPl = o) := ⟨_, Hid.mk' rfl⟩
    obtain ⟨g, hg'⟩ : ∃ o, Hid (G.getD k 0 = o) := ⟨_, Hid.mk' rfl⟩
    rw [ho'.out] at hx1 hx2 H2
    rw [hg'.out] at hy1 hgb
    clear hok hxx
    go_wp2_with fail
    refine (hnum.out w1).mono ?_
    rintro z w2 ⟨rfl, rfl⟩
    go_wp2_with fail
    refine (H2.out _).mono ?_
    rintro z w4 ⟨rfl, hb⟩
    have HV4 := Hid.mk' (HV1.out.below hb)
    have HR4 := Hid.mk' (HR1.out.below hb)
    have HL4 := Hid.mk' (HL1.out.below hb)
    have HG4 := Hid.mk' (HG1.out.below hb)
    have HB4 := Hid.mk' (HB1.out.trans (hb.mono HB1.out.size))
    have hz4 : w.heap.size + 2 ≤ w4.heap.size := by have := hb.size; omega
    have r0 := HR4.out.c 0 _ rfl
    have r1 := HR4.out.c 1 _ rfl
    have f0 := HR4.out.f 0 (by simp)
    have f1 := HR4.out.f 1 (by simp)
    have v0 := HV4.out.c 0 _ rfl
    have v1 := HV4.out.c 1 _ rfl
    have hy1 := (hb.cell (p := ⟨b1, off1 + k, none⟩) hb1).trans hy1
    clear hb
    cases no with
    | true =>
      go_wp2_with fail
      refine bodyPost_ret (results_boxV2M rfl _ _ (w.heap.size + 1) 2 _ _ rfl rfl (hRS.out _ HR4.out) rfl infoSzIm (aggIm _)) rfl ⟨imA_cut (cuE_none hq.out hnu.out hno.out) (by decide) rfl, hBS.out _ HB4.out⟩
    | false =>
      by_cases hgm : g = 2147483647
      · have hcu : Hid (cuE P G (k : Int) = 10) := cuE_many hq.out hnu.out hno.out (hg'.out.trans hgm)
        have tg : (g == 2147483647) = true := by rw [hgm]; rfl
        clear hgm
        go_wp2_with fail
        refine bodyPost_ret (results_boxV2M rfl _ _ (w.heap.size + 1) 2 _ _ rfl rfl (hRS.out _ HR4.out) rfl infoSzIm (aggIm _)) rfl ⟨imA_cut hcu.out (by decide) rfl, hBS.out _ HB4.out⟩
      have hcu : Hid (cuE P G (k : Int) = 0) := cuE_ok hq.out hnu.out hno.out (by show ¬ G.getD k 0 = 2147483647; rw [hg'.out]; exact hgm)
      have hcuP : Hid (cuP P G (k : Int) = P.set k noPl) := by show _ = _; unfold cuP; rw [hcu.out, if_pos rfl]; rfl
      have hcuG : Hid (cuG P G (k : Int) = G.set k (g + 1)) := by show _ = _; unfold cuG; rw [hcu.out, if_pos rfl]; show G.set k (G.getD k 0 + 1) = _; rw [hg'.out]
      have tg : (g == 2147483647) = false := by rw [beq_eq_false_iff_ne]; exact hgm
      clear hgm r0 r1 f0 f1
      go_wp2_with fail
      refine (copyim_any _ 48 c _ 48 e P G w4 HL4.out HG4.out).mono ?_
      rintro z w5 ⟨⟨u, v, rfl, ho⟩, hb⟩
      obtain ⟨gp, cp, gg, cg, rfl, rfl, k1, k2, k3, k4, k5⟩ := ho.blk (by omega) (by omega)
      have HO := Hid.mk' ho
      have HV5 := Hid.mk' (HV4.out.below hb)
      have HR5 := Hid.mk' (HR4.out.below hb)
      have HB5 := Hid.mk' (HB4.out.trans (hb.mono HB4.out.size))
      have hz5 : w.heap.size + 2 ≤ w5.heap.size := by have := hb.size; omega
      have v0 := HV5.out.c 0 _ rfl
      have v1 := HV5.out.c 1 _ rfl
      have vf0 := HV5.out.f 0 (by simp)
      have vf1 := HV5.out.f 1 (by simp)
      have r0 := HR5.out.c 0 _ rfl
      have r1 := HR5.out.c 1 _ rfl
      have f0 := HR5.out.f 0 (by simp)
      have f1 := HR5.out.f 1 (by simp)
      obtain ⟨p0, p1, pf0, pf1⟩ := ho.cellP (k := k) hk
      obtain ⟨g0, gf0⟩ := ho.cellG (k := k) hk
      rw [hg'.out] at g0
      have n1 : gp ≠ w.heap.size := by omega
      have n3 : gp ≠ w.heap.size + 1 := by omega
      have n4 : w.heap.size ≠ gp := by omega
      have n6 : w.heap.size + 1 ≠ gp := by omega
      have m1 : gg ≠ w.heap.size := by omega
      have m3 : gg ≠ w.heap.size + 1 := by omega
      have m4 : w.heap.size ≠ gg := by omega
      have m6 : w.heap.size + 1 ≠ gg := by omega
      have k3' : gg ≠ gp := fun h => k3 h.symm
      have hO1 := (ho.setLow (a := ⟨w.heap.size, 0, none⟩) (by show w.heap.size < w4.heap.size; omega) (.slice (some ⟨gp, 0, none⟩) 48 cp)).setLow (a := ⟨w.heap.size, 1, none⟩) (by show w.heap.size < w4.heap.size; omega) (.slice (some ⟨gg, 0, none⟩) 48 cg)
      have hO2 := (hO1.setP hk noPl).setG (k := k) (g + 1)
      simp only [noPl] at hO2
      have hO3 := Hid.mk' ((hO2.setLow (a := ⟨w.heap.size + 1, 0, none⟩) (by show w.heap.size + 1 < w4.heap.size; omega) (.slice (some ⟨gp, 0, none⟩) 48 cp)).setLow (a := ⟨w.heap.size + 1, 1, none⟩) (by show w.heap.size + 1 < w4.heap.size; omega) (.slice (some ⟨gg, 0, none⟩) 48 cg))
      have hR2 := Hid.mk' ((((((HR5.out.other ⟨w.heap.size, 0, none⟩ (.slice (some ⟨gp, 0, none⟩) 48 cp) (by show w.heap.size ≠ w.heap.size + 1; omega)).other ⟨w.heap.size, 1, none⟩ (.slice (some ⟨gg, 0, none⟩) 48 cg) (by show w.heap.size ≠ w.heap.size + 1; omega)).other ⟨gp, k * 2, none⟩ (.int .i64 0) n3).other ⟨gp, k * 2 + 1, none⟩ (.int .i64 0) n3).other ⟨gg, k, none⟩ (.int .i64 (g + 1)) m3).set2M (.slice (some ⟨gp, 0, none⟩) 48 cp) (.slice (some ⟨gg, 0, none⟩) 48 cg))
      have hB2 := Hid.mk' (((((((HB5.out.setCell (p := ⟨w.heap.size, 0, none⟩) (Nat.le_refl _) (.slice (some ⟨gp, 0, none⟩) 48 cp)).setCell (p := ⟨w.heap.size, 1, none⟩) (Nat.le_refl _) (.slice (some ⟨gg, 0, none⟩) 48 cg)).setCell (p := ⟨gp, k * 2, none⟩) (by show w.heap.size ≤ gp; omega) (.int .i64 0)).setCell (p := ⟨gp, k * 2 + 1, none⟩) (by show w.heap.size ≤ gp; omega) (.int .i64 0)).setCell (p := ⟨gg, k, none⟩) (by show w.heap.size ≤ gg; omega) (.int .i64 (g + 1))).setCell (p := ⟨w.heap.size + 1, 0, none⟩) (by show w.heap.size ≤ w.heap.size + 1; omega) (.slice (some ⟨gp, 0, none⟩) 48 cp)).setCell (p := ⟨w.heap.size + 1, 1, none⟩) (by show w.heap.size ≤ w.heap.size + 1; omega) (.slice (some ⟨gg, 0, none⟩) 48 cg))
      have ew : IntKind.i64.wrap (g + 1) = g + 1 := by rw [IntKind.wrap_i64]; omega
      clear hb ho hO1 hO2 hx1 hx2 hy1
      go_wp2_with fail
      refine bodyPost_ret (results_boxV2M rfl _ _ (w.heap.size + 1) 2 _ _ rfl rfl hR2.out rfl infoSzIm (aggIm _)) rfl ⟨?_, hB2.out⟩
      rw [hcu.out, hcuP.out, hcuG.out]
      refine ⟨_, _, rfl, ?_⟩
      rw [List.length_set, List.length_set, hnL.out, hmL.out]
      exact hO3.out.mono (by omega)
end Go.Proofs.Ytbailfianjmflab
