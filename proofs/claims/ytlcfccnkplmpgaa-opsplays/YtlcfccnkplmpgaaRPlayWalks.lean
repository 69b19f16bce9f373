/- What linenref.Play answers. -/
import Derived.Test.YtlcfccnkplmpgaaOwnDkKit
import Derived.Test.YtlcfccnkplmpgaaCloneDk
import Derived.Test.YtlcfccnkplmpgaaRDiskWalks
import Derived.Test.YtlcfccnkplmpgaaOps
import Derived.Test.YtlcfccnkplmpgaaPlainAt
import Derived.Test.YtlcfccnkplmpgaaDiskOpsWalks
namespace Go.Proofs.Ytlcfccnkplmpgaa
open Go.RowKit

theorem apart_two {w1 w2 : World} {N1 N2 n1 n2 s1 s2 : Nat} {e1 e2 : TypeId} {u v : Value} {xs ys : List Value} (h1 : w1.ownsRow N1 e1 s1 u n1 xs) (h2 : w2.ownsRow N2 e2 s2 v n2 ys) (h : w1.heap.size ≤ N2) : Apart u v := by
  unfold Apart
  cases hu : u.ownBlock with
  | none => exact .inl rfl
  | some k =>
    refine .inr fun e => ?_
    have l1 := h1.lt k hu
    have l2 := h2.lt k e.symm
    omega
theorem empty_isR (b : ByteArray) : b.toList.isEmpty = decide (b.data.toList = []) := by
  rw [ByteArray.toList_eq]
  cases b.data.toList with
  | nil => rfl
  | cons x t => rfl
set_option maxRecDepth 20000 in
set_option maxHeartbeats 3000000 in
theorem rplay_any (a0 a1 : Option Addr) (n c m d : Nat) (C : List ByteArray) (P : List Pt) (al : Option Addr) (nl capl : Nat) (l : List Opp) (w : World) (h : Dk w a0 n a1 m C P) (hl : Ops w al nl capl l) :
    Calls Try.prog 15 #[.agg #[.slice a0 n c, .slice a1 m d], .slice al nl capl] w fun e w' => DkAns w' w.heap.size e (playE C P l).1 (playE C P l).2.1 (playE C P l).2.2 ∧ Below w.heap.size w w' := by
  obtain ⟨⟨qR, CR, PR⟩, hR⟩ : ∃ R, Hid (playE C P l = R) := ⟨_, Hid.mk' rfl⟩
  rw [hR.out]
  simp only
  obtain ⟨hx0, hr0, hb0, hs0⟩ := two_boxes w (.slice a0 n c) (.slice a1 m d) (.slice none 0 0) (.slice none 0 0) 25 25
  have HK := Hid.mk' (h.below hb0)
  have HL := Hid.mk' (hl.below hb0)
  have HX0 := Hid.mk' hx0
  have HR0 := Hid.mk' hr0
  have HB0 := Hid.mk' hb0
  have HS0 := Hid.mk' hs0
  have hrange := chkD_range C P
  have hokF := Hid.mk' (@chkD_ok C P)
  have hnl := hl.nB
  clear h hl hx0 hr0 hb0 hs0
  obtain ⟨i0, hi, hz0, hz1', hz2⟩ := info_parts infoPt
  have KI := Hid.mk' hi
  have KZ0 := Hid.mk' hz0
  have KZ1 := Hid.mk' hz1'
  have KZ2 := Hid.mk' hz2
  clear hi hz0 hz1' hz2
  go_enter Try.func15, Try.ntmps15
  go_wp2_with fail
  obtain ⟨W0, hW0⟩ : ∃ W, Hid ((w.alloc (.cells #[.slice a0 n c, .slice a1 m d] 25)).alloc (.cells #[.slice none 0 0, .slice none 0 0] 25) = W) := ⟨_, Hid.mk' rfl⟩
  rw [hW0.out] at HK HL HX0 HR0 HB0 HS0 ⊢
  refine (rdisk_any a0 a1 n c m d C P W0 HK.out).mono ?_
  rintro e w1 ⟨rfl, hb1⟩
  have HB1 := Hid.mk' (HB0.out.trans (hb1.mono HB0.out.size))
  have HR1 := Hid.mk' (HR0.out.below hb1)
  have HX1 := Hid.mk' (HX0.out.below hb1)
  have HK1 := Hid.mk' (HK.out.below hb1)
  have HL1 := Hid.mk' (HL.out.below hb1)
  have hN1 : w.heap.size + 1 + 1 ≤ w1.heap.size := by have := hb1.size; have := HS0.out; omega
  have hBN : Below (w.heap.size + 1 + 1) W0 w1 := hb1.mono (Nat.le_of_eq HS0.out.symm)
  have HBN1 := Hid.mk' hBN
  obtain ⟨q, hq⟩ : ∃ q, Hid (chkD C P = q) := ⟨_, Hid.mk' rfl⟩
  rw [hq.out] at hrange hokF ⊢
  clear hb1 hBN
  by_cases h0 : q = 0
  · subst h0
    have HOk := Hid.mk' (hokF.out rfl)
    have HPl : Hid (plays l C P = (qR, CR, PR)) := by show _ = _; rw [← hR.out]; unfold playE; rw [if_pos hq.out]
    have c0 := HX1.out.c0
    have c1 := HX1.out.c1
    clear hokF hrange
    go_upto_region 4 with fail
    go_cut [7, 8] (fun u v wx => OwnDk wx w1.heap.size u v C P ∧ Below w1.heap.size w1 wx)
    case first =>
      go_region_held3 (fun X => X.cell? ⟨w.heap.size, 0, none⟩ = some (.slice a0 n c) ∧ X.cell? ⟨w.heap.size, 1, none⟩ = some (.slice a1 m d)) (first | exact ⟨q0, q1⟩ | exact ⟨p0, p1⟩ | exact ⟨c0, c1⟩) (first
        | (go_at_call 36; refine (cloneS_any a0 n c C _ HKP.out.rc HKP.out.nC HKP.out.nB).mono ?_; rintro e w4 ⟨⟨vS, rfl, ho⟩, hb4⟩; have HFIN : Hid (OwnDk w4 w1.heap.size vS vP C P ∧ Below w1.heap.size w1 w4) := ⟨⟨by rw [HKP.out.nC]; exact ho.mono HBP.out.size, by rw [HKP.out.mP]; exact own_below HOP.out hb4, (apart_two HOP.out ho (Nat.le_refl _)).symm⟩, HBP.out.trans (hb4.mono HBP.out.size)⟩; have q0 := (HXP.out.below hb4).c0; have q1 := (HXP.out.below hb4).c1; clear ho hb4)
        | (go_at_call 36; refine (cloneS_any a0 n c C _ HK1.out.drew.rc HK1.out.nC HK1.out.nB).mono ?_; rintro e wS ⟨⟨vS, rfl, ho⟩, hb4⟩; have HOS := Hid.mk' ho; have HKS := Hid.mk' (HK1.out.drew.below hb4); have HXS := Hid.mk' (HX1.out.drew.below hb4); have HBS : Hid (Below w1.heap.size w1 wS) := (Below.refl _ w1).drew.trans hb4; have p0 := HXS.out.c0; have p1 := HXS.out.c1; clear ho hb4)
        | (go_at_call 37; refine (cloneP_any a1 m d P _ HKS.out.rp HKS.out.mP HKS.out.mB).mono ?_; rintro e w4 ⟨⟨vP, rfl, ho⟩, hb4⟩; have HFIN : Hid (OwnDk w4 w1.heap.size vS vP C P ∧ Below w1.heap.size w1 w4) := ⟨⟨by rw [HKS.out.nC]; exact own_below HOS.out hb4, by rw [HKS.out.mP]; exact ho.mono HBS.out.size, apart_two HOS.out ho (Nat.le_refl _)⟩, HBS.out.trans (hb4.mono HBS.out.size)⟩; have q0 := (HXS.out.below hb4).c0; have q1 := (HXS.out.below hb4).c1; clear ho hb4)
        | (go_at_call 37; refine (cloneP_any a1 m d P _ HK1.out.drew.rp HK1.out.mP HK1.out.mB).mono ?_; rintro e wP ⟨⟨vP, rfl, ho⟩, hb4⟩; have HOP := Hid.mk' ho; have HKP := Hid.mk' (HK1.out.drew.below hb4); have HXP := Hid.mk' (HX1.out.drew.below hb4); have HBP : Hid (Below w1.heap.size w1 wP) := (Below.refl _ w1).drew.trans hb4; have p0 := HXP.out.c0; have p1 := HXP.out.c1; clear ho hb4)
        | fail)
      all_goals
        go_wp2_with fail
        go_meet
        exact HFIN.out
    case rest =>
      obtain ⟨hown, hbc⟩ := hcut
      obtain ⟨⟨x0, xc, rfl⟩, y1, yd, rfl⟩ := hown.shapes
      rw [HK.out.nC, HK.out.mP] at hown
      have HO := Hid.mk' hown
      have HBc := Hid.mk' hbc
      clear hown hbc c0 c1
      rw [HK.out.nC, HK.out.mP]
      go_wp2_with fail
      go_loopw [8, 27] (fun v i wr => ∃ (k : Nat) (Ck : List ByteArray) (Pk : List Pt), k ≤ nl ∧ i = .int .i64 k ∧ OkD Ck Pk ∧ Ck.length = n ∧ plays (l.drop k) Ck Pk = (qR, CR, PR) ∧ OwnDk wr w1.heap.size (.slice x0 n xc) v Ck Pk ∧ Below w1.heap.size w1 wr) (fun _ i _ => nl - (intOf i).toNat)
      case atStart => exact ⟨0, C, P, Nat.zero_le _, rfl, HOk.out, HK.out.nC, HPl.out, HO.out, HBc.out⟩
      case round =>
        obtain ⟨k, Ck, Pk, hk, rfl, hok, hnC, hpl, how, hbl⟩ := hrel
        have HOkk := Hid.mk' hok
        have HnC := Hid.mk' hnC
        have HPk := Hid.mk' hpl
        have HOw := Hid.mk' how
        have HB := Hid.mk' hbl
        have hmk4 := hok.m
        have hnk1 := hok.n2
        rw [hnC] at hnk1
        obtain ⟨mk, hmk⟩ : ∃ mk, Hid (Pk.length = mk) := ⟨_, Hid.mk' rfl⟩
        obtain ⟨_, x1, xd, hv⟩ := how.shapes
        rw [hmk.out] at hv hmk4
        subst hv
        have hNr : w.heap.size + 1 + 1 ≤ wr.heap.size := Nat.le_trans hN1 hbl.size
        have HBw := Hid.mk' (HB1.out.trans (hbl.mono HB1.out.size))
        have HRr := Hid.mk' (HR1.out.below hbl)
        clear hok hnC hpl how hbl
        by_cases hlt : k < nl
        · obtain ⟨b, off, rfl, hb, hx1, hx2, hx3⟩ := (HL1.out.below HB.out).at k hlt
          have hdr := drop_at l k noOp (by rw [HL1.out.nL]; exact hlt)
          have HtB := Hid.mk' (HL1.out.tB _ (getD_mem l k noOp (by rw [HL1.out.nL]; exact hlt)))
          generalize l.getD k noOp = o at *
          obtain ⟨kd, pl, tx⟩ := o
          simp only at hx1 hx2 hx3
          have HPk1 : Hid (plays (⟨kd, pl, tx⟩ :: l.drop (k + 1)) Ck Pk = (qR, CR, PR)) := by show _ = _; rw [← hdr]; exact HPk.out
          have hw1r : w1.heap.size ≤ wr.heap.size := HB.out.size
          have hz5 : w.heap.size + 1 < wr.heap.size := by omega
          have hz6 : w.heap.size < wr.heap.size := by omega
          have hww : w.heap.size ≤ wr.heap.size := by omega
          clear hdr HPk
          by_cases hA : kd = 2 ∧ pl = 0 ∧ tx.size = 0
          · obtain ⟨rfl, rfl, htx⟩ := hA
            have hPs := plays_sync (o := ⟨2, 0, tx⟩) (l.drop (k + 1)) (C := Ck) (P := Pk) rfl rfl htx
            rw [HPk1.out] at hPs
            have HPs := Hid.mk' hPs
            have te : tx.toList.isEmpty = true := by rw [empty_isR]; exact decide_eq_true (List.length_eq_zero_iff.1 (by simpa using htx))
            clear hPs htx HPk1
            have HBa : Hid (Below wr.heap.size wr (wr.alloc (.cells #[.int .i64 2, .int .i64 0, .string tx] 36))) := (Below.refl _ _).alloc (Nat.le_refl _) _
            have HOa := Hid.mk' (HOw.out.below HBa.out)
            have HBa1 := Hid.mk' (HB.out.trans (HBa.out.mono HB.out.size))
            go_wp2_with fail
            obtain ⟨wd, hwd⟩ : ∃ x, Hid (wr.alloc (.cells #[.int .i64 2, .int .i64 0, .string tx] 36) = x) := ⟨_, Hid.mk' rfl⟩
            rw [hwd.out] at HOa HBa1 HBa ⊢
            have HLand : Hid (OkD (landL allL Pk 0 Ck) []) := ok_land HOkk.out allL
            clear hb hx1 hx2 hx3
            go_loopw [55] (fun i wq => ∃ (j : Nat) (Cj : List ByteArray), j ≤ mk ∧ i = .int .i64 j ∧ Cj.length = n ∧ landL allL (Pk.drop j) j Cj = landL allL Pk 0 Ck ∧ OwnDk wq w1.heap.size (.slice x0 n xc) (.slice x1 mk xd) Cj Pk ∧ Below w1.heap.size w1 wq) (fun i _ => mk - (intOf i).toNat)
            case atStart => exact ⟨0, Ck, Nat.zero_le _, rfl, HnC.out, rfl, HOa.out, HBa1.out⟩
            case round =>
              obtain ⟨j, Cj, hj, rfl, hCj, hla, how, hbl⟩ := hrel
              have HCj := Hid.mk' hCj
              have HLa := Hid.mk' hla
              have HOj := Hid.mk' how
              have HBj := Hid.mk' hbl
              have hzj := hbl.size
              clear hCj hla how hbl
              by_cases hjt : j < mk
              · obtain ⟨gp, hb1, hy1, hy2⟩ := HOj.out.readP hmk.out hjt
                obtain rfl := hb1
                have hdr := drop_at Pk j noPt (by rw [hmk.out]; exact hjt)
                have hpe := putE_zero (HOkk.out.ps _ (getD_mem Pk j noPt (by rw [hmk.out]; exact hjt)))
                rw [HnC.out] at hpe
                generalize Pk.getD j noPt = p at *
                obtain ⟨z, s⟩ := p
                simp only at hy1 hy2 hpe
                obtain ⟨y, rfl⟩ : ∃ y : Nat, z = y := ⟨z.toNat, by omega⟩
                have hy : y < n := by omega
                obtain ⟨gc, hgc, hgN⟩ := HOj.out.openC (k := y) HCj.out hy
                obtain rfl := hgc
                have HLa1 : Hid (landL allL (Pk.drop (j + 1)) (j + 1) (Cj.set y s) = landL allL Pk 0 Ck) := by
                  show _ = _
                  rw [← HLa.out, hdr, landL]; rfl
                have f0 := (HOj.out.cellC HCj.out hy).1
                have f1 := (HOj.out.cellC HCj.out hy).2
                have hgl : gc < wr.heap.size := (HOj.out.rc.lt gc rfl).2
                have HZ := Hid.mk' ((HOj.out.setC (k := y) HCj.out s).alloc (.cells #[.int .i64 (y : Int), .string s] 59))
                have HBz := Hid.mk' ((HBj.out.setCell (p := ⟨gc, y, none⟩) hgN (.string s)).alloc (by simpa [World.setCell] using hzj) (.cells #[.int .i64 (y : Int), .string s] 59))
                clear hdr hpe
                go_wp2_with fail
                go_roundw
                case rel => exact ⟨j + 1, _, by omega, by go_num, by rw [List.length_set]; exact HCj.out, HLa1.out, HZ.out, HBz.out⟩
                case measure => simp [intOf]; omega
              · have HLf : Hid (landL allL Pk 0 Ck = Cj) := by
                  show _ = _
                  rw [← HLa.out, List.drop_of_length_le (by rw [hmk.out]; omega)]; rfl
                go_wp2_with fail
                go_roundw
                case rel => exact ⟨k + 1, Cj, [], by omega, by go_num, by rw [← HLf.out]; exact HLand.out, HCj.out, by rw [← HLf.out]; exact HPs.out.symm, HOj.out.nilP, HBj.out⟩
                case measure => simp [intOf]; omega
          · by_cases h1 : kd = 1
            · subst h1
              clear hA
              have r0 := HRr.out.c0
              have r1 := HRr.out.c1
              have r2 := HRr.out.f0
              have r3 := HRr.out.f1
              have hpc := putE_cases n ⟨pl, tx⟩
              have HE : Hid (∀ e, opE n mk ⟨1, pl, tx⟩ = e → e ≠ 0 → qR = e) := fun e he hne => by
                have h := HPk1.out
                rw [plays_bad (e := e) _ (by rw [HnC.out, hmk.out]; exact he) hne] at h
                exact (congrArg Prod.fst h).symm
              simp only at hpc
              rcases hpc with ⟨h2, g1, g2, g3⟩ | ⟨h2, g1⟩ | ⟨h2, g1, g2, g3⟩
              · have s0 : decide (pl < 0) = false := decide_eq_false (by omega)
                have s1 : decide ((n : Int) ≤ pl) = false := decide_eq_false (by omega)
                by_cases h4 : mk = 400
                · have t4 : ((mk : Int) == 400) = true := by rw [beq_iff_eq]; omega
                  have HQe : Hid (qR = 9) := HE.out 9 (by unfold opE; rw [if_pos rfl, if_pos h2, if_pos (by omega)]) (by decide)
                  clear h4 h2 HE
                  go_wp2_with fail
                  refine bodyPost_ret (results_disk2 rfl _ _ (w.heap.size + 1) _ _ _ rfl rfl ((HRr.out.set _ _).alloc _)) rfl ⟨.inr ⟨by rw [HQe.out]; decide, by rw [HQe.out]; rfl⟩, (below_set2 HBw.out (Nat.le_succ _) _ _).alloc (by simp [World.setCell]; omega) _⟩
                · have t4 : ((mk : Int) == 400) = false := by rw [beq_eq_false_iff_ne]; omega
                  have hPw := plays_write (o := ⟨1, pl, tx⟩) (l.drop (k + 1)) (C := Ck) (P := Pk) rfl (by rw [HnC.out]; exact h2) (by rw [hmk.out]; omega)
                  rw [HPk1.out] at hPw
                  have HPw := Hid.mk' hPw
                  have HOn : Hid (OkD Ck (Pk ++ [⟨pl, tx⟩])) := ok_put HOkk.out (by rw [HnC.out]; exact h2) (by rw [hmk.out]; omega)
                  clear hPw h2 HE
                  go_wp2_with (at_builtin; refine wpList_append_at rfl (.tmp 31) (.tmp 37) 23 rfl w1.heap.size 59 i0 (.agg #[.int .i64 0, .string ⟨#[]⟩]) 2 24 Try.underlying23 KI.out KZ0.out KZ1.out KZ2.out rfl (by decide) (.slice x1 mk xd) mk (ptC Pk) rfl (by have h := ((HOw.out.alloc (.cells #[.int .i64 1, .int .i64 pl, .string tx] 36)).alloc (.cells #[.int .i64 pl, .string tx] 59)).rp; rw [hmk.out] at h; exact h) ⟨wr.heap.size + 1, 0, none⟩ 1 1 (pt2 ⟨pl, tx⟩) rfl rfl (by have h := cells_pt2 (wr.alloc (.cells #[.int .i64 1, .int .i64 pl, .string tx] 36)) ⟨pl, tx⟩ 59; rw [show (wr.alloc (.cells #[.int .i64 1, .int .i64 pl, .string tx] 36)).heap.size = wr.heap.size + 1 by simp] at h; exact h) (pt2_one _) (by unfold maxLen; omega) (by omega) (by simp; omega) ?_; intro v' w4 hown4 hgrow4 hat4)
                  have HO4 := Hid.mk' (app_own ((HOw.out.alloc (.cells #[.int .i64 1, .int .i64 pl, .string tx] 36)).alloc (.cells #[.int .i64 pl, .string tx] 59)) hmk.out hown4 hgrow4 hat4)
                  have HB4 := Hid.mk' (app_belowO (((HB.out.alloc hw1r _).alloc (by simp; omega) _)) (by simp; omega) ((HOw.out.alloc (.cells #[.int .i64 1, .int .i64 pl, .string tx] 36)).alloc (.cells #[.int .i64 pl, .string tx] 59)) hgrow4)
                  clear hown4 hgrow4 hat4 r0 r1 r2 r3
                  go_wp2_with fail
                  go_roundw
                  case rel => exact ⟨k + 1, Ck, _, by omega, by go_num, HOn.out, HnC.out, HPw.out.symm, HO4.out, HB4.out⟩
                  case measure => simp [intOf]; omega
              · have HQe : Hid (qR = 1) := HE.out 1 (by unfold opE; rw [if_pos rfl, h2, if_neg (by decide)]) (by decide)
                clear h2 HE
                by_cases g0 : pl < 0
                · have s0 : decide (pl < 0) = true := decide_eq_true g0
                  clear g1
                  go_wp2_with fail
                  refine bodyPost_ret (results_disk2 rfl _ _ (w.heap.size + 1) _ _ _ rfl rfl ((HRr.out.set _ _).alloc _)) rfl ⟨.inr ⟨by rw [HQe.out]; decide, by rw [HQe.out]; rfl⟩, (below_set2 HBw.out (Nat.le_succ _) _ _).alloc (by simp [World.setCell]; omega) _⟩
                · have s0 : decide (pl < 0) = false := decide_eq_false g0
                  have s1 : decide ((n : Int) ≤ pl) = true := decide_eq_true (by omega)
                  clear g1
                  go_wp2_with fail
                  refine bodyPost_ret (results_disk2 rfl _ _ (w.heap.size + 1) _ _ _ rfl rfl ((HRr.out.set _ _).alloc _)) rfl ⟨.inr ⟨by rw [HQe.out]; decide, by rw [HQe.out]; rfl⟩, (below_set2 HBw.out (Nat.le_succ _) _ _).alloc (by simp [World.setCell]; omega) _⟩
              · have s0 : decide (pl < 0) = false := decide_eq_false (by omega)
                have s1 : decide ((n : Int) ≤ pl) = false := decide_eq_false (by omega)
                have HQe : Hid (qR = 2) := HE.out 2 (by unfold opE; rw [if_pos rfl, h2, if_neg (by decide)]) (by decide)
                clear h2 HE
                go_wp2_with fail
                refine bodyPost_ret (results_disk2 rfl _ _ (w.heap.size + 1) _ _ _ rfl rfl ((HRr.out.set _ _).alloc _)) rfl ⟨.inr ⟨by rw [HQe.out]; decide, by rw [HQe.out]; rfl⟩, (below_set2 HBw.out (Nat.le_succ _) _ _).alloc (by simp [World.setCell]; omega) _⟩
            · have HQe : Hid (qR = 4) := by
                have h := HPk1.out
                rw [plays_bad (e := 4) _ (by unfold opE; rw [if_neg h1, if_neg hA]) (by decide)] at h
                exact (congrArg Prod.fst h).symm
              have tn : (kd != 1) = true := by rw [bne_iff_ne]; exact h1
              have r0 := HRr.out.c0
              have r1 := HRr.out.c1
              have r2 := HRr.out.f0
              have r3 := HRr.out.f1
              by_cases h2 : kd = 2
              · subst h2
                by_cases h3 : pl = 0
                · subst h3
                  have te : tx.toList.isEmpty = false := by rw [empty_isR]; exact decide_eq_false (fun e => hA ⟨rfl, rfl, by have := congrArg List.length e; simpa using this⟩)
                  clear hA h1
                  go_wp2_with fail
                  refine bodyPost_ret (results_disk2 rfl _ _ (w.heap.size + 1) _ _ _ rfl rfl ((HRr.out.set _ _).alloc _)) rfl ⟨.inr ⟨by rw [HQe.out]; decide, by rw [HQe.out]; rfl⟩, (below_set2 HBw.out (Nat.le_succ _) _ _).alloc (by simp [World.setCell]; omega) _⟩
                · have t3 : (pl == 0) = false := by rw [beq_eq_false_iff_ne]; exact h3
                  clear hA h1 h3
                  go_wp2_with fail
                  refine bodyPost_ret (results_disk2 rfl _ _ (w.heap.size + 1) _ _ _ rfl rfl ((HRr.out.set _ _).alloc _)) rfl ⟨.inr ⟨by rw [HQe.out]; decide, by rw [HQe.out]; rfl⟩, (below_set2 HBw.out (Nat.le_succ _) _ _).alloc (by simp [World.setCell]; omega) _⟩
              · have t2 : (kd == 2) = false := by rw [beq_eq_false_iff_ne]; exact h2
                clear hA h1 h2
                go_wp2_with fail
                refine bodyPost_ret (results_disk2 rfl _ _ (w.heap.size + 1) _ _ _ rfl rfl ((HRr.out.set _ _).alloc _)) rfl ⟨.inr ⟨by rw [HQe.out]; decide, by rw [HQe.out]; rfl⟩, (below_set2 HBw.out (Nat.le_succ _) _ _).alloc (by simp [World.setCell]; omega) _⟩
        · have hkn : k = nl := by omega
          have hfin : Hid ((0, Ck, Pk) = (qR, CR, PR)) := by
            show _ = _
            rw [← HPk.out, List.drop_of_length_le (by rw [HL1.out.nL]; omega)]; rfl
          have hq0 : qR = 0 := (congrArg Prod.fst hfin.out).symm
          have hC0 : Ck = CR := congrArg (fun r => r.2.1) hfin.out
          have hP0 : Pk = PR := congrArg (fun r => r.2.2) hfin.out
          subst hC0 hP0 hq0
          have r0 := HRr.out.c0
          have r1 := HRr.out.c1
          have r2 := HRr.out.f0
          have r3 := HRr.out.f1
          have hsn := Hid.mk' (ans_storeL HRr.out (HOw.out.mono hN1) HBw.out)
          clear hkn
          go_wp2_with fail
          refine bodyPost_ret (results_disk2 rfl _ _ (w.heap.size + 1) _ _ _ rfl rfl hsn.out.1) rfl ⟨.inl ⟨rfl, _, _, rfl, hsn.out.2.1⟩, hsn.out.2.2⟩
  · have HQ : Hid (qR = q) := by
      have h := hR.out
      unfold playE at h
      rw [hq.out, if_neg h0] at h
      exact (congrArg Prod.fst h).symm
    have tq : (q != 0) = true := by rw [bne_iff_ne]; exact h0
    have r0 := HR1.out.c0
    have r1 := HR1.out.c1
    have r2 := HR1.out.f0
    have r3 := HR1.out.f1
    have HX := HR1.out.set (.slice none 0 0) (.slice none 0 0)
    have HBx := Hid.mk' (below_set2 HB1.out (Nat.le_succ _) (.slice none 0 0) (.slice none 0 0))
    go_wp2_with fail
    refine bodyPost_ret (results_disk2 rfl _ _ (w.heap.size + 1) _ _ _ rfl rfl HX) rfl ⟨.inr ⟨by rw [HQ.out]; exact h0, by rw [HQ.out]; rfl⟩, HBx.out⟩
end Go.Proofs.Ytlcfccnkplmpgaa
