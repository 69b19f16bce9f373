/- The law DiskWrites, walked. -/
import Derived.Test.YtlcfccnkplmpgaaDkAnsKit
import Derived.Test.YtlcfccnkplmpgaaDiskReadWalks
import Derived.Test.YtlcfccnkplmpgaaRPlayWalks
import Derived.Test.YtlcfccnkplmpgaaRCellE
import Derived.Test.YtlcfccnkplmpgaaSameDkWalks
namespace Go.Proofs.Ytlcfccnkplmpgaa
open Go.RowKit

theorem play_one (C : List ByteArray) (P : List Pt) (p : Pt) : (playE C P [⟨1, p.pl, p.tx⟩]).1 = wrD C P p ∧ (wrD C P p = 0 → (playE C P [⟨1, p.pl, p.tx⟩]).2 = (C, P ++ [p])) := by
  unfold playE wrD
  by_cases h : chkD C P = 0
  · rw [if_pos h, if_pos h]
    have e : opE C.length P.length ⟨1, p.pl, p.tx⟩ = wrtE C.length P.length p := by unfold opE wrtE; rfl
    by_cases hq : wrtE C.length P.length p = 0
    · rw [hq]
      rw [plays, if_pos (by rw [e]; exact hq), if_pos rfl, plays]
      exact ⟨rfl, fun _ => rfl⟩
    · rw [plays_bad (e := wrtE C.length P.length p) [] e hq]
      exact ⟨rfl, fun h => absurd h hq⟩
  · rw [if_neg h, if_neg h]
    exact ⟨rfl, fun h2 => absurd h2 h⟩
theorem ok_wrD {C : List ByteArray} {P : List Pt} {p : Pt} (h : wrD C P p = 0) : OkD C (P ++ [p]) := by
  unfold wrD at h
  by_cases h0 : chkD C P = 0
  · rw [if_pos h0] at h
    have hok := chkD_ok h0
    unfold wrtE at h
    by_cases h1 : putE C.length p = 0
    · rw [if_pos h1] at h
      by_cases h2 : 400 ≤ P.length
      · rw [if_pos h2] at h; omega
      · exact ok_put hok h1 (by omega)
    · rw [if_neg h1] at h; exact absurd h h1
  · rw [if_neg h0] at h; exact absurd h h0
theorem ops_lit {w : World} {g : Nat} {kd pl : Int} {tx : ByteArray} (h0 : w.cell? ⟨g, 0, none⟩ = some (.int .i64 kd)) (h1 : w.cell? ⟨g, 1, none⟩ = some (.int .i64 pl)) (h2 : w.cell? ⟨g, 2, none⟩ = some (.string tx)) (hg : g < w.heap.size)
    (hk : -9223372036854775808 ≤ kd ∧ kd ≤ 9223372036854775807) (hp : -9223372036854775808 ≤ pl ∧ pl ≤ 9223372036854775807) (ht : tx.size ≤ 140737488355328) : Ops w (some ⟨g, 0, none⟩) 1 1 [⟨kd, pl, tx⟩] := by
  refine ⟨rfl, by omega, ⟨rfl, fun _ => ⟨g, 0, rfl, hg, fun j u hj => ?_⟩⟩, fun o ho => ?_, fun o ho => ?_, Nat.le_refl _, by unfold maxLen; omega, fun h => by cases h⟩
  · rw [Nat.zero_add]
    match j with
    | 0 => rw [h0]; exact hj
    | 1 => rw [h1]; exact hj
    | 2 => rw [h2]; exact hj
    | j + 3 => simp [opC, op3] at hj
  · rw [List.mem_singleton.1 ho]; exact ⟨hk, hp⟩
  · rw [List.mem_singleton.1 ho]; exact ht
set_option maxRecDepth 20000 in
set_option maxHeartbeats 2000000 in
theorem diskWrites_walk (a0 : Option Addr) (n c : Nat) (b0 : Option Addr) (m d : Nat) (C : List ByteArray) (P : List Pt) (x : Int) (s : ByteArray) (w : World) (h : Dk w a0 n b0 m C P) (hx : (Lit.int .i64 x).wf = true) (_hs : s.size ≤ maxLen) (zs : s.data.toList.length ≤ reachBytes) :
    Calls Try.prog 4 #[.agg #[.slice a0 n c, .slice b0 m d], .int .i64 x, .string s] w fun e w' => e = .returned (.bool true) ∧ Below w.heap.size w w' := by
  obtain ⟨k1, k2⟩ := bounds_i64 hx
  have hs : s.size ≤ 140737488355328 := by
    have e : s.data.toList.length = s.size := by rw [Array.length_toList]; rfl
    have := reachBytes_lt
    omega
  obtain ⟨W0, hW0⟩ : ∃ W, Hid (w.alloc (.cells #[.slice a0 n c, .slice b0 m d] 25) = W) := ⟨_, Hid.mk' rfl⟩
  have HB0 : Hid (Below w.heap.size w W0) := by rw [← hW0.out]; exact (Below.refl _ w).alloc (Nat.le_refl _) _
  have HX0 : Hid (Box2 W0 w.heap.size (.slice a0 n c) (.slice b0 m d)) := by rw [← hW0.out]; exact box2_new w _ _ _
  have HK := Hid.mk' (h.below HB0.out)
  have hN := Hid.mk' h.nC
  have hnB := h.nB
  have hrange := chkD_range C P
  clear h hx zs
  go_enter Try.func4, Try.ntmps4
  go_wp2_with fail
  rw [hW0.out]
  refine (dwrite_any a0 b0 n c m d C P x s W0 HK.out hs).mono ?_
  rintro e w1 ⟨hans, hb1⟩
  obtain ⟨x0, xn, xc, x1, xm, xd, rfl, hres⟩ := res_of_ans hans ok_wrD
  obtain ⟨q, hq⟩ : ∃ q, Hid (wrD C P ⟨x, s⟩ = q) := ⟨_, Hid.mk' rfl⟩
  rw [hq.out] at hres ⊢
  have HR1 := Hid.mk' hres
  have HB1 := Hid.mk' (HB0.out.trans (hb1.mono HB0.out.size))
  have HX1 := Hid.mk' (HX0.out.below hb1)
  have HK1 := Hid.mk' (HK.out.below hb1)
  have hz1 : w.heap.size < w1.heap.size := by have := HX1.out.lt; omega
  have d0 := HX1.out.c0
  have d1 := HX1.out.c1
  clear hans hb1 hres
  go_wp2_with fail
  obtain ⟨wa, hwa⟩ : ∃ W, Hid ((w1.alloc (.cells #[.slice x0 xn xc, .slice x1 xm xd] 25)).alloc (.cells #[.int .i64 1, .int .i64 x, .string s] 36) = W) := ⟨_, Hid.mk' rfl⟩
  have hs1 : (w1.alloc (.cells #[.slice x0 xn xc, .slice x1 xm xd] 25)).heap.size = w1.heap.size + 1 := by simp
  have HBa : Hid (Below w1.heap.size w1 wa) := by rw [← hwa.out]; exact ((Below.refl _ _).alloc (Nat.le_refl _) _).alloc (by simp) _
  have HXa : Hid (Box2 wa w1.heap.size (.slice x0 xn xc) (.slice x1 xm xd)) := by rw [← hwa.out]; exact (box2_new w1 _ _ _).alloc _
  have HOp : Hid (Ops wa (some ⟨w1.heap.size + 1, 0, none⟩) 1 1 [⟨1, x, s⟩]) := by
    rw [← hwa.out, ← hs1]
    exact ops_lit (by rw [World.cell?_alloc_new]; rfl) (by rw [World.cell?_alloc_new]; rfl) (by rw [World.cell?_alloc_new]; rfl) (by simp) (by omega) ⟨k1, k2⟩ hs
  have HKa := Hid.mk' (HK1.out.below HBa.out)
  have HXd := Hid.mk' (HX1.out.below HBa.out)
  have HRa := Hid.mk' (HR1.out.below HBa.out)
  have HBaw := Hid.mk' (HB1.out.trans (HBa.out.mono HB1.out.size))
  rw [hwa.out]
  clear d0 d1 hz1 hs1
  refine (rplay_any a0 b0 n c m d C P (some ⟨w1.heap.size + 1, 0, none⟩) 1 1 [⟨1, x, s⟩] wa HKa.out HOp.out).mono ?_
  rintro e w2 ⟨hans, hb2⟩
  have hpo := play_one C P ⟨x, s⟩
  simp only at hpo
  rw [hpo.1] at hans
  have hans2 : DkAns w2 wa.heap.size e (wrD C P ⟨x, s⟩) C (P ++ [⟨x, s⟩]) := by
    rcases hans with ⟨h1, u, v, h2, h3⟩ | ⟨h1, h2⟩
    · rw [hpo.2 h1] at h3
      exact .inl ⟨h1, u, v, h2, h3⟩
    · exact .inr ⟨h1, h2⟩
  obtain ⟨y0, yn, yc, y1, ym, yd, rfl, hres⟩ := res_of_ans hans2 ok_wrD
  rw [hq.out] at hres ⊢
  have HR2 := Hid.mk' hres
  have HB2 := Hid.mk' (HBaw.out.trans (hb2.mono HBaw.out.size))
  have HXa2 := Hid.mk' (HXa.out.below hb2)
  have HXd2 := Hid.mk' (HXd.out.below hb2)
  have HRa2 := Hid.mk' (HRa.out.below hb2)
  have HKa2 := Hid.mk' (HKa.out.below hb2)
  have hz2 : w.heap.size < w2.heap.size := by have := HXd2.out.lt; omega
  have d0 := HXd2.out.c0
  have d1 := HXd2.out.c1
  clear hans hans2 hpo hb2 hres
  go_wp2_with fail
  obtain ⟨wb, hwb⟩ : ∃ W, Hid (w2.alloc (.cells #[.slice y0 yn yc, .slice y1 ym yd] 25) = W) := ⟨_, Hid.mk' rfl⟩
  have HBb : Hid (Below w2.heap.size w2 wb) := by rw [← hwb.out]; exact (Below.refl _ _).alloc (Nat.le_refl _) _
  have HXb : Hid (Box2 wb w2.heap.size (.slice y0 yn yc) (.slice y1 ym yd)) := by rw [← hwb.out]; exact box2_new w2 _ _ _
  have HKb := Hid.mk' (HKa2.out.below HBb.out)
  have HXdb := Hid.mk' (HXd2.out.below HBb.out)
  have HXab := Hid.mk' (HXa2.out.below HBb.out)
  have HRab := Hid.mk' (HRa2.out.below HBb.out)
  have HRbb := Hid.mk' (HR2.out.below HBb.out)
  have HBbw := Hid.mk' (HB2.out.trans (HBb.out.mono HB2.out.size))
  rw [hwb.out]
  clear d0 d1 hz2
  refine (dread_any a0 b0 n c m d C P x wb HKb.out).mono ?_
  rintro e w3 ⟨hrd, hb3⟩
  have HB3 := Hid.mk' (HBbw.out.trans (hb3.mono HBbw.out.size))
  have HXa3 := Hid.mk' (HXab.out.below hb3)
  have HXb3 := Hid.mk' (HXb.out.below hb3)
  have HXd3 := Hid.mk' (HXdb.out.below hb3)
  have HK3 := Hid.mk' (HKb.out.below hb3)
  have HRa3 := Hid.mk' (HRab.out.below hb3)
  have HRb3 := Hid.mk' (HRbb.out.below hb3)
  have e0 := HXa3.out.c0
  have e1 := HXa3.out.c1
  have g0 := HXb3.out.c0
  have g1 := HXb3.out.c1
  have tqq : (q != q) = false := by simp
  obtain ⟨CA, PA, hA, hB⟩ : ∃ CA PA, Dk w3 x0 xn x1 xm CA PA ∧ Dk w3 y0 yn y1 ym CA PA := by
    by_cases h0 : q = 0
    · exact ⟨_, _, HRa3.out.yes h0, HRb3.out.yes h0⟩
    · exact ⟨_, _, HRa3.out.no h0, HRb3.out.no h0⟩
  have HDA := Hid.mk' hA
  have HDB := Hid.mk' hB
  have hdef : Hid (rdD C P x = if chkD C P = 0 then (if hasB n x = true then 0 else 1) else chkD C P) := by show _ = _; unfold rdD; rw [hN.out]
  obtain ⟨r, hr⟩ : ∃ r, Hid (chkD C P = r) := ⟨_, Hid.mk' rfl⟩
  rw [hr.out] at hrange hdef
  clear hb3 hA hB
  rcases hrd with ⟨hrd, rfl⟩ | ⟨g, hg, hrd, rfl⟩
  · rw [hrd] at hdef
    have hr0 : r = 0 := by
      refine Classical.byContradiction fun hh => ?_
      have h := hdef.out
      rw [if_neg hh] at h; exact hh h.symm
    subst hr0
    have hhas : hasB n x = true := by
      cases hh : hasB n x with
      | true => rfl
      | false =>
        have h := hdef.out
        rw [if_pos rfl, hh] at h
        exact absurd h (by decide)
    have hxx : 0 ≤ x ∧ x < (n : Int) := of_decide_eq_true hhas
    obtain ⟨y, rfl⟩ : ∃ y : Nat, x = y := ⟨x.toNat, by omega⟩
    have hy : y < n := by omega
    rw [Int.toNat_natCast]
    obtain ⟨T, hT⟩ : ∃ T, Hid (cellL allL (y : Int) P 0 (C.getD y ⟨#[]⟩) = T) := ⟨_, Hid.mk' rfl⟩
    rw [hT.out]
    have s1 : decide ((n : Int) ≤ (y : Int)) = false := decide_eq_false (by omega)
    clear hdef hhas hxx hrange hrd
    go_wp2_with fail
    refine (sameDk_any x0 x1 xn xc xm xd CA PA y0 y1 yn yc ym yd CA PA _ HDA.out HDB.out).mono ?_
    rintro e w4 ⟨⟨b, rfl, hb⟩, hb4⟩
    obtain rfl := hb.yes ⟨rfl, rfl⟩
    have HB4 := Hid.mk' (HB3.out.trans (hb4.mono HB3.out.size))
    have HK4 := Hid.mk' (HK3.out.below hb4)
    have HX4 := Hid.mk' (HXd3.out.below hb4)
    have d0 := HX4.out.c0
    have d1 := HX4.out.c1
    clear hb hb4
    go_wp2_with fail
    refine (rdisk_any a0 b0 n c m d C P _ HK4.out).mono ?_
    rintro e w5 ⟨rfl, hb5⟩
    rw [hr.out]
    have HB5 := Hid.mk' (HB4.out.trans (hb5.mono HB4.out.size))
    have HK5 := Hid.mk' (HK4.out.below hb5)
    have f0 := (HX4.out.below hb5).c0
    have f1 := (HX4.out.below hb5).c1
    clear hb5
    go_wp2_with fail
    refine (rcellE_any a0 b0 n c m d C P y _ HK5.out hy).mono ?_
    rintro e w6 ⟨rfl, hb6⟩
    rw [hT.out]
    have HB6 := Hid.mk' (HB5.out.trans (hb6.mono HB5.out.size))
    have t9 : (T.toList == T.toList) = true := by simp
    clear hb6
    go_wp2_with fail
    go_ret
    exact ⟨rfl, HB6.out⟩
  · go_wp2_with fail
    refine (sameDk_any x0 x1 xn xc xm xd CA PA y0 y1 yn yc ym yd CA PA _ HDA.out HDB.out).mono ?_
    rintro e w4 ⟨⟨b, rfl, hb⟩, hb4⟩
    obtain rfl := hb.yes ⟨rfl, rfl⟩
    have HB4 := Hid.mk' (HB3.out.trans (hb4.mono HB3.out.size))
    have HK4 := Hid.mk' (HK3.out.below hb4)
    have HX4 := Hid.mk' (HXd3.out.below hb4)
    have d0 := HX4.out.c0
    have d1 := HX4.out.c1
    clear hb hb4
    go_wp2_with fail
    refine (rdisk_any a0 b0 n c m d C P _ HK4.out).mono ?_
    rintro e w5 ⟨rfl, hb5⟩
    rw [hr.out]
    have HB5 := Hid.mk' (HB4.out.trans (hb5.mono HB4.out.size))
    have f0 := (HX4.out.below hb5).c0
    have f1 := (HX4.out.below hb5).c1
    clear hb5
    by_cases hr0 : r = 0
    · subst hr0
      have hg1 : g = 1 ∧ hasB n x = false := by
        have h := hdef.out
        rw [hrd.out, if_pos rfl] at h
        cases hh : hasB n x with
        | true => rw [hh, if_pos rfl] at h; exact absurd h hg
        | false => rw [hh] at h; exact ⟨h, rfl⟩
      obtain ⟨rfl, hh⟩ := hg1
      have hxn : ¬ (0 ≤ x ∧ x < (n : Int)) := of_decide_eq_false hh
      clear hdef hrd hg hrange hh
      by_cases hx0 : x < 0
      · have s0 : decide (x < 0) = true := decide_eq_true hx0
        clear hxn
        go_wp2_with fail
        go_ret
        exact ⟨rfl, HB5.out⟩
      · have s0 : decide (x < 0) = false := decide_eq_false hx0
        have s1 : decide ((n : Int) ≤ x) = true := decide_eq_true (by omega)
        clear hxn
        go_wp2_with fail
        go_ret
        exact ⟨rfl, HB5.out⟩
    · have hgr : g = r := by
        have h := hdef.out
        rw [hrd.out, if_neg hr0] at h; exact h
      subst hgr
      have tg : (g != 0) = true := by rw [bne_iff_ne]; exact hr0
      have tgg : (g == g) = true := by simp
      clear hdef hrd hg
      go_wp2_with fail
      go_ret
      exact ⟨rfl, HB5.out⟩
end Go.Proofs.Ytlcfccnkplmpgaa
