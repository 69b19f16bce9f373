/- The law DiskReads, walked. -/
import Derived.Test.YtlcfccnkplmpgaaDkAnsKit
import Derived.Test.YtlcfccnkplmpgaaDiskMakeWalks
import Derived.Test.YtlcfccnkplmpgaaDiskReadWalks
import Derived.Test.YtlcfccnkplmpgaaEqualS
import Derived.Test.YtlcfccnkplmpgaaWrMath
namespace Go.Proofs.Ytlcfccnkplmpgaa
open Go.RowKit

theorem lit_two {w : World} {s t : ByteArray} : Rd (w.alloc (.cells #[.string s, .string t] 9)) (some ⟨w.heap.size, 0, none⟩) 2 1 (stC [s, t]) :=
  ⟨rfl, fun _ => ⟨w.heap.size, 0, rfl, by simp, fun j u hj => by
    rw [Nat.zero_add, World.cell?_alloc_new]
    match j with
    | 0 => exact hj
    | 1 => exact hj
    | j + 2 => simp [stC] at hj⟩⟩
theorem below_dS5 {B : Nat} {a w : World} (h : Below B a w) (q : Nat) : Below B a (w.drewN q) := ⟨h.os, h.tape, h.output, h.size, h.block⟩
theorem known_reads : wrD (List.replicate 2 ⟨#[]⟩) [] ⟨1, ⟨#[97]⟩⟩ = 0 ∧ rdD (List.replicate 2 ⟨#[]⟩) [⟨1, ⟨#[97]⟩⟩] 1 = 0 ∧ cellL allL 1 [⟨1, ⟨#[97]⟩⟩] 0 ((List.replicate 2 (⟨#[]⟩ : ByteArray)).getD 1 ⟨#[]⟩) = ⟨#[97]⟩ := by decide
theorem dk_make {w : World} {z0 : Option Addr} {n : Nat} (h : Rd w z0 n 1 (stC (List.replicate n ⟨#[]⟩))) (hn : n ≤ 128) : Dk w z0 n none 0 (List.replicate n ⟨#[]⟩) [] :=
  ⟨by simp, rfl, by omega, by omega, h, Rd.nil _ _ _, fun p hp => by simp at hp, fun s hs => by rw [List.eq_of_mem_replicate hs]; decide, fun p hp => by simp at hp⟩
set_option maxRecDepth 20000 in
set_option maxHeartbeats 2000000 in
theorem diskReads_walk (a0 : Option Addr) (n c : Nat) (b0 : Option Addr) (m d : Nat) (C : List ByteArray) (P : List Pt) (x : Int) (s : ByteArray) (z : Int) (w : World) (h : Dk w a0 n b0 m C P) (hx : (Lit.int .i64 x).wf = true) (_hs : s.size ≤ maxLen) (zs : s.data.toList.length ≤ reachBytes) (_hz : (Lit.int .i64 z).wf = true) :
    Calls Try.prog 8 #[.agg #[.slice a0 n c, .slice b0 m d], .int .i64 x, .string s, .int .i64 z] w fun e w' => e = .returned (.bool true) ∧ Below w.heap.size w w' := by
  obtain ⟨k1, k2⟩ := bounds_i64 hx
  have hs : s.size ≤ 140737488355328 := by
    have e : s.data.toList.length = s.size := by rw [Array.length_toList]; rfl
    have := reachBytes_lt
    omega
  obtain ⟨W0, hW0⟩ : ∃ W, Hid (w.alloc (.cells #[.slice a0 n c, .slice b0 m d] 25) = W) := ⟨_, Hid.mk' rfl⟩
  have HB0 : Hid (Below w.heap.size w W0) := by rw [← hW0.out]; exact (Below.refl _ w).alloc (Nat.le_refl _) _
  have HX0 : Hid (Box2 W0 w.heap.size (.slice a0 n c) (.slice b0 m d)) := by rw [← hW0.out]; exact box2_new w _ _ _
  have HKw := Hid.mk' h
  have hN := Hid.mk' h.nC
  have hnB := h.nB
  have hkn := Hid.mk' known_reads
  clear h hx zs
  go_enter Try.func8, Try.ntmps8
  go_wp2_with fail
  rw [hW0.out]
  refine (dmake_yes 2 W0 (by omega) (by omega)).mono ?_
  rintro e w1 ⟨⟨u, rfl, ho⟩, hb1⟩
  obtain ⟨z0, zc, hzu, _, _, _, hrd⟩ := Rd.of_own ho.rc
  rw [List.length_replicate] at hzu hrd
  subst hzu
  obtain ⟨wa, hwa⟩ : ∃ W, Hid (w1.alloc (.cells #[.slice z0 2 zc, .slice none 0 0] 25) = W) := ⟨_, Hid.mk' rfl⟩
  have HBa : Hid (Below w1.heap.size w1 wa) := by rw [← hwa.out]; exact (Below.refl _ _).alloc (Nat.le_refl _) _
  have HXa : Hid (Box2 wa w1.heap.size (.slice z0 2 zc) (.slice none 0 0)) := by rw [← hwa.out]; exact box2_new w1 _ _ _
  have HDa := Hid.mk' ((dk_make hrd (by omega)).below HBa.out)
  have HBw1 := Hid.mk' (HB0.out.trans (hb1.mono HB0.out.size))
  have HX1 := Hid.mk' ((HX0.out.below hb1).below HBa.out)
  have HBaw := Hid.mk' (HBw1.out.trans (HBa.out.mono HBw1.out.size))
  have hz1 : w.heap.size < w1.heap.size := by have := (HX0.out.below hb1).lt; omega
  clear hb1 ho hrd
  go_wp2_with fail
  rw [hwa.out]
  refine (dwrite_any z0 none 2 zc 0 0 _ _ 1 ⟨#[97]⟩ wa HDa.out (by decide)).mono ?_
  rintro e w2 ⟨hans, hb2⟩
  rw [hkn.out.1] at hans
  obtain ⟨u2, v2, rfl, ho2⟩ : ∃ u2 v2, e = .returned (.tuple #[.agg #[u2, v2], .int .i64 0]) ∧ OwnDk w2 wa.heap.size u2 v2 (List.replicate 2 ⟨#[]⟩) [⟨1, ⟨#[97]⟩⟩] := by
    rcases hans with ⟨_, h⟩ | ⟨h, _⟩
    · exact h
    · exact absurd rfl h
  have hzwa : w1.heap.size < wa.heap.size := HXa.out.lt
  have ho3 := (ho2.setLow (a := ⟨w1.heap.size, 0, none⟩) hzwa u2).setLow (a := ⟨w1.heap.size, 1, none⟩) hzwa v2
  obtain ⟨x0, xn, xc, x1, xm, xd, hu2, hv2, hd3⟩ := dk_of_own ho3 (ok_wrD hkn.out.1)
  subst hu2 hv2
  have HD3 := Hid.mk' hd3
  have HB2 := Hid.mk' (HBaw.out.trans (hb2.mono HBaw.out.size))
  have HXa2 := Hid.mk' (HXa.out.below hb2)
  have HX2 := Hid.mk' (HX1.out.below hb2)
  have r0 := HXa2.out.c0
  have r1 := HXa2.out.c1
  have r2 := HXa2.out.f0
  have r3 := HXa2.out.f1
  have HB3 := Hid.mk' (below_set2 HB2.out (Nat.le_of_lt hz1) (.slice x0 xn xc) (.slice x1 xm xd))
  have HX3 := Hid.mk' ((HX2.out.setOther (a := ⟨w1.heap.size, 0, none⟩) (Nat.ne_of_lt hz1) (.slice x0 xn xc)).setOther (a := ⟨w1.heap.size, 1, none⟩) (Nat.ne_of_lt hz1) (.slice x1 xm xd))
  have HXa3 := Hid.mk' (HXa2.out.set (.slice x0 xn xc) (.slice x1 xm xd))
  clear hans hb2 ho2 ho3 hd3
  go_wp2_with fail
  obtain ⟨W3, hW3⟩ : ∃ W, Hid ((w2.setCell ⟨w1.heap.size, 0, none⟩ (.slice x0 xn xc)).setCell ⟨w1.heap.size, 1, none⟩ (.slice x1 xm xd) = W) := ⟨_, Hid.mk' rfl⟩
  rw [hW3.out] at HD3 HB3 HX3 HXa3 ⊢
  clear r0 r1 r2 r3
  refine (dread_any x0 x1 xn xc xm xd _ _ 1 W3 HD3.out).mono ?_
  rintro e w4 ⟨hrd, hb4⟩
  have HB4 := Hid.mk' (HB3.out.trans (hb4.mono HB3.out.size))
  have HX4 := Hid.mk' (HX3.out.below hb4)
  have HD4 := Hid.mk' (HD3.out.below hb4)
  have r0 := (HXa3.out.below hb4).c0
  obtain rfl : e = .returned (.tuple #[.string ⟨#[97]⟩, .int .i64 0]) := by
    rcases hrd with ⟨_, h⟩ | ⟨q, h1, h2, _⟩
    · rw [show ((1 : Int).toNat) = 1 from rfl, hkn.out.2.2] at h; exact h
    · exact absurd (h2.out.symm.trans hkn.out.2.1) h1
  clear hrd hb4
  go_wp2_with fail
  refine (equalS_any x0 (some ⟨w4.heap.size, 0, none⟩) xn xc 2 2 (List.replicate 2 ⟨#[]⟩) [⟨#[]⟩, ⟨#[]⟩] _ (HD4.out.rc.below ((Below.refl _ _).alloc (Nat.le_refl _) _)) lit_two HD4.out.nC rfl HD4.out.nB (by omega)).mono ?_
  rintro e w5 ⟨⟨b, rfl, hb⟩, q5, hw5⟩
  obtain rfl := hb.yes rfl
  have HB5 : Hid (Below w.heap.size w w5) := by rw [hw5]; exact below_dS5 (HB4.out.alloc HB4.out.size _) _
  have HX5 : Hid (Box2 w5 w.heap.size (.slice a0 n c) (.slice b0 m d)) := by rw [hw5]; exact (HX4.out.alloc _).dN _
  have d0 := HX5.out.c0
  have d1 := HX5.out.c1
  clear hb hw5 r0
  go_wp2_with fail
  refine (dwrite_any a0 b0 n c m d C P x s w5 (HKw.out.below HB5.out) hs).mono ?_
  rintro e w6 ⟨hans, hb6⟩
  obtain ⟨y0, yn, yc, y1, ym, yd, rfl, hres⟩ := res_of_ans hans ok_wrD
  obtain ⟨q, hq⟩ : ∃ q, Hid (wrD C P ⟨x, s⟩ = q) := ⟨_, Hid.mk' rfl⟩
  rw [hq.out] at hres ⊢
  have HR6 := Hid.mk' hres
  have HB6 := Hid.mk' (HB5.out.trans (hb6.mono HB5.out.size))
  have HX6 := Hid.mk' (HX5.out.below hb6)
  have hz6 : w.heap.size < w6.heap.size := by have := HX6.out.lt; omega
  clear hans hb6 hres d0 d1
  by_cases h0 : q = 0
  · subst h0
    have HRo := Hid.mk' (read_own hq.out)
    have HRt := Hid.mk' (read_other hq.out z)
    have HD6 := Hid.mk' (HR6.out.yes rfl)
    go_wp2_with fail
    obtain ⟨wb, hwb⟩ : ∃ W, Hid (w6.alloc (.cells #[.slice y0 yn yc, .slice y1 ym yd] 25) = W) := ⟨_, Hid.mk' rfl⟩
    have HBb : Hid (Below w6.heap.size w6 wb) := by rw [← hwb.out]; exact (Below.refl _ _).alloc (Nat.le_refl _) _
    have HXb : Hid (Box2 wb w6.heap.size (.slice y0 yn yc) (.slice y1 ym yd)) := by rw [← hwb.out]; exact box2_new w6 _ _ _
    have HDb := Hid.mk' (HD6.out.below HBb.out)
    have HXw := Hid.mk' (HX6.out.below HBb.out)
    have HBbw := Hid.mk' (HB6.out.trans (HBb.out.mono HB6.out.size))
    rw [hwb.out]
    refine (dread_any y0 y1 yn yc ym yd C (P ++ [⟨x, s⟩]) x wb HDb.out).mono ?_
    rintro e w7 ⟨hrd, hb7⟩
    have HB7 := Hid.mk' (HBbw.out.trans (hb7.mono HBbw.out.size))
    have HXb7 := Hid.mk' (HXb.out.below hb7)
    have HXw7 := Hid.mk' (HXw.out.below hb7)
    have HD7 := Hid.mk' (HDb.out.below hb7)
    obtain rfl : e = .returned (.tuple #[.string s, .int .i64 0]) := by
      rcases hrd with ⟨_, h⟩ | ⟨q, h1, h2, _⟩
      · rw [HRo.out.2] at h; exact h
      · exact absurd (h2.out.symm.trans HRo.out.1) h1
    have r0 := HXb7.out.c0
    have r1 := HXw7.out.c0
    have ts : (s.toList != s.toList) = false := by simp
    clear hrd hb7
    go_wp2_with fail
    refine (equalS_any y0 a0 yn yc n c C C _ HD7.out.rc (HKw.out.below HB7.out).rc HD7.out.nC hN.out HD7.out.nB hnB).mono ?_
    rintro e w8 ⟨⟨b, rfl, hb⟩, q8, hw8⟩
    obtain rfl := hb.yes rfl
    have HB8 : Hid (Below w.heap.size w w8) := by rw [hw8]; exact below_dS5 HB7.out _
    have HX8 : Hid (Box2 w8 w.heap.size (.slice a0 n c) (.slice b0 m d)) := by rw [hw8]; exact HXw7.out.dN _
    have HXb8 : Hid (Box2 w8 w6.heap.size (.slice y0 yn yc) (.slice y1 ym yd)) := by rw [hw8]; exact HXb7.out.dN _
    have HD8 : Hid (Dk w8 y0 yn y1 ym C (P ++ [⟨x, s⟩])) := by rw [hw8]; exact HD7.out.below (below_dS5 (Below.refl _ _) _)
    have d0 := HX8.out.c0
    have d1 := HX8.out.c1
    clear hb hw8 r0 r1 ts
    go_wp2_with fail
    refine (dread_any a0 b0 n c m d C P z w8 (HKw.out.below HB8.out)).mono ?_
    rintro e w9 ⟨hra, hb9⟩
    have HB9 := Hid.mk' (HB8.out.trans (hb9.mono HB8.out.size))
    have HXb9 := Hid.mk' (HXb8.out.below hb9)
    have HD9 := Hid.mk' (HD8.out.below hb9)
    have r0 := HXb9.out.c0
    have r1 := HXb9.out.c1
    obtain ⟨A, qa, rfl, hA1, hA2⟩ : ∃ A qa, e = .returned (.tuple #[.string A, .int .i64 qa]) ∧ rdD C P z = qa ∧ (qa = 0 ∧ A = cellL allL z P 0 (C.getD z.toNat ⟨#[]⟩) ∨ qa ≠ 0 ∧ A = ⟨#[]⟩) := by
      rcases hra with ⟨h1, h2⟩ | ⟨q, h1, h2, h3⟩
      · exact ⟨_, _, h2, h1, .inl ⟨rfl, rfl⟩⟩
      · exact ⟨_, _, h3, h2.out, .inr ⟨h1, rfl⟩⟩
    have HA1 := Hid.mk' hA1
    have HA2 := Hid.mk' hA2
    clear hra hb9 hA1 hA2 d0 d1
    go_wp2_with fail
    refine (dread_any y0 y1 yn yc ym yd C (P ++ [⟨x, s⟩]) z w9 HD9.out).mono ?_
    rintro e w10 ⟨hrb, hb10⟩
    have HB10 := Hid.mk' (HB9.out.trans (hb10.mono HB9.out.size))
    obtain ⟨B, rfl, hBA⟩ : ∃ B, e = .returned (.tuple #[.string B, .int .i64 qa]) ∧ (z ≠ x → A = B) := by
      rcases hrb with ⟨h1, h2⟩ | ⟨q, h1, h2, h3⟩
      · rw [HRt.out.1, HA1.out] at h1
        subst h1
        refine ⟨_, h2, fun hne => ?_⟩
        rw [HRt.out.2 hne]
        rcases HA2.out with ⟨_, h⟩ | ⟨h, _⟩
        · exact h
        · exact absurd rfl h
      · have h2' := h2.out
        rw [HRt.out.1, HA1.out] at h2'
        subst h2'
        refine ⟨_, h3, fun _ => ?_⟩
        rcases HA2.out with ⟨h, _⟩ | ⟨_, h⟩
        · exact absurd h h1
        · exact h
    have tq : (qa == qa) = true := by simp
    clear hrb hb10
    by_cases hzx : z = x
    · subst hzx
      have tz : (z == z) = true := by simp
      clear hBA
      go_wp2_with fail
      go_ret
      exact ⟨rfl, HB10.out⟩
    · have tz : (z == x) = false := by rw [beq_eq_false_iff_ne]; exact hzx
      obtain rfl := hBA hzx
      have tt : (A.toList == A.toList) = true := by simp
      clear hzx
      go_wp2_with fail
      go_ret
      exact ⟨rfl, HB10.out⟩
  · have tq : (q != 0) = true := by rw [bne_iff_ne]; exact h0
    have hyn : yn = 0 := by have := (HR6.out.no h0).nC; simpa using this.symm
    subst hyn
    go_wp2_with fail
    go_ret
    exact ⟨rfl, HB6.out.alloc HB6.out.size _⟩
end Go.Proofs.Ytlcfccnkplmpgaa
