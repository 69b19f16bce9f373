/- The law DiskMakes, walked. -/
import Derived.Test.YtlcfccnkplmpgaaDiskMakeWalks
import Derived.Test.YtlcfccnkplmpgaaRDiskWalks
import Derived.Test.YtlcfccnkplmpgaaDkAnsKit
namespace Go.Proofs.Ytlcfccnkplmpgaa
open Go.RowKit

set_option maxRecDepth 20000 in
set_option maxHeartbeats 400000 in
theorem noText_any (w : World) : Calls Try.prog 11 #[.string ⟨#[]⟩] w fun e w' => e = .returned (.bool false) ∧ w' = w := by
  go_enter Try.func11, Try.ntmps11
  go_wp2_with fail
  go_ret
  exact ⟨rfl, rfl⟩
theorem rep_get (n k : Nat) (h : k < n) : (List.replicate n (⟨#[]⟩ : ByteArray)).getD k ⟨#[]⟩ = ⟨#[]⟩ := by
  rw [List.getD_eq_getElem?_getD, List.getElem?_eq_getElem (by simpa using h), List.getElem_replicate]; rfl
set_option maxRecDepth 20000 in
set_option maxHeartbeats 400000 in
theorem indexNo_any (a0 : Option Addr) (n c : Nat) (w : World) (h : Rd w a0 n 1 (stC (List.replicate n ⟨#[]⟩))) (hn : n ≤ 128) :
    Calls Try.prog 31 #[.slice a0 n c, .func (.func 11) #[] #[]] w fun e w' => e = .returned (.int .i64 (-1)) ∧ w' = w := by
  have HR := Hid.mk' h
  clear h
  go_enter Try.func31, Try.ntmps31
  go_wp2_with fail
  go_loop [8] (fun i => ∃ k : Nat, k ≤ n ∧ i = .int .i64 k) (fun i => n - (intOf i).toNat)
  case atStart => exact ⟨0, Nat.zero_le _, rfl⟩
  case round =>
    obtain ⟨k, hk, rfl⟩ := hrel
    by_cases hlt : k < n
    · obtain ⟨b, off, rfl, hb, hx⟩ := HR.out.at' (by omega)
      have hc := hx k _ (stC_at _ k (by simpa using hlt))
      rw [rep_get n k hlt] at hc
      clear hx
      go_wp2_with fail
      refine (noText_any _).mono ?_
      rintro e w1 ⟨rfl, hw1⟩; obtain rfl := hw1.symm
      go_wp2_with fail
      go_round
      case rel => exact ⟨k + 1, by omega, by go_num⟩
      case measure => simp [intOf]; omega
    · go_wp2_with fail
      go_ret
      exact ⟨rfl, rfl⟩
set_option maxRecDepth 20000 in
set_option maxHeartbeats 400000 in
theorem containsNo_any (a0 : Option Addr) (n c : Nat) (w : World) (h : Rd w a0 n 1 (stC (List.replicate n ⟨#[]⟩))) (hn : n ≤ 128) :
    Calls Try.prog 10 #[.slice a0 n c, .func (.func 11) #[] #[]] w fun e w' => e = .returned (.bool false) ∧ w' = w := by
  have HR := Hid.mk' h
  clear h
  go_enter Try.func10, Try.ntmps10
  go_wp2_with fail
  refine (indexNo_any a0 n c _ HR.out hn).mono ?_
  rintro e w1 ⟨rfl, hw1⟩; obtain rfl := hw1.symm
  go_wp2_with fail
  go_ret
  exact ⟨rfl, rfl⟩
set_option maxRecDepth 20000 in
set_option maxHeartbeats 1600000 in
theorem diskMakes_walk (x : Int) (a0 : Option Addr) (n c : Nat) (b0 : Option Addr) (m d : Nat) (C : List ByteArray) (P : List Pt) (w : World) (hx : (Lit.int .i64 x).wf = true) (h : Dk w a0 n b0 m C P) :
    Calls Try.prog 3 #[.int .i64 x, .agg #[.slice a0 n c, .slice b0 m d]] w fun e w' => e = .returned (.bool true) ∧ Below w.heap.size w w' := by
  obtain ⟨k1, k2⟩ := bounds_i64 hx
  obtain ⟨W0, hW0⟩ : ∃ W, Hid (w.alloc (.cells #[.slice a0 n c, .slice b0 m d] 25) = W) := ⟨_, Hid.mk' rfl⟩
  have HB0 : Hid (Below w.heap.size w W0) := by rw [← hW0.out]; exact (Below.refl _ w).alloc (Nat.le_refl _) _
  have HX0 : Hid (Box2 W0 w.heap.size (.slice a0 n c) (.slice b0 m d)) := by rw [← hW0.out]; exact box2_new w _ _ _
  have HK := Hid.mk' (h.below HB0.out)
  clear h hx
  go_enter Try.func3, Try.ntmps3
  go_wp2_with fail
  rw [hW0.out]
  by_cases hn : x < 1 ∨ 128 < x
  · refine (dmake_no x W0 hn).mono ?_
    rintro e w1 ⟨rfl, hb1⟩
    have HB1 := Hid.mk' (HB0.out.trans (hb1.mono HB0.out.size))
    have HX1 := Hid.mk' (HX0.out.below hb1)
    have HK1 := Hid.mk' (HK.out.below hb1)
    have hzz : w.heap.size < w1.heap.size := by have := HX1.out.lt; omega
    clear hb1
    rcases hn with hn | hn
    all_goals
      go_upto_region 7 with fail
      obtain ⟨wa, hwa⟩ : ∃ W, Hid (w1.alloc (.cells #[.slice none 0 0, .slice none 0 0] 25) = W) := ⟨_, Hid.mk' rfl⟩
      have HBa : Hid (Below w1.heap.size w1 wa) := by rw [← hwa.out]; exact (Below.refl _ _).alloc (Nat.le_refl _) _
      have HXa : Hid (Box2 wa w1.heap.size (.slice none 0 0) (.slice none 0 0)) := by rw [← hwa.out]; exact box2_new w1 _ _ _
      have HKa := Hid.mk' (HK1.out.below HBa.out)
      have HXd := Hid.mk' (HX1.out.below HBa.out)
      have HBaw := Hid.mk' (HB1.out.trans (HBa.out.mono HB1.out.size))
      rw [hwa.out]
      have s2 := HXa.out.c0
      have s3 := HXa.out.c1
      have s4 := HXd.out.c0
      have s5 := HXd.out.c1
      have hww : w.heap.size ≤ wa.heap.size := HBaw.out.size
      have tq : (chkD C P == chkD C P) = true := by simp
      generalize hqq : chkD C P = q at *
      have Hqq := Hid.mk' hqq
      clear hqq
      go_region_held3 (fun X => X.cell? ⟨w1.heap.size, 0, none⟩ = some (.slice none 0 0) ∧ X.cell? ⟨w1.heap.size, 1, none⟩ = some (.slice none 0 0) ∧ X.cell? ⟨w.heap.size, 0, none⟩ = some (.slice a0 n c) ∧ X.cell? ⟨w.heap.size, 1, none⟩ = some (.slice b0 m d))
        (first | exact ⟨q0, q1, q2, q3⟩ | exact ⟨p0, p1, p2, p3⟩ | exact ⟨s2, s3, s4, s5⟩)
        (first
          | (go_at_call 12; refine (dchk_any a0 b0 n c m d C P _ HK13.out).mono ?_; rintro e w4 ⟨rfl, hb⟩; rw [Hqq.out]; have HB4 := Hid.mk' (HB13.out.trans (hb.mono HB13.out.size)); have q0 := (HXa13.out.below hb).c0; have q1 := (HXa13.out.below hb).c1; have q2 := (HXd13.out.below hb).c0; have q3 := (HXd13.out.below hb).c1; clear hb)
          | (go_at_call 12; refine (dchk_any a0 b0 n c m d C P _ HKa.out.drew).mono ?_; rintro e w3 ⟨rfl, hb⟩; rw [Hqq.out]; have HK12 := Hid.mk' (HKa.out.drew.below hb); have HB12 := Hid.mk' (HBaw.out.drew.trans (hb.mono hww)); have HXa12 := Hid.mk' (HXa.out.drew.below hb); have HXd12 := Hid.mk' (HXd.out.drew.below hb); have p0 := HXa12.out.c0; have p1 := HXa12.out.c1; have p2 := HXd12.out.c0; have p3 := HXd12.out.c1; clear hb)
          | (go_at_call 13; refine (rdisk_any a0 b0 n c m d C P _ HK12.out).mono ?_; rintro e w4 ⟨rfl, hb⟩; rw [Hqq.out]; have HB4 := Hid.mk' (HB12.out.trans (hb.mono HB12.out.size)); have q0 := (HXa12.out.below hb).c0; have q1 := (HXa12.out.below hb).c1; have q2 := (HXd12.out.below hb).c0; have q3 := (HXd12.out.below hb).c1; clear hb)
          | (go_at_call 13; refine (rdisk_any a0 b0 n c m d C P _ HKa.out.drew).mono ?_; rintro e w3 ⟨rfl, hb⟩; rw [Hqq.out]; have HK13 := Hid.mk' (HKa.out.drew.below hb); have HB13 := Hid.mk' (HBaw.out.drew.trans (hb.mono hww)); have HXa13 := Hid.mk' (HXa.out.drew.below hb); have HXd13 := Hid.mk' (HXd.out.drew.below hb); have p0 := HXa13.out.c0; have p1 := HXa13.out.c1; have p2 := HXd13.out.c0; have p3 := HXd13.out.c1; clear hb)
          | fail)
      all_goals
        go_wp2_with fail
        go_ret
        exact ⟨rfl, HB4.out⟩
  
  · obtain ⟨k, rfl⟩ : ∃ k : Nat, x = k := ⟨x.toNat, by omega⟩
    refine (dmake_yes k W0 (by omega) (by omega)).mono ?_
    rintro e w1 ⟨⟨u, rfl, ho⟩, hb1⟩
    have HB1 := Hid.mk' (HB0.out.trans (hb1.mono HB0.out.size))
    have HX1 := Hid.mk' (HX0.out.below hb1)
    have HK1 := Hid.mk' (HK.out.below hb1)
    obtain ⟨z0, zc, hz, _, _, _, hrd⟩ := Rd.of_own ho.rc
    rw [List.length_replicate] at hz hrd
    subst hz
    have HRd := Hid.mk' (hrd.below ((Below.refl _ w1).alloc (Nat.le_refl _) (.cells #[.slice z0 k zc, .slice none 0 0] 25)))
    have s0 : decide ((k : Int) < 1) = false := decide_eq_false (by omega)
    have s1 : ((k : Int) != (k : Int)) = false := by simp
    have hzz : w.heap.size < w1.heap.size := by have := HX1.out.lt; omega
    have hk1 : k ≤ 128 := by omega
    clear hb1 ho hrd hn
    go_wp2_with fail
    obtain ⟨wa, hwa⟩ : ∃ W, Hid (w1.alloc (.cells #[.slice z0 k zc, .slice none 0 0] 25) = W) := ⟨_, Hid.mk' rfl⟩
    have HBa : Hid (Below w1.heap.size w1 wa) := by rw [← hwa.out]; exact (Below.refl _ _).alloc (Nat.le_refl _) _
    have HXa : Hid (Box2 wa w1.heap.size (.slice z0 k zc) (.slice none 0 0)) := by rw [← hwa.out]; exact box2_new w1 _ _ _
    have HKa := Hid.mk' (HK1.out.below HBa.out)
    have HXd := Hid.mk' (HX1.out.below HBa.out)
    have HBaw := Hid.mk' (HB1.out.trans (HBa.out.mono HB1.out.size))
    rw [hwa.out]
    rw [hwa.out] at HRd
    refine (containsNo_any z0 k zc wa HRd.out hk1).mono ?_
    rintro e w2 ⟨rfl, hw2⟩; obtain rfl := hw2.symm
    have s2 := HXa.out.c0
    have s3 := HXa.out.c1
    have s4 := HXd.out.c0
    have s5 := HXd.out.c1
    have hww : w.heap.size ≤ wa.heap.size := HBaw.out.size
    have tq : (chkD C P == chkD C P) = true := by simp
    generalize hqq : chkD C P = q at *
    have Hqq := Hid.mk' hqq
    clear hqq
    go_wp2_with fail
    go_region_held3 (fun X => X.cell? ⟨w1.heap.size, 0, none⟩ = some (.slice z0 k zc) ∧ X.cell? ⟨w1.heap.size, 1, none⟩ = some (.slice none 0 0) ∧ X.cell? ⟨w.heap.size, 0, none⟩ = some (.slice a0 n c) ∧ X.cell? ⟨w.heap.size, 1, none⟩ = some (.slice b0 m d))
      (first | exact ⟨q0, q1, q2, q3⟩ | exact ⟨p0, p1, p2, p3⟩ | exact ⟨s2, s3, s4, s5⟩)
      (first
        | (go_at_call 12; refine (dchk_any a0 b0 n c m d C P _ HK13.out).mono ?_; rintro e w4 ⟨rfl, hb⟩; rw [Hqq.out]; have HB4 := Hid.mk' (HB13.out.trans (hb.mono HB13.out.size)); have q0 := (HXa13.out.below hb).c0; have q1 := (HXa13.out.below hb).c1; have q2 := (HXd13.out.below hb).c0; have q3 := (HXd13.out.below hb).c1; clear hb)
        | (go_at_call 12; refine (dchk_any a0 b0 n c m d C P _ HKa.out.drew).mono ?_; rintro e w3 ⟨rfl, hb⟩; rw [Hqq.out]; have HK12 := Hid.mk' (HKa.out.drew.below hb); have HB12 := Hid.mk' (HBaw.out.drew.trans (hb.mono hww)); have HXa12 := Hid.mk' (HXa.out.drew.below hb); have HXd12 := Hid.mk' (HXd.out.drew.below hb); have p0 := HXa12.out.c0; have p1 := HXa12.out.c1; have p2 := HXd12.out.c0; have p3 := HXd12.out.c1; clear hb)
        | (go_at_call 13; refine (rdisk_any a0 b0 n c m d C P _ HK12.out).mono ?_; rintro e w4 ⟨rfl, hb⟩; rw [Hqq.out]; have HB4 := Hid.mk' (HB12.out.trans (hb.mono HB12.out.size)); have q0 := (HXa12.out.below hb).c0; have q1 := (HXa12.out.below hb).c1; have q2 := (HXd12.out.below hb).c0; have q3 := (HXd12.out.below hb).c1; clear hb)
        | (go_at_call 13; refine (rdisk_any a0 b0 n c m d C P _ HKa.out.drew).mono ?_; rintro e w3 ⟨rfl, hb⟩; rw [Hqq.out]; have HK13 := Hid.mk' (HKa.out.drew.below hb); have HB13 := Hid.mk' (HBaw.out.drew.trans (hb.mono hww)); have HXa13 := Hid.mk' (HXa.out.drew.below hb); have HXd13 := Hid.mk' (HXd.out.drew.below hb); have p0 := HXa13.out.c0; have p1 := HXa13.out.c1; have p2 := HXd13.out.c0; have p3 := HXd13.out.c1; clear hb)
        | fail)
    all_goals
      go_wp2_with fail
      go_ret
      exact ⟨rfl, HB4.out⟩
end Go.Proofs.Ytlcfccnkplmpgaa
