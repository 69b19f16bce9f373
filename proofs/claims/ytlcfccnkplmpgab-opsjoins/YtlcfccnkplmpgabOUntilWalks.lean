/- What ops.Until answers. -/
import Derived.Test.YtlcfccnkplmpgabOPlayWalks
import Derived.Deep.RegionHeld3
namespace Go.Proofs.Ytlcfccnkplmpgab
open Go.RowKit

/-- Until -/
def untE (C : List ByteArray) (P : List Pt) (l : List Opp) (z : Int) (K : List Bool) : Int × List ByteArray × List Pt :=
  if z < 0 then (1, [], []) else if (playE C P (l.take z.toNat)).1 = 0 then (0, landL (keepL K) (playE C P (l.take z.toNat)).2.2 0 (playE C P (l.take z.toNat)).2.1, []) else playE C P (l.take z.toNat)
theorem untE_neg {C : List ByteArray} {P : List Pt} {l : List Opp} {z : Int} {K : List Bool} (h : z < 0) : untE C P l z K = (1, [], []) := by unfold untE; rw [if_pos h]
theorem untE_ok {C : List ByteArray} {P : List Pt} {l : List Opp} {z : Int} {K : List Bool} {C' : List ByteArray} {P' : List Pt} (h : ¬ z < 0) (hp : playE C P (l.take z.toNat) = (0, C', P')) : untE C P l z K = (0, landL (keepL K) P' 0 C', []) := by
  unfold untE; rw [if_neg h, hp, if_pos rfl]
theorem untE_bad {C : List ByteArray} {P : List Pt} {l : List Opp} {z : Int} {K : List Bool} {q : Int} (h : ¬ z < 0) (hq : q ≠ 0) (hp : playE C P (l.take z.toNat) = (q, [], [])) : untE C P l z K = (q, [], []) := by
  unfold untE; rw [if_neg h, hp, if_neg hq]
theorem take_min {α : Type} (l : List α) (n : Nat) : l.take (min n l.length) = l.take n := by
  by_cases h : n ≤ l.length
  · rw [Nat.min_eq_left h]
  · rw [Nat.min_eq_right (by omega), List.take_length, List.take_of_length_le (by omega)]

set_option maxRecDepth 20000 in
set_option maxHeartbeats 1600000 in
theorem ountil_any (a0 a1 : Option Addr) (n c m d : Nat) (C : List ByteArray) (P : List Pt) (al : Option Addr) (nl capl : Nat) (l : List Opp) (z : Int) (ak : Option Addr) (k0 kcap : Nat) (K : List Bool) (w : World) (h : Dk w a0 n a1 m C P) (hl : Ops w al nl capl l) (hK : Bos w ak k0 K) :
    Calls Try.prog 21 #[.agg #[.slice a0 n c, .slice a1 m d], .slice al nl capl, .int .i64 z, .slice ak k0 kcap] w fun e w' => DkAns w' w.heap.size e (untE C P l z K).1 (untE C P l z K).2.1 (untE C P l z K).2.2 ∧ Below w.heap.size w w' := by
  obtain ⟨⟨qR, CR, PR⟩, hR⟩ : ∃ R, Hid (untE C P l z K = R) := ⟨_, Hid.mk' rfl⟩
  rw [hR.out]
  simp only
  obtain ⟨hx0, hr0, hb0, hs0⟩ := two_boxes w (.slice a0 n c) (.slice a1 m d) (.slice none 0 0) (.slice none 0 0) 25 25
  have HK := Hid.mk' (h.below hb0)
  have HL := Hid.mk' (hl.below hb0)
  have HX0 := Hid.mk' hx0
  have HR0 := Hid.mk' hr0
  have HB0 := Hid.mk' hb0
  have HS0 := Hid.mk' hs0
  have HKk := Hid.mk' (hK.below hb0)
  have hnl := hl.nB
  have hkc := hl.kc
  have hkm : capl ≤ 9223372036854775807 := by have := hl.km; unfold maxLen at this; omega
  clear h hl hx0 hr0 hb0 hs0 hK
  by_cases hz : z < 0
  · have hzd : decide (z < 0) = true := decide_eq_true hz
    go_enter Try.func21, Try.ntmps21
    go_wp2_with fail
    obtain ⟨W0, hW0⟩ : ∃ W, Hid ((w.alloc (.cells #[.slice a0 n c, .slice a1 m d] 25)).alloc (.cells #[.slice none 0 0, .slice none 0 0] 25) = W) := ⟨_, Hid.mk' rfl⟩
    rw [hW0.out] at HK HL HX0 HR0 HB0 HS0 HKk ⊢
    have HQ : Hid ((qR, CR, PR) = (1, [], [])) := hR.out.symm.trans (untE_neg hz)
    have hq0 : qR = 1 := congrArg Prod.fst HQ.out
    refine bodyPost_ret (results_disk2 rfl _ _ (w.heap.size + 1) _ _ _ rfl rfl HR0.out) rfl ⟨.inr ⟨by rw [hq0]; decide, by rw [hq0]; rfl⟩, HB0.out⟩
  · have hzd : decide (z < 0) = false := decide_eq_false hz
    go_enter Try.func21, Try.ntmps21
    go_wp2_with fail
    obtain ⟨W0, hW0⟩ : ∃ W, Hid ((w.alloc (.cells #[.slice a0 n c, .slice a1 m d] 25)).alloc (.cells #[.slice none 0 0, .slice none 0 0] 25) = W) := ⟨_, Hid.mk' rfl⟩
    rw [hW0.out] at HK HL HX0 HR0 HB0 HS0 HKk ⊢
    obtain ⟨p, hp⟩ : ∃ p, Hid (min z.toNat nl = p) := ⟨_, Hid.mk' rfl⟩
    have hpn : p ≤ nl := by have := hp.out; omega
    have hmin : (if (nl : Int) < z then (nl : Int) else z) = (p : Int) := by have := hp.out; split <;> omega
    have HLp := Hid.mk' (HL.out.pre p hpn)
    have HTk : Hid (l.take p = l.take z.toNat) := by
      show _ = _
      rw [← hp.out, ← HL.out.nL]; exact take_min l _
    have hNz := Hid.mk' hz
    have hpc : p ≤ capl := by omega
    have c0 := HX0.out.c0
    have c1 := HX0.out.c1
    clear hz
    go_region_held3 (fun X => X.cell? ⟨w.heap.size, 0, none⟩ = some (.slice a0 n c) ∧ X.cell? ⟨w.heap.size, 1, none⟩ = some (.slice a1 m d)) (first | exact ⟨p0, p1⟩ | exact ⟨c0, c1⟩) (first
      | (go_at_call 46; refine (oplay_any a0 a1 n c m d C P al p capl (l.take p) _ HK.out.drew (HLp.out.below ((Below.refl _ _).drew))).mono ?_; rintro e w1 ⟨hpl, hb1⟩; have HPL := Hid.mk' hpl; have HB1 := Hid.mk' hb1; have p0 := ((HX0.out.drew.below hb1)).c0; have p1 := ((HX0.out.drew.below hb1)).c1; clear hb1; obtain ⟨T, qT, rfl, hT⟩ : ∃ T qT, e = .returned (.tuple #[T, .int .i64 qT]) ∧ True := (by rcases hpl with ⟨g, u, v, C', P', rfl, _⟩ | ⟨q, rfl, _⟩ <;> exact ⟨_, _, rfl, trivial⟩); clear hpl hT)
      | fail)
    all_goals
      have HBw := Hid.mk' (HB0.out.trans (((Below.refl _ W0).drew.trans HB1.out).mono HB0.out.size))
      have HR1 := Hid.mk' (HR0.out.drew.below HB1.out)
      have HKq := Hid.mk' ((HKk.out.drew).below HB1.out)
      clear c0 c1 p0 p1
      have hzz : ¬ z < 0 := of_decide_eq_false hzd
      rcases HPL.out with ⟨g, u, v, C', P', he, hq, hok, hw⟩ | ⟨q, he, hq, hcq⟩
      · cases he
        have HQ : Hid ((qR, CR, PR) = (0, landL (keepL K) P' 0 C', [])) := hR.out.symm.trans (untE_ok hzz (by rw [← HTk.out]; exact hq))
        have HW := Hid.mk' hw
        have HOk := Hid.mk' hok
        clear hq hok hw
        have hka : Hid (0 < k0 → ∀ a, ak = some a → a.block < W0.drew.heap.size) := HKk.out.low
        go_wp2_with fail
        refine (wcrash_any W0.drew.heap.size g u v C' P' K k0 kcap ak w1 HW.out HOk.out HKq.out hka.out).mono ?_
        rintro e w2 ⟨⟨rfl, hw2⟩, hb2⟩
        have HB2 := Hid.mk' (HBw.out.trans (hb2.mono HB0.out.size))
        have HR2 := Hid.mk' (HR1.out.kept hb2 HR0.out.drew.lt)
        have HW2 := Hid.mk' hw2
        clear hb2 hw2
        go_wp2_with fail
        obtain ⟨C2, hC2⟩ : ∃ C2, Hid (landL (keepL K) P' 0 C' = C2) := ⟨_, Hid.mk' rfl⟩
        rw [hC2.out] at HW2 HQ
        refine (wend_any W0.drew.heap.size g u _ C2 [] _ HW2.out).mono ?_
        rintro e w3 ⟨⟨rfl, hown⟩, hb3⟩
        have HB3 := Hid.mk' (HB2.out.trans (hb3.mono HB0.out.size))
        have HR3 := Hid.mk' (HR2.out.kept hb3 HR0.out.drew.lt)
        have HO := Hid.mk' hown
        obtain ⟨⟨x0, y0, rfl⟩, _⟩ := hown.shapes
        have r0 := HR3.out.c0
        have r1 := HR3.out.c1
        have r2 := HR3.out.f0
        have r3 := HR3.out.f1
        have hsn := Hid.mk' (ans_store HS0.out HR3.out HO.out HB3.out)
        clear hb3 hown
        go_wp2_with fail
        have hq0 : qR = 0 := congrArg Prod.fst HQ.out
        have hC0 : CR = C2 := congrArg (fun r => r.2.1) HQ.out
        have hP0 : PR = [] := congrArg (fun r => r.2.2) HQ.out
        refine bodyPost_ret (results_disk2 rfl _ _ (w.heap.size + 1) _ _ _ rfl rfl hsn.out.1) rfl ⟨.inl ⟨hq0, _, _, rfl, by rw [hC0, hP0]; exact hsn.out.2.1⟩, hsn.out.2.2⟩
      · cases he
        have tq : (qT != 0) = true := by rw [bne_iff_ne]; exact hq
        have HQ : Hid ((qR, CR, PR) = (qT, [], [])) := hR.out.symm.trans (untE_bad hzz hq (by rw [← HTk.out]; exact hcq))
        have HQ0 := Hid.mk' hq
        have r0 := HR1.out.c0
        have r1 := HR1.out.c1
        have r2 := HR1.out.f0
        have r3 := HR1.out.f1
        have HX := HR1.out.set (.slice none 0 0) (.slice none 0 0)
        have HBx := Hid.mk' (below_set2 HBw.out (Nat.le_succ _) (.slice none 0 0) (.slice none 0 0))
        clear hcq hq
        go_wp2_with fail
        have hq0 : qR = qT := congrArg Prod.fst HQ.out
        refine bodyPost_ret (results_disk2 rfl _ _ (w.heap.size + 1) _ _ _ rfl rfl HX) rfl ⟨.inr ⟨by rw [hq0]; exact HQ0.out, by rw [hq0]; rfl⟩, HBx.out⟩
end Go.Proofs.Ytlcfccnkplmpgab
