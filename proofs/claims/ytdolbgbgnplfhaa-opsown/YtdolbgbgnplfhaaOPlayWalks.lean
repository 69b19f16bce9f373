/- What ops.play answers, and Play. -/
import Derived.Test.YtdolbgbgnplfhaaOStepWalks
import Derived.Test.YtdolbgbgnplfhaaOps
namespace Go.Proofs.Ytdolbgbgnplfhaa
open Go.RowKit

theorem WDk.mono {w : World} {N N' g : Nat} {u v : Value} {C : List ByteArray} {P : List Pt} (h : WDk w N g u v C P) (hb : N' ≤ N) : WDk w N' g u v C P := ⟨h.bx, Nat.le_trans hb h.gN, h.ow.mono hb, h.a1, h.a2⟩
def PlOk (C : List ByteArray) (P : List Pt) (l : List Opp) (q : Int) (C' : List ByteArray) (P' : List Pt) : Prop := playE C P l = (q, C', P')
/-- what play answers -/
def PlAns (w' : World) (N : Nat) (e : Ending) (C : List ByteArray) (P : List Pt) (l : List Opp) : Prop :=
  (∃ g u v C' P', e = .returned (.tuple #[.pointer (some ⟨g, 0, none⟩), .int .i64 0]) ∧ PlOk C P l 0 C' P' ∧ OkD C' P' ∧ WDk w' N g u v C' P') ∨ (∃ q, e = .returned (.tuple #[.pointer none, .int .i64 q]) ∧ q ≠ 0 ∧ PlOk C P l q [] [])

set_option maxRecDepth 20000 in
set_option maxHeartbeats 1600000 in
theorem oplay_any (a0 a1 : Option Addr) (n c m d : Nat) (C : List ByteArray) (P : List Pt) (al : Option Addr) (nl capl : Nat) (l : List Opp) (w : World) (h : Dk w a0 n a1 m C P) (hl : Ops w al nl capl l) :
    Calls Try.prog 38 #[.agg #[.slice a0 n c, .slice a1 m d], .slice al nl capl] w fun e w' => PlAns w' w.heap.size e C P l ∧ Below w.heap.size w w' := by
  obtain ⟨W0, hW0⟩ : ∃ W, Hid (w.alloc (.cells #[.slice a0 n c, .slice a1 m d] 25) = W) := ⟨_, Hid.mk' rfl⟩
  have HB0 : Hid (Below w.heap.size w W0) := by rw [← hW0.out]; exact (Below.refl _ w).alloc (Nat.le_refl _) _
  have hN0 := HB0.out.size
  have HK := Hid.mk' (h.below HB0.out)
  have HL := Hid.mk' (hl.below HB0.out)
  have hnl := hl.nB
  clear h hl
  go_enter Try.func38, Try.ntmps38
  go_wp2_with fail
  rw [hW0.out]
  refine (begin_any a0 a1 n c m d C P W0 HK.out).mono ?_
  rintro e w1 ⟨hbeg, hb1⟩
  have HB1 := Hid.mk' hb1
  clear hb1
  rcases hbeg with ⟨g, u, v, rfl, hok, hw⟩ | ⟨q, rfl, hq, hcq⟩
  · have HOk := Hid.mk' hok
    have HW := Hid.mk' hw
    clear hok hw
    go_wp2_with fail
    go_loopw [21] (fun i wr => ∃ (k : Nat) (Ck : List ByteArray) (Pk : List Pt) (vk : Value), k ≤ nl ∧ i = .int .i64 k ∧ OkD Ck Pk ∧ plays (l.drop k) Ck Pk = plays l C P ∧ WDk wr W0.heap.size g u vk Ck Pk ∧ Below W0.heap.size W0 wr) (fun i _ => nl - (intOf i).toNat)
    case atStart => exact ⟨0, C, P, v, Nat.zero_le _, rfl, HOk.out, rfl, HW.out, HB1.out⟩
    case round =>
      obtain ⟨k, Ck, Pk, vk, hk, rfl, hok, hpl, how, hbl⟩ := hrel
      have HOkk := Hid.mk' hok
      have HPk := Hid.mk' hpl
      have HWk := Hid.mk' how
      have HB := Hid.mk' hbl
      have hzr := hbl.size
      clear hok hpl how hbl
      by_cases hlt : k < nl
      · obtain ⟨b, off, rfl, hb, hx1, hx2, hx3⟩ := (HL.out.below HB.out).at k hlt
        have hdr := drop_at l k noOp (by rw [HL.out.nL]; exact hlt)
        have HtB := Hid.mk' (HL.out.tB _ (getD_mem l k noOp (by rw [HL.out.nL]; exact hlt)))
        generalize l.getD k noOp = o at *
        obtain ⟨kd, pl, tx⟩ := o
        simp only at hx1 hx2 hx3
        have HPk1 : Hid (plays (⟨kd, pl, tx⟩ :: l.drop (k + 1)) Ck Pk = plays l C P) := by show _ = _; rw [← hdr]; exact HPk.out
        have HWa := Hid.mk' (HWk.out.alloc (.cells #[.int .i64 kd, .int .i64 pl, .string tx] 29))
        have HBa := Hid.mk' (HB.out.alloc hzr (.cells #[.int .i64 kd, .int .i64 pl, .string tx] 29))
        clear hdr HPk
        go_wp2_with fail
        refine (ostep_any W0.heap.size g u vk Ck Pk kd pl tx _ HWa.out HOkk.out HtB.out).mono ?_
        rintro e w2 ⟨hst, hb2⟩
        have HB2 := Hid.mk' (HBa.out.trans hb2)
        clear hb2 hb hx1 hx2 hx3
        rcases hst with ⟨C', P', v', rfl, hs, hw2⟩ | ⟨q, rfl, hs⟩
        · have HS := Hid.mk' hs
          have HW2 := Hid.mk' hw2
          clear hs hw2
          go_wp2_with fail
          go_roundw
          case rel => exact ⟨k + 1, C', P', v', by omega, by go_num, HS.out.1.1, (HS.out.2 _).symm.trans HPk1.out, HW2.out, HB2.out⟩
          case measure => simp [intOf]; omega
        · have HQ : Hid (PlOk C P l q [] []) := by
            show playE C P l = _
            unfold playE
            rw [if_pos (ok_chkD HOk.out), ← HPk1.out]
            exact hs.2 _
          have hq0 := hs.1
          have tq : (q != 0) = true := by rw [bne_iff_ne]; exact hq0
          clear hs
          go_wp2_with fail
          go_ret2
          exact ⟨.inr ⟨q, rfl, hq0, HQ.out⟩, HB0.out.trans (HB2.out.mono hN0)⟩
      · have HQ : Hid (PlOk C P l 0 Ck Pk) := by
          show playE C P l = _
          unfold playE
          rw [if_pos (ok_chkD HOk.out), ← HPk.out, List.drop_of_length_le (by rw [HL.out.nL]; omega)]
          rfl
        go_wp2_with fail
        go_ret2
        exact ⟨.inl ⟨g, u, vk, Ck, Pk, rfl, HQ.out, HOkk.out, HWk.out.mono hN0⟩, HB0.out.trans (HB.out.mono hN0)⟩
  · have HQ : Hid (PlOk C P l q [] []) := by
      show playE C P l = _
      unfold playE
      rw [hcq.out, if_neg hq]
    have tq : (q != 0) = true := by rw [bne_iff_ne]; exact hq
    go_wp2_with fail
    go_ret2
    exact ⟨.inr ⟨q, rfl, hq, HQ.out⟩, HB0.out.trans (HB1.out.mono hN0)⟩

set_option maxRecDepth 20000 in
set_option maxHeartbeats 1600000 in
theorem oPlay_any (a0 a1 : Option Addr) (n c m d : Nat) (C : List ByteArray) (P : List Pt) (al : Option Addr) (nl capl : Nat) (l : List Opp) (w : World) (h : Dk w a0 n a1 m C P) (hl : Ops w al nl capl l) :
    Calls Try.prog 9 #[.agg #[.slice a0 n c, .slice a1 m d], .slice al nl capl] w fun e w' => DkAns w' w.heap.size e (playE C P l).1 (playE C P l).2.1 (playE C P l).2.2 ∧ Below w.heap.size w w' := by
  obtain ⟨⟨qR, CR, PR⟩, hR⟩ : ∃ R, Hid (playE C P l = R) := ⟨_, Hid.mk' rfl⟩
  rw [hR.out]
  simp only
  obtain ⟨hx0, hr0, hb0, hs0⟩ := two_boxes w (.slice a0 n c) (.slice a1 m d) (.slice none 0 0) (.slice none 0 0) 25 25
  have HK := Hid.mk' (h.below hb0)
  have HL := Hid.mk' (hl.below hb0)
  have HR0 := Hid.mk' hr0
  have HB0 := Hid.mk' hb0
  have HS0 := Hid.mk' hs0
  clear h hl hx0 hr0 hb0 hs0
  go_enter Try.func9, Try.ntmps9
  go_wp2_with fail
  obtain ⟨W0, hW0⟩ : ∃ W, Hid ((w.alloc (.cells #[.slice a0 n c, .slice a1 m d] 25)).alloc (.cells #[.slice none 0 0, .slice none 0 0] 25) = W) := ⟨_, Hid.mk' rfl⟩
  rw [hW0.out] at HK HL HR0 HB0 HS0 ⊢
  refine (oplay_any a0 a1 n c m d C P al nl capl l W0 HK.out HL.out).mono ?_
  rintro e w1 ⟨hpl, hb1⟩
  have HB1 := Hid.mk' (HB0.out.trans (hb1.mono HB0.out.size))
  have HR1 := Hid.mk' (HR0.out.below hb1)
  clear hb1
  rcases hpl with ⟨g, u, v, C', P', rfl, hq, hok, hw⟩ | ⟨q, rfl, hq, hcq⟩
  · have HQ : Hid ((qR, CR, PR) = (0, C', P')) := hR.out.symm.trans hq
    have HW := Hid.mk' hw
    clear hq hok hw
    go_wp2_with fail
    refine (wend_any W0.heap.size g u v C' P' _ HW.out).mono ?_
    rintro e w3 ⟨⟨rfl, hown⟩, hb3⟩
    have HB3 := Hid.mk' (HB1.out.trans (hb3.mono HB0.out.size))
    have HR3 := Hid.mk' (HR1.out.kept hb3 (by have := HS0.out; omega))
    have HO := Hid.mk' hown
    obtain ⟨⟨x0, y0, rfl⟩, x1, y1, rfl⟩ := hown.shapes
    have r0 := HR3.out.c0
    have r1 := HR3.out.c1
    have r2 := HR3.out.f0
    have r3 := HR3.out.f1
    have hsn := Hid.mk' (ans_store HS0.out HR3.out HO.out HB3.out)
    clear hb3 hown
    go_wp2_with fail
    have hq0 : qR = 0 := congrArg Prod.fst HQ.out
    have hC0 : CR = C' := congrArg (fun r => r.2.1) HQ.out
    have hP0 : PR = P' := congrArg (fun r => r.2.2) HQ.out
    refine bodyPost_ret (results_disk2 rfl _ _ (w.heap.size + 1) _ _ _ rfl rfl hsn.out.1) rfl ⟨.inl ⟨hq0, _, _, rfl, by rw [hC0, hP0]; exact hsn.out.2.1⟩, hsn.out.2.2⟩
  · have tq : (q != 0) = true := by rw [bne_iff_ne]; exact hq
    have HQ : Hid ((qR, CR, PR) = (q, [], [])) := hR.out.symm.trans hcq
    have r0 := HR1.out.c0
    have r1 := HR1.out.c1
    have r2 := HR1.out.f0
    have r3 := HR1.out.f1
    have HX := HR1.out.set (.slice none 0 0) (.slice none 0 0)
    have HBx := Hid.mk' (below_set2 HB1.out (Nat.le_succ _) (.slice none 0 0) (.slice none 0 0))
    clear hcq
    go_wp2_with fail
    have hq0 : qR = q := congrArg Prod.fst HQ.out
    refine bodyPost_ret (results_disk2 rfl _ _ (w.heap.size + 1) _ _ _ rfl rfl HX) rfl ⟨.inr ⟨by rw [hq0]; exact hq, by rw [hq0]; rfl⟩, HBx.out⟩
end Go.Proofs.Ytdolbgbgnplfhaa
