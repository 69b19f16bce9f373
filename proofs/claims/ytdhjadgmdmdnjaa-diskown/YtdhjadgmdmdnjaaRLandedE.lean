/- What linenref.Landed answers: every write lands. -/
import Derived.Test.YtdhjadgmdmdnjaaRCellE
import Derived.Test.YtdhjadgmdmdnjaaLandKit
namespace Go.Proofs.Ytdhjadgmdmdnjaa
open Go.RowKit

set_option maxRecDepth 20000 in
set_option maxHeartbeats 1600000 in
theorem rlandedE_any (a0 a1 : Option Addr) (n c m d : Nat) (C : List ByteArray) (P : List Pt) (w : World) (h : Dk w a0 n a1 m C P) (hp : ∀ p ∈ P, 0 ≤ p.pl) :
    Calls Try.prog 23 #[.agg #[.slice a0 n c, .slice a1 m d], .func (.func 24) #[] #[]] w fun e w' => (∃ u, e = .returned (.agg #[u, .slice none 0 0]) ∧ OwnDk w' w.heap.size u (.slice none 0 0) (landL allL P 0 C) []) ∧ Below w.heap.size w w' := by
  obtain ⟨i0, hi, hz0, hz1', hz2⟩ := info_parts infoStr
  have KI := Hid.mk' hi
  have KZ0 := Hid.mk' hz0
  have KZ1 := Hid.mk' hz1'
  have KZ2 := Hid.mk' hz2
  clear hi hz0 hz1' hz2
  obtain ⟨hx0, hr0, hb0, hs0⟩ := two_boxesL w (.slice a0 n c) (.slice a1 m d) (.slice none 0 0) (.slice none 0 0) 25 25
  have nB := h.nB
  have HK := Hid.mk' h
  have HX0 := Hid.mk' hx0
  have HR0 := Hid.mk' hr0
  have HB0 := Hid.mk' hb0
  have HS0 := Hid.mk' hs0
  have hN := Hid.mk' h.nC
  have HL := Hid.mk' (landed_is allL P C hp)
  clear h hx0 hr0 hb0 hs0 hp
  go_enter Try.func23, Try.ntmps23
  go_wp2_with fail
  obtain ⟨W0, hW0⟩ : ∃ W, Hid ((w.alloc (.cells #[.slice a0 n c, .slice a1 m d] 25)).alloc (.cells #[.slice none 0 0, .slice none 0 0] 25) = W) := ⟨_, Hid.mk' rfl⟩
  rw [hW0.out] at HX0 HR0 HB0 HS0 ⊢
  have HW0 : Hid (WDk (W0.alloc (.cells #[.slice none 0 0, .slice none 0 0] 25)) (w.heap.size + 1 + 1) (w.heap.size + 1 + 1) (.slice none 0 0) (.slice none 0 0) [] []) := by
    have h := wdk_nil W0 25
    rw [HS0.out] at h; exact h
  have HB1 : Hid (Below (w.heap.size + 1 + 1) W0 (W0.alloc (.cells #[.slice none 0 0, .slice none 0 0] 25))) := ((Below.refl _ W0).mono (Nat.le_of_eq HS0.out.symm)).alloc (Nat.le_of_eq HS0.out.symm) _
  go_loopw [10] (fun i wr => ∃ (k : Nat) (u : Value), k ≤ n ∧ i = .int .i64 k ∧ WDk wr (w.heap.size + 1 + 1) (w.heap.size + 1 + 1) u (.slice none 0 0) ((landL allL P 0 C).take k) [] ∧ Below (w.heap.size + 1 + 1) W0 wr) (fun i _ => n - (intOf i).toNat)
  case atStart => exact ⟨0, _, Nat.zero_le _, rfl, HW0.out, HB1.out⟩
  case round =>
    obtain ⟨k, u, hk, rfl, hwr, hbl⟩ := hrel
    have HWr := Hid.mk' hwr
    have HB := Hid.mk' hbl
    obtain ⟨⟨a3, c3, rfl⟩, _⟩ := hwr.shapes
    have hlk : ((landL allL P 0 C).take k).length = k := by rw [List.length_take, landL_length, hN.out]; omega
    have hxc := hwr.bx.c0
    have hxf := hwr.bx.f0
    clear hbl hwr
    rw [hlk] at HWr hxc
    by_cases hlt : k < n
    · have HKr := Hid.mk' (HK.out.below (HB0.out.trans (HB.out.mono (by omega))))
      have hx := HX0.out.kept HB.out (by omega)
      have x0 := hx.c0
      have x1 := hx.c1
      have hsn := Hid.mk' (take_landL allL P C k (by rw [hN.out]; exact hlt))
      have hce := Hid.mk' (HL.out k (by rw [hN.out]; exact hlt))
      have hNr : w.heap.size + 1 + 1 ≤ wr.heap.size := by have := HWr.out.bx.lt; omega

      have HBw := Hid.mk' (HB0.out.trans (HB.out.mono (by omega)))
      obtain ⟨s, hs⟩ : ∃ s, Hid (cellL allL (k : Int) P 0 (C.getD k ⟨#[]⟩) = s) := ⟨_, Hid.mk' rfl⟩
      rw [hce.out, hs.out] at hsn
      clear hx
      go_wp2_with fail
      go_region_law (first
        | (go_simp; go_at_call 45; refine (rcellE_any a0 a1 n c m d C P k _ HKr.out.drew hlt).mono ?_; rintro e w3 ⟨rfl, hb3⟩; rw [hs.out]; have HW3 := Hid.mk' (HWr.out.drew.below hb3); have HB3 := Hid.mk' (HB.out.drew.trans (hb3.mono hNr)); have l1 := HW3.out.bx.c0; have l2 := (HW3.out.alloc (.cells #[.string s] 9)).bx.c0; have x3 := (HX0.out.kept HB3.out (by omega)).c0; have x4 := (HX0.out.kept HB3.out (by omega)).c1; have hg3 : w.heap.size + 1 + 1 ≤ w3.heap.size := Nat.le_trans hNr hb3.size; clear hb3)
        | (refine step_append_at rfl (.tmp 14) (.tmp 19) 22 rfl (w.heap.size + 1 + 1) 9 i0 (.string ⟨#[]⟩) 1 16 Try.underlying22 KI.out KZ0.out KZ1.out KZ2.out rfl (by decide) (.slice a3 k c3) k (stC ((landL allL P 0 C).take k)) rfl (by have h := (HW3.out.alloc (.cells #[.string s] 9)).ow.rc; rw [hlk] at h; exact h) ⟨w3.heap.size, 0, none⟩ 1 1 [.string s] rfl rfl (cells_st1 w3 s _) (st1_one _) (by unfold maxLen; omega) (by omega) (by simp; omega) ?_; intro v' w4 hown4 hgrow4 hat4; obtain ⟨a5, c5, rfl⟩ := own_slice3 hown4; have HX4 := Hid.mk' (app_wdkC (HW3.out.alloc (.cells #[.string s] 9)) hlk hown4 hgrow4 hat4); have HB4 := Hid.mk' (app_belowC (HB3.out.alloc hg3 (.cells #[.string s] 9)) (HW3.out.alloc (.cells #[.string s] 9)) hgrow4); have n1 := HX4.out.1.c0; have n2 := HX4.out.1.f0; clear hown4 hgrow4 hat4)
        | fail)
      all_goals
        have HW5 : Hid (WDk (w4.setCell ⟨w.heap.size + 1 + 1, 0, none⟩ (.slice a5 (k + 1) c5)) (w.heap.size + 1 + 1) (w.heap.size + 1 + 1) (.slice a5 (k + 1) c5) (.slice none 0 0) ((landL allL P 0 C).take (k + 1)) []) := by
          show WDk _ _ _ _ _ _ _
          rw [hsn.out]; exact HX4.out.2
        have HB5 : Hid (Below (w.heap.size + 1 + 1) W0 (w4.setCell ⟨w.heap.size + 1 + 1, 0, none⟩ (.slice a5 (k + 1) c5))) := HB4.out.setCell (Nat.le_refl _) _
        go_wp2_with fail
        go_roundw
        case rel => exact ⟨k + 1, _, by omega, by go_num, HW5.out, HB5.out⟩
        case measure => simp [intOf]; omega
    · have HWf := HWr.out
      have hall : Hid ((landL allL P 0 C).take k = landL allL P 0 C) := List.take_of_length_le (by rw [landL_length, hN.out]; omega)
      rw [hall.out] at HWf
      have HWF := Hid.mk' HWf
      have y0 := HWf.bx.c0
      have y1 := HWf.bx.c1
      have hr := HR0.out.kept HB.out (by omega)
      have z0 := hr.c0
      have z1 := hr.c1
      have z2 := hr.f0
      have z3 := hr.f1
      have HRr := Hid.mk' hr
      have HBf := Hid.mk' (HB0.out.trans (HB.out.mono (by omega)))
      clear HWf hr hxc hxf hlk
      go_wp2_with fail
      have hsn := ans_storeL HRr.out HWF.out.ow HBf.out
      refine bodyPost_ret (results_disk rfl _ _ (w.heap.size + 1) _ _ rfl hsn.1) rfl ⟨⟨_, rfl, hsn.2.1⟩, hsn.2.2⟩
end Go.Proofs.Ytdhjadgmdmdnjaa
