/- What disk.Sync and disk.Crash answer. -/
import Derived.Test.YtdhjadgmdmdnjaaDiskOpsWalks
namespace Go.Proofs.Ytdhjadgmdmdnjaa
open Go.RowKit

set_option maxRecDepth 20000 in
set_option maxHeartbeats 800000 in
theorem dsync_any (a0 a1 : Option Addr) (n c m d : Nat) (C : List ByteArray) (P : List Pt) (w : World) (h : Dk w a0 n a1 m C P) :
    Calls Try.prog 11 #[.agg #[.slice a0 n c, .slice a1 m d]] w fun e w' => DkAns w' w.heap.size e (chkD C P) (landL allL P 0 C) [] ∧ Below w.heap.size w w' := by
  obtain ⟨hx0, hr0, hb0, hs0⟩ := two_boxes w (.slice a0 n c) (.slice a1 m d) (.slice none 0 0) (.slice none 0 0) 25 25
  have HK := Hid.mk' (h.below hb0)
  have HR0 := Hid.mk' hr0
  have HB0 := Hid.mk' hb0
  have HS0 := Hid.mk' hs0
  clear h hx0 hr0 hb0 hs0
  go_enter Try.func11, Try.ntmps11
  go_wp2_with fail
  obtain ⟨W0, hW0⟩ : ∃ W, Hid ((w.alloc (.cells #[.slice a0 n c, .slice a1 m d] 25)).alloc (.cells #[.slice none 0 0, .slice none 0 0] 25) = W) := ⟨_, Hid.mk' rfl⟩
  rw [hW0.out] at HK HR0 HB0 HS0 ⊢
  refine (begin_any a0 a1 n c m d C P W0 HK.out).mono ?_
  rintro e w1 ⟨hbeg, hb1⟩
  have HB1 := Hid.mk' (HB0.out.trans (hb1.mono HB0.out.size))
  have HR1 := Hid.mk' (HR0.out.below hb1)
  clear hb1
  rcases hbeg with ⟨g, u, v, rfl, hok, hw⟩ | ⟨q, rfl, hq, hcq⟩
  · have HOk := Hid.mk' hok
    have HW := Hid.mk' hw
    clear hok hw
    go_wp2_with fail
    refine (wsync_any W0.heap.size g u v C P _ HW.out HOk.out).mono ?_
    rintro e w2 ⟨⟨rfl, hw2⟩, hb2⟩
    have HB2 := Hid.mk' (HB1.out.trans (hb2.mono HB0.out.size))
    have HR2 := Hid.mk' (HR1.out.kept hb2 (by have := HS0.out; omega))
    have HW2 := Hid.mk' hw2
    have HQ : Hid (chkD C P = 0) := ok_chkD HOk.out
    clear hb2 hw2
    go_wp2_with fail
    obtain ⟨C', hC'⟩ : ∃ C', Hid (landL allL P 0 C = C') := ⟨_, Hid.mk' rfl⟩
    rw [hC'.out] at HW2
    refine (wend_any W0.heap.size g u _ C' [] _ HW2.out).mono ?_
    rintro e w3 ⟨⟨rfl, hown⟩, hb3⟩
    have HB3 := Hid.mk' (HB2.out.trans (hb3.mono HB0.out.size))
    have HR3 := Hid.mk' (HR2.out.kept hb3 (by have := HS0.out; omega))
    have HO := Hid.mk' hown
    obtain ⟨⟨x0, y0, rfl⟩, _⟩ := hown.shapes
    have r0 := HR3.out.c0
    have r1 := HR3.out.c1
    have r2 := HR3.out.f0
    have r3 := HR3.out.f1
    have hsn := Hid.mk' (ans_store HS0.out HR3.out HO.out HB3.out)
    clear hb3 hown
    go_wp2_with fail
    refine bodyPost_ret (results_disk2 rfl _ _ (w.heap.size + 1) _ _ _ rfl rfl hsn.out.1) rfl ⟨.inl ⟨HQ.out, _, _, rfl, by rw [hC'.out]; exact hsn.out.2.1⟩, hsn.out.2.2⟩
  · have tq : (q != 0) = true := by rw [bne_iff_ne]; exact hq
    have r0 := HR1.out.c0
    have r1 := HR1.out.c1
    have r2 := HR1.out.f0
    have r3 := HR1.out.f1
    have HX := HR1.out.set (.slice none 0 0) (.slice none 0 0)
    have HBx := Hid.mk' (below_set2 HB1.out (Nat.le_succ _) (.slice none 0 0) (.slice none 0 0))
    go_wp2_with fail
    refine bodyPost_ret (results_disk2 rfl _ _ (w.heap.size + 1) _ _ _ rfl rfl HX) rfl ⟨.inr ⟨by rw [hcq.out]; exact hq, by rw [hcq.out]; rfl⟩, HBx.out⟩

set_option maxRecDepth 20000 in
set_option maxHeartbeats 800000 in
theorem dcrash_any (a0 a1 : Option Addr) (n c m d : Nat) (C : List ByteArray) (P : List Pt) (K : List Bool) (k0 kcap : Nat) (ak : Option Addr) (w : World) (h : Dk w a0 n a1 m C P) (hK : Bos w ak k0 K) (hka : 0 < k0 → ∀ a, ak = some a → a.block < w.heap.size) :
    Calls Try.prog 20 #[.agg #[.slice a0 n c, .slice a1 m d], .slice ak k0 kcap] w fun e w' => DkAns w' w.heap.size e (chkD C P) (landL (keepL K) P 0 C) [] ∧ Below w.heap.size w w' := by
  obtain ⟨hx0, hr0, hb0, hs0⟩ := two_boxes w (.slice a0 n c) (.slice a1 m d) (.slice none 0 0) (.slice none 0 0) 25 25
  have HK := Hid.mk' (h.below hb0)
  have HR0 := Hid.mk' hr0
  have HB0 := Hid.mk' hb0
  have HS0 := Hid.mk' hs0
  have HKk := Hid.mk' (hK.below hb0)
  have HKa : Hid (0 < k0 → ∀ a, ak = some a → a.block < ((w.alloc (.cells #[.slice a0 n c, .slice a1 m d] 25)).alloc (.cells #[.slice none 0 0, .slice none 0 0] 25)).heap.size) := fun hp a ha => Nat.lt_of_lt_of_le (hka hp a ha) hb0.size
  clear hK hka
  clear h hx0 hr0 hb0 hs0
  go_enter Try.func20, Try.ntmps20
  go_wp2_with fail
  obtain ⟨W0, hW0⟩ : ∃ W, Hid ((w.alloc (.cells #[.slice a0 n c, .slice a1 m d] 25)).alloc (.cells #[.slice none 0 0, .slice none 0 0] 25) = W) := ⟨_, Hid.mk' rfl⟩
  rw [hW0.out] at HK HR0 HB0 HS0 HKk HKa ⊢
  refine (begin_any a0 a1 n c m d C P W0 HK.out).mono ?_
  rintro e w1 ⟨hbeg, hb1⟩
  have HB1 := Hid.mk' (HB0.out.trans (hb1.mono HB0.out.size))
  have HB1c := Hid.mk' hb1
  have HR1 := Hid.mk' (HR0.out.below hb1)
  clear hb1
  rcases hbeg with ⟨g, u, v, rfl, hok, hw⟩ | ⟨q, rfl, hq, hcq⟩
  · have HOk := Hid.mk' hok
    have HW := Hid.mk' hw
    clear hok hw
    go_wp2_with fail
    refine (wcrash_any W0.heap.size g u v C P K k0 kcap ak _ HW.out HOk.out (HKk.out.keptN HB1c.out HKa.out) HKa.out).mono ?_
    rintro e w2 ⟨⟨rfl, hw2⟩, hb2⟩
    have HB2 := Hid.mk' (HB1.out.trans (hb2.mono HB0.out.size))
    have HR2 := Hid.mk' (HR1.out.kept hb2 (by have := HS0.out; omega))
    have HW2 := Hid.mk' hw2
    have HQ : Hid (chkD C P = 0) := ok_chkD HOk.out
    clear hb2 hw2
    go_wp2_with fail
    obtain ⟨C', hC'⟩ : ∃ C', Hid (landL (keepL K) P 0 C = C') := ⟨_, Hid.mk' rfl⟩
    rw [hC'.out] at HW2
    refine (wend_any W0.heap.size g u _ C' [] _ HW2.out).mono ?_
    rintro e w3 ⟨⟨rfl, hown⟩, hb3⟩
    have HB3 := Hid.mk' (HB2.out.trans (hb3.mono HB0.out.size))
    have HR3 := Hid.mk' (HR2.out.kept hb3 (by have := HS0.out; omega))
    have HO := Hid.mk' hown
    obtain ⟨⟨x0, y0, rfl⟩, _⟩ := hown.shapes
    have r0 := HR3.out.c0
    have r1 := HR3.out.c1
    have r2 := HR3.out.f0
    have r3 := HR3.out.f1
    have hsn := Hid.mk' (ans_store HS0.out HR3.out HO.out HB3.out)
    clear hb3 hown
    go_wp2_with fail
    refine bodyPost_ret (results_disk2 rfl _ _ (w.heap.size + 1) _ _ _ rfl rfl hsn.out.1) rfl ⟨.inl ⟨HQ.out, _, _, rfl, by rw [hC'.out]; exact hsn.out.2.1⟩, hsn.out.2.2⟩
  · have tq : (q != 0) = true := by rw [bne_iff_ne]; exact hq
    have r0 := HR1.out.c0
    have r1 := HR1.out.c1
    have r2 := HR1.out.f0
    have r3 := HR1.out.f1
    have HX := HR1.out.set (.slice none 0 0) (.slice none 0 0)
    have HBx := Hid.mk' (below_set2 HB1.out (Nat.le_succ _) (.slice none 0 0) (.slice none 0 0))
    go_wp2_with fail
    refine bodyPost_ret (results_disk2 rfl _ _ (w.heap.size + 1) _ _ _ rfl rfl HX) rfl ⟨.inr ⟨by rw [hcq.out]; exact hq, by rw [hcq.out]; rfl⟩, HBx.out⟩
end Go.Proofs.Ytdhjadgmdmdnjaa
