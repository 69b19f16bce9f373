/- What imap.copyOf answers. -/
import Derived.Test.YtbailfianjmflabCloneIm
import Derived.Deep.RegionHeld3
import Derived.Deep.RegionHeldLaw
namespace Go.Proofs.Ytbailfianjmflab
open Go.RowKit

theorem clone_plA (a0 : Option Addr) (n c : Nat) (P : List Pla) (w : World) (h : Pls w a0 n c P) :
    Calls Try.prog 23 #[.slice a0 n c] w fun e w' => (∃ v, e = .returned v ∧ w'.ownsRow w.heap.size 29 2 v n (plC P)) ∧ Below w.heap.size w w' := clonePl_any a0 n c P w h.rd h.nL h.nB
theorem clone_inA (a0 : Option Addr) (n c : Nat) (G : List Int) (w : World) (h : Its w a0 n c G) :
    Calls Try.prog 22 #[.slice a0 n c] w fun e w' => (∃ v, e = .returned v ∧ w'.ownsRow w.heap.size 3 1 v n (inC G)) ∧ Below w.heap.size w w' := cloneN_any a0 n c G w h.rd h.nL h.nB
theorem apart_low {w : World} {N n size : Nat} {e : TypeId} {u v : Value} {xs : List Value} (h1 : ∀ b, u.ownBlock = some b → b < N) (h : w.ownsRow N e size v n xs) : Apart u v := by
  cases hu : u.ownBlock with
  | none => exact .inl hu
  | some b =>
    refine .inr fun he => ?_
    have := h1 b hu
    have := (h.lt b (by rw [← he, hu])).1
    omega
theorem cset2M {X : World} {g b k : Nat} {v : Value} (h : X.cell? ⟨g, k, none⟩ = some v) (hne : b ≠ g) (a c : Value) : ((X.setCell ⟨b, 0, none⟩ a).setCell ⟨b, 1, none⟩ c).cell? ⟨g, k, none⟩ = some v := by
  have hn : ∀ j, (⟨b, j, none⟩ : Addr) ≠ ⟨g, k, none⟩ := fun j e => by simp only [Addr.mk.injEq] at e; omega
  rw [World.cell?_setCell_other _ _ _ _ (hn 1), World.cell?_setCell_other _ _ _ _ (hn 0)]
  exact h
set_option maxRecDepth 20000 in
set_option maxHeartbeats 3200000 in
theorem copyim_any (a0 : Option Addr) (n c : Nat) (a1 : Option Addr) (m e : Nat) (P : List Pla) (G : List Int) (w : World) (h : Pls w a0 n c P) (h' : Its w a1 m e G) :
    Calls Try.prog 38 #[.agg #[.slice a0 n c, .slice a1 m e]] w fun z w' => (∃ u v, z = .returned (.agg #[u, v]) ∧ OwnIm w' w.heap.size u v n m P G) ∧ Below w.heap.size w w' := by
  have hv := boxV_new w [.slice a0 n c, .slice a1 m e] 36
  have hva := hv.alloc (.cells #[.slice none 0 0, .slice none 0 0] 36)
  have hr := boxV_new (w.alloc (.cells #[.slice a0 n c, .slice a1 m e] 36)) [.slice none 0 0, .slice none 0 0] 36
  rw [show (w.alloc (.cells #[.slice a0 n c, .slice a1 m e] 36)).heap.size = w.heap.size + 1 by simp] at hr
  have hb := (below_boxP (w := w) #[.slice a0 n c, .slice a1 m e] 36).alloc (by simp) (.cells #[.slice none 0 0, .slice none 0 0] 36)
  have hs : ((w.alloc (.cells #[.slice a0 n c, .slice a1 m e] 36)).alloc (.cells #[.slice none 0 0, .slice none 0 0] 36)).heap.size = w.heap.size + 2 := by simp
  obtain ⟨W0, hW0⟩ : ∃ W, Hid ((w.alloc (.cells #[.slice a0 n c, .slice a1 m e] 36)).alloc (.cells #[.slice none 0 0, .slice none 0 0] 36) = W) := ⟨_, Hid.mk' rfl⟩
  have HV : Hid (BoxV W0 w.heap.size [.slice a0 n c, .slice a1 m e]) := by rw [← hW0.out]; exact hva
  have HR : Hid (BoxV W0 (w.heap.size + 1) [.slice none 0 0, .slice none 0 0]) := by rw [← hW0.out]; exact hr
  have HB : Hid (Below w.heap.size w W0) := by rw [← hW0.out]; exact hb
  have hs0 : Hid (W0.heap.size = w.heap.size + 2) := by show _ = _; rw [← hW0.out]; exact hs
  have HL := Hid.mk' (h.below HB.out)
  have HG := Hid.mk' (h'.below HB.out)
  have hnL := Hid.mk' h.nL
  have hmL := Hid.mk' h'.nL
  have c0 := HV.out.c 0 _ rfl
  have c1 := HV.out.c 1 _ rfl
  clear h h' hv hva hr hb hs
  go_enter Try.func38, Try.ntmps38
  go_wp2_with fail
  rw [hW0.out]
  go_region_held3 (fun X => X.cell? ⟨w.heap.size, 0, none⟩ = some (.slice a0 n c) ∧ X.cell? ⟨w.heap.size, 1, none⟩ = some (.slice a1 m e)) (first | exact ⟨p0, p1⟩ | exact ⟨c0, c1⟩ | exact ⟨cset2M p0 (by omega) _ _, cset2M p1 (by omega) _ _⟩) (first
      | (go_at_call 23; refine (clone_plA a0 n c P _ (by first | exact HL1.out | exact HL.out.below ((Below.refl _ W0).drew))).mono ?_; rintro z wp ⟨⟨u, rfl, ho⟩, hb⟩; obtain ⟨au, cu, rfl⟩ := own_slice' ho; have HOP := Hid.mk' ho; have HBP := Hid.mk' hb; have HB1 : Hid (Below W0.heap.size W0 wp) := (by first | exact HB1.out.trans (hb.mono HB1.out.size) | exact ((Below.refl _ W0).drew).trans hb | fail); clear hb ho; have hx := HV.out.below HB1.out; have HL1 := Hid.mk' (HL.out.below HB1.out); have HG1 := Hid.mk' (HG.out.below HB1.out); have p0 := hx.c 0 _ rfl; have p1 := hx.c 1 _ rfl; have HR1 := Hid.mk' (HR.out.below HB1.out); have d0 := HR1.out.c 0 _ rfl; have d1 := HR1.out.c 1 _ rfl; have f0 := HR1.out.f 0 (by simp); have f1 := HR1.out.f 1 (by simp); clear hx)
      | (go_at_call 22; refine (clone_inA a1 m e G _ (by first | exact HG1.out | exact HG.out.below ((Below.refl _ W0).drew))).mono ?_; rintro z wg ⟨⟨v, rfl, ho⟩, hb⟩; obtain ⟨av, cv, rfl⟩ := own_slice' ho; have HOG := Hid.mk' ho; have HBG := Hid.mk' hb; have HB1 : Hid (Below W0.heap.size W0 wg) := (by first | exact HB1.out.trans (hb.mono HB1.out.size) | exact ((Below.refl _ W0).drew).trans hb | fail); clear hb ho; have hx := HV.out.below HB1.out; have HL1 := Hid.mk' (HL.out.below HB1.out); have HG1 := Hid.mk' (HG.out.below HB1.out); have p0 := hx.c 0 _ rfl; have p1 := hx.c 1 _ rfl; have HR1 := Hid.mk' (HR.out.below HB1.out); have d0 := HR1.out.c 0 _ rfl; have d1 := HR1.out.c 1 _ rfl; have f0 := HR1.out.f 0 (by simp); have f1 := HR1.out.f 1 (by simp); clear hx)
      | fail)
  all_goals
    have hW : W0.drew.heap.size = w.heap.size + 2 := hs0.out
    have hP1 := HBP.out.size
    have hO : OwnIm wg (w.heap.size + 2) (.slice au n cu) (.slice av m cv) n m P G := ⟨(own_below HOP.out HBG.out).mono (by omega), HOG.out.mono (by omega), apart_low (N := wp.heap.size) (fun b hb => (HOP.out.lt b hb).2) HOG.out, hnL.out, hmL.out⟩
    have hO2 := (hO.setLow (a := ⟨w.heap.size + 1, 0, none⟩) (by show w.heap.size + 1 < w.heap.size + 2; omega) (.slice au n cu)).setLow (a := ⟨w.heap.size + 1, 1, none⟩) (by show w.heap.size + 1 < w.heap.size + 2; omega) (.slice av m cv)
    have hR2 := HR1.out.set2M (.slice au n cu) (.slice av m cv)
    have hB2 := ((HB.out.trans (HB1.out.mono HB.out.size)).setCell (p := ⟨w.heap.size + 1, 0, none⟩) (by show w.heap.size ≤ w.heap.size + 1; omega) (.slice au n cu)).setCell (p := ⟨w.heap.size + 1, 1, none⟩) (by show w.heap.size ≤ w.heap.size + 1; omega) (.slice av m cv)
    go_wp2_with fail
    refine bodyPost_ret (results_boxV1 rfl _ _ (w.heap.size + 1) 2 _ rfl hR2 rfl infoSzIm (aggIm _)) rfl ⟨⟨_, _, rfl, hO2.mono (by omega)⟩, hB2⟩
end Go.Proofs.Ytbailfianjmflab
