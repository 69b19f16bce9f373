/- disk.Begin and what disk.Work's End answers. -/
import Derived.Test.YtdhjadgmdmdnjaaCopyDkWalks
import Derived.Test.YtdhjadgmdmdnjaaDiskChkWalks
namespace Go.Proofs.Ytdhjadgmdmdnjaa
open Go.RowKit

theorem wdk_box {w : World} {N : Nat} {u v : Value} {C : List ByteArray} {P : List Pt} (h : OwnDk w N u v C P) (hN : N ≤ w.heap.size) (t : TypeId) : WDk (w.alloc (.cells #[u, v] t)) N w.heap.size u v C P :=
  ⟨box2_new w u v t, hN, h.below ((Below.refl _ _).alloc (Nat.le_refl _) _), fun e => by have := (h.rc.lt _ e).2; omega, fun e => by have := (h.rp.lt _ e).2; omega⟩
set_option maxRecDepth 20000 in
set_option maxHeartbeats 800000 in
theorem begin_any (a0 a1 : Option Addr) (n c m d : Nat) (C : List ByteArray) (P : List Pt) (w : World) (h : Dk w a0 n a1 m C P) :
    Calls Try.prog 40 #[.agg #[.slice a0 n c, .slice a1 m d]] w fun e w' => ((∃ g u v, e = .returned (.tuple #[.pointer (some ⟨g, 0, none⟩), .int .i64 0]) ∧ OkD C P ∧ WDk w' w.heap.size g u v C P) ∨ (∃ q, e = .returned (.tuple #[.pointer none, .int .i64 q]) ∧ q ≠ 0 ∧ Hid (chkD C P = q))) ∧ Below w.heap.size w w' := by
  have HK := Hid.mk' h
  have HB0 : Hid (Below w.heap.size w (w.alloc (.cells #[.slice a0 n c, .slice a1 m d] 25))) := (Below.refl _ _).alloc (Nat.le_refl _) _
  have hz0 : w.heap.size ≤ (w.alloc (.cells #[.slice a0 n c, .slice a1 m d] 25)).heap.size := by simp
  have HX0 := Hid.mk' (box2_new w (.slice a0 n c) (.slice a1 m d) 25)
  have hrange := chkD_range C P
  have hok0 := Hid.mk' (@chkD_ok C P)
  clear h
  go_enter Try.func40, Try.ntmps40
  go_wp2_with fail
  refine (dchk_any a0 a1 n c m d C P _ (HK.out.below HB0.out)).mono ?_
  rintro e w1 ⟨rfl, hb1⟩
  have HB1 := Hid.mk' (HB0.out.trans (hb1.mono hz0))
  have HX1 := Hid.mk' (HX0.out.below hb1)
  have c0 := HX1.out.c0
  have c1 := HX1.out.c1
  obtain ⟨q, hq⟩ : ∃ q, Hid (chkD C P = q) := ⟨_, Hid.mk' rfl⟩
  rw [hq.out] at hrange ⊢
  rw [hq.out] at hok0
  clear hb1
  by_cases h0 : q = 0
  · subst h0
    have hok := hok0.out rfl
    have HOk := Hid.mk' hok
    clear hok hok0
    go_wp2_with fail
    refine (copydk_any a0 a1 n c m d C P _ (HK.out.below HB1.out) HOk.out).mono ?_
    rintro e w2 ⟨⟨u, v, rfl, hown⟩, hb2⟩
    have HB2 := Hid.mk' (HB1.out.trans (hb2.mono HB1.out.size))
    have hz2 : w.heap.size ≤ w2.heap.size := HB2.out.size
    have hO2 := hown.mono HB1.out.size
    have HO2 := Hid.mk' hO2
    obtain ⟨⟨x0, y0, rfl⟩, x1, y1, rfl⟩ := hO2.shapes
    clear hb2 hown hO2
    go_wp2_with fail
    go_ret2
    exact ⟨.inl ⟨_, _, _, rfl, HOk.out, wdk_box HO2.out hz2 _⟩, HB2.out.alloc hz2 _⟩
  · have tq : (q != 0) = true := by rw [bne_iff_ne]; exact h0
    go_wp2_with fail
    go_ret2
    exact ⟨.inr ⟨_, rfl, h0, hq⟩, HB1.out⟩
set_option maxRecDepth 20000 in
set_option maxHeartbeats 800000 in
theorem wend_any (N g : Nat) (u v : Value) (C : List ByteArray) (P : List Pt) (w : World) (h : WDk w N g u v C P) :
    Calls Try.prog 39 #[.pointer (some ⟨g, 0, none⟩)] w fun e w' => (e = .returned (.agg #[u, v]) ∧ OwnDk w' N u v C P) ∧ Below N w w' := by
  obtain ⟨⟨a0, c, rfl⟩, a1, d, rfl⟩ := h.ow.shapes
  obtain ⟨n, hn⟩ : ∃ n, Hid (C.length = n) := ⟨_, Hid.mk' rfl⟩
  obtain ⟨m, hm⟩ : ∃ m, Hid (P.length = m) := ⟨_, Hid.mk' rfl⟩
  rw [hn.out, hm.out] at h ⊢
  have HW := Hid.mk' h
  have c0 := h.bx.c0
  have c1 := h.bx.c1
  have f0 := h.bx.f0
  have f1 := h.bx.f1
  have hlt := h.bx.lt
  have hNg := h.gN
  clear h
  go_enter Try.func39, Try.ntmps39
  go_wp2_with fail
  obtain ⟨W, hW⟩ : ∃ W, (w.setCell ⟨g, 0, none⟩ (.slice none 0 0)).setCell ⟨g, 1, none⟩ (.slice none 0 0) = W := ⟨_, rfl⟩
  have HO : Hid (OwnDk W N (.slice a0 n c) (.slice a1 m d) C P) := by rw [← hW]; exact (HW.out.ow.setOther (fun e => HW.out.a1 e) (fun e => HW.out.a2 e) _).setOther (fun e => HW.out.a1 e) (fun e => HW.out.a2 e) _
  have HB : Hid (Below N w W) := by rw [← hW]; exact (((Below.refl _ w).mono (by omega)).setCell (by exact hNg) _).setCell (by exact hNg) _
  have hs : W.heap.size = w.heap.size := by rw [← hW]; simp [World.setCell]
  have hX := (box2_new W (.slice a0 n c) (.slice a1 m d) 25).alloc (.cells #[.slice a0 n c, .slice a1 m d] 25)
  rw [hs] at hX
  rw [hW]
  refine bodyPost_ret (results_disk rfl _ _ w.heap.size (.slice a0 n c) (.slice a1 m d) rfl hX) rfl ⟨⟨rfl, ?_⟩, ?_⟩
  · exact (HO.out.alloc _).alloc _
  · exact (HB.out.alloc (by omega) _).alloc (by simp; omega) _
end Go.Proofs.Ytdhjadgmdmdnjaa
