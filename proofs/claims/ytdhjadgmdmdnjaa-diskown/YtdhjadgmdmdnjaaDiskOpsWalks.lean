/- What disk.Work's Sync and Crash do; what disk.Write, Sync and Crash answer. -/
import Derived.Test.YtdhjadgmdmdnjaaSettleWalks
import Derived.Test.YtdhjadgmdmdnjaaWorkBeginWalks
import Derived.Test.YtdhjadgmdmdnjaaWorkWrWalks
namespace Go.Proofs.Ytdhjadgmdmdnjaa
open Go.RowKit

set_option maxRecDepth 20000 in
set_option maxHeartbeats 800000 in
theorem wsync_any (N g : Nat) (u v : Value) (C : List ByteArray) (P : List Pt) (w : World) (h : WDk w N g u v C P) (hok : OkD C P) :
    Calls Try.prog 41 #[.pointer (some ⟨g, 0, none⟩)] w fun e w' => (e = .returned (.tuple #[]) ∧ WDk w' N g u (.slice none 0 0) (landL allL P 0 C) []) ∧ Below N w w' := by
  have HW := Hid.mk' h
  have HOk := Hid.mk' hok
  clear h hok
  go_enter Try.func41, Try.ntmps41
  go_wp2_with fail
  refine (settleS_any N g u v C P _ HW.out HOk.out).mono ?_
  rintro e w1 ⟨⟨rfl, hw1⟩, hb1⟩
  have H1 := Hid.mk' hw1
  have HB := Hid.mk' hb1
  clear hw1 hb1
  go_wp2_with fail
  go_end0
  exact ⟨⟨rfl, H1.out⟩, HB.out⟩
set_option maxRecDepth 20000 in
set_option maxHeartbeats 800000 in
theorem wcrash_any (N g : Nat) (u v : Value) (C : List ByteArray) (P : List Pt) (K : List Bool) (k0 kcap : Nat) (ak : Option Addr) (w : World) (h : WDk w N g u v C P) (hok : OkD C P) (hK : Bos w ak k0 K) (hka : 0 < k0 → ∀ a, ak = some a → a.block < N) :
    Calls Try.prog 42 #[.pointer (some ⟨g, 0, none⟩), .slice ak k0 kcap] w fun e w' => (e = .returned (.tuple #[]) ∧ WDk w' N g u (.slice none 0 0) (landL (keepL K) P 0 C) []) ∧ Below N w w' := by
  have HW := Hid.mk' (h.alloc (.cells #[.slice ak k0 kcap] 38))
  have HOk := Hid.mk' hok
  have hNs : N ≤ w.heap.size := by have := h.gN; have := h.bx.lt; omega
  have HB0 : Hid (Below N w (w.alloc (.cells #[.slice ak k0 kcap] 38))) := ((Below.refl _ w).mono hNs).alloc hNs _
  have HK := Hid.mk' (hK.keptN HB0.out hka)
  have HKa := Hid.mk' hka
  have hcell : Hid ((w.alloc (.cells #[.slice ak k0 kcap] 38)).cell? ⟨w.heap.size, 0, none⟩ = some (.slice ak k0 kcap)) := by show _ = _; rw [World.cell?_alloc_new]; rfl
  have hlt : Hid (w.heap.size < (w.alloc (.cells #[.slice ak k0 kcap] 38)).heap.size) := by show _ < _; simp
  have hgk : g ≠ w.heap.size := by have := h.bx.lt; omega
  have huk : Hid (u.ownBlock ≠ some w.heap.size) := fun e => by have := (h.ow.rc.lt _ e).2; omega
  clear h hok hK hka
  go_enter Try.func42, Try.ntmps42
  go_wp2_with fail
  refine (settleC_any N g u v C P K k0 kcap w.heap.size ak _ HW.out HOk.out HK.out hcell.out hlt.out hgk huk.out HKa.out).mono ?_
  rintro e w1 ⟨⟨rfl, hw1⟩, hb1⟩
  have H1 := Hid.mk' hw1
  have HB := Hid.mk' (HB0.out.trans hb1)
  clear hw1 hb1
  go_wp2_with fail
  go_end0
  exact ⟨⟨rfl, H1.out⟩, HB.out⟩
/-- what a call that answers a disk answers: the disk, or nothing and an error -/
def DkAns (w' : World) (N : Nat) (e : Ending) (q : Int) (C : List ByteArray) (P : List Pt) : Prop :=
  (q = 0 ∧ ∃ u v, e = .returned (.tuple #[.agg #[u, v], .int .i64 0]) ∧ OwnDk w' N u v C P) ∨ (q ≠ 0 ∧ e = .returned (.tuple #[.agg #[.slice none 0 0, .slice none 0 0], .int .i64 q]))
theorem two_boxes (w : World) (x y x' y' : Value) (t t' : TypeId) : Box2 ((w.alloc (.cells #[x, y] t)).alloc (.cells #[x', y'] t')) w.heap.size x y ∧ Box2 ((w.alloc (.cells #[x, y] t)).alloc (.cells #[x', y'] t')) (w.heap.size + 1) x' y' ∧
    Below w.heap.size w ((w.alloc (.cells #[x, y] t)).alloc (.cells #[x', y'] t')) ∧ ((w.alloc (.cells #[x, y] t)).alloc (.cells #[x', y'] t')).heap.size = w.heap.size + 1 + 1 := by
  refine ⟨(box2_new w x y t).alloc _, ?_, ((Below.refl _ w).alloc (Nat.le_refl _) _).alloc (by simp) _, by simp⟩
  have h := box2_new (w.alloc (.cells #[x, y] t)) x' y' t'
  rw [show (w.alloc (.cells #[x, y] t)).heap.size = w.heap.size + 1 by simp] at h
  exact h
/-- the answer is stored in the result's own block -/
theorem ans_store {w w3 : World} {k N0 : Nat} {u v : Value} {C : List ByteArray} {P : List Pt} (hN : N0 = k + 1 + 1) (hX : Box2 w3 (k + 1) (.slice none 0 0) (.slice none 0 0)) (hO : OwnDk w3 N0 u v C P) (hB : Below k w w3) :
    Box2 ((w3.setCell ⟨k + 1, 0, none⟩ u).setCell ⟨k + 1, 1, none⟩ v) (k + 1) u v ∧ OwnDk ((w3.setCell ⟨k + 1, 0, none⟩ u).setCell ⟨k + 1, 1, none⟩ v) k u v C P ∧ Below k w ((w3.setCell ⟨k + 1, 0, none⟩ u).setCell ⟨k + 1, 1, none⟩ v) := by
  subst hN
  exact ⟨hX.set u v, ((hO.setLow (by simp only; omega) _).setLow (by simp only; omega) _).mono (by omega), (hB.setCell (by simp only; omega) _).setCell (by simp only; omega) _⟩
theorem below_set2 {B g : Nat} {w0 w : World} (h : Below B w0 w) (hg : B ≤ g) (x y : Value) : Below B w0 ((w.setCell ⟨g, 0, none⟩ x).setCell ⟨g, 1, none⟩ y) := (h.setCell hg _).setCell hg _
def wrD (C : List ByteArray) (P : List Pt) (p : Pt) : Int := if chkD C P = 0 then wrtE C.length P.length p else chkD C P
set_option maxRecDepth 20000 in
set_option maxHeartbeats 800000 in
theorem dwrite_any (a0 a1 : Option Addr) (n c m d : Nat) (C : List ByteArray) (P : List Pt) (x : Int) (s : ByteArray) (w : World) (h : Dk w a0 n a1 m C P) (hs : s.size ≤ 140737488355328) :
    Calls Try.prog 19 #[.agg #[.slice a0 n c, .slice a1 m d], .int .i64 x, .string s] w fun e w' => DkAns w' w.heap.size e (wrD C P ⟨x, s⟩) C (P ++ [⟨x, s⟩]) ∧ Below w.heap.size w w' := by
  obtain ⟨hx0, hr0, hb0, hs0⟩ := two_boxes w (.slice a0 n c) (.slice a1 m d) (.slice none 0 0) (.slice none 0 0) 25 25
  have HK := Hid.mk' (h.below hb0)
  have HR0 := Hid.mk' hr0
  have HB0 := Hid.mk' hb0
  have HS0 := Hid.mk' hs0
  clear h hx0 hr0 hb0 hs0
  go_enter Try.func19, Try.ntmps19
  go_wp2_with fail
  obtain ⟨W0, hW0⟩ : ∃ W, Hid ((w.alloc (.cells #[.slice a0 n c, .slice a1 m d] 25)).alloc (.cells #[.slice none 0 0, .slice none 0 0] 25) = W) := ⟨_, Hid.mk' rfl⟩
  rw [hW0.out] at HK HR0 HB0 HS0 ⊢
  refine (begin_any a0 a1 n c m d C P W0 HK.out).mono ?_
  rintro e w1 ⟨hbeg, hb1⟩
  have HB1 := Hid.mk' (HB0.out.trans (hb1.mono HB0.out.size))
  have HR1 := Hid.mk' (HR0.out.below hb1)
  clear hb1
  rcases hbeg with ⟨g, u, v, rfl, hok, hw⟩ | ⟨q, rfl, hq, hcq⟩
  · have HOk := Hid.mk' hok
    have HW := Hid.mk' hw
    have hC := hok.n2
    have hP := hok.m
    clear hok hw
    go_wp2_with fail
    refine (wwrite_any W0.heap.size g u v C P x s _ HW.out hC hP hs).mono ?_
    rintro e w2 ⟨hwr, hb2⟩
    have HB2 := Hid.mk' (HB1.out.trans (hb2.mono HB0.out.size))
    have HR2 := Hid.mk' (HR1.out.kept hb2 (by have := HS0.out; omega))
    clear hb2
    rcases hwr with ⟨v', rfl, hqq, hw2⟩ | ⟨q, rfl, hqq, hq0, _⟩
    · have HQ : Hid (wrD C P ⟨x, s⟩ = 0) := by show _ = _; unfold wrD; rw [if_pos (ok_chkD HOk.out)]; exact hqq
      have HW2 := Hid.mk' hw2
      clear hw2 hqq
      go_wp2_with fail
      obtain ⟨P', hP'⟩ : ∃ P', Hid (P ++ [⟨x, s⟩] = P') := ⟨_, Hid.mk' rfl⟩
      rw [hP'.out] at HW2
      refine (wend_any W0.heap.size g u v' C P' _ HW2.out).mono ?_
      rintro e w3 ⟨⟨rfl, hown⟩, hb3⟩
      have HB3 := Hid.mk' (HB2.out.trans (hb3.mono HB0.out.size))
      have HR3 := Hid.mk' (HR2.out.kept hb3 (by have := HS0.out; omega))
      have HO := Hid.mk' hown
      obtain ⟨⟨x0, y0, rfl⟩, x1, y1, rfl⟩ := hown.shapes
      have r0 := HR3.out.c0
      have r1 := HR3.out.c1
      have r2 := HR3.out.f0
      have r3 := HR3.out.f1
      have hsn := Hid.mk' (ans_store HS0.out HR3.out HO.out HB3.out)
      clear hb3 hown
      go_wp2_with fail
      refine bodyPost_ret (results_disk2 rfl _ _ (w.heap.size + 1) _ _ _ rfl rfl hsn.out.1) rfl ⟨.inl ⟨HQ.out, _, _, rfl, by rw [hP'.out]; exact hsn.out.2.1⟩, hsn.out.2.2⟩
    · have HQ : Hid (wrD C P ⟨x, s⟩ = q) := by show _ = _; unfold wrD; rw [if_pos (ok_chkD HOk.out)]; exact hqq
      have tq : (q != 0) = true := by rw [bne_iff_ne]; exact hq0
      have r0 := HR2.out.c0
      have r1 := HR2.out.c1
      have r2 := HR2.out.f0
      have r3 := HR2.out.f1
      have HX := HR2.out.set (.slice none 0 0) (.slice none 0 0)
      have HBx := Hid.mk' (below_set2 HB2.out (Nat.le_succ _) (.slice none 0 0) (.slice none 0 0))
      clear hqq
      go_wp2_with fail
      refine bodyPost_ret (results_disk2 rfl _ _ (w.heap.size + 1) _ _ _ rfl rfl HX) rfl ⟨.inr ⟨by rw [HQ.out]; exact hq0, by rw [HQ.out]; rfl⟩, HBx.out⟩
  · have HQ : Hid (wrD C P ⟨x, s⟩ = q) := by show _ = _; unfold wrD; rw [hcq.out, if_neg hq]
    have tq : (q != 0) = true := by rw [bne_iff_ne]; exact hq
    have r0 := HR1.out.c0
    have r1 := HR1.out.c1
    have r2 := HR1.out.f0
    have r3 := HR1.out.f1
    have HX := HR1.out.set (.slice none 0 0) (.slice none 0 0)
    have HBx := Hid.mk' (below_set2 HB1.out (Nat.le_succ _) (.slice none 0 0) (.slice none 0 0))
    go_wp2_with fail
    refine bodyPost_ret (results_disk2 rfl _ _ (w.heap.size + 1) _ _ _ rfl rfl HX) rfl ⟨.inr ⟨by rw [HQ.out]; exact hq, by rw [HQ.out]; rfl⟩, HBx.out⟩
end Go.Proofs.Ytdhjadgmdmdnjaa
