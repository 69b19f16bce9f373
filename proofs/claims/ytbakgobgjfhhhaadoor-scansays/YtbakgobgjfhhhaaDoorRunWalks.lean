import Derived.Test.YtbakgobgjfhhhaaDoorByNumWalks
import Derived.Test.YtbakgobgjfhhhaaDoorPsaq
import Derived.Test.YtbakgobgjfhhhaaDoorBehindWalks

/- What scan.Run answers. -/
namespace Go.Proofs.YtbakgobgjfhhhaaDoor
open Go.RowKit Go.WideMaps Go.Maps

/-- is that a number to begin behind? -/
def aftB (a : Int) : Bool := decide (0 ≤ a ∧ a ≤ 2147483647)
/-- what Run answers -/
def RunA (w' : World) (C : List ByteArray) (P : List Pt) (a : Int) (z : Ending) : Prop :=
  (chkD C P = 0 ∧ aftB a = true ∧ ∃ (ao : Option Addr) (l : List EnS) (cap : Nat), z = .returned (.tuple #[.slice ao (trE (·.la) l) cap, .int .i64 (mxN (lgK (celD C P) C.length) a), .int .i64 0]) ∧ Chn (lgK (celD C P) C.length) a (l.map EnS.e) ∧ fnd (lgK (celD C P) C.length) (a + 1 + (l.length : Int)) = none ∧ Rd w' ao (trE (·.la) l) 3 (enC (l.take (trE (·.la) l))) ∧ ∀ x ∈ l, EnB w' x) ∨
  (∃ q, q ≠ 0 ∧ q = (if chkD C P = 0 then (if aftB a = true then 0 else 1) else chkD C P) ∧ z = .returned (.tuple #[.slice none 0 0, .int .i64 0, .int .i64 q]))
theorem prj_fnd (L : List (Nat × EnS)) (x : Int) : fnd (prjL L) x = (fnd L x).map EnS.e := fnd_map EnS.e L x
theorem prj_chn {L : List (Nat × EnS)} {a : Int} {l : List EnS} (h : Chn L a l) : Chn (prjL L) a (l.map EnS.e) := by
  have hc : cntN (prjL L) a (a + (l.length : Int)) = cntN L a (a + (l.length : Int)) := by
    unfold cntN prjL
    rw [List.filter_map, List.length_map]
    rfl
  refine ⟨fun i hi => ?_, ?_⟩
  · rw [List.length_map] at hi
    rw [prj_fnd, h.at' i hi, List.getElem?_map]
  · rw [List.length_map, hc]
    exact h.cn
theorem prj_mx (L : List (Nat × EnS)) (a : Int) : mxN (prjL L) a = mxN L a := by
  induction L with
  | nil => rfl
  | cons p r ih =>
    show (if (p.1 : Int) < mxN (prjL r) a then mxN (prjL r) a else (p.1 : Int)) = _
    rw [ih]
    rfl
set_option maxRecDepth 20000 in
set_option maxHeartbeats 1600000 in
theorem run_any (a0 a1 : Option Addr) (n c m d : Nat) (C : List ByteArray) (P : List Pt) (a : Int) (w : World) (hT : Tab w) (h : Dk w a0 n a1 m C P) :
    Calls Tryd.prog 16 #[.agg #[.slice a0 n c, .slice a1 m d], .int .i64 a] w fun z w' => RunA w' C P a z ∧ Below w.heap.size w w' := by
  have hd0 := boxV_new w [.slice a0 n c, .slice a1 m d] 39
  have hb0 := below_boxE (w := w) #[.slice a0 n c, .slice a1 m d] 39
  obtain ⟨W0, hW0⟩ : ∃ W, Hid (w.alloc (.cells #[.slice a0 n c, .slice a1 m d] 39) = W) := ⟨_, Hid.mk' rfl⟩
  have e0 : w.alloc (.cells [.slice a0 n c, .slice a1 m d].toArray 39) = W0 := hW0.out
  rw [e0] at hd0
  rw [hW0.out] at hb0
  have HD0 := Hid.mk' hd0
  have HB0 := Hid.mk' hb0
  have HKw := Hid.mk' h
  have HTw := Hid.mk' hT
  have hN := Hid.mk' h.nC
  have hck := Hid.mk' (fun w h => dchk_any a0 a1 n c m d C P w h)
  obtain ⟨q, hq⟩ : ∃ q, Hid (chkD C P = q) := ⟨_, Hid.mk' rfl⟩
  rw [hq.out] at hck
  clear hd0 hb0 e0 h hT
  have p0 := HD0.out.c 0 _ rfl
  have p1 := HD0.out.c 1 _ rfl
  go_enter Tryd.func16, Tryd.ntmps16
  go_wp2_with fail
  rw [hW0.out]
  go_wp2_with fail
  refine (hck.out W0 (HKw.out.below HB0.out)).mono ?_
  rintro z w1 ⟨rfl, hb⟩
  have HD1 := Hid.mk' (HD0.out.below hb)
  have HB1 := Hid.mk' (HB0.out.trans (hb.mono HB0.out.size))
  clear hb p0 p1
  by_cases h0 : q = 0
  rotate_left
  · have tq : (q != 0) = true := by rw [bne_iff_ne]; exact h0
    have HQ : Hid (q ≠ 0 ∧ q = (if chkD C P = 0 then (if aftB a = true then 0 else 1) else chkD C P)) := ⟨h0, by rw [hq.out, if_neg h0]⟩
    clear h0
    go_wp2_with fail
    go_ret3
    exact ⟨.inr ⟨q, HQ.out.1, HQ.out.2, rfl⟩, HB1.out⟩
  subst h0
  by_cases ha0 : a < 0
  · have t0 : decide (a < 0) = true := decide_eq_true ha0
    have HQ : Hid ((1 : Int) = (if chkD C P = 0 then (if aftB a = true then 0 else 1) else chkD C P)) := by show _ = _; rw [hq.out, if_pos rfl, if_neg (by unfold aftB; rw [decide_eq_true_iff]; omega)]
    clear ha0
    go_wp2_with fail
    go_ret3
    exact ⟨.inr ⟨1, by decide, HQ.out, rfl⟩, HB1.out⟩
  have t0 : decide (a < 0) = false := decide_eq_false ha0
  by_cases ha1 : 2147483647 < a
  · have t1 : decide ((2147483647 : Int) < a) = true := decide_eq_true ha1
    have HQ : Hid ((1 : Int) = (if chkD C P = 0 then (if aftB a = true then 0 else 1) else chkD C P)) := by show _ = _; rw [hq.out, if_pos rfl, if_neg (by unfold aftB; rw [decide_eq_true_iff]; omega)]
    clear ha0 ha1
    go_wp2_with fail
    go_ret3
    exact ⟨.inr ⟨1, by decide, HQ.out, rfl⟩, HB1.out⟩
  have t1 : decide ((2147483647 : Int) < a) = false := decide_eq_false ha1
  have HA : Hid (0 ≤ a ∧ a ≤ 2147483647) := ⟨by omega, by omega⟩
  have hn128 : Hid (n ≤ 128) := by have := (chkD_ok hq.out).n2; rw [hN.out] at this; exact this
  have p0 := HD1.out.c 0 _ rfl
  have p1 := HD1.out.c 1 _ rfl
  clear ha0 ha1
  go_wp2_with fail
  refine (bynum_any a0 a1 n c m d C P w1 (tab_belowS HTw.out HB1.out) (HKw.out.below HB1.out) hq.out).mono ?_
  rintro z w2 ⟨⟨g, q2, D, L, rfl, hM, hpr, hE, hNm⟩, hb⟩
  have HM2 := Hid.mk' hM
  have HP2 := Hid.mk' hpr
  have HE2 := Hid.mk' hE
  have HN2 := Hid.mk' hNm
  have HB2 := Hid.mk' (HB1.out.trans (hb.mono HB1.out.size))
  have hLl : Hid (L.length ≤ 128) := by
    have h1 : (prjL L).length = L.length := by unfold prjL; rw [List.length_map]
    have h2 := lgK_len (celD C P) n
    rw [← hpr, h1] at h2
    have := hn128.out
    show _ ≤ _
    omega
  clear hb hM hpr hE hNm p0 p1
  go_wp2_with fail
  refine (behind_any g q2 D L a w2 HM2.out hLl.out HA.out).mono ?_
  rintro z w3 ⟨⟨ao, l, rfl, hch, hf, hrd⟩, hb⟩
  have HC3 := Hid.mk' hch
  have HF3 := Hid.mk' hf
  have HR3 := Hid.mk' hrd
  have HM3 := Hid.mk' (HM2.out.below hb)
  have HE3 : Hid (∀ p ∈ L, EnB w3 p.2) := fun p hp => (HE2.out p hp).below hb
  have HB3 := Hid.mk' (HB2.out.trans (hb.mono HB2.out.size))
  obtain ⟨e, he⟩ : ∃ e, Hid (trE (·.la) l = e) := ⟨_, Hid.mk' rfl⟩
  have he' : trE (fun x : EnS => x.la) l = e := he.out
  rw [he']
  clear hb hch hf hrd he'
  go_wp2_with fail
  refine (great_any g q2 D L a w3 HM3.out HN2.out HA.out).mono ?_
  rintro z w4 ⟨rfl, hb⟩
  have HR4 := Hid.mk' (HR3.out.below hb)
  have HE4 : Hid (∀ p ∈ L, EnB w4 p.2) := fun p hp => (HE3.out p hp).below hb
  have HB4 := Hid.mk' (HB3.out.trans (hb.mono HB3.out.size))
  have hmx : Hid (mxN L a = mxN (lgK (celD C P) C.length) a) := by show _ = _; rw [hN.out, ← HP2.out, prj_mx]
  rw [hmx.out]
  obtain ⟨mx, hmxx⟩ : ∃ v, Hid (mxN (lgK (celD C P) C.length) a = v) := ⟨_, Hid.mk' rfl⟩
  rw [hmxx.out]
  clear hb
  go_wp2_with fail
  go_ret3
  refine ⟨.inl ⟨hq.out, decide_eq_true HA.out, ao, l, e, ?_, ?_, ?_, HR4.out, fun x hx => ?_⟩, HB4.out⟩
  · rw [hmxx.out, he.out]; rfl
  · rw [hN.out, ← HP2.out]; exact prj_chn HC3.out
  · rw [hN.out, ← HP2.out, prj_fnd, HF3.out]; rfl
  · obtain ⟨p, hp, hpe⟩ := chn_mem HC3.out hx
    rw [← hpe]; exact HE4.out p hp
end Go.Proofs.YtbakgobgjfhhhaaDoor
