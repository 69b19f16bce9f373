import Derived.Test.YtbakgobgjfhhhaaDoorPmaj
import Derived.Test.YtbakgobgjfhhhaaDoorPmad
import Derived.Test.YtbakgobgjfhhhaaDoorImWriteWalks

/- What point.Write answers. -/
namespace Go.Proofs.YtbakgobgjfhhhaaDoor
open Go.RowKit

set_option maxRecDepth 20000 in
theorem isser_any (n : Int) (w : World) : Calls Tryd.prog 21 #[.int .i64 n] w fun z w' => z = .returned (.bool (srlB n)) ∧ w' = w := by
  by_cases h0 : 0 ≤ n
  · have t0 : decide ((0 : Int) ≤ n) = true := decide_eq_true h0
    by_cases h1 : n ≤ 2147483647
    · have t1 : decide (n ≤ (2147483647 : Int)) = true := decide_eq_true h1
      have hq : Hid (srlB n = true) := decide_eq_true ⟨h0, h1⟩
      clear h0 h1
      go_enter Tryd.func21, Tryd.ntmps21
      go_wp2_with fail
      go_ret
      exact ⟨by rw [hq.out]; rfl, rfl⟩
    · have t1 : decide (n ≤ (2147483647 : Int)) = false := decide_eq_false h1
      have hq : Hid (srlB n = false) := decide_eq_false (fun h => h1 h.2)
      clear h0 h1
      go_enter Tryd.func21, Tryd.ntmps21
      go_wp2_with fail
      go_ret
      exact ⟨by rw [hq.out]; rfl, rfl⟩
  · have t0 : decide ((0 : Int) ≤ n) = false := decide_eq_false h0
    have hq : Hid (srlB n = false) := decide_eq_false (fun h => h0 h.1)
    clear h0
    go_enter Tryd.func21, Tryd.ntmps21
    go_wp2_with fail
    go_ret
    exact ⟨by rw [hq.out]; rfl, rfl⟩
/-- what Write hands to Seal -/
theorem fix_im (n : Nat) (P : List Pla) (G : List Int) : txp (fixB n 4) ++ txp (imB P G) = txp (ptB (n : Int) P G) := by
  rw [txp_app]
  unfold ptB
  rw [Int.toNat_natCast]
theorem sl_pt {t n : Int} {P : List Pla} {G : List Int} (h1 : srlB t = true) (h2 : srlB n = true) (h3 : chkM P G = 0) : slT 2 t (txp (ptB n P G)) = ptT t n P G ∧ selE 2 t (txp (ptB n P G)).size = 0 := by
  have hs := sel_point (n := n) h1 h3
  have hs' : selE 2 t (txp (ptB n P G)).size = 0 := by rw [txp_size]; exact hs
  refine ⟨?_, hs'⟩
  unfold slT ptT
  rw [if_pos hs', ptL_ok (ptE_mk h1 h2 h3), txp_list]
  rfl
theorem fix_pt4 (n : Nat) (w : World) : Calls Tryd.prog 24 #[.int .u64 n, .int .i64 4] w fun e w' => e = .returned (.string (txp (fixB n 4))) ∧ Below w.heap.size w w' := fix_in n 4 w (by omega) (by omega)
set_option maxRecDepth 20000 in
set_option maxHeartbeats 1600000 in
theorem ptwrite_any (t n : Int) (a0 : Option Addr) (ln c : Nat) (a1 : Option Addr) (m e : Nat) (P : List Pla) (G : List Int) (w : World) (hT : Tab w) (h : Pls w a0 ln c P) (h' : Its w a1 m e G) :
    Calls Tryd.prog 9 #[.int .i64 t, .agg #[.int .i64 n, .slice a0 ln c, .slice a1 m e]] w fun z w' => z = .returned (.tuple #[.string (ptT t n P G), .int .i64 (ptE t n P G)]) ∧ Below w.heap.size w w' := by
  have HA := Hid.mk' (PtAt.new (t := n) h h' 27)
  have HB : Hid (Below w.heap.size w (w.alloc (.cells #[.int .i64 n, .slice a0 ln c, .slice a1 m e] 27))) := below_boxP _ _
  obtain ⟨W0, hW0⟩ : ∃ W, Hid (w.alloc (.cells #[.int .i64 n, .slice a0 ln c, .slice a1 m e] 27) = W) := ⟨_, Hid.mk' rfl⟩
  rw [hW0.out] at HA HB
  have HT := Hid.mk' (tab_belowS hT HB.out)
  have c0 := HA.out.c0
  have c1 := HA.out.c1
  have c2 := HA.out.c2
  clear h h' hT
  by_cases hs1 : srlB t = true
  rotate_left
  · have hq : Hid (ptE t n P G = 1) := ptE_no (fun h => hs1 h.1)
    have hx : Hid (ptT t n P G = ⟨#[]⟩) := ptT_no (by rw [hq.out]; decide)
    have hf : srlB t = false := by simpa using hs1
    have hi := Hid.mk' (fun w => isser_any t w)
    rw [hf] at hi
    rw [hx.out, hq.out]
    clear hs1 hf
    go_enter Tryd.func9, Tryd.ntmps9
    go_wp2_with fail
    rw [hW0.out]
    refine (hi.out W0).mono ?_
    rintro z w1 ⟨rfl, rfl⟩
    go_wp2_with fail
    go_ret2
    exact ⟨rfl, HB.out⟩
  by_cases hs2 : srlB n = true
  rotate_left
  · have hq : Hid (ptE t n P G = 1) := ptE_no (fun h => hs2 h.2)
    have hx : Hid (ptT t n P G = ⟨#[]⟩) := ptT_no (by rw [hq.out]; decide)
    have hf : srlB n = false := by simpa using hs2
    have hi := Hid.mk' (fun w => isser_any t w)
    have hi2 := Hid.mk' (fun w => isser_any n w)
    rw [hs1] at hi
    rw [hf] at hi2
    rw [hx.out, hq.out]
    clear hs1 hs2 hf
    go_enter Tryd.func9, Tryd.ntmps9
    go_wp2_with fail
    rw [hW0.out]
    refine (hi.out W0).mono ?_
    rintro z w1 ⟨rfl, rfl⟩
    go_wp2_with fail
    refine (hi2.out w1).mono ?_
    rintro z w2 ⟨rfl, rfl⟩
    go_wp2_with fail
    go_ret2
    exact ⟨rfl, HB.out⟩
  have hi := Hid.mk' (fun w => isser_any t w)
  have hi2 := Hid.mk' (fun w => isser_any n w)
  rw [hs1] at hi
  rw [hs2] at hi2
  have hE : Hid (ptE t n P G = chkM P G) := ptE_yes hs1 hs2
  have HN := Hid.mk' hE.out
  obtain ⟨q, hq⟩ : ∃ q, Hid (chkM P G = q) := ⟨_, Hid.mk' rfl⟩
  have hw := Hid.mk' (fun w h h' => imwrite_any a0 ln c a1 m e P G w h h')
  rw [hq.out] at hw
  rw [hE.out, hq.out]
  by_cases h0 : q = 0
  rotate_left
  · have tq : (q != 0) = true := by rw [bne_iff_ne]; exact h0
    have hx : Hid (ptT t n P G = ⟨#[]⟩) := ptT_no (by rw [hE.out, hq.out]; exact h0)
    rw [hx.out]
    obtain ⟨T, hTt⟩ : ∃ T, Hid (wmT P G = T) := ⟨_, Hid.mk' rfl⟩
    rw [hTt.out] at hw
    clear h0 hs1 hs2
    go_enter Tryd.func9, Tryd.ntmps9
    go_wp2_with fail
    rw [hW0.out]
    refine (hi.out W0).mono ?_
    rintro z w1 ⟨rfl, rfl⟩
    go_wp2_with fail
    refine (hi2.out w1).mono ?_
    rintro z w2 ⟨rfl, rfl⟩
    go_wp2_with fail
    refine (hw.out w2 HA.out.pl HA.out.it).mono ?_
    rintro z w3 ⟨rfl, hb⟩
    have HB3 := Hid.mk' (HB.out.trans (hb.mono HB.out.size))
    clear hb
    go_wp2_with fail
    go_ret2
    exact ⟨rfl, HB3.out⟩
  subst h0
  obtain ⟨n', rfl⟩ := Int.eq_ofNat_of_zero_le (srlB_is hs2).1
  have hn' := (srlB_is hs2).2
  have e2 : IntKind.u64.wrap (n' : Int) = n' := by rw [IntKind.wrap_u64]; omega
  have hsp := sl_pt hs1 hs2 hq.out
  have hse := Hid.mk' (fun w hT => seal_any 2 t (txp (ptB (n' : Int) P G)) w hT (by
    rw [txp_size]
    have := ptB_small (n' : Int) hq.out
    omega))
  have hcat := fix_im n' P G
  rw [wmT_ok hq.out] at hw
  obtain ⟨R, hR⟩ : ∃ T, Hid (ptT t (n' : Int) P G = T) := ⟨_, Hid.mk' rfl⟩
  have hfx := Hid.mk' (fun w => fix_pt4 n' w)
  have z1 : (txp (fixB n' 4)).size = 4 := by rw [txp_size, fixB_length]
  have z2 : (txp (imB P G)).size ≤ 400 := by
    rw [txp_size]
    have := ptB_small (n' : Int) hq.out
    rw [ptB_len] at this
    omega
  obtain ⟨x1, hx1⟩ : ∃ T, Hid (txp (fixB n' 4) = T) := ⟨_, Hid.mk' rfl⟩
  obtain ⟨x2, hx2⟩ : ∃ T, Hid (txp (imB P G) = T) := ⟨_, Hid.mk' rfl⟩
  obtain ⟨x3, hx3⟩ : ∃ T, Hid (txp (ptB (n' : Int) P G) = T) := ⟨_, Hid.mk' rfl⟩
  rw [hx1.out] at hfx z1 hcat
  rw [hx2.out] at hw z2 hcat
  rw [hx3.out] at hcat hse hsp
  rw [hR.out] at hsp ⊢
  have HSP := Hid.mk' hsp
  clear hs1 hs2 hn' hsp
  go_enter Tryd.func9, Tryd.ntmps9
  go_wp2_with fail
  rw [hW0.out]
  refine (hi.out W0).mono ?_
  rintro z w1 ⟨rfl, rfl⟩
  go_wp2_with fail
  refine (hi2.out w1).mono ?_
  rintro z w2 ⟨rfl, rfl⟩
  go_wp2_with fail
  refine (hw.out w2 HA.out.pl HA.out.it).mono ?_
  rintro z w3 ⟨rfl, hb⟩
  have HB3 := Hid.mk' (HB.out.trans (hb.mono HB.out.size))
  have HA3 := Hid.mk' (HA.out.below hb)
  have HT3 := Hid.mk' (tab_belowS HT.out hb)
  have d0 := HA3.out.c0
  clear hb
  go_wp2_with fail
  refine (hfx.out w3).mono ?_
  rintro z w4 ⟨rfl, hb⟩
  have HB4 := Hid.mk' (HB3.out.trans (hb.mono HB3.out.size))
  have HT4 := Hid.mk' (tab_belowS HT3.out hb)
  clear hb
  go_wp2_with fail
  refine (hse.out w4 HT4.out).mono ?_
  rintro z w5 ⟨hz, hb⟩
  rw [sl_ans hz, HSP.out.1, HSP.out.2]
  have HB5 := Hid.mk' (HB4.out.trans (hb.mono HB4.out.size))
  clear hb hz
  go_wp2_with fail
  go_ret2
  exact ⟨rfl, HB5.out⟩
end Go.Proofs.YtbakgobgjfhhhaaDoor
