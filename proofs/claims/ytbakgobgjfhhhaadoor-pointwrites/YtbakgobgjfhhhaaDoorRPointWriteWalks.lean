/- What linenref.PointText answers. -/
import Derived.Test.YtbakgobgjfhhhaaDoorPointWriteWalks
import Derived.Test.YtbakgobgjfhhhaaDoorRSealWalks
import Derived.Test.YtbakgobgjfhhhaaDoorRImWriteWalks
namespace Go.Proofs.YtbakgobgjfhhhaaDoor
open Go.RowKit

theorem rfix_pt4 (n : Nat) (w : World) (hn : n ≤ 2147483647) : Calls Tryd.prog 27 #[.int .u64 n, .int .i64 4] w fun e w' => e = .returned (.string (txp (fixB n 4))) ∧ Below w.heap.size w w' := rfix_in n 4 w (by omega) (by omega) (by omega)
set_option maxRecDepth 20000 in
set_option maxHeartbeats 1600000 in
theorem rpoint_any (t n : Int) (a0 : Option Addr) (ln c : Nat) (a1 : Option Addr) (m e : Nat) (P : List Pla) (G : List Int) (w : World) (h : Pls w a0 ln c P) (h' : Its w a1 m e G) :
    Calls Tryd.prog 10 #[.int .i64 t, .agg #[.int .i64 n, .slice a0 ln c, .slice a1 m e]] w fun z w' => z = .returned (.tuple #[.string (ptT t n P G), .int .i64 (ptE t n P G)]) ∧ Below w.heap.size w w' := by
  have HA := Hid.mk' (PtAt.new (t := n) h h' 27)
  have HB : Hid (Below w.heap.size w (w.alloc (.cells #[.int .i64 n, .slice a0 ln c, .slice a1 m e] 27))) := below_boxP _ _
  obtain ⟨W0, hW0⟩ : ∃ W, Hid (w.alloc (.cells #[.int .i64 n, .slice a0 ln c, .slice a1 m e] 27) = W) := ⟨_, Hid.mk' rfl⟩
  rw [hW0.out] at HA HB
  have c0 := HA.out.c0
  have c1 := HA.out.c1
  have c2 := HA.out.c2
  clear h h'
  have hno : Hid (¬ (srlB t = true ∧ srlB n = true) → ptT t n P G = ⟨#[]⟩ ∧ ptE t n P G = 1) := fun h => ⟨ptT_no (by rw [ptE_no h]; decide), ptE_no h⟩
  by_cases n0 : n < 0
  · obtain ⟨hx, hq⟩ := hno.out (fun h => by have := (srlB_is h.2).1; omega)
    have t0 : decide (n < 0) = true := decide_eq_true n0
    rw [hx, hq]
    clear n0 hx hq
    go_enter Tryd.func10, Tryd.ntmps10
    go_wp2_with fail
    rw [hW0.out]
    go_wp2_with fail
    go_ret2
    exact ⟨rfl, HB.out⟩
  have t0 : decide (n < 0) = false := decide_eq_false n0
  by_cases n1 : 2147483647 < n
  · obtain ⟨hx, hq⟩ := hno.out (fun h => by have := (srlB_is h.2).2; omega)
    have t1 : decide ((2147483647 : Int) < n) = true := decide_eq_true n1
    rw [hx, hq]
    clear n0 n1 hx hq
    go_enter Tryd.func10, Tryd.ntmps10
    go_wp2_with fail
    rw [hW0.out]
    go_wp2_with fail
    go_ret2
    exact ⟨rfl, HB.out⟩
  have t1 : decide ((2147483647 : Int) < n) = false := decide_eq_false n1
  by_cases m0 : t < 0
  · obtain ⟨hx, hq⟩ := hno.out (fun h => by have := (srlB_is h.1).1; omega)
    have t2 : decide (t < 0) = true := decide_eq_true m0
    rw [hx, hq]
    clear n0 n1 m0 hx hq
    go_enter Tryd.func10, Tryd.ntmps10
    go_wp2_with fail
    rw [hW0.out]
    go_wp2_with fail
    go_ret2
    exact ⟨rfl, HB.out⟩
  have t2 : decide (t < 0) = false := decide_eq_false m0
  by_cases m1 : 2147483647 < t
  · obtain ⟨hx, hq⟩ := hno.out (fun h => by have := (srlB_is h.1).2; omega)
    have t3 : decide ((2147483647 : Int) < t) = true := decide_eq_true m1
    rw [hx, hq]
    clear n0 n1 m0 m1 hx hq
    go_enter Tryd.func10, Tryd.ntmps10
    go_wp2_with fail
    rw [hW0.out]
    go_wp2_with fail
    go_ret2
    exact ⟨rfl, HB.out⟩
  have t3 : decide ((2147483647 : Int) < t) = false := decide_eq_false m1
  have hs1 : srlB t = true := decide_eq_true ⟨by omega, by omega⟩
  have hs2 : srlB n = true := decide_eq_true ⟨by omega, by omega⟩
  have hE : Hid (ptE t n P G = chkM P G) := ptE_yes hs1 hs2
  obtain ⟨q, hq⟩ : ∃ q, Hid (chkM P G = q) := ⟨_, Hid.mk' rfl⟩
  have hw := Hid.mk' (fun w h h' => rimaptext_any a0 ln c a1 m e P G w h h')
  rw [hq.out] at hw
  rw [hE.out, hq.out]
  by_cases h0 : q = 0
  rotate_left
  · have tq : (q != 0) = true := by rw [bne_iff_ne]; exact h0
    have hx : Hid (ptT t n P G = ⟨#[]⟩) := ptT_no (by rw [hE.out, hq.out]; exact h0)
    rw [hx.out]
    obtain ⟨T, hTt⟩ : ∃ T, Hid (wmT P G = T) := ⟨_, Hid.mk' rfl⟩
    rw [hTt.out] at hw
    clear h0 hs1 hs2 n0 n1 m0 m1
    go_enter Tryd.func10, Tryd.ntmps10
    go_wp2_with fail
    rw [hW0.out]
    go_wp2_with fail
    refine (hw.out W0 HA.out.pl HA.out.it).mono ?_
    rintro z w3 ⟨rfl, hb⟩
    have HB3 := Hid.mk' (HB.out.trans (hb.mono HB.out.size))
    clear hb
    go_wp2_with fail
    go_ret2
    exact ⟨rfl, HB3.out⟩
  subst h0
  obtain ⟨n', rfl⟩ := Int.eq_ofNat_of_zero_le (srlB_is hs2).1
  have hn' := (srlB_is hs2).2
  have e2 : IntKind.u64.wrap (n' : Int) = n' := by rw [IntKind.wrap_u64]; omega
  have hsp := sl_pt hs1 hs2 hq.out
  have hse := Hid.mk' (fun w => rseal_any 2 t (txp (ptB (n' : Int) P G)) w (by
    rw [txp_size]
    have := ptB_small (n' : Int) hq.out
    omega))
  have hcat := fix_im n' P G
  rw [wmT_ok hq.out] at hw
  obtain ⟨R, hR⟩ : ∃ T, Hid (ptT t (n' : Int) P G = T) := ⟨_, Hid.mk' rfl⟩
  have hfx := Hid.mk' (fun w => rfix_pt4 n' w (by omega))
  have z1 : (txp (fixB n' 4)).size = 4 := by rw [txp_size, fixB_length]
  have z2 : (txp (imB P G)).size ≤ 400 := by
    rw [txp_size]
    have := ptB_small (n' : Int) hq.out
    rw [ptB_len] at this
    omega
  obtain ⟨x1, hx1⟩ : ∃ T, Hid (txp (fixB n' 4) = T) := ⟨_, Hid.mk' rfl⟩
  obtain ⟨x2, hx2⟩ : ∃ T, Hid (txp (imB P G) = T) := ⟨_, Hid.mk' rfl⟩
  obtain ⟨x3, hx3⟩ : ∃ T, Hid (txp (ptB (n' : Int) P G) = T) := ⟨_, Hid.mk' rfl⟩
  rw [hx1.out] at hfx z1 hcat
  rw [hx2.out] at hw z2 hcat
  rw [hx3.out] at hcat hse hsp
  rw [hR.out] at hsp ⊢
  have HSP := Hid.mk' hsp
  clear hs1 hs2 hn' hsp n0 n1 m0 m1
  go_enter Tryd.func10, Tryd.ntmps10
  go_wp2_with fail
  rw [hW0.out]
  go_wp2_with fail
  refine (hw.out W0 HA.out.pl HA.out.it).mono ?_
  rintro z w3 ⟨rfl, hb⟩
  have HB3 := Hid.mk' (HB.out.trans (hb.mono HB.out.size))
  have HA3 := Hid.mk' (HA.out.below hb)
  have d0 := HA3.out.c0
  clear hb
  go_wp2_with fail
  refine (hfx.out w3).mono ?_
  rintro z w4 ⟨rfl, hb⟩
  have HB4 := Hid.mk' (HB3.out.trans (hb.mono HB3.out.size))
  clear hb
  go_wp2_with fail
  refine (hse.out w4).mono ?_
  rintro z w5 ⟨hz, hb⟩
  rw [sl_ans hz, HSP.out.1, HSP.out.2]
  have HB5 := Hid.mk' (HB4.out.trans (hb.mono HB4.out.size))
  clear hb hz
  go_wp2_with fail
  go_ret2
  exact ⟨rfl, HB5.out⟩
end Go.Proofs.YtbakgobgjfhhhaaDoor
