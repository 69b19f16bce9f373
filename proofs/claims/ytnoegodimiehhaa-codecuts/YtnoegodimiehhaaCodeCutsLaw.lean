/- The law CodeCuts, walked. -/
import Derived.Test.YtnoegodimiehhaaRdWalks
import Derived.Test.YtnoegodimiehhaaCutsMath
import Derived.Test.YtnoegodimiehhaaConcatInts
import Derived.Test.YtnoegodimiehhaaWithinWalks
import Derived.Test.YtnoegodimiehhaaEqualInts
import Derived.SizedLaws
namespace Go.Proofs.Ytnoegodimiehhaa
open Go.RowKit

def two11 (_ : Nat) : Int := 1
def zero1 (i : Nat) : Int := if i = 0 then 0 else 1
theorem read_11 : readE two11 2 ⟨#[2]⟩ 0 2 = 0 ∧ readK two11 2 ⟨#[2]⟩ 0 2 = 2 ∧ readL two11 2 ⟨#[2]⟩ 0 2 = 2 ∧ eqI 2 2 (rdF two11 2 ⟨#[2]⟩ 0) zero1 = true := by decide +kernel
theorem wds_11 (w : World) (t : TypeId) : Wds (w.alloc (.cells #[.int .i64 1, .int .i64 1] t)) (some ⟨w.heap.size, 0, none⟩) 2 two11 := by
  refine ⟨by omega, fun _ => ⟨w.heap.size, 0, rfl, by simp, fun i hi => ?_⟩, fun i hi => ?_⟩
  · rw [Nat.zero_add, World.cell?_alloc_new]
    rcases (by omega : i = 0 ∨ i = 1) with rfl | rfl <;> rfl
  · unfold two11; omega
theorem i64s_01 (w : World) (t : TypeId) : I64s (w.alloc (.cells #[.int .i64 0, .int .i64 1] t)) (.slice (some ⟨w.heap.size, 0, none⟩) 2 2) 2 zero1 := by
  refine ⟨_, _, rfl, fun _ => ⟨w.heap.size, 0, rfl, by simp, fun i hi => ?_⟩⟩
  rw [Nat.zero_add, World.cell?_alloc_new]
  rcases (by omega : i = 0 ∨ i = 1) with rfl | rfl <;> rfl
theorem two_slices (w : World) (x y : Value) (t : TypeId) : (w.alloc (.cells #[x, y] t)).cell? ⟨w.heap.size, 0, none⟩ = some x ∧ (w.alloc (.cells #[x, y] t)).cell? ⟨w.heap.size, 1, none⟩ = some y ∧ w.heap.size < (w.alloc (.cells #[x, y] t)).heap.size := by
  refine ⟨by simp, ?_, by simp⟩
  rw [World.cell?_alloc_new]; rfl
theorem wds_of_i64s {w : World} {ao : Option Addr} {n cap : Nat} {f : Nat → Int} (h : I64s w (.slice ao n cap) n f) (hn : n ≤ 1024) (hB : ∀ i, i < n → -9223372036854775808 ≤ f i ∧ f i ≤ 9223372036854775807) : Wds w ao n f := by
  obtain ⟨ao', cap', hv, hc⟩ := h.is
  cases hv
  exact ⟨by omega, fun hp => by obtain ⟨g, off, h1, h2, h3⟩ := hc hp; exact ⟨g, off, h1, h2, h3⟩, hB⟩
theorem i64s_of_cellsC {w : World} {N n : Nat} {v : Value} {W : Nat → Int} (h : w.ownsRow N 3 1 v n (cellsC W n)) : I64s w v n W := by
  rcases h.2 with ⟨rfl, rfl⟩ | ⟨g, cap, cur, rfl, _, hg, _, _, _, hx⟩
  · exact i64s_nil _ _
  · refine ⟨some ⟨g, 0, none⟩, cap, rfl, fun _ => ⟨g, 0, rfl, (Array.getElem?_eq_some_iff.1 hg).1, fun i hi => ?_⟩⟩
    rw [Nat.zero_add, h.cellAt i (by omega)]
    simp [cellsC, hi]
theorem rdF_bound (L : Nat → Int) (len : Nat) (s : ByteArray) (a : Nat) (h320 : len ≤ 320) (n : Nat) (h : rdE L len s a n = 0) (i : Nat) (hi : i < n) : -9223372036854775808 ≤ rdF L len s a i ∧ rdF L len s a i ≤ 9223372036854775807 := by
  have h2 := (rdE_pre (rdE_le (k := i + 1) h (by omega))).2
  have := (stp_ok h2).1
  unfold rdF
  omega
theorem read_bound (L : Nat → Int) (len : Nat) (s : ByteArray) (a n : Int) (i : Nat) (hi : i < readL L len s a n) : -9223372036854775808 ≤ rdF L len s a.toNat i ∧ rdF L len s a.toNat i ≤ 9223372036854775807 := by
  unfold readL at hi
  by_cases h : readE L len s a n = 0
  · rw [if_pos h] at hi
    obtain ⟨hc, _, _, _, _, h0⟩ := readE_zero h
    exact rdF_bound L len s _ (canE_ok hc).1 _ h0 i hi
  · rw [if_neg h] at hi; omega

set_option maxRecDepth 20000 in
set_option maxHeartbeats 2000000 in
theorem codeCuts_walk (a0 : Option Addr) (len cap : Nat) (L : Nat → Int) (s : ByteArray) (a2 a3 : Int) (w : World) (w0 : Wds w a0 len L) (_w1 : s.size ≤ maxLen) (z1 : s.data.toList.length ≤ reachBytes) (w2 : (Lit.int .i64 a2).wf = true) (w3 : (Lit.int .i64 a3).wf = true) :
    Calls Try.prog 5 #[.slice a0 len cap, .string s, .int .i64 a2, .int .i64 a3] w fun e w' => e = .returned (.bool true) ∧ Below w.heap.size w w' := by
  have hz : s.size ≤ 140737488363520 := by
    have e : s.data.toList.length = s.size := by rw [Array.length_toList]; rfl
    have : reachBytes = 140737488351232 := rfl
    omega
  have b2 := bounds_i64 w2
  have b3 := bounds_i64 w3
  have HP := Hid.mk' w0
  clear w0 _w1 z1 w2 w3
  have H11 := Hid.mk' read_11
  go_enter Try.func5, Try.ntmps5
  go_wp2_with fail
  refine (read_any _ 2 2 two11 ⟨#[2]⟩ 0 2 _ (wds_11 w 3) (by decide) (by omega) (by omega)).mono ?_
  rintro e wa ⟨⟨v, rfl, hv, _⟩, hb⟩
  rw [H11.out.1, H11.out.2.1]
  rw [H11.out.2.2.1] at hv
  have HV := Hid.mk' hv
  have HBa := Hid.mk' (((Below.refl w.heap.size w).alloc (Nat.le_refl _) _).trans (hb.mono (by simp)))
  clear hv hb
  go_wp2_with fail
  refine (equalI_any v _ 2 2 _ zero1 _ (by omega) (by omega) (i64s_below HV.out ((Below.refl _ _).alloc (Nat.le_refl _) _)) (i64s_01 wa 3)).mono ?_
  rintro e wb ⟨rfl, q, rfl⟩
  rw [show eqI 2 2 (rdF two11 2 ⟨#[2]⟩ (Int.toNat 0)) zero1 = true from H11.out.2.2.2]
  have HBb := Hid.mk' (below_drewN (HBa.out.alloc HBa.out.size (.cells #[.int .i64 0, .int .i64 1] 3)) q)
  obtain ⟨W1, hW1⟩ : ∃ W1, Hid ((wa.alloc (.cells #[.int .i64 0, .int .i64 1] 3)).drewN q = W1) := ⟨_, Hid.mk' rfl⟩
  rw [hW1.out] at HBb ⊢
  clear HV HBa hW1
  go_wp2_with fail
  refine (within_at a2 40 _ b2.1 (by omega) (by decide) (by decide)).mono ?_
  rintro e w' ⟨⟨n, rfl, hn⟩, rfl⟩
  go_wp2_with fail
  refine (within_at a3 40 _ b3.1 (by omega) (by decide) (by decide)).mono ?_
  rintro e w' ⟨⟨m, rfl, hm⟩, rfl⟩
  have hn40 : n < 40 := by omega
  have hm40 : m < 40 := by omega
  clear hn hm b2 b3
  have HC := Hid.mk' (cuts_are L len s n m (by omega) (by omega))
  obtain ⟨K, hK⟩ : ∃ K, Hid (n + m = K) := ⟨_, Hid.mk' rfl⟩
  have hKz : (n : Int) + (m : Int) = (K : Int) := by have := hK.out; omega
  have hKb : K ≤ 100 := by have := hK.out; omega
  rw [hK.out] at HC
  obtain ⟨E1, hE1⟩ : ∃ t, Hid (readE L len s 0 (K : Int) = t) := ⟨_, Hid.mk' rfl⟩
  obtain ⟨E2, hE2⟩ : ∃ t, Hid (readE L len s 0 (n : Int) = t) := ⟨_, Hid.mk' rfl⟩
  obtain ⟨k2, hk2⟩ : ∃ t, Hid (readK L len s 0 (n : Int) = t) := ⟨_, Hid.mk' rfl⟩
  rw [hk2.out] at HC
  obtain ⟨E3, hE3⟩ : ∃ t, Hid (readE L len s (k2 : Int) (m : Int) = t) := ⟨_, Hid.mk' rfl⟩
  obtain ⟨k1, hk1⟩ : ∃ t, Hid (readK L len s 0 (K : Int) = t) := ⟨_, Hid.mk' rfl⟩
  obtain ⟨k3, hk3⟩ : ∃ t, Hid (readK L len s (k2 : Int) (m : Int) = t) := ⟨_, Hid.mk' rfl⟩
  obtain ⟨l1, hl1⟩ : ∃ t, Hid (readL L len s 0 (K : Int) = t) := ⟨_, Hid.mk' rfl⟩
  obtain ⟨l2, hl2⟩ : ∃ t, Hid (readL L len s 0 (n : Int) = t) := ⟨_, Hid.mk' rfl⟩
  obtain ⟨l3, hl3⟩ : ∃ t, Hid (readL L len s (k2 : Int) (m : Int) = t) := ⟨_, Hid.mk' rfl⟩
  rw [hE1.out, hE2.out, hE3.out, hk1.out, hk3.out, hl1.out, hl2.out, hl3.out] at HC
  have hkb : k2 ≤ 8 * s.size := by
    rw [← hk2.out]
    unfold readK
    split
    · rename_i h
      obtain ⟨_, _, _, _, _, h0⟩ := readE_zero h
      exact rdA_le (Nat.zero_le _) _ h0
    · omega
  have hkb2 : k2 ≤ 1125899906908160 := by omega
  have hkb1 : k1 ≤ 1125899906908160 := by
    rw [← hk1.out]
    unfold readK
    split
    · rename_i h
      obtain ⟨_, _, _, _, _, h0⟩ := readE_zero h
      have := rdA_le (L := L) (len := len) (s := s) (a := 0) (Nat.zero_le _) _ h0
      exact Nat.le_trans this (by omega)
    · omega
  have B1 := Hid.mk' (fun i hi => read_bound L len s 0 (K : Int) i hi)
  have B2 := Hid.mk' (fun i hi => read_bound L len s 0 (n : Int) i hi)
  have B3 := Hid.mk' (fun i hi => read_bound L len s (k2 : Int) (m : Int) i hi)
  rw [hl2.out] at B2
  rw [hl3.out] at B3
  obtain ⟨f1, hf1⟩ : ∃ t, Hid (rdF L len s 0 = t) := ⟨_, Hid.mk' rfl⟩
  obtain ⟨f3, hf3⟩ : ∃ t, Hid (rdF L len s k2 = t) := ⟨_, Hid.mk' rfl⟩
  rw [hf1.out, hf3.out] at HC
  have hl1b := HC.out.l1b
  have hl2b := HC.out.l2b
  have hl3b := HC.out.l3b
  go_wp2_with fail
  refine (read_any a0 len cap L s 0 (K : Int) _ (wds_below HP.out HBb.out) hz (by omega) (by omega)).mono ?_
  rintro e wc ⟨⟨v1, rfl, hv1, _⟩, hb⟩
  rw [hE1.out, hk1.out]
  rw [hl1.out] at hv1
  obtain ⟨o1, c1, rfl, hx1⟩ := hv1.is
  have HV1 : Hid (I64s wc (.slice o1 l1 c1) l1 f1) := by rw [← hf1.out]; exact hv1
  have HBc := Hid.mk' (HBb.out.trans (hb.mono HBb.out.size))
  clear hv1 hb hx1
  go_wp2_with fail
  refine (read_any a0 len cap L s 0 (n : Int) _ (wds_below HP.out HBc.out) hz (by omega) (by omega)).mono ?_
  rintro e wd ⟨⟨v2, rfl, hv2, hn2⟩, hb⟩
  rw [hE2.out, hk2.out]
  rw [hl2.out] at hv2
  obtain ⟨o2, c2, rfl, hx2⟩ := hv2.is
  have HN2 := Hid.mk' (fun (h : o2 = none) => hn2 l2 c2 (by rw [h]))
  have HV2 : Hid (I64s wd (.slice o2 l2 c2) l2 f1) := by rw [← hf1.out]; exact hv2
  have HV1' := Hid.mk' (i64s_below HV1.out hb)
  have HBd := Hid.mk' (HBc.out.trans (hb.mono HBc.out.size))
  clear hv2 hb hx2 hn2 HV1
  have hE1b := HC.out.e1
  by_cases h2 : E2 = 0
  · subst h2
    go_wp2_with fail
    refine (read_any a0 len cap L s (k2 : Int) (m : Int) _ (wds_below HP.out HBd.out) hz (by omega) (by omega)).mono ?_
    rintro e we ⟨⟨v3, rfl, hv3, hn3⟩, hb⟩
    rw [hE3.out, hk3.out]
    rw [hl3.out] at hv3
    obtain ⟨o3, c3, rfl, hx3⟩ := hv3.is
    have HN3 := Hid.mk' (fun (h : o3 = none) => hn3 l3 c3 (by rw [h]))
    have HV3 : Hid (I64s we (.slice o3 l3 c3) l3 f3) := by rw [← hf3.out]; exact hv3
    have HV1e := Hid.mk' (i64s_below HV1'.out hb)
    have HV2e := Hid.mk' (i64s_below HV2.out hb)
    have HBe := Hid.mk' (HBd.out.trans (hb.mono HBd.out.size))
    clear hv3 hb hx3 hn3
    by_cases h3 : E3 = 0
    · subst h3
      obtain ⟨g1, g2, g3, g4, g5, g6⟩ := HC.out.good rfl rfl
      have G6 := Hid.mk' g6
      have GL : Hid (l1 = l2 + l3) := by show _ = _; have := hK.out; omega
      have Gn : Hid (n = l2) := g3.symm
      have GE : Hid (eqI l1 (l2 + l3) f1 (cat l2 f1 f3) = true) := by
        show _ = _
        rw [GL.out]
        unfold eqI
        rw [sameI_of _ _ _ (fun i hi => by rw [← Gn.out]; exact G6.out i (by have := hK.out; omega))]
        simp
      rw [g1, g5]
      have t1 : ((k1 : Int) == (k1 : Int)) = true := by simp
      have HW2 := Hid.mk' (wds_of_i64s HV2e.out hl2b (by rw [← hf1.out]; exact B2.out))
      have HW3 := Hid.mk' (wds_of_i64s HV3.out hl3b (by rw [← hf3.out]; exact B3.out))
      clear g1 g2 g3 g4 g5 g6 HC hE1 hE2 hE3 hE1b
      go_wp2_with fail
      have hbA : Hid (Below we.heap.size we (we.alloc (.cells #[.slice o2 l2 c2, .slice o3 l3 c3] 22))) := (Below.refl _ _).alloc (Nat.le_refl _) _
      refine (concatI_any _ o2 o3 l2 c2 l3 c3 f1 f3 _ (two_slices we _ _ _).1 (two_slices we _ _ _).2.1 (two_slices we _ _ _).2.2 (wds_below HW2.out hbA.out) (wds_below HW3.out hbA.out) HN2.out HN3.out (by omega)).mono ?_
      rintro e wf ⟨⟨vc, rfl, hoc⟩, hbc⟩
      have HBf := Hid.mk' ((HBe.out.trans (hbA.out.mono HBe.out.size)).trans (hbc.mono (by have := HBe.out.size; simp; omega)))
      have HV1f := Hid.mk' (i64s_below (i64s_below HV1e.out hbA.out) hbc)
      have HVc : Hid (I64s wf vc (l2 + l3) (cat l2 f1 f3)) := i64s_of_cellsC hoc
      clear hoc hbc
      go_wp2_with fail
      refine (equalI_any _ vc l1 (l2 + l3) f1 (cat l2 f1 f3) _ (by omega) (by omega) HV1f.out HVc.out).mono ?_
      rintro e wg ⟨rfl, q2, rfl⟩
      rw [GE.out]
      go_wp2_with fail
      go_ret
      exact ⟨rfl, below_drewN HBf.out q2⟩
    · obtain ⟨g1, g2⟩ := HC.out.bad2 rfl h3
      subst g1 g2
      have t0 : (E1 != 0) = true := by rw [bne_iff_ne]; exact h3
      have t1 : (E1 == E1) = true := by simp
      have t2 : ((0 : Int) == 0) = true := rfl
      go_wp2_with fail
      go_ret
      exact ⟨rfl, HBe.out⟩
  · obtain ⟨g1, g2⟩ := HC.out.bad1 h2
    subst g1 g2
    have t0 : (E1 != 0) = true := by rw [bne_iff_ne]; exact h2
    have t1 : (E1 == E1) = true := by simp
    have t2 : ((0 : Int) == 0) = true := rfl
    go_wp2_with fail
    go_ret
    exact ⟨rfl, HBd.out⟩
end Go.Proofs.Ytnoegodimiehhaa
