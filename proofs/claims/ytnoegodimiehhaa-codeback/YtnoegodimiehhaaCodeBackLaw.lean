/- The law CodeBack, walked. -/
import Derived.Test.YtnoegodimiehhaaRdWalks
import Derived.Test.YtnoegodimiehhaaWriteWalks
import Derived.Test.YtnoegodimiehhaaPackWalks
import Derived.Test.YtnoegodimiehhaaConcatWalks
import Derived.Test.YtnoegodimiehhaaCodeBackMath
import Derived.Test.YtnoegodimiehhaaEqualInts
import Derived.SizedLaws
namespace Go.Proofs.Ytnoegodimiehhaa
open Go.RowKit

def l122 (i : Nat) : Int := if i = 0 then 1 else 2
def s102 (i : Nat) : Int := if i = 0 then 1 else if i = 1 then 0 else 2
theorem wr_122 : wrE l122 3 s102 3 = 0 ∧ wrL l122 3 s102 3 = 3 ∧ packE 3 (wrV l122 3 s102) (wrW l122 s102) = 0 ∧ packS 3 (wrV l122 3 s102) (wrW l122 s102) = [25] := by decide +kernel
theorem wds_122 (w : World) (t : TypeId) : Wds (w.alloc (.cells #[.int .i64 1, .int .i64 2, .int .i64 2] t)) (some ⟨w.heap.size, 0, none⟩) 3 l122 := by
  refine ⟨by omega, fun _ => ⟨w.heap.size, 0, rfl, by simp, fun i hi => ?_⟩, fun i hi => ?_⟩
  · rw [Nat.zero_add, World.cell?_alloc_new]
    rcases (by omega : i = 0 ∨ i = 1 ∨ i = 2) with rfl | rfl | rfl <;> rfl
  · unfold l122; split <;> omega
theorem wds_102 (w : World) (t : TypeId) : Wds (w.alloc (.cells #[.int .i64 1, .int .i64 0, .int .i64 2] t)) (some ⟨w.heap.size, 0, none⟩) 3 s102 := by
  refine ⟨by omega, fun _ => ⟨w.heap.size, 0, rfl, by simp, fun i hi => ?_⟩, fun i hi => ?_⟩
  · rw [Nat.zero_add, World.cell?_alloc_new]
    rcases (by omega : i = 0 ∨ i = 1 ∨ i = 2) with rfl | rfl | rfl <;> rfl
  · unfold s102; split
    · omega
    · split <;> omega
theorem wds_102' (w : World) (o : Obj) (t : TypeId) : Wds ((w.alloc o).alloc (.cells #[.int .i64 1, .int .i64 0, .int .i64 2] t)) (some ⟨w.heap.size + 1, 0, none⟩) 3 s102 := by
  have h := wds_102 (w.alloc o) t
  rwa [show (w.alloc o).heap.size = w.heap.size + 1 by simp] at h
theorem wds_less {w : World} {a : Option Addr} {n m : Nat} {S : Nat → Int} (h : Wds w a n S) (hm : m ≤ n) : Wds w a m S :=
  ⟨by have := h.lenB; omega, fun hp => by obtain ⟨b, off, h1, h2, h3⟩ := h.at' (by omega); exact ⟨b, off, h1, h2, fun i hi => h3 i (by omega)⟩, fun i hi => h.wB i (by omega)⟩
theorem i64s_of_wds {w : World} {a : Option Addr} {n cap : Nat} {S : Nat → Int} (h : Wds w a n S) : I64s w (.slice a n cap) n S :=
  ⟨a, cap, rfl, h.at'⟩
theorem two_pcs (w : World) (x y : Value) (t : TypeId) : (w.alloc (.cells #[x, y] t)).cell? ⟨w.heap.size, 0, none⟩ = some x ∧ (w.alloc (.cells #[x, y] t)).cell? ⟨w.heap.size, 1, none⟩ = some y ∧ w.heap.size < (w.alloc (.cells #[x, y] t)).heap.size := by
  refine ⟨by simp, ?_, by simp⟩
  rw [World.cell?_alloc_new]; rfl
theorem wid_le (W : Nat → Int) (k n : Nat) (h : k ≤ n) : widSum W k ≤ widSum W n := by
  have := widSum_mono W k (n - k)
  rwa [show k + (n - k) = n by omega] at this
theorem pack_len (n : Nat) (V : Nat → Nat) (W : Nat → Int) (h : packE n V W = 0) : (∀ i, i < n → errP (V i) (W i) = 0) ∧ widSum W n ≤ 65536 ∧ (packS n V W).length = (widSum W n + 7) / 8 := by
  unfold packE at h
  by_cases h1 : firstErr V W n = 0
  · rw [if_pos h1] at h
    by_cases h2 : 65536 < widSum W n
    · rw [if_pos h2] at h; omega
    · have h3 := firstErr_of V W n h1
      exact ⟨h3, by omega, by rw [(pack_ok n V W h3 (by omega)).2, bytesOf_length]⟩
  · rw [if_neg h1] at h; exact absurd h h1
theorem pcs_cat_v' {w w' : World} {a a' : Option Addr} {n n' : Nat} {V V' : Nat → Nat} {W W' : Nat → Int} (h : Pcs w a n V W) (h' : Pcs w' a' n' V' W') : ∀ i, i < n + n' → cat n V V' i < 18446744073709551616 := by
  intro i hi
  by_cases hn : i < n
  · rw [cat_lo _ _ _ _ hn]; exact h.vB i hn
  · obtain ⟨j, rfl⟩ : ∃ j, i = n + j := ⟨i - n, by omega⟩
    rw [cat_hi]; exact h'.vB j (by omega)
theorem pcs_cat_w' {w w' : World} {a a' : Option Addr} {n n' : Nat} {V V' : Nat → Nat} {W W' : Nat → Int} (h : Pcs w a n V W) (h' : Pcs w' a' n' V' W') : ∀ i, i < n + n' → -9223372036854775808 ≤ cat n W W' i ∧ cat n W W' i ≤ 9223372036854775807 := by
  intro i hi
  by_cases hn : i < n
  · rw [cat_lo _ _ _ _ hn]; exact h.wB i hn
  · obtain ⟨j, rfl⟩ : ∃ j, i = n + j := ⟨i - n, by omega⟩
    rw [cat_hi]; exact h'.wB j (by omega)
theorem wr_nat {L : Nat → Int} {len : Nat} {S : Nat → Int} {n : Nat} (hw : wrE L len S n = 0) : ∀ i, i < n → 0 ≤ wrW L S i ∧ wrW L S i ≤ 15 := by
  intro i hi
  obtain ⟨hc, ha⟩ := wrE_zero hw
  obtain ⟨j, y, h3, h4, h5, h6, h7⟩ := sgn_is (canE_ok hc).2.1 (allS_of ha i hi)
  unfold wrW
  rw [h3, Int.toNat_natCast, h5]; omega
theorem wr_sum {L : Nat → Int} {len : Nat} {S : Nat → Int} {n : Nat} (hw : wrE L len S n = 0) (k : Nat) (hk : k ≤ n) : widSum (wrW L S) k ≤ 15 * k := by
  induction k with
  | zero => simp [widSum]
  | succ k ih =>
    have h1 := ih (by omega)
    have h2 := wr_nat hw k (by omega)
    rw [widSum]; omega
/-- all that the law needs of what is read -/
structure Back (L : Nat → Int) (len : Nat) (S : Nat → Int) (n n0 : Nat) (V0 : Nat → Nat) (W0 : Nat → Int) (s : ByteArray) : Prop where
  pe : packE (n0 + n) (cat n0 V0 (wrV L len S)) (cat n0 W0 (wrW L S)) = 0
  re : readE L len s (widSum W0 n0 : Nat) (n : Nat) = 0
  rl : readL L len s (widSum W0 n0 : Nat) (n : Nat) = n
  rk : readK L len s (widSum W0 n0 : Nat) (n : Nat) = widSum W0 n0 + widSum (wrW L S) n
  eq : eqI n n (rdF L len s (widSum W0 n0)) S = true
  sz : s.size ≤ 140737488363520
theorem back_is {L : Nat → Int} {len : Nat} {S : Nat → Int} {n : Nat} (hw : wrE L len S n = 0) (hn : n ≤ 1024) (V0 : Nat → Nat) (W0 : Nat → Int) (n0 : Nat) (h0 : ∀ i, i < n0 → errP (V0 i) (W0 i) = 0) (hb : widSum W0 n0 ≤ 8000) :
    Back L len S n n0 V0 W0 ⟨(packS (n0 + n) (cat n0 V0 (wrV L len S)) (cat n0 W0 (wrW L S))).toArray⟩ := by
  obtain ⟨hc, ha⟩ := wrE_zero hw
  obtain ⟨h320, hg, hF, _⟩ := canE_ok hc
  have hwid : widSum (wrW L S) n ≤ 15 * n := by
    have : ∀ k, k ≤ n → widSum (wrW L S) k ≤ 15 * k := fun k => by
      induction k with
      | zero => intro _; simp [widSum]
      | succ k ih =>
        intro hk
        have h1 := ih (by omega)
        obtain ⟨j, y, h3, h4, h5, h6, h7⟩ := sgn_is hg (allS_of ha k (by omega))
        have e : wrW L S k = (y : Int) := by unfold wrW; rw [h3, Int.toNat_natCast, h5]
        rw [widSum, e]; omega
    exact this n (Nat.le_refl _)
  have herr : ∀ i, i < n0 + n → errP (cat n0 V0 (wrV L len S) i) (cat n0 W0 (wrW L S) i) = 0 := fun i hi => by
    by_cases h : i < n0
    · rw [cat_lo _ _ _ _ h, cat_lo _ _ _ _ h]; exact h0 i h
    · obtain ⟨j, rfl⟩ : ∃ j, i = n0 + j := ⟨i - n0, by omega⟩
      rw [cat_hi, cat_hi]; exact wr_err hw j (by omega)
  have htot : widSum (cat n0 W0 (wrW L S)) (n0 + n) ≤ 65536 := by rw [widSum_cat]; omega
  obtain ⟨p1, p2⟩ := pack_ok _ _ _ herr htot
  have hs : (ByteArray.mk (packS (n0 + n) (cat n0 V0 (wrV L len S)) (cat n0 W0 (wrW L S))).toArray).data.toList = bytesOf (packN (cat n0 V0 (wrV L len S)) (cat n0 W0 (wrW L S)) (n0 + n)) ((widSum (cat n0 W0 (wrW L S)) (n0 + n) + 7) / 8) := by
    rw [p2]
  have hsz : (ByteArray.mk (packS (n0 + n) (cat n0 V0 (wrV L len S)) (cat n0 W0 (wrW L S))).toArray).size = (widSum (cat n0 W0 (wrW L S)) (n0 + n) + 7) / 8 := by
    have e : (ByteArray.mk (packS (n0 + n) (cat n0 V0 (wrV L len S)) (cat n0 W0 (wrW L S))).toArray).data.toList.length = (ByteArray.mk (packS (n0 + n) (cat n0 V0 (wrV L len S)) (cat n0 W0 (wrW L S))).toArray).size := by rw [Array.length_toList]; rfl
    rw [hs, bytesOf_length] at e; exact e.symm
  obtain ⟨r1, r2, r3⟩ := back_read hw V0 W0 n0 h0 _ hs n (Nat.le_refl _)
  generalize ByteArray.mk (packS (n0 + n) (cat n0 V0 (wrV L len S)) (cat n0 W0 (wrW L S))).toArray = s at *
  rw [widSum_cat] at hsz
  obtain ⟨q1, q2, q3⟩ := read_ok (L := L) (len := len) (s := s) (a := widSum W0 n0) (n := n) hc (by omega) (by omega) r1
  refine ⟨p1, q1, q2, by rw [q3, r2], ?_, by rw [widSum_cat] at htot; omega⟩
  unfold eqI
  rw [sameI_of _ _ _ r3]; simp

set_option maxRecDepth 20000 in
set_option maxHeartbeats 4000000 in
theorem codeBack_walk (a0 : Option Addr) (len cap : Nat) (L : Nat → Int) (a1 : Option Addr) (n cap1 : Nat) (S : Nat → Int) (a2 : Option Addr) (n0 c0 : Nat) (V0 : Nat → Nat) (W0 : Nat → Int) (w : World) (w0 : Wds w a0 len L) (_q0 : len ≤ cap ∧ cap ≤ maxLen) (w1 : Wds w a1 n S) (q1 : n ≤ cap1 ∧ cap1 ≤ maxLen)
    (w2 : Pcs w a2 n0 V0 W0) (y2 : n0 ≤ 8796093021952) (m2 : a2 = none → c0 = 0) :
    Calls Try.prog 4 #[.slice a0 len cap, .slice a1 n cap1, .slice a2 n0 c0] w fun e w' => e = .returned (.bool true) ∧ Below w.heap.size w w' := by
  have HP := Hid.mk' w0
  have HQ := Hid.mk' w1
  have HA := Hid.mk' w2
  have HM := Hid.mk' m2
  have hq1 : n ≤ cap1 := q1.1
  have hq2 : cap1 ≤ 9223372036854775807 := q1.2
  have hnb := w1.lenB
  clear w0 w1 w2 m2 q1 _q0
  have H11 := Hid.mk' wr_122
  go_enter Try.func4, Try.ntmps4
  go_wp2_with fail
  refine (write_any _ 3 3 l122 _ 3 3 s102 _ (wds_below (wds_122 w 3) ((Below.refl _ _).alloc (Nat.le_refl _) _)) (wds_102' w _ 3)).mono ?_
  rintro e wa ⟨⟨ao, co, rfl, _, hp⟩, hb⟩
  rw [H11.out.1, H11.out.2.1]
  rw [H11.out.2.1] at hp
  have HPp := Hid.mk' hp
  have HBa := Hid.mk' ((((Below.refl w.heap.size w).alloc (Nat.le_refl _) _).alloc (by simp) _).trans (hb.mono (by simp; omega)))
  clear hp hb
  go_wp2_with fail
  refine (pack_any _ 3 co _ _ _ HPp.out).mono ?_
  rintro e wb ⟨rfl, hb⟩
  rw [H11.out.2.2.1, H11.out.2.2.2]
  have HBb := Hid.mk' (HBa.out.trans (hb.mono HBa.out.size))
  clear hb HPp HBa H11
  by_cases hbig : 1024 < n
  case' pos =>
    obtain ⟨n1, hn1⟩ : ∃ x : Nat, (1024 : Nat) = x := ⟨_, rfl⟩
    have HQ1 : Hid (Wds wb a1 n1 S) := by rw [← hn1]; exact wds_less (wds_below HQ.out HBb.out) (by omega)
    have hn1b : n1 ≤ 1024 := by omega
    have hc1 : (1024 : Int) ≤ (cap1 : Int) := by omega
    have HN1 := Hid.mk' hn1
    clear hn1
    go_wp2_with fail
    rw [HN1.out]
  case' neg =>
    obtain ⟨n1, hn1⟩ : ∃ x : Nat, n = x := ⟨_, rfl⟩
    have HQ1 : Hid (Wds wb a1 n1 S) := by rw [← hn1]; exact wds_below HQ.out HBb.out
    have hn1b : n1 ≤ 1024 := by omega
    have HN1 := Hid.mk' hn1
    clear hn1
    go_wp2_with fail
    rw [HN1.out]
  all_goals
    refine (write_any a0 len cap L a1 n1 cap1 S _ (wds_below HP.out HBb.out) HQ1.out).mono ?_
    rintro e wc ⟨⟨ao2, co2, rfl, hnl, hp⟩, hb⟩
    have HBc := Hid.mk' (HBb.out.trans (hb.mono HBb.out.size))
    have HQc := Hid.mk' (wds_below HQ1.out hb)
    have HPp := Hid.mk' hp
    have HNL := Hid.mk' hnl
    clear hp hb hnl
    by_cases hE : wrE L len S n1 = 0
    · have hl1 : wrL L len S n1 = n1 := by unfold wrL; rw [if_pos hE]
      rw [hl1] at HPp
      rw [hl1, hE]
      have HE := Hid.mk' hE
      clear hl1 hE
      go_wp2_with fail
      refine (pack_any a2 n0 c0 V0 W0 _ (pcs_below HA.out HBc.out)).mono ?_
      rintro e wd ⟨rfl, hb⟩
      have HBd := Hid.mk' (HBc.out.trans (hb.mono HBc.out.size))
      have HQd := Hid.mk' (wds_below HQc.out hb)
      have HPd := Hid.mk' (pcs_below HPp.out hb)
      have HAd := Hid.mk' (pcs_below HA.out HBd.out)
      clear hb
      by_cases hpe : packE n0 V0 W0 = 0 ∧ (packS n0 V0 W0).length ≤ 1000
      · obtain ⟨hpe1, hpe2⟩ := hpe
        obtain ⟨he, hw1, hw2⟩ := pack_len n0 V0 W0 hpe1
        rw [hpe1]
        have hws : widSum W0 n0 ≤ 8000 := by omega
        have HWB : Hid (∀ i, i < n0 → 0 ≤ W0 i) := fun i hi => (ok_wid _ _ (he i hi)).1
        have HBK := Hid.mk' (back_is HE.out hn1b V0 W0 n0 he hws)
        obtain ⟨s0, hs0⟩ : ∃ s0, Hid (ByteArray.mk (packS n0 V0 W0).toArray = s0) := ⟨_, Hid.mk' rfl⟩
        have hs0b : s0.size ≤ 1000 := by rw [← hs0.out]; exact hpe2
        rw [hs0.out]
        have t0 : decide ((1000 : Int) < (s0.size : Int)) = false := decide_eq_false (by omega)
        have t1 : decide (1000 < s0.size) = false := decide_eq_false (by omega)
        clear he hw1 hw2 hpe1 hpe2
        go_wp2_with fail
        have Gv := Hid.mk' (pcs_cat_v' (HAd.out) HPd.out)
        have Gw := Hid.mk' (pcs_cat_w' (HAd.out) HPd.out)
        have hbA : Hid (Below wd.heap.size wd (wd.alloc (.cells #[.slice a2 n0 c0, .slice ao2 n1 co2] 28))) := (Below.refl _ _).alloc (Nat.le_refl _) _
        refine (concat_any _ a2 ao2 n0 c0 n1 co2 V0 (wrV L len S) W0 (wrW L S) _ (two_pcs wd _ _ _).1 (two_pcs wd _ _ _).2.1 (two_pcs wd _ _ _).2.2 (pcs_below (HAd.out) hbA.out) (pcs_below HPd.out hbA.out) (HM.out) HNL.out (by omega)).mono ?_
        rintro e we ⟨⟨vc, rfl, hoc⟩, hbc⟩
        have HBe1 := Hid.mk' (hbA.out.trans (hbc.mono (by simp)))
        obtain ⟨ac, cc, rfl, _, hpc⟩ := pcs_of_own hoc (by omega) Gv.out Gw.out
        have HPc := Hid.mk' hpc
        have HPE := Hid.mk' HBK.out.pe
        skip
        clear hoc hbc hpc
        go_wp2_with fail
        refine (pack_any _ _ _ _ _ _ HPc.out).mono ?_
        rintro e wf ⟨rfl, hb⟩
        rw [HPE.out]
        have HBf1 := Hid.mk' (HBe1.out.trans (hb.mono HBe1.out.size))
        have HBf := Hid.mk' (HBd.out.trans (HBf1.out.mono HBd.out.size))
        have HQf := Hid.mk' (wds_below HQd.out HBf1.out)
        have HPf := Hid.mk' (pcs_below HPd.out HBf1.out)
        have HAf := Hid.mk' (pcs_below (HAd.out) HBf1.out)
        clear hb
        obtain ⟨s, hs⟩ : ∃ s, Hid (ByteArray.mk (packS (n0 + n1) (cat n0 V0 (wrV L len S)) (cat n0 W0 (wrW L S))).toArray = s) := ⟨_, Hid.mk' rfl⟩
        rw [hs.out] at HBK
        rw [hs.out]
        have hT0 : widSum W0 n0 ≤ 8000 := by first | exact hws | simp [widSum]
        go_wp2_with fail
        go_loopw [14, 83] (fun t i wr => ∃ k : Nat, k ≤ n0 ∧ i = .int .i64 k ∧ t = .int .i64 (widSum W0 k : Nat) ∧ Below wf.heap.size wf wr) (fun _ i _ => n0 - (intOf i).toNat)
        case atStart => exact ⟨0, Nat.zero_le _, rfl, rfl, Below.refl _ _⟩
        case round =>
          obtain ⟨k, hk, rfl, rfl, hbl⟩ := hrel
          have HBl := Hid.mk' hbl
          have hsl := hbl.size
          clear hbl
          have hle := wid_le W0 k n0 hk
          by_cases hlt : k < n0
          · obtain ⟨b, off, hAA, hb, hc⟩ := HAf.out.at' (by omega)
            have d0 := (HBl.out.cell (p := ⟨b, off + k * 2, none⟩) hb).trans (hc k hlt).1
            have d1 := (HBl.out.cell (p := ⟨b, off + k * 2 + 1, none⟩) hb).trans (hc k hlt).2
            subst hAA
            clear hc
            have hwn := HWB.out k hlt
            obtain ⟨y, hy⟩ : ∃ y : Nat, W0 k = (y : Int) := ⟨(W0 k).toNat, by omega⟩
            have hstep : Hid (widSum W0 (k + 1) = widSum W0 k + y) := by show _ = _; rw [widSum, hy]; rfl
            have hle2 := wid_le W0 (k + 1) n0 (by omega)
            rw [hstep.out] at hle2
            rw [hy] at d1
            clear hy hwn
            generalize widSum W0 k = T at *
            generalize V0 k = vv at *
            go_wp2_with fail
            go_roundw
            case rel => exact ⟨k + 1, by omega, by go_num, by rw [hstep.out]; go_num, by first | exact HBl.out.alloc hsl _ | exact (HBl.out.alloc hsl _).setCell (by omega) _⟩
            case measure => simp [intOf]; omega
          · have hkk := Hid.mk' (show k = n0 by omega)
            rw [hkk.out]
            obtain ⟨T0, hT⟩ : ∃ T, Hid (widSum W0 n0 = T) := ⟨_, Hid.mk' rfl⟩
            have HRE := Hid.mk' HBK.out.re
            have HRL := Hid.mk' HBK.out.rl
            have HRK := Hid.mk' HBK.out.rk
            have HEQ := Hid.mk' HBK.out.eq
            rw [hT.out] at hT0 HRE HRL HRK HEQ ⊢
            clear hle
            go_wp2_with fail
            go_loopw [15, 94] (fun t i wr => ∃ k : Nat, k ≤ n1 ∧ i = .int .i64 k ∧ t = .int .i64 (widSum (wrW L S) k : Nat) ∧ Below wf.heap.size wf wr) (fun _ i _ => n1 - (intOf i).toNat)
            case atStart => exact ⟨0, Nat.zero_le _, rfl, rfl, HBl.out⟩
            case round =>
              clear HBl
              obtain ⟨k2, hk2, rfl, rfl, hbl⟩ := hrel
              have HBl := Hid.mk' hbl
              have hsl2 := hbl.size
              clear hbl
              have hle := wr_sum HE.out k2 hk2
              by_cases hlt2 : k2 < n1
              · obtain ⟨b, off, rfl, hb, hc⟩ := HPf.out.at' (by omega)
                have d0 := (HBl.out.cell (p := ⟨b, off + k2 * 2, none⟩) hb).trans (hc k2 hlt2).1
                have d1 := (HBl.out.cell (p := ⟨b, off + k2 * 2 + 1, none⟩) hb).trans (hc k2 hlt2).2
                clear hc
                have hwn := wr_nat HE.out k2 hlt2
                obtain ⟨y, hy⟩ : ∃ y : Nat, wrW L S k2 = (y : Int) := ⟨(wrW L S k2).toNat, by omega⟩
                have hyb : y ≤ 15 := by omega
                have hstep : Hid (widSum (wrW L S) (k2 + 1) = widSum (wrW L S) k2 + y) := by show _ = _; rw [widSum, hy]; rfl
                rw [hy] at d1
                clear hy hwn
                generalize widSum (wrW L S) k2 = T at *
                generalize wrV L len S k2 = vv at *
                go_wp2_with fail
                go_roundw
                case rel => exact ⟨k2 + 1, by omega, by go_num, by rw [hstep.out]; go_num, by first | exact HBl.out.alloc hsl2 _ | exact (HBl.out.alloc hsl2 _).setCell (by omega) _⟩
                case measure => simp [intOf]; omega
              · have hkk2 := Hid.mk' (show k2 = n1 by omega)
                rw [hkk2.out] at hle
                rw [hkk2.out]
                obtain ⟨T1, hT1⟩ : ∃ T, Hid (widSum (wrW L S) n1 = T) := ⟨_, Hid.mk' rfl⟩
                rw [hT1.out] at hle ⊢
                go_wp2_with fail
                refine (read_any a0 len cap L s (T0 : Int) (n1 : Int) _ (wds_below HP.out (HBf.out.trans (HBl.out.mono HBf.out.size))) HBK.out.sz (by omega) (by omega)).mono ?_
                rintro e wg ⟨⟨vg, rfl, hg, _⟩, hb⟩
                rw [HRE.out, HRK.out, hT1.out]
                rw [HRL.out] at hg
                have HBg1 := Hid.mk' (HBl.out.trans (hb.mono HBl.out.size))
                have HG := Hid.mk' hg
                have HQg := Hid.mk' (wds_below HQf.out HBg1.out)
                clear hg hb
                have hTT : ((T0 + T1 : Nat) : Int) = (T0 : Int) + (T1 : Int) := by omega
                have tE : ((T0 : Int) + (T1 : Int) == (T0 : Int) + (T1 : Int)) = true := by simp
                go_wp2_with fail
                refine (equalI_any vg _ n1 n1 _ S _ (by omega) (by omega) HG.out (i64s_of_wds HQg.out)).mono ?_
                rintro e wh ⟨rfl, q, rfl⟩
                rw [show eqI n1 n1 (rdF L len s (Int.toNat (T0 : Int))) S = true from HEQ.out]
                go_wp2_with fail
                go_ret
                exact ⟨rfl, below_drewN (HBf.out.trans (HBg1.out.mono HBf.out.size)) q⟩
      · have HWB : Hid (∀ i, i < 0 → 0 ≤ W0 i) := fun i hi => by omega
        have HBK := Hid.mk' (back_is HE.out hn1b V0 W0 0 (fun i hi => by omega) (by simp [widSum]))
        have HAn : Hid (Pcs wd none 0 V0 W0) := ⟨by omega, fun h => by omega, fun i hi => by omega, fun i hi => by omega⟩
        obtain ⟨s0, hs0⟩ : ∃ s0, Hid (ByteArray.mk (packS n0 V0 W0).toArray = s0) := ⟨_, Hid.mk' rfl⟩
        obtain ⟨E0, hE0⟩ : ∃ E0, Hid (packE n0 V0 W0 = E0) := ⟨_, Hid.mk' rfl⟩
        have hor : E0 ≠ 0 ∨ 1000 < s0.size := by
          refine Classical.byContradiction fun h => hpe ⟨?_, ?_⟩
          · rw [hE0.out]; exact Classical.byContradiction fun h2 => h (.inl h2)
          · refine Nat.le_of_not_lt fun h2 => h (.inr ?_)
            rw [← hs0.out]; exact h2
        have hs0b : s0.size ≤ 8192 := by
          rw [← hs0.out]
          by_cases h : packE n0 V0 W0 = 0
          · obtain ⟨_, h1, h2⟩ := pack_len n0 V0 W0 h
            show (packS n0 V0 W0).length ≤ 8192
            omega
          · show (packS n0 V0 W0).length ≤ 8192
            unfold packS; rw [if_neg h]; simp
        rw [hs0.out, hE0.out]
        clear hpe
        by_cases h0 : E0 = 0
        · subst h0
          have t0 : decide ((1000 : Int) < (s0.size : Int)) = true := decide_eq_true (by omega)
          have t1 : decide (1000 < s0.size) = true := decide_eq_true (by omega)
          clear hor
          go_wp2_with fail
          have Gv := Hid.mk' (pcs_cat_v' (HAn.out) HPd.out)
          have Gw := Hid.mk' (pcs_cat_w' (HAn.out) HPd.out)
          have hbA : Hid (Below wd.heap.size wd (wd.alloc (.cells #[.slice none 0 0, .slice ao2 n1 co2] 28))) := (Below.refl _ _).alloc (Nat.le_refl _) _
          refine (concat_any _ none ao2 0 0 n1 co2 V0 (wrV L len S) W0 (wrW L S) _ (two_pcs wd _ _ _).1 (two_pcs wd _ _ _).2.1 (two_pcs wd _ _ _).2.2 (pcs_below (HAn.out) hbA.out) (pcs_below HPd.out hbA.out) (fun _ => rfl) HNL.out (by omega)).mono ?_
          rintro e we ⟨⟨vc, rfl, hoc⟩, hbc⟩
          have HBe1 := Hid.mk' (hbA.out.trans (hbc.mono (by simp)))
          obtain ⟨ac, cc, rfl, _, hpc⟩ := pcs_of_own hoc (by omega) Gv.out Gw.out
          have HPc := Hid.mk' hpc
          have HPE := Hid.mk' HBK.out.pe
          rw [Nat.zero_add] at HPc HBK HPE
          clear hoc hbc hpc
          go_wp2_with fail
          refine (pack_any _ _ _ _ _ _ HPc.out).mono ?_
          rintro e wf ⟨rfl, hb⟩
          rw [HPE.out]
          have HBf1 := Hid.mk' (HBe1.out.trans (hb.mono HBe1.out.size))
          have HBf := Hid.mk' (HBd.out.trans (HBf1.out.mono HBd.out.size))
          have HQf := Hid.mk' (wds_below HQd.out HBf1.out)
          have HPf := Hid.mk' (pcs_below HPd.out HBf1.out)
          have HAf := Hid.mk' (pcs_below (HAn.out) HBf1.out)
          clear hb
          obtain ⟨s, hs⟩ : ∃ s, Hid (ByteArray.mk (packS n1 (cat 0 V0 (wrV L len S)) (cat 0 W0 (wrW L S))).toArray = s) := ⟨_, Hid.mk' rfl⟩
          rw [hs.out] at HBK
          rw [hs.out]
          have hT0 : widSum W0 0 ≤ 8000 := by first | exact hws | simp [widSum]
          go_wp2_with fail
          go_loopw [14, 83] (fun t i wr => ∃ k : Nat, k ≤ 0 ∧ i = .int .i64 k ∧ t = .int .i64 (widSum W0 k : Nat) ∧ Below wf.heap.size wf wr) (fun _ i _ => 0 - (intOf i).toNat)
          case atStart => exact ⟨0, Nat.zero_le _, rfl, rfl, Below.refl _ _⟩
          case round =>
            obtain ⟨k, hk, rfl, rfl, hbl⟩ := hrel
            have HBl := Hid.mk' hbl
            have hsl := hbl.size
            clear hbl
            have hle := wid_le W0 k 0 hk
            by_cases hlt : k < 0
            · exact absurd hlt (by omega)
            · have hkk := Hid.mk' (show k = 0 by omega)
              rw [hkk.out]
              obtain ⟨T0, hT⟩ : ∃ T, Hid (widSum W0 0 = T) := ⟨_, Hid.mk' rfl⟩
              have HRE := Hid.mk' HBK.out.re
              have HRL := Hid.mk' HBK.out.rl
              have HRK := Hid.mk' HBK.out.rk
              have HEQ := Hid.mk' HBK.out.eq
              rw [hT.out] at hT0 HRE HRL HRK HEQ ⊢
              clear hle
              go_wp2_with fail
              go_loopw [15, 94] (fun t i wr => ∃ k : Nat, k ≤ n1 ∧ i = .int .i64 k ∧ t = .int .i64 (widSum (wrW L S) k : Nat) ∧ Below wf.heap.size wf wr) (fun _ i _ => n1 - (intOf i).toNat)
              case atStart => exact ⟨0, Nat.zero_le _, rfl, rfl, HBl.out⟩
              case round =>
                clear HBl
                obtain ⟨k2, hk2, rfl, rfl, hbl⟩ := hrel
                have HBl := Hid.mk' hbl
                have hsl2 := hbl.size
                clear hbl
                have hle := wr_sum HE.out k2 hk2
                by_cases hlt2 : k2 < n1
                · obtain ⟨b, off, rfl, hb, hc⟩ := HPf.out.at' (by omega)
                  have d0 := (HBl.out.cell (p := ⟨b, off + k2 * 2, none⟩) hb).trans (hc k2 hlt2).1
                  have d1 := (HBl.out.cell (p := ⟨b, off + k2 * 2 + 1, none⟩) hb).trans (hc k2 hlt2).2
                  clear hc
                  have hwn := wr_nat HE.out k2 hlt2
                  obtain ⟨y, hy⟩ : ∃ y : Nat, wrW L S k2 = (y : Int) := ⟨(wrW L S k2).toNat, by omega⟩
                  have hyb : y ≤ 15 := by omega
                  have hstep : Hid (widSum (wrW L S) (k2 + 1) = widSum (wrW L S) k2 + y) := by show _ = _; rw [widSum, hy]; rfl
                  rw [hy] at d1
                  clear hy hwn
                  generalize widSum (wrW L S) k2 = T at *
                  generalize wrV L len S k2 = vv at *
                  go_wp2_with fail
                  go_roundw
                  case rel => exact ⟨k2 + 1, by omega, by go_num, by rw [hstep.out]; go_num, by first | exact HBl.out.alloc hsl2 _ | exact (HBl.out.alloc hsl2 _).setCell (by omega) _⟩
                  case measure => simp [intOf]; omega
                · have hkk2 := Hid.mk' (show k2 = n1 by omega)
                  rw [hkk2.out] at hle
                  rw [hkk2.out]
                  obtain ⟨T1, hT1⟩ : ∃ T, Hid (widSum (wrW L S) n1 = T) := ⟨_, Hid.mk' rfl⟩
                  rw [hT1.out] at hle ⊢
                  go_wp2_with fail
                  refine (read_any a0 len cap L s (T0 : Int) (n1 : Int) _ (wds_below HP.out (HBf.out.trans (HBl.out.mono HBf.out.size))) HBK.out.sz (by omega) (by omega)).mono ?_
                  rintro e wg ⟨⟨vg, rfl, hg, _⟩, hb⟩
                  rw [HRE.out, HRK.out, hT1.out]
                  rw [HRL.out] at hg
                  have HBg1 := Hid.mk' (HBl.out.trans (hb.mono HBl.out.size))
                  have HG := Hid.mk' hg
                  have HQg := Hid.mk' (wds_below HQf.out HBg1.out)
                  clear hg hb
                  have hTT : ((T0 + T1 : Nat) : Int) = (T0 : Int) + (T1 : Int) := by omega
                  have tE : ((T0 : Int) + (T1 : Int) == (T0 : Int) + (T1 : Int)) = true := by simp
                  go_wp2_with fail
                  refine (equalI_any vg _ n1 n1 _ S _ (by omega) (by omega) HG.out (i64s_of_wds HQg.out)).mono ?_
                  rintro e wh ⟨rfl, q, rfl⟩
                  rw [show eqI n1 n1 (rdF L len s (Int.toNat (T0 : Int))) S = true from HEQ.out]
                  go_wp2_with fail
                  go_ret
                  exact ⟨rfl, below_drewN (HBf.out.trans (HBg1.out.mono HBf.out.size)) q⟩
        · have t0 : (E0 != 0) = true := by rw [bne_iff_ne]; exact h0
          clear hor h0
          go_wp2_with fail
          have Gv := Hid.mk' (pcs_cat_v' (HAn.out) HPd.out)
          have Gw := Hid.mk' (pcs_cat_w' (HAn.out) HPd.out)
          have hbA : Hid (Below wd.heap.size wd (wd.alloc (.cells #[.slice none 0 0, .slice ao2 n1 co2] 28))) := (Below.refl _ _).alloc (Nat.le_refl _) _
          refine (concat_any _ none ao2 0 0 n1 co2 V0 (wrV L len S) W0 (wrW L S) _ (two_pcs wd _ _ _).1 (two_pcs wd _ _ _).2.1 (two_pcs wd _ _ _).2.2 (pcs_below (HAn.out) hbA.out) (pcs_below HPd.out hbA.out) (fun _ => rfl) HNL.out (by omega)).mono ?_
          rintro e we ⟨⟨vc, rfl, hoc⟩, hbc⟩
          have HBe1 := Hid.mk' (hbA.out.trans (hbc.mono (by simp)))
          obtain ⟨ac, cc, rfl, _, hpc⟩ := pcs_of_own hoc (by omega) Gv.out Gw.out
          have HPc := Hid.mk' hpc
          have HPE := Hid.mk' HBK.out.pe
          rw [Nat.zero_add] at HPc HBK HPE
          clear hoc hbc hpc
          go_wp2_with fail
          refine (pack_any _ _ _ _ _ _ HPc.out).mono ?_
          rintro e wf ⟨rfl, hb⟩
          rw [HPE.out]
          have HBf1 := Hid.mk' (HBe1.out.trans (hb.mono HBe1.out.size))
          have HBf := Hid.mk' (HBd.out.trans (HBf1.out.mono HBd.out.size))
          have HQf := Hid.mk' (wds_below HQd.out HBf1.out)
          have HPf := Hid.mk' (pcs_below HPd.out HBf1.out)
          have HAf := Hid.mk' (pcs_below (HAn.out) HBf1.out)
          clear hb
          obtain ⟨s, hs⟩ : ∃ s, Hid (ByteArray.mk (packS n1 (cat 0 V0 (wrV L len S)) (cat 0 W0 (wrW L S))).toArray = s) := ⟨_, Hid.mk' rfl⟩
          rw [hs.out] at HBK
          rw [hs.out]
          have hT0 : widSum W0 0 ≤ 8000 := by first | exact hws | simp [widSum]
          go_wp2_with fail
          go_loopw [14, 83] (fun t i wr => ∃ k : Nat, k ≤ 0 ∧ i = .int .i64 k ∧ t = .int .i64 (widSum W0 k : Nat) ∧ Below wf.heap.size wf wr) (fun _ i _ => 0 - (intOf i).toNat)
          case atStart => exact ⟨0, Nat.zero_le _, rfl, rfl, Below.refl _ _⟩
          case round =>
            obtain ⟨k, hk, rfl, rfl, hbl⟩ := hrel
            have HBl := Hid.mk' hbl
            have hsl := hbl.size
            clear hbl
            have hle := wid_le W0 k 0 hk
            by_cases hlt : k < 0
            · exact absurd hlt (by omega)
            · have hkk := Hid.mk' (show k = 0 by omega)
              rw [hkk.out]
              obtain ⟨T0, hT⟩ : ∃ T, Hid (widSum W0 0 = T) := ⟨_, Hid.mk' rfl⟩
              have HRE := Hid.mk' HBK.out.re
              have HRL := Hid.mk' HBK.out.rl
              have HRK := Hid.mk' HBK.out.rk
              have HEQ := Hid.mk' HBK.out.eq
              rw [hT.out] at hT0 HRE HRL HRK HEQ ⊢
              clear hle
              go_wp2_with fail
              go_loopw [15, 94] (fun t i wr => ∃ k : Nat, k ≤ n1 ∧ i = .int .i64 k ∧ t = .int .i64 (widSum (wrW L S) k : Nat) ∧ Below wf.heap.size wf wr) (fun _ i _ => n1 - (intOf i).toNat)
              case atStart => exact ⟨0, Nat.zero_le _, rfl, rfl, HBl.out⟩
              case round =>
                clear HBl
                obtain ⟨k2, hk2, rfl, rfl, hbl⟩ := hrel
                have HBl := Hid.mk' hbl
                have hsl2 := hbl.size
                clear hbl
                have hle := wr_sum HE.out k2 hk2
                by_cases hlt2 : k2 < n1
                · obtain ⟨b, off, rfl, hb, hc⟩ := HPf.out.at' (by omega)
                  have d0 := (HBl.out.cell (p := ⟨b, off + k2 * 2, none⟩) hb).trans (hc k2 hlt2).1
                  have d1 := (HBl.out.cell (p := ⟨b, off + k2 * 2 + 1, none⟩) hb).trans (hc k2 hlt2).2
                  clear hc
                  have hwn := wr_nat HE.out k2 hlt2
                  obtain ⟨y, hy⟩ : ∃ y : Nat, wrW L S k2 = (y : Int) := ⟨(wrW L S k2).toNat, by omega⟩
                  have hyb : y ≤ 15 := by omega
                  have hstep : Hid (widSum (wrW L S) (k2 + 1) = widSum (wrW L S) k2 + y) := by show _ = _; rw [widSum, hy]; rfl
                  rw [hy] at d1
                  clear hy hwn
                  generalize widSum (wrW L S) k2 = T at *
                  generalize wrV L len S k2 = vv at *
                  go_wp2_with fail
                  go_roundw
                  case rel => exact ⟨k2 + 1, by omega, by go_num, by rw [hstep.out]; go_num, by first | exact HBl.out.alloc hsl2 _ | exact (HBl.out.alloc hsl2 _).setCell (by omega) _⟩
                  case measure => simp [intOf]; omega
                · have hkk2 := Hid.mk' (show k2 = n1 by omega)
                  rw [hkk2.out] at hle
                  rw [hkk2.out]
                  obtain ⟨T1, hT1⟩ : ∃ T, Hid (widSum (wrW L S) n1 = T) := ⟨_, Hid.mk' rfl⟩
                  rw [hT1.out] at hle ⊢
                  go_wp2_with fail
                  refine (read_any a0 len cap L s (T0 : Int) (n1 : Int) _ (wds_below HP.out (HBf.out.trans (HBl.out.mono HBf.out.size))) HBK.out.sz (by omega) (by omega)).mono ?_
                  rintro e wg ⟨⟨vg, rfl, hg, _⟩, hb⟩
                  rw [HRE.out, HRK.out, hT1.out]
                  rw [HRL.out] at hg
                  have HBg1 := Hid.mk' (HBl.out.trans (hb.mono HBl.out.size))
                  have HG := Hid.mk' hg
                  have HQg := Hid.mk' (wds_below HQf.out HBg1.out)
                  clear hg hb
                  have hTT : ((T0 + T1 : Nat) : Int) = (T0 : Int) + (T1 : Int) := by omega
                  have tE : ((T0 : Int) + (T1 : Int) == (T0 : Int) + (T1 : Int)) = true := by simp
                  go_wp2_with fail
                  refine (equalI_any vg _ n1 n1 _ S _ (by omega) (by omega) HG.out (i64s_of_wds HQg.out)).mono ?_
                  rintro e wh ⟨rfl, q, rfl⟩
                  rw [show eqI n1 n1 (rdF L len s (Int.toNat (T0 : Int))) S = true from HEQ.out]
                  go_wp2_with fail
                  go_ret
                  exact ⟨rfl, below_drewN (HBf.out.trans (HBg1.out.mono HBf.out.size)) q⟩
    · have hl1 : wrL L len S n1 = 0 := by unfold wrL; rw [if_neg hE]
      have hb2 := wrE_is L len S n1
      have hne : (wrE L len S n1 != 0) = true := by rw [bne_iff_ne]; exact hE
      rw [hl1]
      obtain ⟨y, hy⟩ : ∃ y, Hid (wrE L len S n1 = y) := ⟨_, Hid.mk' rfl⟩
      rw [hy.out] at hb2 hne ⊢
      have t2 : ((0 : Int) == 0) = true := rfl
      clear hE hl1
      go_wp2_with fail
      go_ret
      exact ⟨rfl, HBc.out⟩
end Go.Proofs.Ytnoegodimiehhaa
