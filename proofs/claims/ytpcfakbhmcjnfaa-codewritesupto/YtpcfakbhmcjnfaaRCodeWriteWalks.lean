/- What linenref.CodeWrite answers. -/
import Derived.Test.YtpcfakbhmcjnfaaRCodewordWalks
import Derived.Test.YtpcfakbhmcjnfaaRCanonWalks
import Derived.Test.YtpcfakbhmcjnfaaWriteMath
import Derived.Test.YtpcfakbhmcjnfaaCellsC
import Derived.Test.YtpcfakbhmcjnfaaGrowAt
import Derived.Deep.RegionHeld3
namespace Go.Proofs.Ytpcfakbhmcjnfaa
open Go.RowKit

theorem packN_lt2 (V : Nat → Nat) (W : Nat → Int) (k : Nat) (h : ∀ i, i < k → errP (V i) (W i) = 0) : packN V W k < 2 ^ widSum W k := by
  induction k with
  | zero => simp [packN, widSum]
  | succ k ih =>
    have h1 := ih fun i hi => h i (by omega)
    obtain ⟨_, _, h2⟩ := ok_wid _ _ (h k (by omega))
    simp only [packN, widSum]
    apply Nat.or_lt_two_pow
    · exact Nat.lt_of_lt_of_le h1 (Nat.pow_le_pow_right (by decide) (by omega))
    · rw [Nat.pow_add, Nat.mul_comm]; exact Nat.mul_lt_mul_of_pos_left h2 (Nat.pow_pos (by decide))
theorem wr_wid {L : Nat → Int} {len : Nat} {S : Nat → Int} (hg : ∀ i, i < len → lenB (L i) = true) (k : Nat) (h : ∀ i, i < k → sgnB L len (S i) = true) : widSum (wrW L S) k ≤ 15 * k := by
  induction k with
  | zero => simp [widSum]
  | succ k ih =>
    have h1 := ih fun i hi => h i (by omega)
    obtain ⟨j, y, h3, h4, h5, h6, h7⟩ := sgn_is hg (h k (by omega))
    have : wrW L S k = (y : Int) := by unfold wrW; rw [h3, Int.toNat_natCast, h5]
    rw [widSum, this]; omega

theorem i64s_of_cells {w : World} {N n : Nat} {v : Value} {W : Nat → Int} (h : w.ownsRow N 3 1 v n (cellsC W n)) : I64s w v n W := by
  rcases h.2 with ⟨rfl, rfl⟩ | ⟨g, cap, cur, rfl, _, hg, _, _, _, hx⟩
  · exact i64s_nil _ _
  · refine ⟨some ⟨g, 0, none⟩, cap, rfl, fun _ => ⟨g, 0, rfl, (Array.getElem?_eq_some_iff.1 hg).1, fun i hi => ?_⟩⟩
    rw [Nat.zero_add, h.cellAt i (by omega)]
    simp [cellsC, hi]
theorem wr_errs {L : Nat → Int} {len : Nat} {S : Nat → Int} (hg : ∀ i, i < len → lenB (L i) = true) (k : Nat) (h : ∀ i, i < k → sgnB L len (S i) = true) (i : Nat) (hi : i < k) : errP (wrV L len S i) (wrW L S i) = 0 := by
  obtain ⟨j, y, h3, h4, h5, h6, h7⟩ := sgn_is hg (h i hi)
  unfold wrV wrW
  rw [h3, Int.toNat_natCast, h5, Int.toNat_natCast]
  exact errP_ok _ _ (by omega) (by rw [Int.toNat_natCast, Nat.div_eq_of_lt (rv_lt _ _)])

set_option maxRecDepth 20000 in
set_option maxHeartbeats 1000000 in
theorem rcodewrite_any (a0 : Option Addr) (len cap : Nat) (L : Nat → Int) (a1 : Option Addr) (n cap1 : Nat) (S : Nat → Int) (w : World) (hP : Wds w a0 len L) (hQ : Wds w a1 n S) (hn : n ≤ 1048576) :
    Calls Try.prog 17 #[.slice a0 len cap, .slice a1 n cap1] w fun e w' => (∃ v u, e = .returned (.tuple #[v, u, .int .i64 (wrE L len S n)]) ∧ BV w' v (packN (wrV L len S) (wrW L S) (wrL L len S n)) 0 (widSum (wrW L S) (wrL L len S n)) ∧ I64s w' u (wrL L len S n) (wrW L S)) ∧ Below w.heap.size w w' := by
  have hlen := hP.lenB
  have HP := Hid.mk' hP
  have HQ := Hid.mk' hQ
  clear hP hQ
  by_cases hE : canE L len = 0
  · obtain ⟨h320, hg, hF, hcl⟩ := canE_ok hE
    have HG := Hid.mk' hg
    have HC := Hid.mk' hcl
    have HE := Hid.mk' hE
    clear hg hcl
    obtain ⟨i0, hi, hz0, hz1, hz2⟩ := info_parts infoIntB
    have KI := Hid.mk' hi
    have KZ0 := Hid.mk' hz0
    have KZ1 := Hid.mk' hz1
    have KZ2 := Hid.mk' hz2
    clear hi hz0 hz1 hz2
    go_enter Try.func17, Try.ntmps17
    go_wp2_with fail
    refine (rcanon_any a0 len cap L _ HP.out).mono ?_
    rintro e w1 ⟨⟨v, rfl, hI⟩, hb⟩
    rw [HC.out] at hI
    rw [HE.out]
    obtain ⟨ac, cc, rfl, hcod⟩ := hI.is
    have HK := Hid.mk' hcod
    have HB1 := Hid.mk' hb
    have hs1 := hb.size
    clear hI hcod hb
    go_wp2_with fail
    go_loopw [9, 10, 23] (fun bv uv i wr => ∃ k : Nat, k ≤ n ∧ i = .int .i64 k ∧ (∀ i, i < k → sgnB L len (S i) = true) ∧ wr.ownsRow w1.heap.size 3 1 bv (widSum (wrW L S) k) (bitsC (packN (wrV L len S) (wrW L S) k) (widSum (wrW L S) k)) ∧ wr.ownsRow w1.heap.size 3 1 uv k (cellsC (wrW L S) k) ∧ Apart uv bv ∧ Below w1.heap.size w1 wr) (fun _ _ i _ => n - (intOf i).toNat)
    case atStart => exact ⟨0, Nat.zero_le _, rfl, fun i hi => by omega, World.ownsRow_nil _ _ _ _, World.ownsRow_nil _ _ _ _, .inl rfl, Below.refl _ _⟩
    case round =>
      obtain ⟨k, hk, rfl, hok, hown, hown2, hne, hbl⟩ := hrel
      have HO := Hid.mk' hok
      have HR := Hid.mk' hown
      have HU := Hid.mk' hown2
      have HN := Hid.mk' hne
      have HB := Hid.mk' hbl
      have HBw := Hid.mk' (HB1.out.trans (hbl.mono hs1))
      have hs2 := hbl.size
      clear hok hown hown2 hne hbl
      by_cases hlt : k < n
      · obtain ⟨b1, off1, rfl, hb1, hc1⟩ := HQ.out.at' (by omega)
        have c1 := (HBw.out.cell (p := ⟨b1, off1 + k, none⟩) hb1).trans (hc1 k hlt)
        clear hc1
        cases hsg : sgnB L len (S k) with
        | true =>
          obtain ⟨j, y, hj, hjl, hy, hy0, hy1⟩ := sgn_is HG.out hsg
          obtain ⟨b0, off0, rfl, hb0, hc0⟩ := HP.out.at' (by omega)
          have c0 := (HBw.out.cell (p := ⟨b0, off0 + j, none⟩) hb0).trans (hc0 j hjl)
          clear hc0
          obtain ⟨g, off, rfl, hgl, hcc⟩ := HK.out (by omega)
          have cc0 := (HB.out.cell (p := ⟨g, off + j, none⟩) hgl).trans (hcc j hjl)
          clear hcc
          have HO1 : Hid (∀ i, i < k + 1 → sgnB L len (S i) = true) := fun i hi => by
            rcases Nat.lt_succ_iff_lt_or_eq.1 hi with h | rfl
            · exact HO.out i h
            · exact hsg
          have hcb := code_le L len j (HG.out j hjl) hjl hF
          have hval : Hid (wrV L len S k = rv (codeN L len j) y ∧ wrW L S k = (y : Int)) := by
            show _ ∧ _
            unfold wrV wrW
            rw [hj, Int.toNat_natCast, hy, Int.toNat_natCast]; exact ⟨rfl, rfl⟩
          rw [hj] at c1
          rw [hy] at c0
          clear hj hy hsg
          obtain ⟨q, hq⟩ : ∃ q, Hid (codeN L len j = q) := ⟨_, Hid.mk' rfl⟩
          rw [hq.out] at hcb cc0
          have t0 : decide ((j : Int) < 0) = false := decide_eq_false (by omega)
          have t1 : decide (len ≤ j) = false := decide_eq_false (by omega)
          have t2 : ((y : Int) == 0) = false := by rw [beq_eq_false_iff_ne]; omega
          have hwid := wr_wid HG.out k HO.out
          have hX := Hid.mk' (packN_lt2 (wrV L len S) (wrW L S) k (wr_errs HG.out k HO.out))
          go_wp2_with fail
          go_region_held3 (fun W => W.cell? ⟨g, off + j, none⟩ = some (.int .i64 (q : Int)) ∧ W.cell? ⟨b0, off0 + j, none⟩ = some (.int .i64 (y : Int))) (first | exact ⟨cc3, c3⟩ | exact ⟨cc2, c2⟩ | exact ⟨cc0, c0⟩) (first | (go_at_call 32; refine (rcodeword_any q y _ (by omega) (by omega)).mono ?_; rintro e w2 ⟨⟨v, rfl, ho⟩, hb⟩; have hb := ((Below.refl wr.heap.size wr).drew.trans hb); obtain ⟨g2, cp2, rfl, hg2, hl2, hcl⟩ := own_some ho hy0; have cc2 := (hb.cell (p := ⟨g, off + j, none⟩) (by show g < wr.heap.size; omega)).trans cc0; have c2 := (hb.cell (p := ⟨b0, off0 + j, none⟩) (by show b0 < wr.heap.size; omega)).trans c0; have HR2 := Hid.mk' (own_below HR.out hb); have HU2 := Hid.mk' (own_below HU.out hb); have HB2 := Hid.mk' hb; have HCL := Hid.mk' hcl; have hs3 := hb.size; clear ho hb hcl) | (refine step_append_at rfl (.tmp 42) (.tmp 51) 22 rfl w1.heap.size 3 i0 (.int .i64 0) 1 8 Try.underlying22 KI.out KZ0.out KZ1.out KZ2.out rfl (by decide) u9 _ _ rfl HR2.out ⟨g2, 0, none⟩ y cp2 _ rfl (by rw [bitsC_length, Nat.mul_one]) HCL.out (bitsC_one _ _) (by unfold maxLen; omega) (by omega) (by omega) ?_; intro v' w3 hown3 hgrow3 hat3; have cc3 := (cell_grown_own HR2.out hgrow3 (by omega) (p := ⟨g, off + j, none⟩) hgl).trans cc2; have c3 := (cell_grown_own HR2.out hgrow3 (by omega) (p := ⟨b0, off0 + j, none⟩) (by show b0 < w1.heap.size; omega)).trans c2) | fail)
          have HU3 := Hid.mk' (HU2.out.kept hgrow3 HN.out)
          have HN3 := Hid.mk' (apart_grown HN.out HU2.out HR2.out hgrow3 hat3)
          have HB3 : Hid (Below w1.heap.size w1 w3) := (HB.out.trans (HB2.out.mono hs2)).grown hgrow3 (by omega) fun i hi => (HR2.out.lt i hi).1
          have hs4 := hgrow3.size
          have HR3 : Hid (w3.ownsRow w1.heap.size 3 1 v' (widSum (wrW L S) (k + 1)) (bitsC (packN (wrV L len S) (wrW L S) (k + 1)) (widSum (wrW L S) (k + 1)))) := by
            rw [bitsC_cat _ _ _ _ hX.out] at hown3
            rw [packN, widSum, hval.out.1, hval.out.2, hq.out, Int.toNat_natCast]; exact hown3
          have hV3 := Hid.mk' hval.out.2
          clear hown3 hgrow3 hat3 cc2 c2
          go_wp2_with (at_builtin; refine wpList_append_own_at _ rfl (.tmp 53) (.tmp 58) 22 rfl w1.heap.size 3 i0 (.int .i64 0) 1 8 Try.underlying22 KI.out KZ0.out KZ1.out KZ2.out rfl (by decide) u10 _ _ rfl (HU3.out.alloc _) ⟨w3.heap.size, 0, none⟩ 1 1 [.int .i64 (y : Int)] rfl rfl (cell_one_new _ _ _) (one_int _ _) (by unfold maxLen; omega) (by omega) (by simp; omega) ?_; intro v4 w4 hown4 hgrow4 _ hat4)
          have HR4 := Hid.mk' ((HR3.out.alloc _).kept hgrow4 HN3.out.symm)
          have HN4 := Hid.mk' (apart_grown HN3.out.symm (HR3.out.alloc _) (HU3.out.alloc _) hgrow4 hat4).symm
          have HB4 : Hid (Below w1.heap.size w1 w4) := (HB3.out.alloc (by omega) _).grown hgrow4 (by simp; omega) fun i hi => (HU3.out.lt i hi).1
          have HU4 : Hid (w4.ownsRow w1.heap.size 3 1 v4 (k + 1) (cellsC (wrW L S) (k + 1))) := by
            have e : cellsC (wrW L S) (k + 1) = cellsC (wrW L S) k ++ [.int .i64 (y : Int)] := by
              unfold cellsC
              rw [List.range_succ, List.map_append, List.map_singleton, hV3.out]
            rw [e]; exact hown4
          clear hown4 hgrow4 hat4
          go_wp2_with fail
          go_roundw
          case rel => exact ⟨k + 1, by omega, by go_num, HO1.out, HR4.out, HU4.out, HN4.out, HB4.out⟩
          case measure => simp [intOf]; omega
        | false =>
          have hwb := Hid.mk' (wr_bad HE.out (allS_not k hlt hsg))
          have hns := sgn_not hsg
          have HNS := Hid.mk' hns
          clear hns hsg
          have hfin : Hid (∀ wx : World, Below w.heap.size w wx → (∃ v u, Ending.returned (.tuple #[.slice none 0 0, .slice none 0 0, .int .i64 1]) = .returned (.tuple #[v, u, .int .i64 (wrE L len S n)]) ∧ BV wx v (packN (wrV L len S) (wrW L S) (wrL L len S n)) 0 (widSum (wrW L S) (wrL L len S n)) ∧ I64s wx u (wrL L len S n) (wrW L S)) ∧ Below w.heap.size w wx) := by
            intro wx hx
            rw [hwb.out.1, hwb.out.2]
            exact ⟨⟨_, _, rfl, ⟨none, 0, rfl, by simp [widSum], fun h => by simp [widSum] at h⟩, i64s_nil _ _⟩, hx⟩
          by_cases hneg : S k < 0
          · have t0 : decide (S k < 0) = true := decide_eq_true hneg
            generalize S k = x at *
            go_wp2_with fail
            go_ret3
            exact hfin.out _ HBw.out
          · have t0 : decide (S k < 0) = false := decide_eq_false hneg
            obtain ⟨j, hj⟩ : ∃ j : Nat, S k = (j : Int) := ⟨(S k).toNat, by omega⟩
            rw [hj] at c1 t0
            by_cases hjl : len ≤ j
            · have t1 : decide (len ≤ j) = true := decide_eq_true hjl
              clear hj hneg
              go_wp2_with fail
              go_ret3
              exact hfin.out _ HBw.out
            · have t1 : decide (len ≤ j) = false := decide_eq_false hjl
              have hz : L j = 0 := by
                refine Classical.byContradiction fun hn => HNS.out ⟨by omega, by omega, ?_⟩
                rw [hj, Int.toNat_natCast]; exact hn
              obtain ⟨b0, off0, rfl, hb0, hc0⟩ := HP.out.at' (by omega)
              have c0 := (HBw.out.cell (p := ⟨b0, off0 + j, none⟩) hb0).trans (hc0 j (by omega))
              rw [hz] at c0
              clear hc0 hj hneg hz
              have t2 : ((0 : Int) == 0) = true := rfl
              go_wp2_with fail
              go_ret3
              exact hfin.out _ HBw.out
      · have hkl := Hid.mk' (show k = n by omega)
        have hwo := Hid.mk' (wr_ok HE.out (allS_mk (S := S) (n := n) fun i hi => HO.out i (by omega)))
        go_wp2_with fail
        go_ret3
        refine ⟨⟨u9, u10, ?_, ?_, ?_⟩, HBw.out⟩
        · rw [hwo.out.1]; rfl
        · rw [hwo.out.2, ← hkl.out]; exact bv_of_own HR.out
        · rw [hwo.out.2, ← hkl.out]; exact i64s_of_cells HU.out
  · have hwc := Hid.mk' (wr_can (S := S) (n := n) hE)
    have hb2 := canE_is L len
    have hne : (canE L len != 0) = true := by rw [bne_iff_ne]; exact hE
    obtain ⟨y, hy⟩ : ∃ y, Hid (canE L len = y) := ⟨_, Hid.mk' rfl⟩
    rw [hy.out] at hb2 hne
    clear hE
    go_enter Try.func17, Try.ntmps17
    go_wp2_with fail
    refine (rcanon_any a0 len cap L _ HP.out).mono ?_
    rintro e w1 ⟨⟨v, rfl, hI⟩, hb⟩
    rw [hy.out]
    clear hI
    go_wp2_with fail
    go_ret3
    refine ⟨⟨.slice none 0 0, .slice none 0 0, ?_, ?_, ?_⟩, hb⟩
    · rw [hwc.out.1, hy.out]; rfl
    · rw [hwc.out.2]; exact ⟨none, 0, rfl, by simp [widSum], fun h => by simp [widSum] at h⟩
    · rw [hwc.out.2]; exact i64s_nil _ _
end Go.Proofs.Ytpcfakbhmcjnfaa
