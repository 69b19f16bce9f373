import Derived.Test.YtcalbicfnhoklaaDoorMsai
import Derived.Test.YtcalbicfnhoklaaDoorMsac
import Derived.Test.YtcalbicfnhoklaaDoorMsad

/- What code.Write answers. -/
namespace Go.Proofs.YtcalbicfnhoklaaDoor
open Go.RowKit

theorem make_pcs (n : Nat) (hn : n ≤ 17592186044416) (w : World) :
    (Instr.makeSlice 53 (.int .i64 (n : Int)) (.int .i64 (n : Int))).run Tryd.prog w = .ok (.slice (some ⟨w.heap.size, 0, none⟩) n n) (w.alloc (.cells (madeCells #[.int .u64 0, .int .i64 0] (n * 2)) 74)) := by
  obtain ⟨i, hi, hzz⟩ := Option.map_eq_some_iff.1 infoPc
  simp only [Prod.mk.injEq] at hzz
  obtain ⟨hz, hs, hb⟩ := hzz
  have hr := run_make (P := Tryd.prog) w 53 74 i _ Tryd.underlying53 hi hz .i64 .i64 n n (by omega) (Int.le_refl _) (by rw [hb]; omega) (by omega)
  rw [Int.toNat_natCast, hs] at hr
  exact hr

set_option maxRecDepth 20000 in
set_option maxHeartbeats 1000000 in
theorem write_any (a0 : Option Addr) (len cap : Nat) (L : Nat → Int) (a1 : Option Addr) (n cap1 : Nat) (S : Nat → Int) (w : World) (hP : Wds w a0 len L) (hQ : Wds w a1 n S) :
    Calls Tryd.prog 38 #[.slice a0 len cap, .slice a1 n cap1] w fun e w' => (∃ ao co, e = .returned (.tuple #[.slice ao (wrL L len S n) co, .int .i64 (wrE L len S n)]) ∧ (ao = none → co = 0) ∧ Pcs w' ao (wrL L len S n) (wrV L len S) (wrW L S)) ∧ Below w.heap.size w w' := by
  have hlen := hP.lenB
  have hn := hQ.lenB
  have HP := Hid.mk' hP
  have HQ := Hid.mk' hQ
  clear hP hQ
  have pnil : ∀ w' : World, Hid (Pcs w' none 0 (wrV L len S) (wrW L S)) := fun w' => ⟨by omega, fun h => by omega, fun i hi => by omega, fun i hi => by omega⟩
  by_cases hE : canE L len = 0
  · obtain ⟨h320, hg, hF, hcl⟩ := canE_ok hE
    have HG := Hid.mk' hg
    have HC := Hid.mk' hcl
    have HE := Hid.mk' hE
    have hmk := make_pcs n hn
    clear hg hcl
    go_enter Tryd.func38, Tryd.ntmps38
    go_wp2_with fail
    refine (canon_any a0 len cap L _ HP.out).mono ?_
    rintro e w1 ⟨⟨v, rfl, hI⟩, hb⟩
    rw [HC.out] at hI
    rw [HE.out]
    obtain ⟨ac, cc, rfl, hcod⟩ := hI.is
    have HK := Hid.mk' hcod
    have HB1 := Hid.mk' hb
    have hs1 := hb.size
    clear hI hcod hb
    go_wp2_with fail
    clear hmk
    go_loopw [25] (fun i wr => ∃ k : Nat, k ≤ n ∧ i = .int .i64 k ∧ (∀ i, i < k → sgnB L len (S i) = true) ∧ RowPc wr w1.heap.size n (fun i => if i < k then wrV L len S i else 0) (fun i => if i < k then wrW L S i else 0) ∧ Below w1.heap.size w1 wr) (fun i _ => n - (intOf i).toNat)
    case atStart => exact ⟨0, Nat.zero_le _, rfl, fun i hi => by omega, by simpa using rowPc_made w1 n 74, (Below.refl _ _).alloc (Nat.le_refl _) _⟩
    case round =>
      obtain ⟨k, hk, rfl, hok, hrow, hbl⟩ := hrel
      have HO := Hid.mk' hok
      have HR := Hid.mk' hrow
      have HB := Hid.mk' hbl
      have HBw := Hid.mk' (HB1.out.trans (hbl.mono hs1))
      have hs2 := hbl.size
      clear hok hrow hbl
      by_cases hlt : k < n
      · obtain ⟨b1, off1, rfl, hb1, hc1⟩ := HQ.out.at' (by omega)
        have c1 := (HBw.out.cell (p := ⟨b1, off1 + k, none⟩) hb1).trans (hc1 k hlt)
        clear hc1
        cases hsg : sgnB L len (S k) with
        | true =>
          obtain ⟨j, y, hj, hjl, hy, hy0, hy1⟩ := sgn_is HG.out hsg
          obtain ⟨b0, off0, rfl, hb0, hc0⟩ := HP.out.at' (by omega)
          have c0 := (HBw.out.cell (p := ⟨b0, off0 + j, none⟩) hb0).trans (hc0 j hjl)
          clear hc0
          obtain ⟨g, off, rfl, hgl, hcc⟩ := HK.out (by omega)
          have cc0 := (HB.out.cell (p := ⟨g, off + j, none⟩) hgl).trans (hcc j hjl)
          clear hcc
          have HO1 : Hid (∀ i, i < k + 1 → sgnB L len (S i) = true) := fun i hi => by
            rcases Nat.lt_succ_iff_lt_or_eq.1 hi with h | rfl
            · exact HO.out i h
            · exact hsg
          have hcb := code_le L len j (HG.out j hjl) hjl hF
          have hval : Hid (wrV L len S k = rv (codeN L len j) y ∧ wrW L S k = (y : Int)) := by
            show _ ∧ _
            unfold wrV wrW
            rw [hj, Int.toNat_natCast, hy, Int.toNat_natCast]; exact ⟨rfl, rfl⟩
          rw [hj] at c1
          rw [hy] at c0
          clear hj hy hsg
          obtain ⟨q, hq⟩ : ∃ q, Hid (codeN L len j = q) := ⟨_, Hid.mk' rfl⟩
          rw [hq.out] at hcb cc0
          have t0 : decide ((j : Int) < 0) = false := decide_eq_false (by omega)
          have t1 : decide (len ≤ j) = false := decide_eq_false (by omega)
          have t2 : ((y : Int) == 0) = false := by rw [beq_eq_false_iff_ne]; omega
          have r0 := HR.out.c0 k hlt
          have r1 := HR.out.c1 k hlt
          have r2 := HR.out.f0 k hlt
          have r3 := HR.out.f1 k hlt
          go_wp2_with fail
          refine (flip_in q y (y : Int) _ (by omega) (by omega) (by omega) (.inr rfl)).mono ?_
          rintro e w' ⟨rfl, rfl⟩
          go_wp2_with fail
          go_roundw
          case rel =>
            refine ⟨k + 1, by omega, by go_num, HO1.out, ?_, (HB.out.setCell (Nat.le_refl _) _).setCell (Nat.le_refl _) _⟩
            refine (HR.out.set k hlt (rv q y) (y : Int)).congr fun i hi => ?_
            by_cases e : i = k
            · subst e
              rw [if_pos rfl, if_pos rfl, if_pos (by omega), if_pos (by omega), hval.out.1, hval.out.2, hq.out]; exact ⟨rfl, rfl⟩
            · rw [if_neg e, if_neg e]
              by_cases hi2 : i < k
              · rw [if_pos hi2, if_pos hi2, if_pos (by omega), if_pos (by omega)]; exact ⟨rfl, rfl⟩
              · rw [if_neg hi2, if_neg hi2, if_neg (by omega), if_neg (by omega)]; exact ⟨rfl, rfl⟩
          case measure => simp [intOf]; omega
        | false =>
          have hwb := Hid.mk' (wr_bad HE.out (allS_not k hlt hsg))
          have hns := sgn_not hsg
          have HNS := Hid.mk' hns
          clear hns hsg
          have hfin : Hid (∀ wx : World, Below w.heap.size w wx → (∃ ao co, Ending.returned (.tuple #[.slice none 0 0, .int .i64 1]) = .returned (.tuple #[.slice ao (wrL L len S n) co, .int .i64 (wrE L len S n)]) ∧ (ao = none → co = 0) ∧ Pcs wx ao (wrL L len S n) (wrV L len S) (wrW L S)) ∧ Below w.heap.size w wx) := by
            intro wx hx
            rw [hwb.out.1, hwb.out.2]
            exact ⟨⟨none, 0, rfl, fun _ => rfl, (pnil wx).out⟩, hx⟩
          by_cases hneg : S k < 0
          · have t0 : decide (S k < 0) = true := decide_eq_true hneg
            generalize S k = x at *
            go_wp2_with fail
            go_ret2
            exact hfin.out _ HBw.out
          · have t0 : decide (S k < 0) = false := decide_eq_false hneg
            obtain ⟨j, hj⟩ : ∃ j : Nat, S k = (j : Int) := ⟨(S k).toNat, by omega⟩
            rw [hj] at c1 t0
            by_cases hjl : len ≤ j
            · have t1 : decide (len ≤ j) = true := decide_eq_true hjl
              clear hj hneg
              go_wp2_with fail
              go_ret2
              exact hfin.out _ HBw.out
            · have t1 : decide (len ≤ j) = false := decide_eq_false hjl
              have hz : L j = 0 := by
                refine Classical.byContradiction fun hn => HNS.out ⟨by omega, by omega, ?_⟩
                rw [hj, Int.toNat_natCast]; exact hn
              obtain ⟨b0, off0, rfl, hb0, hc0⟩ := HP.out.at' (by omega)
              have c0 := (HBw.out.cell (p := ⟨b0, off0 + j, none⟩) hb0).trans (hc0 j (by omega))
              rw [hz] at c0
              clear hc0 hj hneg hz
              have t2 : ((0 : Int) == 0) = true := rfl
              go_wp2_with fail
              go_ret2
              exact hfin.out _ HBw.out
      · have hkl := Hid.mk' (show k = n by omega)
        have hwo := Hid.mk' (wr_ok HE.out (allS_mk (S := S) (n := n) fun i hi => HO.out i (by omega)))
        have HPC : Hid (Pcs wr (some ⟨w1.heap.size, 0, none⟩) n (wrV L len S) (wrW L S)) := by
          refine HR.out.pcs hn (fun i hi => ?_) (fun i hi => ?_) (fun i hi => ?_)
          · rw [if_pos (by omega), if_pos (by omega)]; exact ⟨rfl, rfl⟩
          · have := ok_wid _ _ (wr_err hwo.out.1 i hi)
            have h2 : 2 ^ (wrW L S i).toNat ≤ 2 ^ 64 := Nat.pow_le_pow_right (by decide) (by omega)
            omega
          · have := ok_wid _ _ (wr_err hwo.out.1 i hi)
            omega
        go_wp2_with fail
        go_ret2
        refine ⟨⟨some ⟨w1.heap.size, 0, none⟩, n, ?_, (fun h => by cases h), ?_⟩, HBw.out⟩
        · rw [hwo.out.1, hwo.out.2]; rfl
        · rw [hwo.out.2]; exact HPC.out
  · have hwc := Hid.mk' (wr_can (S := S) (n := n) hE)
    have hb2 := canE_is L len
    have hne : (canE L len != 0) = true := by rw [bne_iff_ne]; exact hE
    obtain ⟨y, hy⟩ : ∃ y, Hid (canE L len = y) := ⟨_, Hid.mk' rfl⟩
    rw [hy.out] at hb2 hne
    clear hE
    go_enter Tryd.func38, Tryd.ntmps38
    go_wp2_with fail
    refine (canon_any a0 len cap L _ HP.out).mono ?_
    rintro e w1 ⟨⟨v, rfl, hI⟩, hb⟩
    rw [hy.out]
    clear hI
    go_wp2_with fail
    go_ret2
    refine ⟨⟨none, 0, ?_, fun _ => rfl, ?_⟩, hb⟩
    · rw [hwc.out.1, hwc.out.2, hy.out]; rfl
    · rw [hwc.out.2]; exact (pnil _).out
end Go.Proofs.YtcalbicfnhoklaaDoor
