import Derived.Test.YtcalbicfnhoklaaDoorMsai
import Derived.Test.YtcalbicfnhoklaaDoorMsaj
import Derived.Deep.RegionHeld3

/- What code.bookOf answers. -/
namespace Go.Proofs.YtcalbicfnhoklaaDoor
open Go.RowKit

theorem book_new (w : World) (L : Nat → Int) (len : Nat) (x : Int) (t : TypeId) :
    BookAt (w.alloc (.cells #[.int .i64 x, .int .i64 0, .int .i64 0, .int .i64 0, .int .i64 0, .int .i64 0, .int .i64 0, .int .i64 0, .int .i64 0, .int .i64 0, .int .i64 0, .int .i64 0, .int .i64 0, .int .i64 0, .int .i64 0, .int .i64 0, .int .i64 0,
      .slice none 0 0, .slice none 0 0, .slice none 0 0, .slice none 0 0, .slice none 0 0, .slice none 0 0, .slice none 0 0, .slice none 0 0, .slice none 0 0, .slice none 0 0, .slice none 0 0, .slice none 0 0, .slice none 0 0, .slice none 0 0, .slice none 0 0, .slice none 0 0] t)) w.heap.size L len 0 x (fun _ => .slice none 0 0) := by
  have key1 : ∀ s, s ≤ 15 → (#[.int .i64 x, .int .i64 0, .int .i64 0, .int .i64 0, .int .i64 0, .int .i64 0, .int .i64 0, .int .i64 0, .int .i64 0, .int .i64 0, .int .i64 0, .int .i64 0, .int .i64 0, .int .i64 0, .int .i64 0, .int .i64 0, .int .i64 0,
      .slice none 0 0, .slice none 0 0, .slice none 0 0, .slice none 0 0, .slice none 0 0, .slice none 0 0, .slice none 0 0, .slice none 0 0, .slice none 0 0, .slice none 0 0, .slice none 0 0, .slice none 0 0, .slice none 0 0, .slice none 0 0, .slice none 0 0, .slice none 0 0] : Array Value)[1 + s]? = some (.int .i64 0) := by
    intro s hs
    match s, hs with
    | 0, _ => rfl
    | 1, _ => rfl
    | 2, _ => rfl
    | 3, _ => rfl
    | 4, _ => rfl
    | 5, _ => rfl
    | 6, _ => rfl
    | 7, _ => rfl
    | 8, _ => rfl
    | 9, _ => rfl
    | 10, _ => rfl
    | 11, _ => rfl
    | 12, _ => rfl
    | 13, _ => rfl
    | 14, _ => rfl
    | 15, _ => rfl
  have key2 : ∀ s, s ≤ 15 → (#[.int .i64 x, .int .i64 0, .int .i64 0, .int .i64 0, .int .i64 0, .int .i64 0, .int .i64 0, .int .i64 0, .int .i64 0, .int .i64 0, .int .i64 0, .int .i64 0, .int .i64 0, .int .i64 0, .int .i64 0, .int .i64 0, .int .i64 0,
      .slice none 0 0, .slice none 0 0, .slice none 0 0, .slice none 0 0, .slice none 0 0, .slice none 0 0, .slice none 0 0, .slice none 0 0, .slice none 0 0, .slice none 0 0, .slice none 0 0, .slice none 0 0, .slice none 0 0, .slice none 0 0, .slice none 0 0, .slice none 0 0] : Array Value)[17 + s]? = some (.slice none 0 0) := by
    intro s hs
    match s, hs with
    | 0, _ => rfl
    | 1, _ => rfl
    | 2, _ => rfl
    | 3, _ => rfl
    | 4, _ => rfl
    | 5, _ => rfl
    | 6, _ => rfl
    | 7, _ => rfl
    | 8, _ => rfl
    | 9, _ => rfl
    | 10, _ => rfl
    | 11, _ => rfl
    | 12, _ => rfl
    | 13, _ => rfl
    | 14, _ => rfl
    | 15, _ => rfl
  generalize hA : (#[.int .i64 x, .int .i64 0, .int .i64 0, .int .i64 0, .int .i64 0, .int .i64 0, .int .i64 0, .int .i64 0, .int .i64 0, .int .i64 0, .int .i64 0, .int .i64 0, .int .i64 0, .int .i64 0, .int .i64 0, .int .i64 0, .int .i64 0,
      .slice none 0 0, .slice none 0 0, .slice none 0 0, .slice none 0 0, .slice none 0 0, .slice none 0 0, .slice none 0 0, .slice none 0 0, .slice none 0 0, .slice none 0 0, .slice none 0 0, .slice none 0 0, .slice none 0 0, .slice none 0 0, .slice none 0 0, .slice none 0 0] : Array Value) = A at *
  have h0 : A[0]? = some (.int .i64 x) := by rw [← hA]; rfl
  clear hA
  refine ⟨by simp, fun p _ => ?_, ?_, fun s hs => ?_, fun s hs => ?_, fun s _ => ?_, fun s r _ _ _ => .inl rfl⟩
  · unfold World.frozen?
    rw [heap_alloc_new]
    rfl
  · rw [World.cell?_alloc_new]; exact h0
  · rw [World.cell?_alloc_new]; exact key1 s hs
  · rw [World.cell?_alloc_new]; exact key2 s hs
  · exact World.ownsRow_nil _ _ _ _

set_option maxRecDepth 20000 in
set_option maxHeartbeats 1000000 in
theorem book_any (a0 : Option Addr) (len cap : Nat) (L : Nat → Int) (w : World) (hP : Wds w a0 len L) :
    Calls Tryd.prog 61 #[.slice a0 len cap] w fun e w' => (∃ p, e = .returned (.tuple #[.pointer p, .int .i64 (canE L len)]) ∧ (canE L len = 0 → ∃ g, p = some ⟨g, 0, none⟩ ∧ BookOf w' g L len)) ∧ Below w.heap.size w w' := by
  have hlen := hP.lenB
  have HP := Hid.mk' hP
  clear hP
  by_cases hE : canE L len = 0
  · obtain ⟨h320, hg, hF, hcl⟩ := canE_ok hE
    obtain ⟨hf1, hf2, _⟩ := can_zero L len hE
    have HA : Hid (fillA L len = fillN L len) := by show _ = _; unfold fillA; rw [if_pos hf1]
    have HG := Hid.mk' hg
    have HC := Hid.mk' hcl
    have HE := Hid.mk' hE
    obtain ⟨i0, hi, hz0, hz1, hz2⟩ := info_parts infoI64
    have KI := Hid.mk' hi
    have KZ0 := Hid.mk' hz0
    have KZ1 := Hid.mk' hz1
    have KZ2 := Hid.mk' hz2
    obtain ⟨tk0, htk⟩ : ∃ t, Hid (fillN L len = t) := ⟨_, Hid.mk' rfl⟩
    have htk2 : tk0 ≤ 32768 := by rw [← htk.out]; exact hF
    clear hg hcl hi hz0 hz1 hz2 hf1 hf2
    go_enter Tryd.func61, Tryd.ntmps61
    go_wp2_with fail
    refine (canon_any a0 len cap L _ HP.out).mono ?_
    rintro e w1 ⟨⟨v, rfl, hI⟩, hb⟩
    rw [HC.out] at hI
    rw [HE.out]
    obtain ⟨ac, cc, rfl, hcod⟩ := hI.is
    have HK := Hid.mk' hcod
    have HB1 := Hid.mk' hb
    have hs1 := hb.size
    clear hI hcod hb
    go_wp2_with fail
    refine (fill_any a0 len cap L _ (wds_below HP.out (HB1.out.alloc hs1 _))).mono ?_
    rintro e w' ⟨rfl, rfl⟩
    rw [HA.out, htk.out]
    have HBK := Hid.mk' (book_new w1 L len tk0 138)
    go_wp2_with fail
    go_loopw [29] (fun i wr => ∃ (k : Nat) (R : Nat → Value), k ≤ len ∧ i = .int .i64 k ∧ BookAt wr w1.heap.size L len k tk0 R ∧ Below w1.heap.size w1 wr) (fun i _ => len - (intOf i).toNat)
    case atStart => exact ⟨0, _, Nat.zero_le _, rfl, HBK.out, (Below.refl _ _).alloc (Nat.le_refl _) _⟩
    case round =>
      clear HBK
      obtain ⟨k, R, hk, rfl, hbk, hbl⟩ := hrel
      have HBK := Hid.mk' hbk
      have HB := Hid.mk' hbl
      have HBw := Hid.mk' (HB1.out.trans (hbl.mono hs1))
      have hgl := hbk.lt
      clear hbk hbl
      by_cases hlt : k < len
      · obtain ⟨b0, off0, rfl, hb0, hc0⟩ := HP.out.at' (by omega)
        have c0 := (HBw.out.cell (p := ⟨b0, off0 + k, none⟩) hb0).trans (hc0 k hlt)
        clear hc0
        by_cases hz : L k = 0
        · have HBK2 := Hid.mk' (HBK.out.skip hz)
          rw [hz] at c0
          clear hz
          go_wp2_with fail
          go_roundw
          case rel => exact ⟨k + 1, R, by omega, by go_num, HBK2.out, HB.out⟩
          case measure => simp [intOf]; omega
        · have hlb := len_of (HG.out k hlt)
          obtain ⟨y, hy⟩ : ∃ y : Nat, L k = (y : Int) := ⟨(L k).toNat, by omega⟩
          have hy0 : 0 < y := by omega
          have hy15 : y ≤ 15 := by omega
          have HY := Hid.mk' hy
          rw [hy] at c0
          clear hz hy hlb
          have t0 : ((y : Int) == 0) = false := by rw [beq_eq_false_iff_ne]; omega
          obtain ⟨gc, oc, rfl, hgc, hcc⟩ := HK.out (by omega)
          have cc0 := (HB.out.cell (p := ⟨gc, oc + k, none⟩) hgc).trans (hcc k hlt)
          clear hcc
          have hcb := code_le L len k (HG.out k hlt) hlt hF
          obtain ⟨q, hq⟩ : ∃ q, Hid (codeN L len k = q) := ⟨_, Hid.mk' rfl⟩
          rw [hq.out] at hcb cc0
          obtain ⟨ao, cp, hRy⟩ := own_slice (HBK.out.own y hy15)
          have r2 := HBK.out.c2 y hy15
          have r1 := HBK.out.c1 y hy15
          have f1 := HBK.out.fz (1 + y) (by omega)
          have f2 := HBK.out.fz (17 + y) (by omega)
          have hnl : (sgsL L y k).length ≤ k := by rw [sgsL_cnt L y k hy0]; exact cnt_le L y k
          have y0 : (0 : Int) ≤ (y : Int) := by omega
          have y1 : (y : Int) < 16 := by omega
          have k0 : (0 : Int) ≤ (k : Int) := by omega
          have k1 : (k : Int) < (len : Int) := by omega
          rw [hRy] at r2
          have HRY := Hid.mk' hRy
          clear hRy
          obtain ⟨n, hn⟩ : ∃ n, Hid ((sgsL L y k).length = n) := ⟨_, Hid.mk' rfl⟩
          rw [hn.out] at r2 hnl
          by_cases hn0 : n = 0
          case' pos =>
            have HN : Hid ((sgsL L y k).length = 0) := by show _ = _; rw [hn.out, hn0]
            have keepC : (wr.setCell ⟨w1.heap.size, 1 + y, none⟩ (.int .i64 (q : Int))).drew.cell? ⟨gc, oc + k, none⟩ = some (.int .i64 (q : Int)) := by
              show (wr.setCell ⟨w1.heap.size, 1 + y, none⟩ (.int .i64 (q : Int))).cell? ⟨gc, oc + k, none⟩ = some (.int .i64 (q : Int))
              rw [World.cell?_setCell_other _ _ _ _ (by intro e'; simp only [Addr.mk.injEq] at e'; omega)]; exact cc0
            have hq1 := Hid.mk' (HBK.out.set1 y hy15 hy0 HY.out HN.out)
            rw [hq.out] at hq1
            have t1 : ((n : Int) == 0) = true := by rw [hn0]; rfl
            have hoth : Hid (∀ p, p ≠ 1 + y → (wr.setCell ⟨w1.heap.size, 1 + y, none⟩ (.int .i64 (q : Int))).cell? ⟨w1.heap.size, p, none⟩ = wr.cell? ⟨w1.heap.size, p, none⟩) := fun p hp =>
              World.cell?_setCell_other _ _ _ _ (by intro e'; simp only [Addr.mk.injEq] at e'; omega)
            have HX : Hid (∃ W1 : World, W1 = (wr.setCell ⟨w1.heap.size, 1 + y, none⟩ (.int .i64 (q : Int))).drew ∧ W1.heap.size = wr.heap.size ∧ (∀ p, p < 33 → W1.frozen? ⟨w1.heap.size, p, none⟩ = false) ∧ W1.cell? ⟨w1.heap.size, 0, none⟩ = some (.int .i64 (tk0 : Int)) ∧ (∀ s, s ≤ 15 → W1.cell? ⟨w1.heap.size, 1 + s, none⟩ = some (.int .i64 (fstC L len s (k + 1) : Nat))) ∧ (∀ s, s ≤ 15 → W1.cell? ⟨w1.heap.size, 17 + s, none⟩ = some (R s)) ∧ (∀ s, s ≤ 15 → W1.ownsRow (w1.heap.size + 1) 3 1 (R s) (sgsL L s k).length (cellsS (sgsL L s k))) ∧ Below w1.heap.size w1 W1) := by
              refine ⟨_, rfl, by simp [World.setCell, World.drew], fun p hp => ?_, ?_, fun s hs => ?_, fun s hs => ?_, fun s hs => ?_, ?_⟩
              · show (wr.setCell _ _).frozen? _ = _
                rw [World.frozen?_setCell]; exact HBK.out.fz p hp
              · exact (hoth.out 0 (by omega)).trans HBK.out.c0
              · exact hq1.out s hs
              · exact (hoth.out (17 + s) (by omega)).trans (HBK.out.c2 s hs)
              · exact own_set (HBK.out.own s hs) (by omega) _
              · exact (HB.out.setCell (Nat.le_refl _) _).drew
            obtain ⟨W1, hW1, hsz, hfz, hc0, hc1, hc2, hown, hbw⟩ := HX.out
            clear HX hoth hq1 HN hn0
            have HSZ := Hid.mk' hsz
            clear hsz
            go_wp2_with fail
            go_region_held3 (fun W => W.cell? ⟨gc, oc + k, none⟩ = some (.int .i64 (q : Int))) (first | exact cc0 | exact keepC) (fail)
            rw [← hW1]
          case' neg =>
            have t1 : ((n : Int) == 0) = false := by rw [beq_eq_false_iff_ne]; omega
            have HX : Hid (∃ W1 : World, W1 = wr ∧ W1.heap.size = wr.heap.size ∧ (∀ p, p < 33 → W1.frozen? ⟨w1.heap.size, p, none⟩ = false) ∧ W1.cell? ⟨w1.heap.size, 0, none⟩ = some (.int .i64 (tk0 : Int)) ∧ (∀ s, s ≤ 15 → W1.cell? ⟨w1.heap.size, 1 + s, none⟩ = some (.int .i64 (fstC L len s (k + 1) : Nat))) ∧ (∀ s, s ≤ 15 → W1.cell? ⟨w1.heap.size, 17 + s, none⟩ = some (R s)) ∧ (∀ s, s ≤ 15 → W1.ownsRow (w1.heap.size + 1) 3 1 (R s) (sgsL L s k).length (cellsS (sgsL L s k))) ∧ Below w1.heap.size w1 W1) := by
              refine ⟨_, rfl, rfl, HBK.out.fz, HBK.out.c0, fun s hs => ?_, HBK.out.c2, HBK.out.own, HB.out⟩
              by_cases e : s = y
              · subst e
                rw [fstC_later L len s k (by rw [hn.out]; exact hn0) hy0 HY.out]; exact HBK.out.c1 s hs
              · rw [fstC_skip L len s k (by rw [HY.out]; omega)]; exact HBK.out.c1 s hs
            obtain ⟨W1, hW1, hsz, hfz, hc0, hc1, hc2, hown, hbw⟩ := HX.out
            clear HX
            have HSZ := Hid.mk' hsz
            clear hsz
            go_wp2_with fail
            rw [← hW1]
          all_goals
            have hcy := hc2 y hy15
            rw [HRY.out, hn.out] at hcy
            have hfy := hfz (17 + y) (by omega)
            have HFZ := Hid.mk' hfz
            have HC0 := Hid.mk' hc0
            have HC1 := Hid.mk' hc1
            have HC2 := Hid.mk' hc2
            have HOW := Hid.mk' hown
            have HBW := Hid.mk' hbw
            have HW1 := Hid.mk' hW1
            have HOY : Hid (W1.ownsRow (w1.heap.size + 1) 3 1 (.slice ao n cp) n (cellsS (sgsL L y k))) := by have := hown y hy15; rwa [HRY.out, hn.out] at this
            clear r1 r2 f1 f2 cc0 c0 hfz hc0 hc1 hc2 hown hbw hW1
            have hb1 : n + 1 ≤ maxLen := by unfold maxLen; omega
            have hb2 : (n + 1) * 8 ≤ 140737488355328 := by omega
            have hb3 : ∀ o : Obj, w1.heap.size + 1 ≤ (W1.alloc o).heap.size := fun o => by have := HSZ.out; simp; omega
            have hcA : ∀ o : Obj, (W1.alloc o).cell? ⟨w1.heap.size, 17 + y, none⟩ = some (.slice ao n cp) := fun o => (World.cell?_alloc_lt (w := W1) (o := o) (a := ⟨w1.heap.size, 17 + y, none⟩) (by have := HSZ.out; show w1.heap.size < W1.heap.size; omega)).trans hcy
            have hfA : ∀ o : Obj, (W1.alloc o).frozen? ⟨w1.heap.size, 17 + y, none⟩ = false := fun o => (World.frozen?_of_block (w := W1) (a := ⟨w1.heap.size, 17 + y, none⟩) (Below.heap_alloc W1 o w1.heap.size (by have := HSZ.out; omega))).trans hfy
            have HCA := Hid.mk' hcA
            have HFA := Hid.mk' hfA
            have HB3 := Hid.mk' hb3
            clear hcA hfA hb3
            have hlt1 : w1.heap.size < W1.heap.size := by have := HSZ.out; omega
            have hcD : ∀ o : Obj, (W1.drew.alloc o).cell? ⟨w1.heap.size, 17 + y, none⟩ = some (.slice ao n cp) := fun o => HCA.out o
            go_wp2_with fail
            go_region_law (first | (refine step_append_at rfl (.tmp 60) (.tmp 62) 50 rfl (w1.heap.size + 1) 3 i0 (.int .i64 0) 1 8 Tryd.underlying50 KI.out KZ0.out KZ1.out KZ2.out rfl (by decide) (.slice ao n cp) n (cellsS (sgsL L y k)) rfl (by exact HOY.out.alloc _) ⟨W1.heap.size, 0, none⟩ 1 1 [.int .i64 (k : Int)] rfl rfl (by exact cell_one_new W1.drew _ _) (one_int _ _) hb1 hb2 (by exact HB3.out _) ?_; intro v' w2 hown2 hgrow2 hat2; obtain ⟨ao', cp', rfl⟩ := own_slice hown2; have hcy2 := (cell_grown_own (by exact HOY.out.alloc _) hgrow2 (by exact HB3.out _) (p := ⟨w1.heap.size, 17 + y, none⟩) (Nat.lt_succ_self _)).trans (by exact HCA.out _); have hfy2 := (frozen_grown_own (by exact HOY.out.alloc _) hgrow2 (by exact HB3.out _) (p := ⟨w1.heap.size, 17 + y, none⟩) (Nat.lt_succ_self _)).trans (by exact HFA.out _)) | fail)
            all_goals
              have hgr2 : (W1.alloc (.cells #[.int .i64 (k : Int)] 3)).grownBy w2 (R y).ownBlock := by
                rw [HRY.out, hn.out]; exact ⟨hgrow2.os, hgrow2.tape, hgrow2.output, hgrow2.size, hgrow2.block⟩
              have HBK2 := Hid.mk' (HBK.out.more y hy15 hy0 HY.out HSZ.out HFZ.out HC0.out HC1.out HC2.out HOW.out (by rw [hn.out]; exact hown2) hgr2 (by rw [HRY.out, hn.out]; exact hat2))
              have HB2 : Hid (Below w1.heap.size w1 (w2.setCell ⟨w1.heap.size, 17 + y, none⟩ (.slice ao' (n + 1) cp'))) :=
                ((HBW.out.alloc (by omega) _).grown hgr2 (by simp; omega) fun i hi => by have := ((HOW.out y hy15).lt i hi).1; omega).setCell (Nat.le_refl _) _
              clear hgrow2 hown2 hat2 hgr2 hcy2 hfy2 hcD hcy hfy
              go_wp2_with fail
              go_roundw
              case rel => exact ⟨k + 1, _, by omega, by go_num, HBK2.out, HB2.out⟩
              case measure => simp [intOf]; omega
      · have hkl := Hid.mk' (show k = len by omega)
        go_wp2_with fail
        go_ret2
        refine ⟨⟨some ⟨w1.heap.size, 0, none⟩, ?_, fun _ => ⟨w1.heap.size, rfl, ?_⟩⟩, HBw.out⟩
        · rw [HE.out]; rfl
        · refine BookAt.of (R := R) ?_
          have := HBK.out
          rwa [hkl.out, ← htk.out] at this
  · have hb2 := canE_is L len
    have hne : (canE L len != 0) = true := by rw [bne_iff_ne]; exact hE
    obtain ⟨y, hy⟩ : ∃ y, Hid (canE L len = y) := ⟨_, Hid.mk' rfl⟩
    have HNE := Hid.mk' hE
    rw [hy.out] at hb2 hne
    clear hE
    go_enter Tryd.func61, Tryd.ntmps61
    go_wp2_with fail
    refine (canon_any a0 len cap L _ HP.out).mono ?_
    rintro e w1 ⟨⟨v, rfl, hI⟩, hb⟩
    rw [hy.out]
    clear hI
    go_wp2_with fail
    go_ret2
    refine ⟨⟨none, ?_, fun h => absurd h HNE.out⟩, hb⟩
    rw [hy.out]; rfl
end Go.Proofs.YtcalbicfnhoklaaDoor
