/- What disk.copyOf answers. -/
import Derived.Test.YtdhjadgmdmdnjaaCopyPutWalks
import Derived.Test.YtdhjadgmdmdnjaaOwnDk
import Derived.Deep.DeepCutAuto
import Derived.BigRegion
import Derived.Laws.OwnMore
namespace Go.Proofs.Ytdhjadgmdmdnjaa
open Go.RowKit

theorem infoStr : (Try.prog.info? 9).map (fun i => (i.zero, i.size, i.bytes)) = some (some (.string ⟨#[]⟩), 1, 16) := by kernel_rfl
theorem infoPt : (Try.prog.info? 46).map (fun i => (i.zero, i.size, i.bytes)) = some (some (.agg #[.int .i64 0, .string ⟨#[]⟩]), 2, 24) := by kernel_rfl
theorem make_strs (n : Nat) (hn : n ≤ 8796093022208) (w : World) : (Instr.makeSlice 22 (.int .i64 (n : Int)) (.int .i64 (n : Int))).run Try.prog w = .ok (.slice (some ⟨w.heap.size, 0, none⟩) n n) (w.alloc (.cells (madeCells #[.string ⟨#[]⟩] n) 9)) :=
  run_make_row' (P := Try.prog) 22 9 (.string ⟨#[]⟩) 16 Try.underlying22 infoStr rfl .i64 .i64 n (by omega) (by omega) w
theorem make_pts (n : Nat) (hn : n ≤ 5864062014805) (w : World) : (Instr.makeSlice 23 (.int .i64 (n : Int)) (.int .i64 (n : Int))).run Try.prog w = .ok (.slice (some ⟨w.heap.size, 0, none⟩) n n) (w.alloc (.cells (madeCells #[.int .i64 0, .string ⟨#[]⟩] (n * 2)) 46)) := by
  obtain ⟨i, hi, hzz⟩ := Option.map_eq_some_iff.1 infoPt
  simp only [Prod.mk.injEq] at hzz
  obtain ⟨hz, hs, hb⟩ := hzz
  have hr := run_make (P := Try.prog) w 23 46 i _ Try.underlying23 hi hz .i64 .i64 n n (by omega) (Int.le_refl _) (by rw [hb]; omega) (by omega)
  simp only [Int.toNat_natCast, hs] at hr
  exact hr
theorem made_strs (n : Nat) : (madeCells #[.string ⟨#[]⟩] n).toList = stC (List.replicate n ⟨#[]⟩) := by rw [toList_madeCells_one, stC, List.map_replicate]
theorem made_pts (n : Nat) : (madeCells #[.int .i64 0, .string ⟨#[]⟩] (n * 2)).toList = ptC (List.replicate n noPt) := by
  apply List.ext_getElem?
  intro j
  by_cases hj : j < n * 2
  · obtain ⟨i, r, hr, rfl⟩ : ∃ i r, r < 2 ∧ j = i * 2 + r := ⟨j / 2, j % 2, by omega, by omega⟩
    have hl : i < (List.replicate n noPt).length := by rw [List.length_replicate]; omega
    have hg : (List.replicate n noPt).getD i noPt = noPt := by
      rw [List.getD_eq_getElem?_getD, List.getElem?_eq_getElem hl, List.getElem_replicate]; rfl
    have ha := ptC_at (List.replicate n noPt) i hl
    rw [hg] at ha
    rcases (by omega : r = 0 ∨ r = 1) with rfl | rfl
    · rw [Nat.add_zero, ha.1]; simp [madeCells, show i * 2 < n * 2 by omega, noPt]
    · rw [ha.2]; simp [madeCells, show i * 2 + 1 < n * 2 by omega, noPt, show (i * 2 + 1) % 2 = 1 by omega]
  · rw [List.getElem?_eq_none (by simp [madeCells]; omega), List.getElem?_eq_none (by rw [ptC_length, List.length_replicate]; omega)]

theorem fill_step {α : Type} (l : List α) (k : Nat) (d e : α) (hk : k < l.length) : (l.take k ++ List.replicate (l.length - k) d).set k (l.getD k e) = l.take (k + 1) ++ List.replicate (l.length - (k + 1)) d := by
  apply List.ext_getElem?
  intro j
  have hg : l.getD k e = l[k] := by rw [List.getD_eq_getElem?_getD, List.getElem?_eq_getElem hk]; rfl
  rw [List.getElem?_set, hg]
  have e1 : (l.take k).length = k := by rw [List.length_take]; omega
  have e2 : (l.take (k + 1)).length = k + 1 := by rw [List.length_take]; omega
  by_cases hj : k = j
  · subst hj
    rw [if_pos rfl, if_pos (by rw [List.length_append, e1, List.length_replicate]; omega), List.getElem?_append_left (by omega), List.getElem?_take_of_lt (by omega), List.getElem?_eq_getElem hk]
  · rw [if_neg hj]
    by_cases h1 : j < k
    · rw [List.getElem?_append_left (by omega), List.getElem?_append_left (by omega), List.getElem?_take_of_lt h1, List.getElem?_take_of_lt (by omega)]
    · rw [List.getElem?_append_right (by omega), List.getElem?_append_right (by omega), e1, e2]
      by_cases h2 : j < l.length
      · rw [List.getElem?_replicate, List.getElem?_replicate, if_pos (by omega), if_pos (by omega)]
      · rw [List.getElem?_replicate, List.getElem?_replicate, if_neg (by omega), if_neg (by omega)]
theorem fill_len {α : Type} (l : List α) (k : Nat) (d : α) (hk : k ≤ l.length) : (l.take k ++ List.replicate (l.length - k) d).length = l.length := by
  rw [List.length_append, List.length_take, List.length_replicate]; omega

theorem copy_cut {W0 wx : World} {k gw gc gp n m : Nat} {MC MP : Array Value} (n1 : n ≤ 128) (n2 : m ≤ 400) (hC : MC.toList = stC (List.replicate n ⟨#[]⟩)) (hP : MP.toList = ptC (List.replicate m noPt)) (b1 : k ≤ gw) (b2 : k ≤ gc) (b3 : k ≤ gp) (d1 : gc ≠ gw) (d2 : gp ≠ gw) (d3 : gc ≠ gp)
    (h1 : wx.heap[gw]? = some (.cells #[.slice (some ⟨gc, 0, none⟩) n n, .slice (some ⟨gp, 0, none⟩) m m] 25 (0, 0))) (h2 : wx.heap[gc]? = some (.cells MC 9 (0, 0))) (h3 : wx.heap[gp]? = some (.cells MP 46 (0, 0))) (hb : Below k W0 wx) :
    ∃ gw' gc' gp', Value.pointer (some ⟨gw, 0, none⟩) = .pointer (some ⟨gw', 0, none⟩) ∧ WDk wx k gw' (.slice (some ⟨gc', 0, none⟩) n n) (.slice (some ⟨gp', 0, none⟩) m m) (List.replicate n ⟨#[]⟩) (List.replicate m noPt) ∧ Below k W0 wx :=
  ⟨gw, gc, gp, rfl, wdk_mk (by simp) (by simp) (by unfold maxLen; omega) (by unfold maxLen; omega) hC hP b1 b2 b3 d1 d2 d3 h1 h2 h3, hb⟩
theorem below3 {W : World} {k : Nat} (h : W.heap.size = k) (A B C : Obj) : Below k W (((W.alloc A).alloc B).alloc C).drew := by
  have s1 : (W.alloc A).heap.size = W.heap.size + 1 := by simp
  have s2 : ((W.alloc A).alloc B).heap.size = W.heap.size + 1 + 1 := by simp
  exact (((((Below.refl _ W).mono (Nat.le_of_eq h.symm)).alloc (Nat.le_of_eq h.symm) _).alloc (by omega) _).alloc (by omega) _).drew

set_option maxRecDepth 20000 in
set_option maxHeartbeats 1600000 in
theorem copydk_any (a0 a1 : Option Addr) (n c m d : Nat) (C : List ByteArray) (P : List Pt) (w : World) (h : Dk w a0 n a1 m C P) (hok : OkD C P) :
    Calls Try.prog 50 #[.agg #[.slice a0 n c, .slice a1 m d]] w fun e w' => (∃ u v, e = .returned (.agg #[u, v]) ∧ OwnDk w' w.heap.size u v C P) ∧ Below w.heap.size w w' := by
  have hn : n ≤ 128 := by rw [← h.nC]; exact hok.n2
  have hm : m ≤ 400 := by rw [← h.mP]; exact hok.m
  have mk1 := make_strs n (by omega)
  have mk2 := make_pts m (by omega)
  have ms1 := Hid.mk' (made_strs n)
  have ms2 := Hid.mk' (made_pts m)
  generalize madeCells #[.string ⟨#[]⟩] n = MC at *
  generalize madeCells #[.int .i64 0, .string ⟨#[]⟩] (m * 2) = MP at *
  have hN := Hid.mk' h.nC
  have hM := Hid.mk' h.mP
  have HOk := Hid.mk' hok
  go_enter Try.func50, Try.ntmps50
  go_upto_region 1 with fail
  have HB0 : Hid (Below w.heap.size w ((w.alloc (.cells #[.slice a0 n c, .slice a1 m d] 25)).alloc (.cells #[.slice none 0 0, .slice none 0 0] 25))) := ((Below.refl _ w).alloc (Nat.le_refl _) _).alloc (by simp) _
  have hs0 : Hid (((w.alloc (.cells #[.slice a0 n c, .slice a1 m d] 25)).alloc (.cells #[.slice none 0 0, .slice none 0 0] 25)).heap.size = w.heap.size + 1 + 1) := by show _ = _; simp
  go_cut [3] (fun p wx => ∃ gw gc gp, p = .pointer (some ⟨gw, 0, none⟩) ∧ WDk wx (w.heap.size + 1 + 1) gw (.slice (some ⟨gc, 0, none⟩) n n) (.slice (some ⟨gp, 0, none⟩) m m) (List.replicate n ⟨#[]⟩) (List.replicate m noPt) ∧
    Below (w.heap.size + 1 + 1) ((w.alloc (.cells #[.slice a0 n c, .slice a1 m d] 25)).alloc (.cells #[.slice none 0 0, .slice none 0 0] 25)) wx)
  case first =>
    go_region
    all_goals
      go_wp2_with fail
      go_meet
      first
        | exact copy_cut (gc := (w.heap.size + 1 + 1 + 1)) (gp := (w.heap.size + 1 + 1 + 1 + 1)) hn hm ms1.out ms2.out (by omega) (by omega) (by omega) (by omega) (by omega) (by omega) (heap3 _ _ _ _ _ hs0.out).1 (heap3 _ _ _ _ _ hs0.out).2.1 (heap3 _ _ _ _ _ hs0.out).2.2 (below3 hs0.out _ _ _)
        | exact copy_cut (gc := (w.heap.size + 1 + 1 + 1 + 1)) (gp := (w.heap.size + 1 + 1 + 1)) hn hm ms1.out ms2.out (by omega) (by omega) (by omega) (by omega) (by omega) (by omega) (heap3 _ _ _ _ _ hs0.out).1 (heap3 _ _ _ _ _ hs0.out).2.2 (heap3 _ _ _ _ _ hs0.out).2.1 (below3 hs0.out _ _ _)
        | exact copy_cut (gc := (w.heap.size + 1 + 1)) (gp := (w.heap.size + 1 + 1 + 1 + 1)) hn hm ms1.out ms2.out (by omega) (by omega) (by omega) (by omega) (by omega) (by omega) (heap3 _ _ _ _ _ hs0.out).2.1 (heap3 _ _ _ _ _ hs0.out).1 (heap3 _ _ _ _ _ hs0.out).2.2 (below3 hs0.out _ _ _)
        | exact copy_cut (gc := (w.heap.size + 1 + 1 + 1 + 1)) (gp := (w.heap.size + 1 + 1)) hn hm ms1.out ms2.out (by omega) (by omega) (by omega) (by omega) (by omega) (by omega) (heap3 _ _ _ _ _ hs0.out).2.1 (heap3 _ _ _ _ _ hs0.out).2.2 (heap3 _ _ _ _ _ hs0.out).1 (below3 hs0.out _ _ _)
        | exact copy_cut (gc := (w.heap.size + 1 + 1)) (gp := (w.heap.size + 1 + 1 + 1)) hn hm ms1.out ms2.out (by omega) (by omega) (by omega) (by omega) (by omega) (by omega) (heap3 _ _ _ _ _ hs0.out).2.2 (heap3 _ _ _ _ _ hs0.out).1 (heap3 _ _ _ _ _ hs0.out).2.1 (below3 hs0.out _ _ _)
        | exact copy_cut (gc := (w.heap.size + 1 + 1 + 1)) (gp := (w.heap.size + 1 + 1)) hn hm ms1.out ms2.out (by omega) (by omega) (by omega) (by omega) (by omega) (by omega) (heap3 _ _ _ _ _ hs0.out).2.2 (heap3 _ _ _ _ _ hs0.out).2.1 (heap3 _ _ _ _ _ hs0.out).1 (below3 hs0.out _ _ _)
        | fail
  case rest =>
    obtain ⟨gw, gc, gp, rfl, hW, hB⟩ := hcut
    have HB1 : Hid (Below w.heap.size w wc) := HB0.out.trans (hB.mono (by omega))
    have HX0 : Hid (Box2 wc w.heap.size (.slice a0 n c) (.slice a1 m d)) := ((box2_new w (.slice a0 n c) (.slice a1 m d) 25).alloc _).kept hB (by omega)
    have HX1 : Hid (Box2 wc (w.heap.size + 1) (.slice none 0 0) (.slice none 0 0)) := by
      have h := box2_new (w.alloc (.cells #[.slice a0 n c, .slice a1 m d] 25)) (.slice none 0 0) (.slice none 0 0) 25
      rw [show (w.alloc (.cells #[.slice a0 n c, .slice a1 m d] 25)).heap.size = w.heap.size + 1 by simp] at h
      exact h.kept hB (by omega)
    have HK := Hid.mk' h
    have HW := Hid.mk' hW
    have hgw := hW.gN
    have hgc := hW.ltC
    have hgp := hW.ltP
    have hne1 := hW.neC
    have hne2 := hW.neP
    have ca := HX0.out.c0
    clear hB hW mk1 mk2
    go_wp2_with fail
    clear ca
    go_loopw [20] (fun i wr => ∃ k : Nat, k ≤ n ∧ i = .int .i64 k ∧ WDk wr (w.heap.size + 1 + 1) gw (.slice (some ⟨gc, 0, none⟩) n n) (.slice (some ⟨gp, 0, none⟩) m m) (C.take k ++ List.replicate (C.length - k) ⟨#[]⟩) (List.replicate m noPt) ∧ Below (w.heap.size + 1 + 1) wc wr) (fun i _ => n - (intOf i).toNat)
    case atStart => exact ⟨0, Nat.zero_le _, rfl, by rw [hN.out]; simpa using HW.out, Below.refl _ _⟩
    case round =>
      obtain ⟨k, hk, rfl, hwr, hbl⟩ := hrel
      have HWr := Hid.mk' hwr
      have HB := Hid.mk' hbl
      have hcg := hwr.bx.c0
      clear hwr hbl
      by_cases hlt : k < n
      · obtain ⟨b, off, rfl, hb, hx⟩ := (HK.out.below (HB1.out.trans (HB.out.mono (by omega)))).cell k hlt
        have hst := Hid.mk' (fill_step C k ⟨#[]⟩ ⟨#[]⟩ (by rw [hN.out]; exact hlt))
        have hln' : (C.take k ++ List.replicate (C.length - k) (⟨#[]⟩ : ByteArray)).length = n := by rw [fill_len C k ⟨#[]⟩ (by rw [hN.out]; exact hk)]; exact hN.out
        have hs : (C.getD k (⟨#[]⟩ : ByteArray)).size ≤ 140737488355328 := by have := HOk.out.cs _ (getD_mem C k (⟨#[]⟩ : ByteArray) (by rw [hN.out]; exact hlt)); omega
        have hzz : w.heap.size + 1 + 1 ≤ wr.heap.size := by have := HWr.out.bx.lt; omega
        generalize C.getD k ⟨#[]⟩ = s at *
        have E0 := HWr.out.cellC hln' hlt
        have hk0 := hcg
        go_wp2_with fail
        go_region_held3 (fun X => X.cell? ⟨gw, 0, none⟩ = some (.slice (some ⟨gc, 0, none⟩) n n)) (first | exact hcg | exact e0 | exact cell_set1 e0 hne1) ((go_at_call 36; refine (tclone_any s _ hs).mono ?_; rintro e w1 ⟨rfl, hb1⟩; have HY := Hid.mk' (HWr.out.drew.below hb1); have e0 := HY.out.bx.c0; have x0 := (HY.out.cellC hln' hlt).1; have y0 := (HY.out.cellC hln' hlt).2; have HBy := Hid.mk' (HB.out.drew.trans (hb1.mono (by exact hzz))); clear hb1))
        have HZ : Hid (WDk (w1.setCell ⟨gc, k, none⟩ (.string s)) (w.heap.size + 1 + 1) gw (.slice (some ⟨gc, 0, none⟩) n n) (.slice (some ⟨gp, 0, none⟩) m m) (C.take (k + 1) ++ List.replicate (C.length - (k + 1)) ⟨#[]⟩) (List.replicate m noPt)) := by
          show WDk _ _ _ _ _ _ _
          rw [← hst.out]
          exact HY.out.setC hln' s
        have HBz : Hid (Below (w.heap.size + 1 + 1) wc (w1.setCell ⟨gc, k, none⟩ (.string s))) := HBy.out.setCell (by simp only; omega) _
        clear x0 y0 e0 hcg hk0 hb hx hs hzz E0 hln'
        go_wp2_with fail
        go_roundw
        case rel => exact ⟨k + 1, by omega, by go_num, HZ.out, HBz.out⟩
        case measure => simp [intOf]; omega
      · have cb := (HX0.out.kept HB.out (by omega)).c1
        go_wp2_with fail
        clear cb
        have HWn : Hid (WDk wr (w.heap.size + 1 + 1) gw (.slice (some ⟨gc, 0, none⟩) n n) (.slice (some ⟨gp, 0, none⟩) m m) C (List.replicate m noPt)) := by
          have h1 := HWr.out
          have e1 : k = C.length := by rw [hN.out]; omega
          rw [e1, Nat.sub_self, List.take_length, List.replicate_zero, List.append_nil] at h1
          exact h1
        have HBn := Hid.mk' (HB1.out.trans (HB.out.mono (by omega)))
        have HX1n := Hid.mk' (HX1.out.kept HB.out (by omega))
        clear hcg
        generalize wr = wd at *
        go_loopw [35] (fun i wq => ∃ j : Nat, j ≤ m ∧ i = .int .i64 j ∧ WDk wq (w.heap.size + 1 + 1) gw (.slice (some ⟨gc, 0, none⟩) n n) (.slice (some ⟨gp, 0, none⟩) m m) C (P.take j ++ List.replicate (P.length - j) noPt) ∧ Below (w.heap.size + 1 + 1) wd wq) (fun i _ => m - (intOf i).toNat)
        case atStart => exact ⟨0, Nat.zero_le _, rfl, by rw [hM.out]; simpa using HWn.out, Below.refl _ _⟩
        case round =>
          obtain ⟨j, hj, rfl, hwq, hbq⟩ := hrel
          have HWq := Hid.mk' hwq
          have HBq := Hid.mk' hbq
          have hcg := hwq.bx.c1
          clear hwq hbq
          by_cases hlt : j < m
          · obtain ⟨b, off, rfl, hb, hx1, hx2⟩ := (HK.out.below (HBn.out.trans (HBq.out.mono (by omega)))).put j hlt
            have hst := Hid.mk' (fill_step P j noPt noPt (by rw [hM.out]; exact hlt))
            have hln' : (P.take j ++ List.replicate (P.length - j) noPt).length = m := by rw [fill_len P j noPt (by rw [hM.out]; exact hj)]; exact hM.out
            have hs : (P.getD j noPt).tx.size ≤ 140737488355328 := by have := (putE_zero (HOk.out.ps _ (getD_mem P j noPt (by rw [hM.out]; exact hlt)))).2.2; omega
            have hzz : w.heap.size + 1 + 1 ≤ wr.heap.size := by have := HWq.out.bx.lt; omega
            generalize P.getD j noPt = p at *
            obtain ⟨x, s⟩ := p
            simp only at hx1 hx2 hs
            go_wp2_with fail
            have HWa := Hid.mk' (HWq.out.alloc (.cells #[.int .i64 x, .string s] 46))
            have HBa : Hid (Below (w.heap.size + 1 + 1) wd (wr.alloc (.cells #[.int .i64 x, .string s] 46))) := HBq.out.alloc hzz _
            have HXa := Hid.mk' (box2_new wr (.int .i64 x) (.string s) 46)
            have hzp : wr.heap.size ≠ gp := by have := (HWq.out.ow.rp.lt gp rfl).2; omega
            have hza : w.heap.size + 1 + 1 ≤ (wr.alloc (.cells #[.int .i64 x, .string s] 46)).heap.size := by simp; omega
            have d0 := HWa.out.bx.c1
            have d1 := HXa.out.c0
            have d2 := HXa.out.c1
            generalize hwa : wr.alloc (.cells #[.int .i64 x, .string s] 46) = wa at *
            have Hwa := Hid.mk' hwa
            clear hwa
            go_region_held3 (fun X => X.cell? ⟨gw, 1, none⟩ = some (.slice (some ⟨gp, 0, none⟩) m m) ∧ X.cell? ⟨wr.heap.size, 0, none⟩ = some (.int .i64 x) ∧ X.cell? ⟨wr.heap.size, 1, none⟩ = some (.string s)) (first | exact ⟨d0, d1, d2⟩ | exact ⟨e0, e1, e2⟩ | exact ⟨cell_set2 e0 hne2 hne2, cell_set2 e1 hzp hzp, cell_set2 e2 hzp hzp⟩) ((go_at_call 55; refine (coput_any x s _ hs).mono ?_; rintro e w1 ⟨rfl, hb1⟩; have HY := Hid.mk' (HWa.out.drew.below hb1); have HXy := Hid.mk' (HXa.out.drew.below hb1); have e0 := HY.out.bx.c1; have e1 := HXy.out.c0; have e2 := HXy.out.c1; have x0 := (HY.out.cellP hln' hlt).1; have x1 := (HY.out.cellP hln' hlt).2.1; have y0 := (HY.out.cellP hln' hlt).2.2.1; have y1 := (HY.out.cellP hln' hlt).2.2.2; have HBy := Hid.mk' (HBa.out.drew.trans (hb1.mono (by exact hza))); clear hb1))
            have HZ : Hid (WDk ((w1.setCell ⟨gp, j * 2, none⟩ (.int .i64 x)).setCell ⟨gp, j * 2 + 1, none⟩ (.string s)) (w.heap.size + 1 + 1) gw (.slice (some ⟨gc, 0, none⟩) n n) (.slice (some ⟨gp, 0, none⟩) m m) C (P.take (j + 1) ++ List.replicate (P.length - (j + 1)) noPt)) := by
              show WDk _ _ _ _ _ _ _
              rw [← hst.out]
              exact HY.out.setP hln' hlt ⟨x, s⟩
            have HBz : Hid (Below (w.heap.size + 1 + 1) wd ((w1.setCell ⟨gp, j * 2, none⟩ (.int .i64 x)).setCell ⟨gp, j * 2 + 1, none⟩ (.string s))) := (HBy.out.setCell (by simp only; omega) _).setCell (by simp only; omega) _
            clear x0 x1 y0 y1 e0 e1 e2 d0 d1 d2 hcg hb hx1 hx2 hs hzz hzp hza hln'
            go_wp2_with fail
            go_roundw
            case rel => exact ⟨j + 1, by omega, by go_num, HZ.out, HBz.out⟩
            case measure => simp [intOf]; omega
          · have HWf : Hid (WDk wr (w.heap.size + 1 + 1) gw (.slice (some ⟨gc, 0, none⟩) n n) (.slice (some ⟨gp, 0, none⟩) m m) C P) := by
              have h1 := HWq.out
              have e1 : j = P.length := by rw [hM.out]; omega
              rw [e1, Nat.sub_self, List.take_length, List.replicate_zero, List.append_nil] at h1
              exact h1
            have HXf := Hid.mk' (HX1n.out.kept HBq.out (by omega))
            have HBf := Hid.mk' (HBn.out.trans (HBq.out.mono (by omega)))
            have hc0 := HWf.out.bx.c0
            have x0 := HXf.out.c0
            have x1 := HXf.out.c1
            have y0 := HXf.out.f0
            have y1 := HXf.out.f1
            go_wp2_with fail
            refine bodyPost_ret (results_disk rfl _ _ (w.heap.size + 1) (.slice (some ⟨gc, 0, none⟩) n n) (.slice (some ⟨gp, 0, none⟩) m m) rfl (HXf.out.set _ _)) rfl ⟨⟨_, _, rfl, ?_⟩, ?_⟩
            · have h1 : WDk ((wr.setCell ⟨w.heap.size + 1, 0, none⟩ (.slice (some ⟨gc, 0, none⟩) n n)).setCell ⟨w.heap.size + 1, 1, none⟩ (.slice (some ⟨gp, 0, none⟩) m m)) (w.heap.size + 1 + 1) gw (.slice (some ⟨gc, 0, none⟩) n n) (.slice (some ⟨gp, 0, none⟩) m m) C P := (HWf.out.setLow (by simp only; omega) _).setLow (by simp only; omega) _
              exact h1.ow.mono (by omega)
            · exact (HBf.out.setCell (by simp only; omega) _).setCell (by simp only; omega) _
end Go.Proofs.Ytdhjadgmdmdnjaa
