import Derived.Test.YtcalbicfnhoklaaDoorMsbv
import Derived.Test.YtcalbicfnhoklaaDoorMsah

/- What press.readMarks answers. -/
namespace Go.Proofs.YtcalbicfnhoklaaDoor
open Go.RowKit

theorem make_msU (n : Nat) (hn : n ≤ 512) (w : World) :
    (Instr.makeSlice 47 (.int .u64 (n : Int)) (.int .u64 (n : Int))).run Tryd.prog w = .ok (.slice (some ⟨w.heap.size, 0, none⟩) n n) (w.alloc (.cells (madeCells #[.int .i64 0, .int .i64 0, .int .u8 0] (n * 3)) 66)) := by
  obtain ⟨i, hi, hzz⟩ := Option.map_eq_some_iff.1 infoMk
  simp only [Prod.mk.injEq] at hzz
  obtain ⟨hz, hs, hb⟩ := hzz
  have hr := run_make (P := Tryd.prog) w 47 66 i _ Tryd.underlying47 hi hz .u64 .u64 n n (by omega) (Int.le_refl _) (by rw [hb]; omega) (by omega)
  rw [Int.toNat_natCast, hs] at hr
  exact hr
theorem rmR_num {t : List UInt8} (h : ¬ (getE t = 0 ∧ getA t ≤ 512)) : rmR t = none := by unfold rmR; rw [if_neg h]
theorem rmR_one {t : List UInt8} (h : rbk (t.drop (getK t)) 320 = none) : rmR t = none := by
  unfold rmR rmM; rw [h]; split <;> rfl
theorem rmR_two {t b1 : List UInt8} {l1 : List Nat} (h : rbk (t.drop (getK t)) 320 = some (l1, b1)) (h2 : rbk b1 9 = none) : rmR t = none := by
  unfold rmR rmM; rw [h]; simp only; rw [h2]; split <;> rfl
theorem rmR_none {t b1 b2 : List UInt8} {l1 l2 : List Nat} (h : rbk (t.drop (getK t)) 320 = some (l1, b1)) (h2 : rbk b1 9 = some (l2, b2)) (h3 : mkS (rowQ l1) (rowQ l2) ⟨b2.toArray⟩ 0 (getA t) = none) : rmR t = none := by
  unfold rmR rmM; rw [h]; simp only; rw [h2]; simp only; rw [h3]; split <;> rfl
theorem rmR_all {t b1 b2 : List UInt8} {l1 l2 : List Nat} {ms : List Mk} {e : Nat} (h0 : getE t = 0 ∧ getA t ≤ 512) (h : rbk (t.drop (getK t)) 320 = some (l1, b1)) (h2 : rbk b1 9 = some (l2, b2)) (h3 : mkS (rowQ l1) (rowQ l2) ⟨b2.toArray⟩ 0 (getA t) = some (ms, e)) :
    rmR t = if exE ms [] = 0 ∧ endB ⟨b2.toArray⟩ e = true then some (exT ms []) else none := by
  unfold rmR rmM
  rw [if_pos h0, h]; simp only; rw [h2]; simp only; rw [h3]; simp only
  by_cases hE : endB ⟨b2.toArray⟩ e = true
  · rw [if_pos hE]; simp only
    by_cases hx : exE ms [] = 0
    · rw [if_pos hx, if_pos ⟨hx, hE⟩]
    · rw [if_neg hx, if_neg (fun hh => hx hh.1)]
  · rw [if_neg hE, if_neg (fun hh => hE hh.2)]
theorem byteArr (s : ByteArray) : (⟨s.data.toList.toArray⟩ : ByteArray) = s := by cases s; simp
theorem mkL_rowM (l : List Mk) (n : Nat) (h : l.length = n) (M : Nat → Mk) (hM : ∀ i, i < n → M i = l.getD i ⟨0, 0, 0⟩) : mkL M 0 n = l := by
  apply List.ext_getElem
  · rw [mkL_length]; omega
  · intro i h1 h2
    simp only [mkL, List.getElem_map, List.getElem_range, Nat.zero_add]
    rw [hM i (by omega), List.getD_eq_getElem?_getD, List.getElem?_eq_getElem h2]; rfl
theorem rdr_new (w : World) (s : ByteArray) (g1 g2 : Nat) (t : TypeId) : Rdr (w.alloc (.cells #[.string s, .int .i64 0, .pointer (some ⟨g1, 0, none⟩), .pointer (some ⟨g2, 0, none⟩)] t)) w.heap.size s 0 g1 g2 := by
  refine ⟨?_, ?_, ?_, ?_, ?_, by simp⟩
  · rw [World.cell?_alloc_new]; rfl
  · rw [World.cell?_alloc_new]; rfl
  · rw [World.cell?_alloc_new]; rfl
  · rw [World.cell?_alloc_new]; rfl
  · unfold World.frozen?
    rw [heap_alloc_new]
    rfl
def RmAns (s x : ByteArray) (ok : Bool) : Prop := (ok = true ∧ rmR s.data.toList = some x.data.toList) ∨ (ok = false ∧ rmR s.data.toList = none)

set_option maxRecDepth 20000 in
set_option maxHeartbeats 2000000 in
theorem pmarks_any (s : ByteArray) (w : World) (hs : s.size ≤ 140737488355328) :
    Calls Tryd.prog 28 #[.string s] w fun e w' => (∃ x ok, e = .returned (.tuple #[.string x, .bool ok]) ∧ RmAns s x ok) ∧ Below w.heap.size w w' := by
  have hbad : Hid (rmR s.data.toList = none → ∀ wx : World, Below w.heap.size w wx → (∃ x ok, Ending.returned (.tuple #[.string ⟨#[]⟩, .bool false]) = .returned (.tuple #[.string x, .bool ok]) ∧ RmAns s x ok) ∧ Below w.heap.size w wx) := fun h wx hb => ⟨⟨_, false, rfl, .inr ⟨rfl, h⟩⟩, hb⟩
  by_cases hE : getE s.data.toList = 0
  · by_cases hA : getA s.data.toList ≤ 512
    · have H0 : Hid (getE s.data.toList = 0 ∧ getA s.data.toList ≤ 512) := ⟨hE, hA⟩
      have hk := (getK_le s.data.toList hE).1
      rw [show s.data.toList.length = s.size by simp] at hk
      obtain ⟨k, hk'⟩ : ∃ k, Hid (getK s.data.toList = k) := ⟨_, Hid.mk' rfl⟩
      obtain ⟨A, hA'⟩ : ∃ A, Hid (getA s.data.toList = A) := ⟨_, Hid.mk' rfl⟩
      rw [hk'.out] at hk
      rw [hA'.out] at hA
      have HE := Hid.mk' hE
      have hq0 : (0 : Int) ≤ (k : Int) := by omega
      have hq1 : (k : Int) ≤ (s.size : Int) := by omega
      have hqb : k ≤ 9223372036854775807 := by omega
      have t5 : decide (512 < A) = false := decide_eq_false (by omega)
      have hT0 : (s.extract k s.size).size ≤ 140737488355328 := by rw [ext_sizeQ]; omega
      have HT0 : Hid ((s.extract k s.size).data.toList = s.data.toList.drop (getK s.data.toList)) := by show _ = _; rw [ext_listQ, hk'.out]
      clear hE
      go_enter Tryd.func28, Tryd.ntmps28
      go_wp2_with fail
      refine (get_any s _).mono ?_
      rintro e w' ⟨rfl, hw'⟩; obtain rfl := hw'.symm
      rw [HE.out, hk'.out, hA'.out]
      go_wp2_with fail
      refine (pbook_any (s.extract k s.size) 320 _ hT0).mono ?_
      rintro e w1 ⟨⟨p1, t1, ok1, rfl, hans1⟩, hb1⟩
      have HBl1 := Hid.mk' hb1
      clear hb1
      rcases hans1 with ⟨rfl, l1, g1, hr1, rfl, hk1, hz1⟩ | ⟨rfl, hr1⟩
      · rw [HT0.out] at hr1
        have HR1 := Hid.mk' hr1
        have HK1 := Hid.mk' hk1
        have hzt1 : t1.size ≤ 140737488355328 := by omega
        clear hr1 hk1 hz1
        go_wp2_with fail
        refine (pbook_any t1 9 _ hzt1).mono ?_
        rintro e w2 ⟨⟨p2, t2, ok2, rfl, hans2⟩, hb2⟩
        have HBl2 : Hid (Below w.heap.size w w2) := HBl1.out.trans (hb2.mono HBl1.out.size)
        have HK1' : Hid (BookOf w2 g1 (rowQ l1) 320) := HK1.out.below hb2
        clear hb2
        rcases hans2 with ⟨rfl, l2, g2, hr2, rfl, hk2, hz2⟩ | ⟨rfl, hr2⟩
        · have HR2 := Hid.mk' hr2
          have HK2 := Hid.mk' hk2
          have hzt2 : t2.size ≤ 140737488363520 := by omega
          have HE1 : Hid (canE (rowQ l1) 320 = 0) := rbk_len HR1.out
          have HE2 : Hid (canE (rowQ l2) 9 = 0) := rbk_len HR2.out
          have hmk := make_msU A hA
          clear hr2 hk2 hz2
          go_wp2_with fail
          clear hmk
          go_loopw [52] (fun iv wr => ∃ (i b : Nat) (ms : List Mk), i ≤ A ∧ iv = .int .i64 (i : Int) ∧ mkS (rowQ l1) (rowQ l2) t2 0 i = some (ms, b) ∧ Rdr wr w2.heap.size t2 b g1 g2 ∧ RowMs wr (w2.heap.size + 1) A (fun j => ms.getD j ⟨0, 0, 0⟩) ∧ Below w2.heap.size w2 wr ∧ w2.heap.size + 2 ≤ wr.heap.size) (fun iv _ => A - (intOf iv).toNat)
          case atStart =>
            have hrd := rdr_new w2 t2 g1 g2 81
            have hrow := rowMs_made (w2.alloc (.cells #[.string t2, .int .i64 0, .pointer (some ⟨g1, 0, none⟩), .pointer (some ⟨g2, 0, none⟩)] 81)) A 66
            have hsz : (w2.alloc (.cells #[.string t2, .int .i64 0, .pointer (some ⟨g1, 0, none⟩), .pointer (some ⟨g2, 0, none⟩)] 81)).heap.size = w2.heap.size + 1 := by simp
            rw [hsz] at hrow
            exact ⟨0, 0, [], Nat.zero_le _, rfl, rfl, hrd.block (Below.heap_alloc _ _ _ (by rw [hsz]; omega)) (by simp), hrow.congr fun i _ => rfl, ((Below.refl _ _).alloc (Nat.le_refl _) _).alloc (by rw [hsz]; omega) _, by simp⟩
          case round =>
            obtain ⟨i, b, ms, hi, rfl, hmk, hrd, hrow, hbl, hsz⟩ := hrel
            have HM := Hid.mk' hmk
            have HRd := Hid.mk' hrd
            have HRw := Hid.mk' hrow
            have HBl := Hid.mk' hbl
            obtain ⟨hms, hbs, hml⟩ := mkS_ok (Nat.zero_le _) i ms b hmk
            have HMs := Hid.mk' hms
            have HMl := Hid.mk' hml
            clear hmk hrd hrow hbl hms hml
            by_cases hlt : i < A
            · go_wp2_with fail
              refine (pmark_any w2 wr t2 b g1 g2 (rowQ l1) (rowQ l2) HE1.out HE2.out HK1'.out HK2.out HBl.out HRd.out hzt2 hbs).mono ?_
              rintro e w3 ⟨⟨m, ok, rfl, hans⟩, hG⟩
              have HB3 : Hid (Below w2.heap.size w2 w3) := below_grown HBl.out hG (by omega)
              have HRw3 : Hid (RowMs w3 (w2.heap.size + 1) A (fun j => ms.getD j ⟨0, 0, 0⟩)) := HRw.out.block (hG.block _ HRw.out.lt (fun e => by have := Option.some.inj e; omega)) hG.size
              have hs3 : w2.heap.size + 2 ≤ w3.heap.size := Nat.le_trans hsz hG.size
              have k0 := HRw3.out.c0 i hlt
              have k1 := HRw3.out.c1 i hlt
              have k2 := HRw3.out.c2 i hlt
              have f0 := HRw3.out.fz (i * 3) (by omega)
              have f1 := HRw3.out.fz (i * 3 + 1) (by omega)
              have f2 := HRw3.out.fz (i * 3 + 2) (by omega)
              have HSet := Hid.mk' (HRw3.out.set i hlt m)
              have HBs : Hid (∀ x y z : Value, Below w2.heap.size w2 (((w3.setCell ⟨w2.heap.size + 1, i * 3, none⟩ x).setCell ⟨w2.heap.size + 1, i * 3 + 1, none⟩ y).setCell ⟨w2.heap.size + 1, i * 3 + 2, none⟩ z)) := fun x y z => ((HB3.out.setCell (p := ⟨w2.heap.size + 1, i * 3, none⟩) (by show w2.heap.size ≤ w2.heap.size + 1; omega) _).setCell (p := ⟨w2.heap.size + 1, i * 3 + 1, none⟩) (by show w2.heap.size ≤ w2.heap.size + 1; omega) _).setCell (p := ⟨w2.heap.size + 1, i * 3 + 2, none⟩) (by show w2.heap.size ≤ w2.heap.size + 1; omega) _
              clear hG
              rcases hans with ⟨rfl, c, hm1, hr3⟩ | ⟨rfl, hm1⟩
              · have HS := Hid.mk' (mkS_step HM.out hm1)
                have HR3 := Hid.mk' hr3
                clear hm1 hr3
                go_wp2_with fail
                go_roundw
                case rel =>
                  refine ⟨i + 1, c, ms ++ [m], by omega, by go_num, HS.out, HR3.out.block ((heap_setCell_other _ _ _ _ (by show w2.heap.size ≠ w2.heap.size + 1; omega)).trans ((heap_setCell_other _ _ _ _ (by show w2.heap.size ≠ w2.heap.size + 1; omega)).trans (heap_setCell_other _ _ _ _ (by show w2.heap.size ≠ w2.heap.size + 1; omega)))) (by rw [size_set3]; exact Nat.le_refl _), HSet.out.congr fun j hj => ?_, HBs.out _ _ _, by rw [size_set3]; exact hs3⟩
                  have hml := HMl.out
                  by_cases e : j = i
                  · subst e
                    rw [if_pos rfl, List.getD_eq_getElem?_getD, List.getElem?_append_right (by omega)]
                    simp [hml]
                  · rw [if_neg e]
                    by_cases hj2 : j < i
                    · rw [List.getD_eq_getElem?_getD, List.getD_eq_getElem?_getD, List.getElem?_append_left (by omega)]
                    · rw [List.getD_eq_getElem?_getD, List.getD_eq_getElem?_getD, List.getElem?_eq_none (by omega), List.getElem?_eq_none (by rw [List.length_append]; simp; omega)]
                case measure => simp [intOf]; omega
              · have HN : Hid (rmR s.data.toList = none) := rmR_none HR1.out HR2.out (by rw [byteArr, hA'.out]; exact mkS_stays (mkS_none HM.out hm1) (by omega))
                clear hm1
                go_wp2_with fail
                go_ret2
                exact hbad.out HN.out _ (HBl2.out.trans ((HBs.out _ _ _).mono HBl2.out.size))
            · have hiA : Hid (i = A) := by show _ = _; omega
              have HAll : Hid (rmR s.data.toList = if exE ms [] = 0 ∧ endB t2 b = true then some (exT ms []) else none) := by
                have h := rmR_all H0.out HR1.out HR2.out (ms := ms) (e := b) (by rw [byteArr, hA'.out, ← hiA.out]; exact HM.out)
                rwa [byteArr] at h
              have HMks : Hid (Mks wr (some ⟨w2.heap.size + 1, 0, none⟩) A (fun j => ms.getD j ⟨0, 0, 0⟩)) := by
                refine HRw.out.mks hA fun j hj => ?_
                have hml := HMl.out
                have hia := hiA.out
                have hm := HMs.out _ (List.getElem_mem (show j < ms.length by omega))
                rw [List.getD_eq_getElem?_getD, List.getElem?_eq_getElem (by omega), Option.getD_some]
                obtain ⟨q1, q2, q3⟩ := hm
                exact ⟨by omega, by omega, q3⟩
              have HL : Hid (mkL (fun j => ms.getD j ⟨0, 0, 0⟩) 0 A = ms) := mkL_rowM ms A (by rw [HMl.out, hiA.out]) _ (fun _ _ => rfl)
              go_wp2_with fail
              refine (expand_any (some ⟨w2.heap.size + 1, 0, none⟩) A A _ _ HMks.out).mono ?_
              rintro e w4 ⟨rfl, hb4⟩
              rw [HL.out]
              have HB4 : Hid (Below w.heap.size w w4) := HBl2.out.trans ((HBl.out.mono (Nat.le_refl _)).mono HBl2.out.size |>.trans (hb4.mono (by have := HBl2.out.size; omega)))
              have HR4 : Hid (Rdr w4 w2.heap.size t2 b g1 g2) := HRd.out.block (hb4.block _ HRd.out.lt) hb4.size
              clear hb4
              obtain ⟨x, hx⟩ : ∃ x, Hid ((⟨(exA ms).toArray⟩ : ByteArray) = x) := ⟨_, Hid.mk' rfl⟩
              obtain ⟨y, hy⟩ : ∃ y, Hid (exE ms [] = y) := ⟨_, Hid.mk' rfl⟩
              rw [hx.out, hy.out]
              rw [hy.out] at HAll
              by_cases hy0 : y = 0
              · subst hy0
                have HX : Hid (x.data.toList = exT ms []) := by
                  show _ = _
                  rw [← hx.out]
                  unfold exA
                  rw [if_pos hy.out]
                go_wp2_with fail
                refine (pend_any w4 w2.heap.size t2 b g1 g2 HR4.out hzt2 hbs).mono ?_
                rintro e w5 ⟨rfl, hb5⟩
                have HB5 : Hid (Below w.heap.size w w5) := HB4.out.trans (hb5.mono HB4.out.size)
                clear hb5
                obtain ⟨c, hc⟩ : ∃ c, Hid (endB t2 b = c) := ⟨_, Hid.mk' rfl⟩
                rw [hc.out] at HAll ⊢
                go_wp2_with fail
                go_ret2
                refine ⟨⟨x, c, rfl, ?_⟩, HB5.out⟩
                unfold RmAns
                rw [HAll.out]
                cases c with
                | true => exact .inl ⟨rfl, by rw [if_pos (by simp), HX.out]⟩
                | false => exact .inr ⟨rfl, by rw [if_neg (by simp)]⟩
              · have ty : (y == 0) = false := by rw [beq_eq_false_iff_ne]; exact hy0
                have HN : Hid (rmR s.data.toList = none) := by show _ = _; rw [HAll.out, if_neg (fun h => hy0 h.1)]
                clear HAll
                go_wp2_with fail
                go_ret2
                exact ⟨⟨x, false, rfl, .inr ⟨rfl, HN.out⟩⟩, HB4.out⟩
        · have HN := Hid.mk' (rmR_two HR1.out hr2)
          clear hr2
          go_wp2_with fail
          go_ret2
          exact hbad.out HN.out _ HBl2.out
      · have HN : Hid (rmR s.data.toList = none) := rmR_one (by rw [← HT0.out]; exact hr1)
        clear hr1
        go_wp2_with fail
        go_ret2
        exact hbad.out HN.out _ HBl1.out
    · have HN : Hid (rmR s.data.toList = none) := rmR_num (fun h => hA h.2)
      obtain ⟨k, hk'⟩ : ∃ k, Hid (getK s.data.toList = k) := ⟨_, Hid.mk' rfl⟩
      obtain ⟨A, hA'⟩ : ∃ A, Hid (getA s.data.toList = A) := ⟨_, Hid.mk' rfl⟩
      rw [hA'.out] at hA
      have HE := Hid.mk' hE
      have t5 : decide (512 < A) = true := decide_eq_true (by omega)
      clear hE
      go_enter Tryd.func28, Tryd.ntmps28
      go_wp2_with fail
      refine (get_any s _).mono ?_
      rintro e w' ⟨rfl, hw'⟩; obtain rfl := hw'.symm
      rw [HE.out, hk'.out, hA'.out]
      go_wp2_with fail
      go_ret2
      exact hbad.out HN.out _ (Below.refl _ _)
  · have HN : Hid (rmR s.data.toList = none) := rmR_num (fun h => hE h.1)
    have hne : (getE s.data.toList != 0) = true := by rw [bne_iff_ne]; exact hE
    obtain ⟨x, hx⟩ : ∃ x, Hid (getE s.data.toList = x) := ⟨_, Hid.mk' rfl⟩
    rw [hx.out] at hne hE
    obtain ⟨k, hk'⟩ : ∃ k, Hid (getK s.data.toList = k) := ⟨_, Hid.mk' rfl⟩
    obtain ⟨A, hA'⟩ : ∃ A, Hid (getA s.data.toList = A) := ⟨_, Hid.mk' rfl⟩
    clear hE
    go_enter Tryd.func28, Tryd.ntmps28
    go_wp2_with fail
    refine (get_any s _).mono ?_
    rintro e w' ⟨rfl, hw'⟩; obtain rfl := hw'.symm
    rw [hx.out, hk'.out, hA'.out]
    go_wp2_with fail
    go_ret2
    exact hbad.out HN.out _ (Below.refl _ _)
end Go.Proofs.YtcalbicfnhoklaaDoor
