/- What linenref.ReadInode answers. -/
import Derived.Test.YtbailfianjmflaaInReadWalks
import Derived.Test.YtbailfianjmflaaRInWriteWalks
import Derived.Test.YtbailfianjmflaaRUnfixOnly
import Derived.Deep.RegionHeld3
namespace Go.Proofs.Ytbailfianjmflaa
open Go.RowKit

theorem ext_midP (s : ByteArray) (a b : Nat) : (s.extract a b).data.toList = (s.data.toList.drop a).take (b - a) := by
  rw [ByteArray.data_extract]
  simp only [Array.toList_extract, List.extract_eq_take_drop]
theorem frP_rest {s : List UInt8} {k : Nat} (h : s.length ≤ 8 + 2 * k) (h7 : 7 + 2 * k ≤ s.length) : frP s k = prP (s.drop 7) := by
  unfold frP
  have e : s.drop 7 = (s.drop 7).take (2 * k) ++ s.drop (7 + 2 * k) := by
    conv => lhs; rw [← List.take_append_drop (2 * k) (s.drop 7)]
    rw [List.drop_drop]
  conv => rhs; rw [e]
  rw [prP_app _ _ (by rw [List.length_take, List.length_drop]; omega)]
  have hl : (s.drop (7 + 2 * k)).length ≤ 1 := by rw [List.length_drop]; omega
  match hd : s.drop (7 + 2 * k), hl with
  | [], _ => rw [prP_nil, List.append_nil]
  | [x], _ => rw [prP_one, List.append_nil]
theorem drop_two {l : List UInt8} {k : Nat} (h : k + 1 < l.length) : l.drop k = (l[k]'(by omega)) :: (l[k + 1]'h) :: l.drop (k + 2) := by
  rw [List.drop_eq_getElem_cons (by omega), List.drop_eq_getElem_cons h]
set_option maxRecDepth 20000 in
set_option maxHeartbeats 6400000 in
theorem rreadinode_any (s : ByteArray) (w : World) (hs : s.size ≤ 1048576) :
    Calls Try.prog 16 #[.string s] w fun e w' => RdInA w' s.data.toList e ∧ Below w.heap.size w w' := by
  have hl : Hid (s.data.toList.length = s.size) := by show _ = _; rw [Array.length_toList]; rfl
  have HX := Hid.mk' (boxV_new w [.int .i64 0, .int .i64 0, .int .i64 0, .slice none 0 0] 24)
  have HB := Hid.mk' (below_boxP (w := w) #[.int .i64 0, .int .i64 0, .int .i64 0, .slice none 0 0] 24)
  by_cases h7 : s.size < 7
  · have hn : Hid (readI s.data.toList = none) := readI_short (by rw [hl.out]; exact h7)
    go_enter Try.func16, Try.ntmps16
    go_wp2_with fail
    refine bodyPost_ret (results_boxV2 rfl _ _ w.heap.size 4 _ _ rfl rfl HX.out rfl infoSzIn (aggIn _)) rfl ⟨rdIn_no hn.out rfl, HB.out⟩
  have n7 : ¬ (s.size : Int) < 7 := by omega
  have h7' : 7 ≤ s.size := by omega
  have h0n : 0 < s.size := by omega
  have i0 : (0 : Int) < (s.size : Int) := by omega
  have i5 : (5 : Int) ≤ (s.size : Int) := by omega
  have i7 : (7 : Int) ≤ (s.size : Int) := by omega
  obtain ⟨x0, hx0⟩ : ∃ x, Hid (s[0]'h0n = x) := ⟨_, Hid.mk' rfl⟩
  have hx0' := hx0.out
  have hb0 := x0.toNat_lt
  obtain ⟨s1, hs1⟩ : ∃ r, Hid (s.extract 1 5 = r) := ⟨_, Hid.mk' rfl⟩
  have l1 : Hid (s1.data.toList = (s.data.toList.drop 1).take 4) := by show _ = _; rw [← hs1.out, ext_midP]
  have z1 : s1.size = 4 := by
    have e : s1.data.toList.length = s1.size := by rw [Array.length_toList]; rfl
    rw [← e, l1.out, List.length_take, List.length_drop, hl.out]; omega
  obtain ⟨s2, hs2⟩ : ∃ r, Hid (s.extract 5 7 = r) := ⟨_, Hid.mk' rfl⟩
  have l2 : Hid (s2.data.toList = (s.data.toList.drop 5).take 2) := by show _ = _; rw [← hs2.out, ext_midP]
  have z2 : s2.size = 2 := by
    have e : s2.data.toList.length = s2.size := by rw [Array.length_toList]; rfl
    rw [← e, l2.out, List.length_take, List.length_drop, hl.out]; omega
  have hs1' := hs1.out
  have hs2' := hs2.out
  have R1 := Hid.mk' (fun w => runfix_in s1 w (by omega))
  have R2 := Hid.mk' (fun w => runfix_in s2 w (by omega))
  rw [l1.out] at R1
  rw [l2.out] at R2
  have hkd : Hid (unfN (s.data.toList.take 1) = x0.toNat) := by
    show _ = _
    have e0 := List.drop_eq_getElem_cons (l := s.data.toList) (i := 0) (by rw [hl.out]; exact h0n)
    rw [List.drop_zero] at e0
    rw [e0]
    show unfN [s.data.toList[0]'_] = _
    have e1 : s.data.toList[0]'(by rw [hl.out]; exact h0n) = x0 := hx0.out
    rw [e1]; simp [unfN]
  have hg1 := unfN_lt ((s.data.toList.drop 1).take 4)
  have hg2 : 256 ^ ((s.data.toList.drop 1).take 4).length ≤ 256 ^ 4 := Nat.pow_le_pow_right (by decide) (by rw [List.length_take]; omega)
  have hg3 := unfN_lt ((s.data.toList.drop 5).take 2)
  have hg4 : 256 ^ ((s.data.toList.drop 5).take 2).length ≤ 256 ^ 4 := Nat.pow_le_pow_right (by decide) (by rw [List.length_take]; omega)
  obtain ⟨gn, hgn⟩ : ∃ u, Hid (unfN ((s.data.toList.drop 1).take 4) = u) := ⟨_, Hid.mk' rfl⟩
  obtain ⟨sz, hsz⟩ : ∃ u, Hid (unfN ((s.data.toList.drop 5).take 2) = u) := ⟨_, Hid.mk' rfl⟩
  rw [hgn.out] at R1 hg1
  rw [hsz.out] at R2 hg3
  have hgb : gn < 4294967296 := by omega
  have hsb : sz < 4294967296 := by omega
  obtain ⟨kd, hkk⟩ : ∃ u, Hid (x0.toNat = u) := ⟨_, Hid.mk' rfl⟩
  have hkb : kd < 256 := by rw [← hkk.out]; exact hb0
  rw [hkk.out] at hkd
  have hkk' := hkk.out
  have e1 : IntKind.i64.wrap (kd : Int) = kd := by rw [IntKind.wrap_i64]; omega
  have e2 : IntKind.i64.wrap (gn : Int) = gn := by rw [IntKind.wrap_i64]; omega
  have e3 : IntKind.i64.wrap (sz : Int) = sz := by rw [IntKind.wrap_i64]; omega
  have hpar : Hid (parI s.data.toList = ⟨(kd : Int), (gn : Int), (sz : Int), prP (s.data.toList.drop 7)⟩) := by
    show _ = _
    unfold parI
    rw [hkd.out, hgn.out, hsz.out]
  have hsl : Hid (s = txp s.data.toList) := by
    show _ = _
    apply bytes_ext
    rfl
  have hgetS : Hid (∀ j (h : j < s.size), s.data.toList[j]? = some (s[j]'h)) := fun j h => by
    rw [List.getElem?_eq_getElem (by rw [hl.out]; exact h)]; rfl
  obtain ⟨L, hL⟩ : ∃ L, Hid (s.data.toList = L) := ⟨_, Hid.mk' rfl⟩
  rw [hL.out] at hl hpar hsl hgetS ⊢
  have hxa := HX.out.alloc (.cells #[.int .i64 (kd : Int), .int .i64 (gn : Int), .int .i64 (sz : Int), .slice none 0 0] 24)
  have hga := boxV_new (w.alloc (.cells #[.int .i64 0, .int .i64 0, .int .i64 0, .slice none 0 0] 24)) [.int .i64 (kd : Int), .int .i64 (gn : Int), .int .i64 (sz : Int), .slice none 0 0] 24
  have hba := HB.out.alloc HB.out.size (.cells #[.int .i64 (kd : Int), .int .i64 (gn : Int), .int .i64 (sz : Int), .slice none 0 0] 24)
  have hsza : ((w.alloc (.cells #[.int .i64 0, .int .i64 0, .int .i64 0, .slice none 0 0] 24)).alloc (.cells #[.int .i64 (kd : Int), .int .i64 (gn : Int), .int .i64 (sz : Int), .slice none 0 0] 24)).heap.size = w.heap.size + 2 := by simp
  rw [show (w.alloc (.cells #[.int .i64 0, .int .i64 0, .int .i64 0, .slice none 0 0] 24)).heap.size = w.heap.size + 1 by simp] at hga
  obtain ⟨We, hWe⟩ : ∃ W, Hid ((w.alloc (.cells #[.int .i64 0, .int .i64 0, .int .i64 0, .slice none 0 0] 24)).alloc (.cells #[.int .i64 (kd : Int), .int .i64 (gn : Int), .int .i64 (sz : Int), .slice none 0 0] 24) = W) := ⟨_, Hid.mk' rfl⟩
  have HXe : Hid (BoxV We w.heap.size [.int .i64 0, .int .i64 0, .int .i64 0, .slice none 0 0]) := by rw [← hWe.out]; exact hxa
  have HGe : Hid (BoxV We (w.heap.size + 1) [.int .i64 (kd : Int), .int .i64 (gn : Int), .int .i64 (sz : Int), .slice none 0 0]) := by rw [← hWe.out]; exact hga
  have HBe : Hid (Below w.heap.size w We) := by rw [← hWe.out]; exact hba
  rw [hWe.out] at hsza
  have hNe : w.heap.size + 2 ≤ We.heap.size := by omega
  obtain ⟨i0', hi, hz0, hz1, hz2⟩ := info_parts infoPlR
  have KI := Hid.mk' hi
  have KZ0 := Hid.mk' hz0
  have KZ1 := Hid.mk' hz1
  have KZ2 := Hid.mk' hz2
  clear hi hz0 hz1 hz2 hxa hga hba HX HB hsza h7 hg1 hg2 hg3 hg4 hb0
  go_enter Try.func16, Try.ntmps16
  go_wp2_with fail
  refine (R1.out _).mono ?_
  rintro e w1 ⟨rfl, rfl⟩
  go_wp2_with fail
  refine (R2.out _).mono ?_
  rintro e w1 ⟨rfl, rfl⟩
  go_wp2_with fail
  rw [hWe.out]
  clear hx0' hs1' hs2' hkk'
  go_loopw [9] (fun i wr => ∃ (k : Nat) (v : Value), i = .int .i64 ((7 + 2 * k : Nat) : Int) ∧ 7 + 2 * k ≤ s.size ∧ BoxV wr (w.heap.size + 1) [.int .i64 (kd : Int), .int .i64 (gn : Int), .int .i64 (sz : Int), v] ∧ BoxV wr w.heap.size [.int .i64 0, .int .i64 0, .int .i64 0, .slice none 0 0] ∧ wr.ownsRow (w.heap.size + 2) 26 2 v k (plC (frP L k)) ∧ w.heap.size + 2 ≤ wr.heap.size ∧ Below w.heap.size w wr) (fun i _ => s.size - (intOf i).toNat)
  case atStart => exact ⟨0, _, rfl, by omega, HGe.out, HXe.out, World.ownsRow_nil _ _ _ _, hNe, HBe.out⟩
  case round =>
    obtain ⟨k, v, rfl, hk7, hG, hX, hO, hN, hB⟩ := hrel
    have HG := Hid.mk' hG
    have HX := Hid.mk' hX
    have HO := Hid.mk' hO
    have HB := Hid.mk' hB
    clear hG hX hO hB
    obtain ⟨j, hj⟩ : ∃ j, Hid (7 + 2 * k = j) := ⟨_, Hid.mk' rfl⟩
    have hk2 : k ≤ 1048576 := by omega
    rw [hj.out] at hk7 ⊢
    by_cases hend : s.size < j + 2
    rotate_left
    · have hj0 : j < s.size := by omega
      have hj1 : j + 1 < s.size := by omega
      have ii0 : (j : Int) + 1 < (s.size : Int) := by omega
      have ii1 : (0 : Int) ≤ (j : Int) := by omega
      have ii2 : (j : Int) < (s.size : Int) := by omega
      obtain ⟨x, hx⟩ : ∃ x, Hid (s[j]'hj0 = x) := ⟨_, Hid.mk' rfl⟩
      obtain ⟨y, hy⟩ : ∃ x, Hid (s[j + 1]'hj1 = x) := ⟨_, Hid.mk' rfl⟩
      have hx' := hx.out
      have hy' := hy.out
      have hlx := x.toNat_lt
      have hly := y.toNat_lt
      have hdr : L.drop (7 + 2 * k) = x :: y :: L.drop (j + 2) := by
        rw [hj.out, drop_two (l := L) (k := j) (by rw [hl.out]; exact hj1)]
        have g0 := hgetS.out j hj0
        have g1 := hgetS.out (j + 1) hj1
        rw [List.getElem?_eq_getElem (by rw [hl.out]; exact hj0)] at g0
        rw [List.getElem?_eq_getElem (by rw [hl.out]; exact hj1)] at g1
        rw [Option.some.inj g0, Option.some.inj g1, hx', hy']
      have HNx := Hid.mk' (frP_next hdr)
      obtain ⟨p, hp⟩ : ∃ p, Hid (rpl x y = p) := ⟨_, Hid.mk' rfl⟩
      have ep : (⟨(x.toNat : Int), (y.toNat : Int)⟩ : Pla) = p := hp.out
      rw [hp.out] at HNx
      obtain ⟨xn, hxn⟩ : ∃ u, Hid (x.toNat = u) := ⟨_, Hid.mk' rfl⟩
      obtain ⟨yn, hyn⟩ : ∃ u, Hid (y.toNat = u) := ⟨_, Hid.mk' rfl⟩
      rw [hxn.out] at ep hlx
      rw [hyn.out] at ep hly
      have hxn' := hxn.out
      have hyn' := hyn.out
      subst ep
      have ex0 : IntKind.i64.wrap (xn : Int) = xn := by rw [IntKind.wrap_i64]; omega
      have ey0 : IntKind.i64.wrap (yn : Int) = yn := by rw [IntKind.wrap_i64]; omega
      clear hdr
      obtain ⟨ao, cp, hvs⟩ := own_slice' HO.out
      subst hvs
      have hlt1 : w.heap.size + 1 < wr.heap.size := by omega
      have hcA : ∀ o : Obj, (wr.alloc o).cell? ⟨w.heap.size + 1, 3, none⟩ = some (.slice ao k cp) := fun o => (HG.out.alloc o).c 3 _ rfl
      have hfA : ∀ o : Obj, (wr.alloc o).frozen? ⟨w.heap.size + 1, 3, none⟩ = false := fun o => (HG.out.alloc o).f 3 (by simp)
      have HCA := Hid.mk' hcA
      have HFA := Hid.mk' hfA
      have hb3 : ∀ o : Obj, w.heap.size + 2 ≤ (wr.alloc o).heap.size := fun o => by simp; omega
      have HB3 := Hid.mk' hb3
      have hc0 := HG.out.c 3 _ rfl
      have hcD : ∀ o : Obj, (wr.drew.alloc o).cell? ⟨w.heap.size + 1, 3, none⟩ = some (.slice ao k cp) := fun o => HCA.out o
      have ew : IntKind.i64.wrap ((j : Int) + 1) = (j : Int) + 1 := by rw [IntKind.wrap_i64]; omega
      have et : ((j : Int) + 1).toNat = j + 1 := by omega
      have ii3 : (0 : Int) ≤ (j : Int) + 1 := by omega
      have hb1 : k + 1 ≤ maxLen := by unfold maxLen; omega
      have hb2 : (k + 1) * 16 ≤ 140737488355328 := by omega
      clear hcA hfA hb3
      go_wp2_with fail
      go_region_law (first | (refine step_append_at rfl (.tmp 44) (.tmp 55) 22 rfl (w.heap.size + 2) 26 i0' (.agg #[.int .i64 0, .int .i64 0]) 2 16 Try.underlying22 KI.out KZ0.out KZ1.out KZ2.out rfl (by decide) (.slice ao k cp) k (plC (frP L k)) rfl (by exact HO.out.alloc _) ⟨wr.heap.size, 0, none⟩ 1 1 (pl2 ⟨(xn : Int), (yn : Int)⟩) rfl rfl (by exact cells_pl2 wr.drew ⟨(xn : Int), (yn : Int)⟩ _) (pl2_one _) hb1 hb2 (by exact HB3.out _) ?_; intro v' w2 hown2 hgrow2 hat2; obtain ⟨ao', cp', rfl⟩ := own_slice' hown2; have hcy2 := (cell_grown_own (by exact HO.out.alloc _) hgrow2 (by exact HB3.out _) (p := ⟨w.heap.size + 1, 3, none⟩) (Nat.lt_succ_self _)).trans (by exact HCA.out _); have hfy2 := (frozen_grown_own (by exact HO.out.alloc _) hgrow2 (by exact HB3.out _) (p := ⟨w.heap.size + 1, 3, none⟩) (Nat.lt_succ_self _)).trans (by exact HFA.out _)) | fail)
      all_goals
        have hgr2 : (wr.alloc (.cells #[.int .i64 (xn : Int), .int .i64 (yn : Int)] 26)).grownBy w2 (Value.slice ao k cp).ownBlock := ⟨hgrow2.os, hgrow2.tape, hgrow2.output, hgrow2.size, hgrow2.block⟩
        have hnG : (Value.slice ao k cp).ownBlock ≠ some (w.heap.size + 1) := fun h => by have := (HO.out.lt _ h).1; omega
        have hnX : (Value.slice ao k cp).ownBlock ≠ some w.heap.size := fun h => by have := (HO.out.lt _ h).1; omega
        have HG2 := (HG.out.alloc (.cells #[.int .i64 (xn : Int), .int .i64 (yn : Int)] 26)).grown hgr2 hnG
        have HX2 := (HX.out.alloc (.cells #[.int .i64 (xn : Int), .int .i64 (yn : Int)] 26)).grown hgr2 hnX
        have HB2 := (HB.out.alloc (by omega) (.cells #[.int .i64 (xn : Int), .int .i64 (yn : Int)] 26)).grown hgr2 (by simp; omega) fun i hi => by have := (HO.out.lt i hi).1; omega
        have hz2 := hgr2.size
        have HO2 : w2.ownsRow (w.heap.size + 2) 26 2 (.slice ao' (k + 1) cp') (k + 1) (plC (frP L (k + 1))) := by
          rw [HNx.out, plC_snoc]; exact hown2
        have hN2 : w.heap.size + 2 ≤ w2.heap.size := by simp at hz2; omega
        have HG3 := Hid.mk' (HG2.set 3 (.slice ao' (k + 1) cp') (by simp))
        have HX3 := Hid.mk' (HX2.other ⟨w.heap.size + 1, 3, none⟩ (.slice ao' (k + 1) cp') (by show w.heap.size + 1 ≠ w.heap.size; omega))
        have HB3' : Hid (Below w.heap.size w (w2.setCell ⟨w.heap.size + 1, 3, none⟩ (.slice ao' (k + 1) cp'))) := HB2.setCell (by show w.heap.size ≤ w.heap.size + 1; omega) _
        have HO3 := Hid.mk' (ownsRow_setCell_below HO2 (a := ⟨w.heap.size + 1, 3, none⟩) (by show w.heap.size + 1 < w.heap.size + 2; omega) (.slice ao' (k + 1) cp'))
        have hz3 : w.heap.size + 2 ≤ (w2.setCell ⟨w.heap.size + 1, 3, none⟩ (.slice ao' (k + 1) cp')).heap.size := by simpa [World.setCell] using hN2
        clear hgrow2 hown2 hat2 hgr2 hcy2 hfy2 hcD hc0 hnG hnX HG2 HX2 HB2 hz2 HO2 hN2
        go_wp2_with fail
        go_roundw
        case rel => exact ⟨k + 1, _, int_eq (by have := hj.out; omega), by have := hj.out; omega, HG3.out, HX3.out, HO3.out, hz3, HB3'.out⟩
        case measure => simp [intOf]; omega
    · have ii0 : ¬ (j : Int) + 1 < (s.size : Int) := by omega
      have hje := hj.out
      have hfr := frP_rest (s := L) (k := k) (by rw [hl.out]; omega) (by rw [hl.out]; omega)
      have HGw := HG.out
      have d0 := HGw.c 0 _ rfl
      have d1 := HGw.c 1 _ rfl
      have d2 := HGw.c 2 _ rfl
      have d3 := HGw.c 3 _ rfl
      have hfl : Hid ((frP L k).length = k) := frP_len (by rw [hl.out]; omega)
      obtain ⟨ao, cap, hvs, HP⟩ := pls_own HO.out hfl.out (by omega) (plaB_prP _)
      have HP := Hid.mk' HP
      subst hvs
      obtain ⟨I, hI⟩ : ∃ I : Ino, Hid (parI L = I) := ⟨_, Hid.mk' rfl⟩
      have hII : I = ⟨(kd : Int), (gn : Int), (sz : Int), frP L k⟩ := by rw [← hI.out, hpar.out, hfr]
      have hrd : Hid (readI L = if chkI I = 0 ∧ inB I = L then some I else none) := by
        show _ = _
        have hb := inB_par (s := L) (by rw [hl.out]; exact h7')
        rw [hI.out] at hb
        unfold readI
        rw [hI.out]
        by_cases hc : chkI I = 0 ∧ inB I = L
        · rw [if_pos hc, if_pos ⟨by rw [hl.out]; exact h7', hb.1 hc.2, hc.1⟩]
        · rw [if_neg hc, if_neg (fun h => hc ⟨h.2.2, hb.2 h.2.1⟩)]
      have hchk := Hid.mk' (fun w h => rinodetext_any I ao k cap w h)
      obtain ⟨q, hq⟩ : ∃ q, Hid (chkI I = q) := ⟨_, Hid.mk' rfl⟩
      obtain ⟨T, hT⟩ : ∃ T, Hid (wiT I = T) := ⟨_, Hid.mk' rfl⟩
      rw [hq.out, hT.out] at hchk
      rw [hq.out] at hrd
      have hTI : Hid (q = 0 → T = txp (inB I)) := fun h => by rw [← hT.out]; exact wiT_ok (hq.out.trans h)
      rw [hII] at hchk
      simp only at hchk
      clear hfr HGw hje
      go_wp2_with fail
      refine (hchk.out wr HP.out).mono ?_
      rintro e w1 ⟨rfl, hb⟩
      have HGw := HG.out.below hb
      have HXw := HX.out.below hb
      have HO1 := Hid.mk' (own_below HO.out hb)
      have HB1 := Hid.mk' (HB.out.trans (hb.mono HB.out.size))
      have d0 := HGw.c 0 _ rfl
      have d1 := HGw.c 1 _ rfl
      have d2 := HGw.c 2 _ rfl
      have d3 := HGw.c 3 _ rfl
      have c0 := HXw.c 0 _ rfl
      have c1 := HXw.c 1 _ rfl
      have c2 := HXw.c 2 _ rfl
      have c3 := HXw.c 3 _ rfl
      have f0 := HXw.f 0 (by simp)
      have f1 := HXw.f 1 (by simp)
      have f2 := HXw.f 2 (by simp)
      have f3 := HXw.f 3 (by simp)
      have HXX := Hid.mk' (fun a b c d => HXw.set4 a b c d)
      have HBX := Hid.mk' (fun a b c d => below_set4P HB1.out (Nat.le_refl _) a b c d)
      clear hb HGw HXw
      by_cases h0 : q = 0
      · subst h0
        have hTT := hTI.out rfl
        by_cases hts : T = s
        · have hyes : Hid (readI L = some I) := by
            show _ = _
            rw [hrd.out]
            refine if_pos ⟨rfl, ?_⟩
            have e := hTT.symm.trans (hts.trans hsl.out)
            have e2 := congrArg (fun b : ByteArray => b.data.toList) e
            exact e2
          have tt : (T.toList == s.toList) = true := by rw [hts]; simp
          clear hTT hts
          go_wp2_with fail
          refine bodyPost_ret (results_boxV2 rfl _ _ w.heap.size 4 _ _ rfl rfl (HXX.out (.int .i64 kd) (.int .i64 gn) (.int .i64 sz) (.slice ao k cap)) rfl infoSzIn (aggIn _)) rfl ⟨rdIn_yes (a0 := ao) (n := k) (c := cap) hyes.out ?_ ?_ ?_, HBX.out _ _ _ _⟩
          · rw [hII]; rfl
          · rw [hII]; exact hfl.out
          · rw [hII]; exact pls_own' (own_set4P HO1.out (by omega) _ _ _ _) hfl.out (by omega) (plaB_prP _)
        · have hno : Hid (readI L = none) := by
            show _ = _
            rw [hrd.out, if_neg]
            intro h
            exact hts (by rw [hTT, h.2]; exact hsl.out.symm)
          have tt : (T.toList == s.toList) = false := by
            rw [beq_eq_false_iff_ne]
            intro h
            rw [ByteArray.toList_eq, ByteArray.toList_eq] at h
            exact hts (bytes_ext h)
          clear hTT hts
          go_wp2_with fail
          refine bodyPost_ret (results_boxV2 rfl _ _ w.heap.size 4 _ _ rfl rfl (HXX.out (.int .i64 0) (.int .i64 0) (.int .i64 0) (.slice none 0 0)) rfl infoSzIn (aggIn _)) rfl ⟨rdIn_no hno.out rfl, HBX.out _ _ _ _⟩
      · have tq : (q != 0) = true := by rw [bne_iff_ne]; exact h0
        have hno : Hid (readI L = none) := by show _ = _; rw [hrd.out, if_neg (fun h => h0 h.1)]
        clear h0
        go_wp2_with fail
        refine bodyPost_ret (results_boxV2 rfl _ _ w.heap.size 4 _ _ rfl rfl (HXX.out (.int .i64 0) (.int .i64 0) (.int .i64 0) (.slice none 0 0)) rfl infoSzIn (aggIn _)) rfl ⟨rdIn_no hno.out rfl, HBX.out _ _ _ _⟩
end Go.Proofs.Ytbailfianjmflaa
