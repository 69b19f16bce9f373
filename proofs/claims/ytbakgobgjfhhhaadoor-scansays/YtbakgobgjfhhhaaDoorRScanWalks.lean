import Derived.Test.YtbakgobgjfhhhaaDoorPsaq
import Derived.Test.YtbakgobgjfhhhaaDoorRDiskWalks
import Derived.Test.YtbakgobgjfhhhaaDoorBehindWalks
import Derived.Test.YtbakgobgjfhhhaaDoorRunWalks

/- What linenref.Scan answers. -/
namespace Go.Proofs.YtbakgobgjfhhhaaDoor
open Go.RowKit

theorem infoIntS : (Tryd.prog.info? 3).map (fun i => (i.zero, i.size, i.bytes)) = some (some (.int .i64 0), 1, 8) := by kernel_rfl
theorem int_newS (w : World) (x : Int) (t : TypeId) : ∀ j u, [Value.int .i64 x][j]? = some u → (w.alloc (.cells #[.int .i64 x] t)).cell? ((⟨w.heap.size, 0, none⟩ : Addr).add j) = some u := by
  intro j u hj
  have h := (boxV_new w [.int .i64 x] t).c j u hj
  rw [addR, Nat.zero_add]; exact h
theorem int_oneS (x : Int) : ∀ u ∈ [Value.int .i64 x], u.oneCell' = true := by
  intro u hu
  rw [List.mem_singleton.1 hu]; rfl
def slLen (v : Value) : Nat := match v with
  | .slice _ n _ => n
  | _ => 0
theorem trE_take {l : List EnS} {j : Nat} (hj : j ≤ l.length) (h : trE (·.la) (l.take j) = trE (·.la) l) (hs : j = 0 ∨ ∃ x, l[j - 1]? = some x ∧ x.la = true) : trE (·.la) l = j := by
  rw [← h]
  rcases hs with rfl | ⟨x, hx, hl⟩
  · rw [List.take_zero]; rfl
  · have hj0 : j ≠ 0 := by
      rintro rfl
      cases l with
      | nil => simp at hx
      | cons y r =>
        simp only [List.take_zero] at h
        have h0 : trE (fun x : EnS => x.la) [] = 0 := rfl
        rw [h0] at h
        simp only [Nat.zero_sub, List.getElem?_cons_zero, Option.some.injEq] at hx
        subst hx
        have h1 : trE (fun x : EnS => x.la) (y :: r) ≠ 0 := by
          show (if trE (fun x : EnS => x.la) r = 0 then (if y.la = true then 1 else 0) else trE (fun x : EnS => x.la) r + 1) ≠ 0
          rw [if_pos hl]
          split <;> omega
        exact h1 h.symm
    obtain ⟨k, rfl⟩ : ∃ k, j = k + 1 := ⟨j - 1, by omega⟩
    have hx' : l[k]? = some x := hx
    have hk : k < l.length := by omega
    rw [List.take_succ_eq_append_getElem hk, trE_snoc]
    have e : l[k] = x := by rw [List.getElem?_eq_getElem hk] at hx'; exact Option.some.inj hx'
    rw [e, if_pos hl, List.length_take]
    omega
theorem trE_drop {l : List EnS} {j : Nat} (hj : j + 1 ≤ l.length) (h : trE (·.la) (l.take (j + 1)) = trE (·.la) l) {x : EnS} (hx : l[j]? = some x) (hl : x.la = false) : trE (·.la) (l.take j) = trE (·.la) l := by
  have hk : j < l.length := by omega
  rw [← h, List.take_succ_eq_append_getElem hk, trE_snoc]
  have e : l[j] = x := by rw [List.getElem?_eq_getElem hk] at hx; exact Option.some.inj hx
  rw [e, if_neg (by rw [hl]; decide)]
set_option maxRecDepth 20000 in
set_option maxHeartbeats 3200000 in
theorem rscan_any (a0 a1 : Option Addr) (n c m d : Nat) (C : List ByteArray) (P : List Pt) (a : Int) (w : World) (h : Dk w a0 n a1 m C P) :
    Calls Tryd.prog 17 #[.agg #[.slice a0 n c, .slice a1 m d], .int .i64 a] w fun z w' => RunA w' C P a z ∧ Below w.heap.size w w' := by
  obtain ⟨i0, hi, hz0, hz1, hz2⟩ := info_parts infoEnB
  have KI := Hid.mk' hi
  have KZ0 := Hid.mk' hz0
  have KZ1 := Hid.mk' hz1
  have KZ2 := Hid.mk' hz2
  obtain ⟨j0, gi, gz0, gz1, gz2⟩ := info_parts infoIntS
  have JI := Hid.mk' gi
  have JZ0 := Hid.mk' gz0
  have JZ1 := Hid.mk' gz1
  have JZ2 := Hid.mk' gz2
  clear hi hz0 hz1 hz2 gi gz0 gz1 gz2
  have hd0 := boxV_new w [.slice a0 n c, .slice a1 m d] 39
  have hb0 := below_boxE (w := w) #[.slice a0 n c, .slice a1 m d] 39
  have hs0 : (w.alloc (.cells #[.slice a0 n c, .slice a1 m d] 39)).heap.size = w.heap.size + 1 := by simp
  obtain ⟨W0, hW0⟩ : ∃ W, Hid (w.alloc (.cells #[.slice a0 n c, .slice a1 m d] 39) = W) := ⟨_, Hid.mk' rfl⟩
  have e0 : w.alloc (.cells [.slice a0 n c, .slice a1 m d].toArray 39) = W0 := hW0.out
  rw [e0] at hd0
  rw [hW0.out] at hb0 hs0
  have HD0 := Hid.mk' hd0
  have HB0 := Hid.mk' hb0
  have HS0 := Hid.mk' hs0
  have HKw := Hid.mk' h
  have hN := Hid.mk' h.nC
  have nB := h.nB
  have hck := Hid.mk' (fun w h => rdisk_any a0 a1 n c m d C P w h)
  obtain ⟨q, hq⟩ : ∃ q, Hid (chkD C P = q) := ⟨_, Hid.mk' rfl⟩
  rw [hq.out] at hck
  clear hd0 hb0 hs0 e0 h
  have p0 := HD0.out.c 0 _ rfl
  have p1 := HD0.out.c 1 _ rfl
  go_enter Tryd.func17, Tryd.ntmps17
  go_wp2_with fail
  rw [hW0.out]
  go_wp2_with fail
  refine (hck.out W0 (HKw.out.below HB0.out)).mono ?_
  rintro z w1 ⟨rfl, hb⟩
  have HD1 := Hid.mk' (HD0.out.below hb)
  have HB1 := Hid.mk' (HB0.out.trans (hb.mono HB0.out.size))
  have HS1 : Hid (w.heap.size + 1 ≤ w1.heap.size) := by show _ ≤ _; have := HS0.out; have := hb.size; omega
  clear hb p0 p1
  by_cases h0 : q = 0
  rotate_left
  · have tq : (q != 0) = true := by rw [bne_iff_ne]; exact h0
    have HQ : Hid (q ≠ 0 ∧ q = (if chkD C P = 0 then (if aftB a = true then 0 else 1) else chkD C P)) := ⟨h0, by rw [hq.out, if_neg h0]⟩
    clear h0
    go_wp2_with fail
    go_ret3
    exact ⟨.inr ⟨q, HQ.out.1, HQ.out.2, rfl⟩, HB1.out⟩
  subst h0
  by_cases ha0 : a < 0
  · have t0 : decide (a < 0) = true := decide_eq_true ha0
    have HQ : Hid ((1 : Int) = (if chkD C P = 0 then (if aftB a = true then 0 else 1) else chkD C P)) := by show _ = _; rw [hq.out, if_pos rfl, if_neg (by unfold aftB; rw [decide_eq_true_iff]; omega)]
    clear ha0
    go_wp2_with fail
    go_ret3
    exact ⟨.inr ⟨1, by decide, HQ.out, rfl⟩, HB1.out⟩
  have t0 : decide (a < 0) = false := decide_eq_false ha0
  by_cases ha1 : 2147483647 < a
  · have t1 : decide ((2147483647 : Int) < a) = true := decide_eq_true ha1
    have HQ : Hid ((1 : Int) = (if chkD C P = 0 then (if aftB a = true then 0 else 1) else chkD C P)) := by show _ = _; rw [hq.out, if_pos rfl, if_neg (by unfold aftB; rw [decide_eq_true_iff]; omega)]
    clear ha0 ha1
    go_wp2_with fail
    go_ret3
    exact ⟨.inr ⟨1, by decide, HQ.out, rfl⟩, HB1.out⟩
  have t1 : decide ((2147483647 : Int) < a) = false := decide_eq_false ha1
  have HA : Hid (0 ≤ a ∧ a ≤ 2147483647) := ⟨by omega, by omega⟩
  have hn128 : n ≤ 128 := by have := (chkD_ok hq.out).n2; rw [hN.out] at this; exact this
  have hlc := Hid.mk' (fun k w h hk => logcell_any a0 a1 n c m d C P k w h hk)
  have p0 := HD1.out.c 0 _ rfl
  have p1 := HD1.out.c 1 _ rfl
  clear ha0 ha1
  go_wp2_with fail
  clear p0 p1
  go_loopw [8, 9, 10, 33] (fun v u mxv i wr => ∃ (k : Nat) (L : List (Nat × EnS)), k ≤ n ∧ i = .int .i64 k ∧ mxv = .int .i64 (mxN L a) ∧ RsW w wr [.slice a0 n c, .slice a1 m d] v u (L.map (·.2)) L (L.map (·.2)) ∧ prjL L = lgK (celD C P) k ∧ (∀ p ∈ L, p.1 ≤ 2147483647) ∧ w.heap.size + 1 ≤ wr.heap.size) (fun _ _ _ i _ => n - (intOf i).toNat)
  case atStart => exact ⟨0, [], Nat.zero_le _, rfl, rfl, ⟨RsG.nil _ _, HD1.out, HB1.out⟩, rfl, (fun p hp => by cases hp), HS1.out⟩
  case round =>
    obtain ⟨k, L, hk, rfl, rfl, hG, hp, hNm, hz⟩ := hrel
    have HG := Hid.mk' hG
    have HP := Hid.mk' hp
    have HN := Hid.mk' hNm
    have HD := Hid.mk' hG.d
    have HB := Hid.mk' hG.b
    have HZ := Hid.mk' hz
    have hmx := mxN_bound hNm HA.out
    have hLl : L.length ≤ 128 := by
      have h1 : (prjL L).length = L.length := by unfold prjL; rw [List.length_map]
      have h2 := lgK_len (celD C P) k
      rw [← hp, h1] at h2
      omega
    clear hG hp hNm hz
    by_cases hlt : k < n
    · have p0 := HD.out.c 0 _ rfl
      have p1 := HD.out.c 1 _ rfl
      go_wp2_with fail
      refine (hlc.out k wr (HKw.out.below HB.out) hlt).mono ?_
      rintro z w3 ⟨hz, hb⟩
      have HG3 := Hid.mk' (HG.out.below hb)
      have HZ3 := Hid.mk' (Nat.le_trans HZ.out hb.size)
      clear p0 p1
      rcases hz with ⟨hno, v9, rfl⟩ | ⟨hk2, N, x, hyes, hxk, rfl, hxb, hxl⟩
      · have hpr : Hid (prjL L = lgK (celD C P) (k + 1)) := by
          show _ = _
          rcases hno with h | h
          · rw [lgK_low _ (by omega), HP.out, lgK_low _ (by omega)]
          · rw [lgK_none h]; exact HP.out
        clear hb hno
        go_wp2_with fail
        go_roundw
        case rel => exact ⟨k + 1, L, by omega, by go_num, rfl, HG3.out, hpr.out, HN.out, HZ3.out⟩
        case measure => simp [intOf]; omega
      · obtain ⟨cl, bl, la, xa, xc⟩ := x
        simp only at hyes hxk hxb hxl
        subst hxk
        have hpr : Hid (prjL (L ++ [(N, ⟨cl, bl, la, xa, xc⟩)]) = lgK (celD C P) (cl + 1)) := by show _ = _; rw [lgK_some hk2 hyes, prjL_snoc, HP.out]; rfl
        have hNm : Hid (∀ p ∈ L ++ [(N, (⟨cl, bl, la, xa, xc⟩ : EnS))], p.1 ≤ 2147483647) := fun p hp => by
          rcases List.mem_append.1 hp with hp | hp
          · exact HN.out p hp
          · rw [List.mem_singleton.1 hp]; exact lgS_serial hyes
        have hN1 : N ≤ 2147483647 := lgS_serial hyes
        have hmp : Hid ((L ++ [(N, (⟨cl, bl, la, xa, xc⟩ : EnS))]).map (·.2) = L.map (·.2) ++ [⟨cl, bl, la, xa, xc⟩]) := by show _ = _; simp
        have hmx2 : Hid (mxN (L ++ [(N, (⟨cl, bl, la, xa, xc⟩ : EnS))]) a = if mxN L a < (N : Int) then (N : Int) else mxN L a) := mxN_snoc L _ a
        have HG4 : Hid (RsW w w3 [.slice a0 n c, .slice a1 m d] u8 u9 (L.map (·.2)) L (L.map (·.2) ++ [⟨cl, bl, la, xa, xc⟩])) := ⟨HG3.out.g.add hxb hxl (fun k hk => (HG.out.g.ov.lt k hk).2) (fun k hk => (HG.out.g.ou.lt k hk).2), HG3.out.d, HG3.out.b⟩
        have hLm : (L.map (·.2)).length = L.length := List.length_map ..
        have HLm := Hid.mk' hLm
        obtain ⟨nx, hnx⟩ : ∃ v, Hid ((if mxN L a < (N : Int) then (N : Int) else mxN L a) = v) := ⟨_, Hid.mk' rfl⟩
        have hnx' := hnx.out
        rw [hnx.out] at hmx2
        have hz3 := HZ3.out
        clear hb hyes hxb hxl hLm
        go_wp2_with (first
          | (at_builtin; refine wpList_append_at rfl (.tmp 48) (.tmp 53) 42 rfl (w.heap.size + 1) 48 i0 (.agg #[.int .i64 0, .slice none 0 0, .bool false]) 3 40 Tryd.underlying42 KI.out KZ0.out KZ1.out KZ2.out rfl (by decide) u8 _ _ rfl ((HG4.out.alloc _).g.ov) ⟨w3.heap.size, 0, none⟩ 1 1 (enV ⟨cl, bl, la, xa, xc⟩) rfl rfl (enV_new _ ⟨cl, bl, la, xa, xc⟩ _) (enV_one _) (by rw [HLm.out]; unfold maxLen; omega) (by rw [HLm.out]; omega) (by simp; omega) ?_; intro v' w5 hown1 hgrow1 hat1; have HG5 := Hid.mk' ((HG4.out.alloc _).pushV hown1 hgrow1 hat1); have hz5 := hgrow1.size; clear hown1 hgrow1 hat1)
          | (at_builtin; refine wpList_append_at rfl (.tmp 55) (.tmp 57) 23 rfl (w.heap.size + 1) 3 j0 (.int .i64 0) 1 8 Tryd.underlying23 JI.out JZ0.out JZ1.out JZ2.out rfl (by decide) u9 _ _ rfl ((HG5.out.alloc _).g.ou) ⟨w5.heap.size, 0, none⟩ 1 1 [.int .i64 (N : Int)] rfl rfl (int_newS _ _ _) (int_oneS _) (by unfold maxLen; omega) (by omega) (by simp at hz5 ⊢; omega) ?_; intro u' w6 hown2 hgrow2 hat2; have HG6 := Hid.mk' ((HG5.out.alloc _).pushU (p := (N, ⟨cl, bl, la, xa, xc⟩)) hown2 hgrow2 hat2); have hz6 := hgrow2.size; clear hown2 hgrow2 hat2)
          | go_in)
        exact ⟨⟨cl + 1, _, by omega, by go_num, by rw [hmx2.out], by rw [hmp.out]; exact HG6.out, hpr.out, hNm.out, HG6.out.d.lt⟩, by simp [intOf]; omega⟩
    · obtain rfl : k = n := by omega
      obtain ⟨va, vc, rfl, _, _, _⟩ := own_sliceE HG.out.g.ov
      obtain ⟨ua, uc, rfl, _, _, _⟩ := own_sliceE HG.out.g.ou
      obtain ⟨mx, hmxx⟩ : ∃ v, Hid (mxN L a = v) := ⟨_, Hid.mk' rfl⟩
      rw [hmxx.out] at hmx ⊢
      have hrv : Hid (Rd wr va (L.map (·.2)).length 3 (enC (L.map (·.2)))) := by obtain ⟨_, _, e, _, _, _, hr⟩ := Rd.of_own HG.out.g.ov; cases e; exact hr
      have hru : Hid (Rd wr ua L.length 1 (nsC L)) := by obtain ⟨_, _, e, _, _, _, hr⟩ := Rd.of_own HG.out.g.ou; cases e; exact hr
      have hLm : (L.map (·.2)).length = L.length := List.length_map ..
      rw [hLm] at hrv ⊢
      obtain ⟨z, hzz⟩ : ∃ z, Hid (L.length = z) := ⟨_, Hid.mk' rfl⟩
      have HZz := hzz.out
      rw [hzz.out] at hLl hrv hru ⊢
      have hA1 := HA.out
      clear hLm HZz
      go_wp2_with fail
      clear hA1
      rename World => w5
      go_loopw [16, 17] (fun v i wq => ∃ l : List EnS, i = .int .i64 (a + 1 + (l.length : Int)) ∧ wq.ownsRow w5.heap.size 48 3 v l.length (enC l) ∧ Chn L a l ∧ Below w5.heap.size w5 wq) (fun _ i _ => 200 - (intOf i - a).toNat)
      case atStart => exact ⟨[], by simp, World.ownsRow_nil _ _ _ _, Chn.nil _ _, Below.refl _ _⟩
      case round =>
        obtain ⟨l, rfl, hown, hch, hb⟩ := hrel
        have hlen := hch.le
        obtain ⟨ao, cap, rfl, hc1, hc2, hc3⟩ := own_sliceE hown
        have HO := Hid.mk' hown
        have HC := Hid.mk' hch
        have HBq := Hid.mk' hb
        have HRu := Hid.mk' (hru.out.below hb)
        have HRv := Hid.mk' (hrv.out.below hb)
        obtain ⟨r, hr⟩ : ∃ n, Hid (l.length = n) := ⟨_, Hid.mk' rfl⟩
        rw [hzz.out] at hlen
        rw [hr.out] at hlen hc1 HO ⊢
        obtain ⟨x, hx⟩ : ∃ x, Hid (a + 1 + (r : Int) = x) := ⟨_, Hid.mk' rfl⟩
        have hx' : x = a + 1 + (r : Int) := hx.out.symm
        rw [hx.out]
        have HAo := HA.out
        have hxl : x ≤ 2147483800 := by rw [hx']; omega
        have hx0 : 0 ≤ x := by rw [hx']; omega
        have hxa : a ≤ x := by rw [hx']; omega
        have hxb : x - a ≤ 130 := by rw [hx']; omega
        have hxn : Hid (x + 1 = a + 1 + ((r + 1 : Nat) : Int)) := by show _ = _; rw [hx']; push_cast; omega
        clear hown hch hb hx' HAo
        go_wp2_with fail
        refine (containsI_any ua z uc L x wr HRu.out hzz.out (by omega)).mono ?_
        rintro e w2 ⟨rfl, rfl⟩
        cases hf : fnd L x with
        | some y =>
          have hC2 : Hid (Chn L a (l ++ [y])) := HC.out.snoc (by rw [hr.out, hx.out]; exact hf)
          have hlen2 : r + 1 ≤ z := by have := hC2.out.le; rw [List.length_append, List.length_singleton, hr.out, hzz.out] at this; exact this
          have hL2 : Hid ((l ++ [y]).length = r + 1) := by show _ = _; rw [List.length_append, List.length_singleton, hr.out]
          have HF := Hid.mk' hf
          have tis : (some y).isSome = true := rfl
          clear hf
          go_wp2_with fail
          refine (indexI_any ua z uc L x w2 HRu.out hzz.out (by omega)).mono ?_
          rintro e w3 ⟨⟨iz, rfl, hiz⟩, rfl⟩
          rcases hiz with ⟨ix, p, hget, hixl, hfx, rfl⟩ | ⟨hfx, _⟩
          rotate_left
          · rw [HF.out] at hfx; cases hfx
          rw [HF.out] at hfx
          obtain rfl : y = p.2 := Option.some.inj hfx
          obtain ⟨g1, o1, rfl, _, dd⟩ := HRv.out.at' (by omega)
          have hgm : (L.map (·.2))[ix]? = some p.2 := by rw [List.getElem?_map, hget]; rfl
          obtain ⟨q1, q2, q3⟩ := enC_at hgm
          have a1' := dd _ _ q1
          have a2' := dd _ _ q2
          have a3' := dd _ _ q3
          rw [← Nat.add_assoc] at a2' a3'
          obtain ⟨y, hy⟩ : ∃ y, p.2 = y := ⟨_, rfl⟩
          rw [hy] at a1' a2' a3' hC2 hL2
          obtain ⟨cl, bl, la, xa, xc⟩ := y
          simp only at a1' a2' a3'
          rw [hzz.out] at hixl
          have hne1 : w5.heap.size ≤ w3.heap.size := HBq.out.size
          clear dd hgm q1 q2 q3 hget hfx hy HF
          go_wp2_with (first
            | (at_builtin; refine wpList_append_own _ rfl (.tmp 67) (.tmp 74) 42 rfl w5.heap.size 48 i0 (.agg #[.int .i64 0, .slice none 0 0, .bool false]) 3 40 Tryd.underlying42 KI.out KZ0.out KZ1.out KZ2.out rfl (by decide) (.slice ao r cap) _ _ rfl (HO.out.alloc _) ⟨w3.heap.size, 0, none⟩ 1 1 (enV ⟨cl, bl, la, xa, xc⟩) rfl rfl (enV_new _ ⟨cl, bl, la, xa, xc⟩ _) (enV_one _) (by unfold maxLen; omega) (by omega) (by simp; omega) ?_; intro v' w6 hown1 hgrow1 _)
            | go_in)
          have hb6 := below_ownE (HBq.out.trans ((below_boxE (w := w3) #[.int .i64 (cl : Int), .slice xa bl.length xc, .bool la] 48).mono HBq.out.size)) (HO.out.alloc _) hgrow1
          exact ⟨⟨_, by rw [hL2.out, hxn.out], by rw [hL2.out, enC_snoc]; exact hown1, hC2.out, hb6⟩, by simp [intOf]; omega⟩
        | none =>
          have HF : Hid (fnd L (a + 1 + (l.length : Int)) = none) := by show _ = _; rw [hr.out, hx.out]; exact hf
          have tis : (none : Option EnS).isSome = false := rfl
          have hrl : Hid (Rd w2 ao r 3 (enC l)) := by obtain ⟨_, _, e, _, _, _, hr⟩ := Rd.of_own HO.out; cases e; exact hr
          clear hf
          go_wp2_with fail
          go_loop [16] (fun v => ∃ j : Nat, j ≤ r ∧ v = .slice ao j cap ∧ trE (·.la) (l.take j) = trE (·.la) l) (fun v => slLen v)
          case atStart => exact ⟨r, Nat.le_refl _, rfl, by rw [← hr.out, List.take_length]⟩
          case round =>
            obtain ⟨j, hjr, rfl, htk⟩ := hrel
            have HTk := Hid.mk' htk
            clear htk
            have hfin : Hid (∀ (ht : trE (fun x : EnS => x.la) l = j), RunA w2 C P a (.returned (.tuple #[.slice ao j cap, .int .i64 mx, .int .i64 0])) ∧ Below w.heap.size w w2) := fun ht => by
              have hbw := HG.out.b.trans (HBq.out.mono HG.out.b.size)
              refine ⟨.inl ⟨hq.out, decide_eq_true HA.out, ao, l, cap, ?_, ?_, ?_, ?_, fun x hx => ?_⟩, hbw⟩
              · rw [ht, hN.out, ← HP.out, prj_mx, hmxx.out]
              · rw [hN.out, ← HP.out]; exact prj_chn HC.out
              · rw [hN.out, ← HP.out, prj_fnd, HF.out]; rfl
              · rw [ht, ← enC_take]; exact hrl.out.pre j hjr
              · obtain ⟨p, hp, hpe⟩ := chn_mem HC.out hx
                have := HG.out.g.eb p.2 (List.mem_map.2 ⟨p, hp, rfl⟩)
                rw [← hpe]
                exact this.below HBq.out
            by_cases hj0 : j = 0
            · subst hj0
              have hfa := Hid.mk' (hfin.out (trE_take (Nat.zero_le _) HTk.out (.inl rfl)))
              go_wp2_with fail
              go_ret3
              exact hfa.out
            · obtain ⟨i, rfl⟩ : ∃ i, j = i + 1 := ⟨j - 1, by omega⟩
              obtain ⟨g1, o1, rfl, _, dd⟩ := hrl.out.at' (by omega)
              have hget := List.getElem?_eq_getElem (l := l) (i := i) (by rw [hr.out]; omega)
              obtain ⟨y, hy⟩ : ∃ y, l[i]'(by rw [hr.out]; omega) = y := ⟨_, rfl⟩
              rw [hy] at hget
              have c3 := dd _ _ (enC_at hget).2.2
              rw [← Nat.add_assoc] at c3
              have HGt := Hid.mk' hget
              obtain ⟨b, hbb⟩ : ∃ b, Hid (y.la = b) := ⟨_, Hid.mk' rfl⟩
              rw [hbb.out] at c3
              have tj : decide ((0 : Int) < ((i + 1 : Nat) : Int)) = true := decide_eq_true (by omega)
              clear dd hget hy hj0
              cases b with
              | true =>
                have hfa := Hid.mk' (hfin.out (trE_take (by rw [hr.out]; omega) HTk.out (.inr ⟨y, HGt.out, hbb.out⟩)))
                clear hfin
                go_wp2_with fail
                go_ret3
                exact hfa.out
              | false =>
                have htk2 := Hid.mk' (trE_drop (by rw [hr.out]; omega) HTk.out HGt.out hbb.out)
                clear hfin
                go_wp2_with fail
                go_round
                case rel => exact ⟨i, by omega, by rfl, htk2.out⟩
                case measure => simp [slLen]
end Go.Proofs.YtbakgobgjfhhhaaDoor
