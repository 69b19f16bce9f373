import Derived.Test.YtcalbicfnhoklaaDoorEncodeWalks
import Derived.Test.YtcalbicfnhoklaaDoorMsae
import Derived.Test.YtcalbicfnhoklaaDoorMsai
import Derived.Deep.RegionHeld3

/- What press.weave answers. -/
namespace Go.Proofs.YtcalbicfnhoklaaDoor
open Go.RowKit

def pc2 (p : Nat × Nat) : List Value := [.int .u64 (p.1 : Int), .int .i64 (p.2 : Int)]
def pcC (l : List (Nat × Nat)) : List Value := l.flatMap pc2
theorem pcC_app (a b : List (Nat × Nat)) : pcC (a ++ b) = pcC a ++ pcC b := by simp [pcC]
theorem pcC_at (l : List (Nat × Nat)) : ∀ i (h : i < l.length), (pcC l)[i * 2]? = some (.int .u64 (l[i].1 : Int)) ∧ (pcC l)[i * 2 + 1]? = some (.int .i64 (l[i].2 : Int)) := by
  induction l with
  | nil => intro i h; simp at h
  | cons m t ih =>
    intro i h
    have e : pcC (m :: t) = .int .u64 (m.1 : Int) :: .int .i64 (m.2 : Int) :: pcC t := by simp [pcC, pc2]
    rw [e]
    cases i with
    | zero => exact ⟨rfl, rfl⟩
    | succ i =>
      have := ih i (by simpa using h)
      rw [show (i + 1) * 2 = i * 2 + 1 + 1 by omega]
      simp only [List.getElem?_cons_succ, List.getElem_cons_succ]
      exact this
theorem pc2_one (p : Nat × Nat) : ∀ u ∈ pc2 p, u.oneCell' = true := by
  intro u hu
  simp only [pc2, List.mem_cons, List.not_mem_nil, or_false] at hu
  rcases hu with rfl | rfl <;> rfl
theorem pcC_one (l : List (Nat × Nat)) : ∀ u ∈ pcC l, u.oneCell' = true := by
  intro u hu
  obtain ⟨p, _, hp⟩ := List.mem_flatMap.1 hu
  exact pc2_one p u hp
theorem pcC_len (l : List (Nat × Nat)) : (pcC l).length = l.length * 2 := by
  induction l with
  | nil => rfl
  | cons m t ih => rw [pcC, List.flatMap_cons, List.length_append, ← pcC, ih]; simp [pc2]; omega
theorem pcs_of_own {w : World} {N n : Nat} {v : Value} {l : List (Nat × Nat)} (h : w.ownsRow N 74 2 v n (pcC l)) (hn : n = l.length) (hl : l.length ≤ 2048)
    (hB : ∀ p ∈ l, p.1 < 18446744073709551616 ∧ p.2 ≤ 64) : ∃ ao cap, v = .slice ao n cap ∧ Pcs w ao n (pV l) (pW l) := by
  subst hn
  have hg : ∀ i (hi : i < l.length), l.getD i (0, 0) = l[i] := fun i hi => by rw [List.getD_eq_getElem?_getD, List.getElem?_eq_getElem hi]; rfl
  have hv : ∀ i, i < l.length → pV l i < 18446744073709551616 := fun i hi => by unfold pV; rw [hg i hi]; exact (hB _ (List.getElem_mem hi)).1
  have hw : ∀ i, i < l.length → -9223372036854775808 ≤ pW l i ∧ pW l i ≤ 9223372036854775807 := fun i hi => by
    unfold pW; rw [hg i hi]
    have := (hB _ (List.getElem_mem hi)).2
    omega
  rcases h.2 with ⟨rfl, h0⟩ | ⟨g, cap, cur, rfl, _, hgg, _, _, _, _⟩
  · exact ⟨none, 0, by rw [h0], by omega, fun hp => by omega, hv, hw⟩
  · refine ⟨some ⟨g, 0, none⟩, cap, rfl, by omega, fun _ => ⟨g, 0, rfl, (Array.getElem?_eq_some_iff.1 hgg).1, fun i hi => ?_⟩, hv, hw⟩
    obtain ⟨m1, m2⟩ := pcC_at l i hi
    unfold pV pW
    rw [hg i hi, Nat.zero_add, h.cellAt (i * 2) (by omega), h.cellAt (i * 2 + 1) (by omega)]
    exact ⟨m1, m2⟩
theorem cells_pc1 (w : World) (o : Obj) (p : Nat × Nat) (t : TypeId) : ∀ j u, (pcC [p])[j]? = some u → ((w.alloc o).alloc (.cells #[.int .u64 (p.1 : Int), .int .i64 (p.2 : Int)] t)).cell? ((⟨w.heap.size + 1, 0, none⟩ : Addr).add j) = some u := by
  intro j u hj
  have hN := fun j => World.cell?_alloc_new (w.alloc o) #[.int .u64 (p.1 : Int), .int .i64 (p.2 : Int)] t j
  simp only [show (w.alloc o).heap.size = w.heap.size + 1 by simp] at hN
  rw [show (⟨w.heap.size + 1, 0, none⟩ : Addr).add j = ⟨w.heap.size + 1, j, none⟩ by unfold Addr.add; split <;> simp_all, hN]
  match j with
  | 0 => exact hj
  | 1 => exact hj
  | j + 2 => simp [pcC, pc2] at hj
theorem cells_pc2 (w : World) (p q : Nat × Nat) (t : TypeId) : ∀ j u, (pcC [p, q])[j]? = some u → (w.alloc (.cells #[.int .u64 (p.1 : Int), .int .i64 (p.2 : Int), .int .u64 (q.1 : Int), .int .i64 (q.2 : Int)] t)).cell? ((⟨w.heap.size, 0, none⟩ : Addr).add j) = some u := by
  intro j u hj
  rw [show (⟨w.heap.size, 0, none⟩ : Addr).add j = ⟨w.heap.size, j, none⟩ by unfold Addr.add; split <;> simp_all, World.cell?_alloc_new]
  match j with
  | 0 => exact hj
  | 1 => exact hj
  | 2 => exact hj
  | 3 => exact hj
  | j + 4 => simp [pcC, pc2] at hj
theorem pie_len (L1 L2 : Nat → Int) (ms : List Mk) : (pieA L1 L2 ms).length ≤ 3 * ms.length := by
  induction ms with
  | nil => simp [pieA]
  | cons m t ih =>
    rw [pieA, List.flatMap_cons, List.length_append, ← pieA]
    have : (pieL L1 L2 m).length ≤ 3 := by unfold pieL; split <;> simp
    simp only [List.length_cons]; omega
theorem rowS_at (l : List Nat) (i : Nat) (hi : i < l.length) : rowS l i = ((l[i] : Nat) : Int) := by
  unfold rowS; rw [List.getD_eq_getElem?_getD, List.getElem?_eq_getElem hi]; rfl
theorem lgs_at (ms : List Mk) (k : Nat) (m : Mk) (ht : ms.take (k + 1) = ms.take k ++ [m]) (hm : m.ln ≠ 0) : ∃ h : (lgsM (ms.take k)).length < (lgsM ms).length, (lgsM ms)[(lgsM (ms.take k)).length] = lgN m.ds.toNat := by
  have e : lgsM ms = lgsM (ms.take k) ++ [lgN m.ds.toNat] ++ lgsM (ms.drop (k + 1)) := by
    conv => lhs; rw [← List.take_append_drop (k + 1) ms]
    unfold lgsM
    rw [List.filter_append, List.map_append]
    congr 1
    have h := lgsM_snoc (ms.take k) m
    rw [← ht, if_neg hm] at h
    exact h
  refine ⟨by rw [e]; simp, ?_⟩
  simp only [e]
  rw [List.getElem_append_left (by simp), List.getElem_append_right (by simp)]
  simp

set_option maxRecDepth 20000 in
set_option maxHeartbeats 4000000 in
theorem weave_any (ms : List Mk) (n c : Nat) (L1 L2 : Nat → Int) (a0 a1 a2 a3 : Option Addr) (c0 c1 c2 c3 : Nat) (w : World) (hn : ms.length = n) (hn5 : n ≤ 512) (hc : (lgsM ms).length = c) (hm : ∀ m ∈ ms, HasS L1 L2 m)
    (hP : Mks w a0 n (rowM ms)) (h1 : Pcs w a1 n (wrV L1 320 (rowS (ms.map sgnM))) (wrW L1 (rowS (ms.map sgnM)))) (h2 : Wds w a2 c (rowS (lgsM ms))) (h3 : Pcs w a3 c (wrV L2 9 (rowS (lgsM ms))) (wrW L2 (rowS (lgsM ms)))) (hL1 : ∀ i, i < 320 → 0 ≤ L1 i ∧ L1 i ≤ 15) (hL2 : ∀ i, i < 9 → 0 ≤ L2 i ∧ L2 i ≤ 15) :
    Calls Tryd.prog 26 #[.slice a0 n c0, .slice a1 n c1, .slice a2 c c2, .slice a3 c c3] w fun e w' => (∃ v, e = .returned v ∧ w'.ownsRow w.heap.size 74 2 v (pieA L1 L2 ms).length (pcC (pieA L1 L2 ms))) ∧ Below w.heap.size w w' := by
  have HP := Hid.mk' hP
  have HM := Hid.mk' hm
  have HN := Hid.mk' hn
  have HC := Hid.mk' hc
  have H1 := Hid.mk' h1
  have H2 := Hid.mk' h2
  have H3 := Hid.mk' h3
  have HL1 := Hid.mk' hL1
  have HL2 := Hid.mk' hL2
  obtain ⟨i0, hi, hz0, hz1, hz2⟩ := info_parts infoPc
  have KI := Hid.mk' hi
  have KZ0 := Hid.mk' hz0
  have KZ1 := Hid.mk' hz1
  have KZ2 := Hid.mk' hz2
  have hcn : c ≤ n := by rw [← hc, ← hn]; exact lgsM_len ms
  clear hi hz0 hz1 hz2 hP hm hn hc h1 h2 h3 hL1 hL2
  go_enter Tryd.func26, Tryd.ntmps26
  go_wp2_with fail
  go_loopw [9, 10, 16] (fun lv cv iv wr => ∃ k j : Nat, k ≤ n ∧ iv = .int .i64 (k : Int) ∧ j = (lgsM (ms.take k)).length ∧ cv = .int .i64 (j : Int) ∧ wr.ownsRow w.heap.size 74 2 lv (pieA L1 L2 (ms.take k)).length (pcC (pieA L1 L2 (ms.take k))) ∧ Below w.heap.size w wr) (fun _ _ iv _ => n - (intOf iv).toNat)
  case atStart => exact ⟨0, 0, Nat.zero_le _, rfl, rfl, rfl, World.ownsRow_nil _ _ _ _, Below.refl _ _⟩
  case round =>
    obtain ⟨k, j, hk, rfl, hj, rfl, hown, hbl⟩ := hrel
    have HJ := Hid.mk' hj
    have HO := Hid.mk' hown
    have HB := Hid.mk' hbl
    have hsr := hbl.size
    have hpl := pie_len L1 L2 (ms.take k)
    rw [List.length_take, HN.out] at hpl
    clear hown hbl hj
    by_cases hlt : k < n
    · have hkl : k < ms.length := by rw [HN.out]; exact hlt
      obtain ⟨b0, off0, rfl, hb0, hc0⟩ := HP.out.at' (by omega)
      obtain ⟨b1, off1, rfl, hb1, hc1⟩ := H1.out.at' (by omega)
      obtain ⟨m, hmk⟩ : ∃ m, Hid (ms[k] = m) := ⟨_, Hid.mk' rfl⟩
      have hrm : rowM ms k = m := by unfold rowM; rw [List.getD_eq_getElem?_getD, List.getElem?_eq_getElem hkl, ← hmk.out]; rfl
      have hhs := HM.out m (by rw [← hmk.out]; exact List.getElem_mem _)
      have htk : Hid (ms.take (k + 1) = ms.take k ++ [m]) := by show _ = _; rw [List.take_succ_eq_append_getElem hkl, hmk.out]
      have d0 := (HB.out.cell (p := ⟨b0, off0 + k * 3, none⟩) hb0).trans (hc0 k hlt).1
      have d1 := (HB.out.cell (p := ⟨b0, off0 + k * 3 + 1, none⟩) hb0).trans (hc0 k hlt).2.1
      have d2 := (HB.out.cell (p := ⟨b0, off0 + k * 3 + 2, none⟩) hb0).trans (hc0 k hlt).2.2
      rw [hrm] at d0 d1 d2
      have es : rowS (ms.map sgnM) k = ((sgnM m : Nat) : Int) := by rw [rowS_at _ _ (by simpa using hkl)]; simp [hmk.out]
      obtain ⟨p1, hp1⟩ : ∃ p : Nat × Nat, p = (rv (codeN L1 320 (sgnM m)) (L1 (sgnM m)).toNat, (L1 (sgnM m)).toNat) := ⟨_, rfl⟩
      have hs320 := sgnM_lt hhs.fd
      have hl1 := HL1.out _ hs320.1
      have x0 := (HB.out.cell (p := ⟨b1, off1 + k * 2, none⟩) hb1).trans (hc1 k hlt).1
      have x1 := (HB.out.cell (p := ⟨b1, off1 + k * 2 + 1, none⟩) hb1).trans (hc1 k hlt).2
      have ev : wrV L1 320 (rowS (ms.map sgnM)) k = p1.1 := by unfold wrV; rw [es, Int.toNat_natCast, hp1]
      have ew : wrW L1 (rowS (ms.map sgnM)) k = (p1.2 : Int) := by unfold wrW; rw [es, Int.toNat_natCast, hp1]; show L1 (sgnM m) = (((L1 (sgnM m)).toNat : Nat) : Int); omega
      rw [ev] at x0
      rw [ew] at x1
      have hp1b : p1.2 ≤ 15 := by rw [hp1]; show (L1 (sgnM m)).toNat ≤ 15; omega
      have HP1 := Hid.mk' hp1
      clear hc0 hc1 hrm es ev ew hp1
      obtain ⟨⟨pv, pw⟩, hpp⟩ : ∃ q, Hid (p1 = q) := ⟨_, Hid.mk' rfl⟩
      rw [hpp.out] at x0 x1 hp1b HP1
      simp only at x0 x1 hp1b
      have hpvb : pv < 18446744073709551616 := by
        have h := congrArg Prod.fst HP1.out
        simp only at h
        rw [h]
        have h2 := rv_lt (codeN L1 320 (sgnM m)) (L1 (sgnM m)).toNat
        have h3 : 2 ^ (L1 (sgnM m)).toNat ≤ 2 ^ 15 := Nat.pow_le_pow_right (by decide) (by omega)
        omega
      clear hs320 hl1
      rcases hhs.fd with ⟨f1, f2, f3⟩ | ⟨f1, f2, f3, f4, f5⟩
      · have HPi : Hid (pieA L1 L2 (ms.take (k + 1)) = pieA L1 L2 (ms.take k) ++ [(pv, pw)]) := by
          show _ = _
          rw [htk.out, pieA_snoc]
          unfold pieL
          rw [if_pos f1, ← HP1.out]
        have hlgs : Hid ((lgsM (ms.take (k + 1))).length = j) := by show _ = _; rw [htk.out, lgsM_snoc, if_pos f1, List.append_nil, HJ.out]
        obtain ⟨b, hb⟩ : ∃ b, m.by' = b := ⟨_, rfl⟩
        rw [f1] at d0
        rw [f2] at d1
        rw [hb] at d2
        have HBox := box3_new wr 0 0 b 66
        have y0 := HBox.c0
        have HOa : Hid ((wr.alloc (.cells #[.int .i64 0, .int .i64 0, .int .u8 (b : Int)] 66)).ownsRow w.heap.size 74 2 u9 (pieA L1 L2 (ms.take k)).length (pcC (pieA L1 L2 (ms.take k)))) := HO.out.alloc _
        have HBa : Hid (Below w.heap.size w (wr.alloc (.cells #[.int .i64 0, .int .i64 0, .int .u8 (b : Int)] 66))) := HB.out.alloc hsr _
        have HX : Hid (∀ wx : World, Below w.heap.size w wx → wx.cell? ⟨b1, off1 + k * 2, none⟩ = some (.int .u64 (pv : Int)) ∧ wx.cell? ⟨b1, off1 + k * 2 + 1, none⟩ = some (.int .i64 (pw : Int))) := fun wx hb => ⟨((hb.cell (p := ⟨b1, off1 + k * 2, none⟩) hb1).trans (HB.out.cell (p := ⟨b1, off1 + k * 2, none⟩) hb1).symm).trans x0, ((hb.cell (p := ⟨b1, off1 + k * 2 + 1, none⟩) hb1).trans (HB.out.cell (p := ⟨b1, off1 + k * 2 + 1, none⟩) hb1).symm).trans x1⟩
        have z0 := (HX.out _ HBa.out).1
        have z1 := (HX.out _ HBa.out).2
        have HY0 := Hid.mk' y0
        clear HBox hb f1 f2 f3 x0 x1
        go_wp2_with (at_builtin; refine wpList_append_own _ rfl (.tmp 21) (.tmp 26) 53 rfl w.heap.size 74 i0 (.agg #[.int .u64 0, .int .i64 0]) 2 16 Tryd.underlying53 KI.out KZ0.out KZ1.out KZ2.out rfl (by decide) u9 _ _ rfl (HOa.out.alloc _) ⟨wr.heap.size + 1, 0, none⟩ 1 1 (pcC [(pv, pw)]) rfl rfl (cells_pc1 wr _ (pv, pw) _) (pcC_one _) (by unfold maxLen; omega) (by omega) (by simp; omega) ?_; intro v5 w5 hown5 hgrow5 _; have c5 : w5.cell? ⟨wr.heap.size, 0, none⟩ = some (.int .i64 0) := (World.cell?_of_block (hgrow5.block wr.heap.size (by simp; omega) (fun he => by have := (HO.out.lt _ he.symm).2; omega))).trans ((World.cell?_of_block (Below.heap_alloc _ _ wr.heap.size (by simp))).trans HY0.out))
        have HO5 : Hid (w5.ownsRow w.heap.size 74 2 v5 (pieA L1 L2 (ms.take (k + 1))).length (pcC (pieA L1 L2 (ms.take (k + 1))))) := by
          rw [HPi.out, pcC_app, List.length_append]; exact hown5
        have HB5 : Hid (Below w.heap.size w w5) := (HBa.out.alloc (by simp; omega) _).grown hgrow5 (by simp; omega) fun i hi => (HO.out.lt i hi).1
        clear hown5 hgrow5
        go_wp2_with fail
        go_roundw
        case rel => exact ⟨k + 1, j, hlt, by go_num, hlgs.out.symm, rfl, HO5.out, HB5.out⟩
        case measure => simp [intOf]; omega
      · have hne : m.ln ≠ 0 := by omega
        obtain ⟨hjc, hlg⟩ := lgs_at ms k m htk.out hne
        obtain ⟨r1, r2, r3⟩ := lg_of hhs.fd hne
        have hl2 := HL2.out _ r3
        have hs2 := hhs.s2 hne
        obtain ⟨l, hl⟩ : ∃ l : Nat, m.ln = (l : Int) := ⟨m.ln.toNat, by omega⟩
        obtain ⟨d, hd⟩ : ∃ d : Nat, m.ds = (d : Int) := ⟨m.ds.toNat, by omega⟩
        have hdn : m.ds.toNat = d := by omega
        rw [hdn] at r1 r2 r3 hl2 hs2 hlg
        have HPi : Hid (pieA L1 L2 (ms.take (k + 1)) = pieA L1 L2 (ms.take k) ++ [(pv, pw)] ++ [(rv (codeN L2 9 (lgN d)) (L2 (lgN d)).toNat, (L2 (lgN d)).toNat), (d - 2 ^ lgN d, lgN d)]) := by
          show _ = _
          rw [htk.out, pieA_snoc, List.append_assoc]
          unfold pieL
          rw [if_neg hne, ← HP1.out, hdn]; rfl
        have hlgs : Hid ((lgsM (ms.take (k + 1))).length = j + 1) := by show _ = _; rw [htk.out, lgsM_snoc, if_neg hne, List.length_append, HJ.out]; rfl
        rw [← HJ.out] at hjc
        have hjc' : j < c := by rw [← HC.out]; exact hjc
        obtain ⟨b2, off2, rfl, hb2, hc2⟩ := H2.out.at' (by omega)
        obtain ⟨b3, off3, rfl, hb3, hc3⟩ := H3.out.at' (by omega)
        have erow : rowS (lgsM ms) j = ((lgN d : Nat) : Int) := by rw [rowS_at _ _ hjc, ← hlg]; simp only [← HJ.out]
        obtain ⟨q2, hq2⟩ : ∃ q : Nat × Nat, Hid (q = (rv (codeN L2 9 (lgN d)) (L2 (lgN d)).toNat, (L2 (lgN d)).toNat)) := ⟨_, Hid.mk' rfl⟩
        have t2 : Hid (∀ wx : World, Below w.heap.size w wx → wx.cell? ⟨b2, off2 + j, none⟩ = some (.int .i64 (lgN d : Int)) ∧ wx.cell? ⟨b3, off3 + j * 2, none⟩ = some (.int .u64 (q2.1 : Int)) ∧ wx.cell? ⟨b3, off3 + j * 2 + 1, none⟩ = some (.int .i64 (q2.2 : Int))) := fun wx hb => by
          refine ⟨?_, ?_, ?_⟩
          · rw [hb.cell (p := ⟨b2, off2 + j, none⟩) hb2, hc2 j hjc', erow]
          · rw [hb.cell (p := ⟨b3, off3 + j * 2, none⟩) hb3, (hc3 j hjc').1]
            unfold wrV
            rw [erow, Int.toNat_natCast, hq2.out]
          · rw [hb.cell (p := ⟨b3, off3 + j * 2 + 1, none⟩) hb3, (hc3 j hjc').2]
            unfold wrW
            rw [erow, Int.toNat_natCast, hq2.out]
            show some (Value.int .i64 (L2 (lgN d))) = some (Value.int .i64 (((L2 (lgN d)).toNat : Nat) : Int))
            rw [show (((L2 (lgN d)).toNat : Nat) : Int) = L2 (lgN d) by omega]
        obtain ⟨lg, hlgd⟩ : ∃ x, Hid (lgN d = x) := ⟨_, Hid.mk' rfl⟩
        obtain ⟨p, hp⟩ : ∃ p, Hid (2 ^ lg = p) := ⟨_, Hid.mk' rfl⟩
        obtain ⟨r, hr⟩ : ∃ r, Hid (d - p = r) := ⟨_, Hid.mk' rfl⟩
        rw [← hq2.out, hlgd.out, hp.out, hr.out] at HPi
        rw [hlgd.out] at t2 r1 r2 r3
        rw [hp.out] at r1 r2
        have hdb : d ≤ 511 := by omega
        have hl66 : l ≤ 66 ∧ 3 ≤ l := by omega
        have ep : (2 : Int) ^ lg = (p : Int) := by rw [← hp.out]; simp
        have er : IntKind.i64.wrap ((d : Int) - (p : Int)) = (r : Int) := by rw [IntKind.wrap_i64, ← hr.out]; omega
        have hrb : r ≤ 511 := by have := hr.out; omega
        have eu : IntKind.u64.wrap (r : Int) = (r : Int) := by rw [IntKind.wrap_u64]; omega
        have epw : IntKind.i64.wrap (p : Int) = (p : Int) := by rw [IntKind.wrap_i64]; omega
        have ej : IntKind.i64.wrap ((j : Int) + 1) = ((j + 1 : Nat) : Int) := by rw [IntKind.wrap_i64]; omega
        obtain ⟨j1, hj1⟩ : ∃ x, Hid (j + 1 = x) := ⟨_, Hid.mk' rfl⟩
        rw [hj1.out] at ej hlgs
        have lg0 : (0 : Int) ≤ (lg : Int) := by omega
        rw [hl] at d0
        rw [hd] at d1
        rw [f5] at d2
        obtain ⟨⟨qv, qw⟩, hqq⟩ : ∃ q, Hid (q2 = q) := ⟨_, Hid.mk' rfl⟩
        rw [hqq.out] at t2 HPi
        have HBox := box3_new wr (l : Int) (d : Int) 0 66
        have HY0 := Hid.mk' HBox.c0
        have HY1 := Hid.mk' HBox.c1
        have HOa : Hid ((wr.alloc (.cells #[.int .i64 (l : Int), .int .i64 (d : Int), .int .u8 0] 66)).ownsRow w.heap.size 74 2 u9 (pieA L1 L2 (ms.take k)).length (pcC (pieA L1 L2 (ms.take k)))) := HO.out.alloc _
        have HBa : Hid (Below w.heap.size w (wr.alloc (.cells #[.int .i64 (l : Int), .int .i64 (d : Int), .int .u8 0] 66))) := HB.out.alloc hsr _
        have HX : Hid (∀ wx : World, Below w.heap.size w wx → wx.cell? ⟨b1, off1 + k * 2, none⟩ = some (.int .u64 (pv : Int)) ∧ wx.cell? ⟨b1, off1 + k * 2 + 1, none⟩ = some (.int .i64 (pw : Int))) := fun wx hb => ⟨((hb.cell (p := ⟨b1, off1 + k * 2, none⟩) hb1).trans (HB.out.cell (p := ⟨b1, off1 + k * 2, none⟩) hb1).symm).trans x0, ((hb.cell (p := ⟨b1, off1 + k * 2 + 1, none⟩) hb1).trans (HB.out.cell (p := ⟨b1, off1 + k * 2 + 1, none⟩) hb1).symm).trans x1⟩
        have z0 := (HX.out _ HBa.out).1
        have z1 := (HX.out _ HBa.out).2
        clear HBox f1 f2 f3 f4 f5 x0 x1 hl hd hdn hl2 hs2 hlg erow hc2 hc3 hne hjc
        go_wp2_with (at_builtin; first | (refine wpList_append_at rfl (.tmp 21) (.tmp 26) 53 rfl w.heap.size 74 i0 (.agg #[.int .u64 0, .int .i64 0]) 2 16 Tryd.underlying53 KI.out KZ0.out KZ1.out KZ2.out rfl (by decide) u9 _ _ rfl (HOa.out.alloc _) ⟨wr.heap.size + 1, 0, none⟩ 1 1 (pcC [(pv, pw)]) rfl rfl (cells_pc1 wr _ (pv, pw) _) (pcC_one _) (by unfold maxLen; omega) (by omega) (by simp; omega) ?_; intro v5 w5 hown5 hgrow5 hat5; have hne5 : v5.ownBlock ≠ some wr.heap.size := (fun he => by rcases hat5 with h | h; (have := (HO.out.lt _ (h ▸ he)).2; omega); (rw [he] at h; have h2 := Option.some.inj h; simp at h2; omega)); have c5 : w5.cell? ⟨wr.heap.size, 0, none⟩ = some (.int .i64 (l : Int)) := (World.cell?_of_block (hgrow5.block wr.heap.size (by simp; omega) (fun he => by have := (HO.out.lt _ he.symm).2; omega))).trans ((World.cell?_of_block (Below.heap_alloc _ _ wr.heap.size (by simp))).trans HY0.out); have c6 : w5.cell? ⟨wr.heap.size, 1, none⟩ = some (.int .i64 (d : Int)) := (World.cell?_of_block (hgrow5.block wr.heap.size (by simp; omega) (fun he => by have := (HO.out.lt _ he.symm).2; omega))).trans ((World.cell?_of_block (Below.heap_alloc _ _ wr.heap.size (by simp))).trans HY1.out); have HB5 : Hid (Below w.heap.size w w5) := (HBa.out.alloc (by simp; omega) _).grown hgrow5 (by simp; omega) (fun i hi => (HO.out.lt i hi).1); have c7 := (t2.out _ HB5.out).1; have c8 := (t2.out _ HB5.out).2.1; have c9 := (t2.out _ HB5.out).2.2; have hw5 : wr.heap.size < w5.heap.size := (by have := hgrow5.size; simp at this; omega)) | fail)
        have HO5 : Hid (w5.ownsRow w.heap.size 74 2 v5 ((pieA L1 L2 (ms.take k)).length + 1) (pcC (pieA L1 L2 (ms.take k)) ++ pcC [(pv, pw)])) := hown5
        clear hown5 hgrow5 hat5
        have hs5 := HB5.out.size
        have HBb : Hid (Below w5.heap.size w5 (w5.alloc (.cells #[.int .u64 (qv : Int), .int .i64 (qw : Int), .int .u64 (r : Int), .int .i64 (lg : Int)] 74)).drew) := ((Below.refl _ _).alloc (Nat.le_refl _) _).drew
        have hb35 : b3 < w5.heap.size := by omega
        go_region_held3 (fun X => X.cell? ⟨b3, off3 + j * 2, none⟩ = some (.int .u64 (qv : Int)) ∧ X.cell? ⟨b3, off3 + j * 2 + 1, none⟩ = some (.int .i64 (qw : Int)) ∧ X.cell? ⟨wr.heap.size, 1, none⟩ = some (.int .i64 (d : Int))) (first | exact ⟨c8, c9, c6⟩ | exact ⟨(HBb.out.cell (p := ⟨b3, off3 + j * 2, none⟩) hb35).trans c8, (HBb.out.cell (p := ⟨b3, off3 + j * 2 + 1, none⟩) hb35).trans c9, (HBb.out.cell (p := ⟨wr.heap.size, 1, none⟩) hw5).trans c6⟩ | exact ⟨c18, c19, c16⟩ | fail) ((refine step_append_own rfl (.tmp 35) (.tmp 48) 53 rfl w.heap.size 74 i0 (.agg #[.int .u64 0, .int .i64 0]) 2 16 Tryd.underlying53 KI.out KZ0.out KZ1.out KZ2.out rfl (by decide) v5 _ _ rfl (by exact HO5.out.alloc _) ⟨w5.heap.size, 0, none⟩ 2 2 (pcC [(qv, qw), (r, lg)]) rfl rfl (by exact cells_pc2 w5 (qv, qw) (r, lg) _) (pcC_one _) (by unfold maxLen; omega) (by omega) (by show w.heap.size ≤ (w5.alloc _).heap.size; simp; omega) ?_; intro v6 w6 hown6 hgrow6; have HB6 : Hid (Below w.heap.size w w6) := ((HB5.out.alloc hs5 _).drew).grown hgrow6 (by show w.heap.size ≤ (w5.alloc _).heap.size; simp; omega) (fun i hi => (HO5.out.lt i hi).1); have HO6 : Hid (w6.ownsRow w.heap.size 74 2 v6 ((pieA L1 L2 (ms.take k)).length + 1 + 2) (pcC (pieA L1 L2 (ms.take k)) ++ pcC [(pv, pw)] ++ pcC [(qv, qw), (r, lg)])) := hown6; have c18 := (t2.out _ HB6.out).2.1; have c19 := (t2.out _ HB6.out).2.2; have c16 : w6.cell? ⟨wr.heap.size, 1, none⟩ = some (.int .i64 (d : Int)) := (World.cell?_of_block (hgrow6.block wr.heap.size (by show wr.heap.size < (w5.alloc _).heap.size; simp; omega) (fun he => hne5 he.symm))).trans ((HBb.out.cell (p := ⟨wr.heap.size, 1, none⟩) hw5).trans c6); clear hown6 hgrow6))
        have HO7 : Hid (w6.ownsRow w.heap.size 74 2 v6 (pieA L1 L2 (ms.take (k + 1))).length (pcC (pieA L1 L2 (ms.take (k + 1))))) := by
          rw [HPi.out, pcC_app, pcC_app, List.length_append, List.length_append]; exact HO6.out
        go_wp2_with fail
        go_roundw
        case rel => exact ⟨k + 1, j1, hlt, by go_num, hlgs.out.symm, rfl, HO7.out, HB6.out⟩
        case measure => simp [intOf]; omega
    · have hkn : Hid (ms.take k = ms) := by show _ = _; exact List.take_of_length_le (by rw [HN.out]; omega)
      rw [hkn.out] at HO
      go_wp2_with fail
      go_ret
      exact ⟨⟨_, rfl, HO.out⟩, HB.out⟩
end Go.Proofs.YtcalbicfnhoklaaDoor
