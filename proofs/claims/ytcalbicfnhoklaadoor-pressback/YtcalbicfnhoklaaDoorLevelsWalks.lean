import Derived.Test.YtcalbicfnhoklaaDoorMsah
import Derived.Test.YtcalbicfnhoklaaDoorMsai
import Derived.Test.YtcalbicfnhoklaaDoorStableCoins

/- What huff.levels answers. -/
namespace Go.Proofs.YtcalbicfnhoklaaDoor
open Go.RowKit

set_option maxHeartbeats 400000 in
theorem byKeyC_at (w : World) :
    Calls Tryd.prog 76 #[.func (.func 77) #[] #[]] w fun e w' =>
      e = .returned (.func (.func 87) #[] #[.pointer (some ⟨w.heap.size, 0, none⟩)]) ∧ w' = w.alloc (.cells #[.func (.func 77) #[] #[]] 131) := by
  go_enter Tryd.func76, Tryd.ntmps76
  go_wp2_with fail
  go_ret
  exact ⟨rfl, rfl⟩

theorem infoSl : (Tryd.prog.info? 124).map (fun i => (i.zero, i.size, i.bytes)) = some (some (.slice none 0 0), 1, 24) := by kernel_rfl
/-- a level where it lies -/
def LvAt (b : Nat) (w : World) (v : Value) (l : List (Nat × Bool)) : Prop := ∃ g cap, v = .slice (some ⟨g, 0, none⟩) l.length cap ∧ l.length ≤ cap ∧ cap ≤ maxLen ∧ b ≤ g ∧ RowCo w g l.length (rowC l)
theorem RowCo.block {w w' : World} {g n : Nat} {f : Nat → Int × Bool} (h : RowCo w g n f) (hb : w'.heap[g]? = w.heap[g]?) (hs : w.heap.size ≤ w'.heap.size) : RowCo w' g n f :=
  ⟨fun i hi => (World.cell?_of_block (w := w) (w' := w') (a := ⟨g, i * 2, none⟩) hb).trans (h.c0 i hi), fun i hi => (World.cell?_of_block (w := w) (w' := w') (a := ⟨g, i * 2 + 1, none⟩) hb).trans (h.c1 i hi), fun i hi => (World.frozen?_of_block (w := w) (w' := w') (a := ⟨g, i * 2, none⟩) hb).trans (h.f0 i hi), fun i hi => (World.frozen?_of_block (w := w) (w' := w') (a := ⟨g, i * 2 + 1, none⟩) hb).trans (h.f1 i hi), Nat.lt_of_lt_of_le h.lt hs⟩
theorem LvAt.keep {b : Nat} {w w' : World} {v : Value} {l : List (Nat × Bool)} (h : LvAt b w v l) (hs : w.heap.size ≤ w'.heap.size) (hb : ∀ k, b ≤ k → k < w.heap.size → w'.heap[k]? = w.heap[k]?) : LvAt b w' v l := by
  obtain ⟨g, cap, h1, h2, h3, h4, h5⟩ := h
  exact ⟨g, cap, h1, h2, h3, h4, h5.block (hb g h4 h5.lt) hs⟩
theorem LvAt.cos {b : Nat} {w : World} {v : Value} {l : List (Nat × Bool)} (h : LvAt b w v l) : Cos w v l := by
  obtain ⟨g, cap, h1, h2, h3, h4, h5⟩ := h
  exact ⟨some ⟨g, 0, none⟩, cap, h1, h2, h3, fun _ => ⟨g, rfl, h5.lt, fun i hi => ⟨by rw [h5.c0 i hi, rowC_at l i hi], by rw [h5.c1 i hi, rowC_at l i hi]⟩⟩⟩
theorem LvAt.mono {b b' : Nat} {w : World} {v : Value} {l : List (Nat × Bool)} (h : LvAt b w v l) (hb : b' ≤ b) : LvAt b' w v l := by
  obtain ⟨g, cap, h1, h2, h3, h4, h5⟩ := h
  exact ⟨g, cap, h1, h2, h3, by omega, h5⟩
/-- the levels so far -/
structure Lvs (wt : Nat → Nat) (n i : Nat) (L : Nat → List (Nat × Bool)) : Prop where
  z : L 0 = []
  s : ∀ d, d < i → LvC ((List.range n).map wt) (L d) (L (d + 1))
  len : (L i).length ≤ 2 * n
  hi : ∀ c ∈ L i, c.1 ≤ 1048576 * 2 ^ i
def lvNext (L : Nat → List (Nat × Bool)) (i : Nat) (l : List (Nat × Bool)) : Nat → List (Nat × Bool) := fun d => if d = i + 1 then l else L d
theorem lvNext_at (L : Nat → List (Nat × Bool)) (i : Nat) (l : List (Nat × Bool)) : lvNext L i l (i + 1) = l := by unfold lvNext; rw [if_pos rfl]
theorem lvNext_lo (L : Nat → List (Nat × Bool)) (i : Nat) (l : List (Nat × Bool)) (d : Nat) (h : d ≤ i) : lvNext L i l d = L d := by unfold lvNext; rw [if_neg (by omega)]
theorem Lvs.next {wt : Nat → Nat} {n i : Nat} {L : Nat → List (Nat × Bool)} (h : Lvs wt n i L) (hw : ∀ j, j < n → wt j ≤ 1048576) {s : Nat → Int × Bool} (hp : PermF 0 (lvl wt n (L i)).length (rowC (lvl wt n (L i))) s) (hs : SortF Prod.fst s 0 (lvl wt n (L i)).length) :
    Lvs wt n (i + 1) (lvNext L i (lsC s (lvl wt n (L i)).length)) := by
  refine ⟨by rw [lvNext_lo _ _ _ _ (by omega)]; exact h.z, fun d hd => ?_, ?_, fun c hc => ?_⟩
  · by_cases hdi : d = i
    · subst hdi
      rw [lvNext_at, lvNext_lo _ _ _ _ (Nat.le_refl _)]
      exact lvl_lvc wt n (L d) hp hs
    · rw [lvNext_lo _ _ _ _ (by omega), lvNext_lo _ _ _ _ (by omega)]
      exact h.s d (by omega)
  · rw [lvNext_at, lsC_length, lvl_length]; have := h.len; omega
  · rw [lvNext_at] at hc
    have hm := (lsC_perm hp).mem_iff.1 hc
    have := lvl_high wt n (1048576 * 2 ^ i) (L i) h.hi (fun j hj => Nat.le_trans (hw j hj) (Nat.le_mul_of_pos_right _ (Nat.two_pow_pos _))) c hm
    rw [Nat.pow_succ]; omega
theorem pow_le15 (i : Nat) (h : i ≤ 15) : 2 ^ i ≤ 32768 := Nat.pow_le_pow_right (n := 2) (by omega) h

set_option maxRecDepth 20000 in
set_option maxHeartbeats 2000000 in
theorem levels_any (a0 : Option Addr) (len cap : Nat) (F : Nat → Int) (a1 : Option Addr) (n cap1 : Nat) (s : Nat → Nat) (m : Nat) (w : World) (hP : Wds w a0 len F)
    (hQ : I64s w (.slice a1 n cap1) n (fun i => (s i : Int))) (hn1 : 1 ≤ n) (hn : n ≤ 320) (hm2 : m ≤ 15) (hs : ∀ j, j < n → s j < len ∧ 0 ≤ F (s j) ∧ F (s j) ≤ 1048576) :
    Calls Tryd.prog 55 #[.slice a0 len cap, .slice a1 n cap1, .int .i64 (m : Int)] w fun e w' => (∃ L V, e = .returned (.slice (some ⟨w.heap.size, 0, none⟩) m m) ∧ Lvs (fun j => (F (s j)).toNat) n m L ∧ RowV w' w.heap.size m V ∧ ∀ d, d < m → LvAt (w.heap.size + 1) w' (V d) (L (d + 1))) ∧ Below w.heap.size w w' := by
  obtain ⟨wt, hwt⟩ : ∃ wt : Nat → Nat, Hid (∀ j, wt j = (F (s j)).toNat) := ⟨_, fun _ => rfl⟩
  rw [show (fun j => (F (s j)).toNat) = wt from funext fun j => (hwt.out j).symm]
  have hWB : Hid (∀ j, j < n → wt j ≤ 1048576) := fun j hj => by have := hs j hj; rw [hwt.out j]; omega
  have HP := Hid.mk' hP
  obtain ⟨ao', cap', e', hq⟩ := hQ.is
  cases e'
  obtain ⟨b1, off1, rfl, hb1, hc1⟩ := hq (by omega)
  have HQ := Hid.mk' hc1
  have HS := Hid.mk' hs
  obtain ⟨i0, hi, hz0, hz1, hz2⟩ := info_parts infoCo
  have KI := Hid.mk' hi
  have KZ0 := Hid.mk' hz0
  have KZ1 := Hid.mk' hz1
  have KZ2 := Hid.mk' hz2
  clear hi hz0 hz1 hz2 hP hQ hq hc1 hs
  have hmk := fun w => run_make_row' (P := Tryd.prog) 97 124 (.slice none 0 0) 24 Tryd.underlying97 infoSl rfl .i64 .i64 m (by omega) (by omega) w
  go_enter Tryd.func55, Tryd.ntmps55
  go_wp2_with fail
  clear hmk
  obtain ⟨w1, hw1⟩ : ∃ w1, Hid (w.alloc (.cells (madeCells #[.slice none 0 0] m) 124) = w1) := ⟨_, Hid.mk' rfl⟩
  have HB1 : Hid (Below w.heap.size w w1) := by rw [← hw1.out]; exact (Below.refl _ _).alloc (Nat.le_refl _) _
  have hs1 : w1.heap.size = w.heap.size + 1 := by rw [← hw1.out]; simp
  have HV1 : Hid (RowV w1 w.heap.size m (fun _ => .slice none 0 0)) := by rw [← hw1.out]; exact rowV_made _ _ _ _
  rw [hw1.out]
  go_loopw [8, 17] (fun bv iv wr => ∃ (i : Nat) (L : Nat → List (Nat × Bool)) (V : Nat → Value), i ≤ m ∧ iv = .int .i64 (i : Int) ∧ Lvs wt n i L ∧ Cos wr bv (L i) ∧ RowV wr w.heap.size m V ∧ (∀ d, d < i → LvAt (w.heap.size + 1) wr (V d) (L (d + 1))) ∧ Below w.heap.size w wr ∧ w.heap.size < wr.heap.size) (fun _ iv _ => m - (intOf iv).toNat)
  case atStart => exact ⟨0, fun _ => [], _, Nat.zero_le _, rfl, ⟨rfl, fun d hd => by omega, by simp, fun c hc => by simp at hc⟩, cos_nil _, HV1.out, fun d hd => by omega, HB1.out, by omega⟩
  case round =>
    obtain ⟨i, L, V, hi, rfl, hlv, hcos, hrv, hat, hbl, hsz⟩ := hrel
    obtain ⟨wo, hwo⟩ : ∃ wo : World, wo = wr := ⟨wr, rfl⟩
    subst hwo
    have HL := Hid.mk' hlv
    have HC := Hid.mk' hcos
    have HV := Hid.mk' hrv
    have HA := Hid.mk' hat
    have HB := Hid.mk' hbl
    clear hlv hcos hrv hat hbl
    by_cases hlt : i < m
    · have hbud : Hid (∀ c ∈ L i, c.1 ≤ 1000000000000) := fun c hc => by have := HL.out.hi c hc; have := pow_le15 i (by omega); omega
      have hll := HL.out.len
      go_wp2_with fail
      refine (pairs_any u8 (L i) _ HC.out (by omega) hbud.out).mono ?_
      rintro e w2 ⟨⟨u, rfl, hown⟩, hb2⟩
      have HO2 := Hid.mk' hown
      have HB2 := Hid.mk' hb2
      have hs2 := hb2.size
      have hpn : (prs ((L i).map Prod.fst)).length ≤ 320 := by rw [prs_length, List.length_map]; omega
      clear hown hb2
      generalize hPg : ((prs ((L i).map Prod.fst)).map fun c => (c, true)) = PL at HO2
      have hPl : PL.length ≤ 320 := by rw [← hPg, List.length_map]; exact hpn
      have HPg := Hid.mk' hPg
      clear hPg hpn
      go_wp2_with fail
      go_loopw [10, 24] (fun lv jv wr => ∃ j : Nat, j ≤ n ∧ jv = .int .i64 (j : Int) ∧ wr.ownsRow wo.heap.size 126 2 lv (PL ++ sgl wt j).length (coC (PL ++ sgl wt j)) ∧ Below wo.heap.size wo wr) (fun _ jv _ => n - (intOf jv).toNat)
      case atStart => exact ⟨0, Nat.zero_le _, rfl, by simp only [sgl, List.range_zero, List.map_nil, List.append_nil]; exact HO2.out, HB2.out⟩
      case round =>
        obtain ⟨j, hj, rfl, hown, hbl⟩ := hrel
        have HO := Hid.mk' hown
        have HBs := Hid.mk' hbl
        have hss := hbl.size
        have hle : (PL ++ sgl wt j).length = PL.length + j := by rw [List.length_append, sgl_length]
        have HBw := Hid.mk' (HB.out.trans (hbl.mono (by omega)))
        clear hown hbl
        by_cases hjn : j < n
        · have c0 := (HBw.out.cell (p := ⟨b1, off1 + j, none⟩) hb1).trans (HQ.out j hjn)
          have hS := HS.out j hjn
          obtain ⟨b0, off0, rfl, hb0, hc0⟩ := HP.out.at' (by omega)
          have c1 := (HBw.out.cell (p := ⟨b0, off0 + s j, none⟩) hb0).trans (hc0 (s j) hS.1)
          have hwj : F (s j) = (wt j : Int) := by rw [hwt.out j]; omega
          rw [hwj] at c1
          have hsl := hS.1
          have hwb := hWB.out j hjn
          have hst := Hid.mk' (sgl_snoc wt j)
          generalize s j = t at c0 c1 hsl
          generalize wt j = x at c1 hwb hst
          have hlen := HP.out.lenB
          clear hc0 hS hwj hwt
          go_wp2_with (at_builtin; refine wpList_append_own _ rfl (.tmp 28) (.tmp 34) 124 rfl wo.heap.size 126 i0 (.agg #[.int .i64 0, .bool false]) 2 16 Tryd.underlying124 KI.out KZ0.out KZ1.out KZ2.out rfl (by decide) u10 _ _ rfl (HO.out.alloc _) ⟨wr.heap.size, 0, none⟩ 1 1 (co2 (x, false)) rfl rfl (cells_co2 _ (x, false) _) (co2_one _) (by unfold maxLen; omega) (by omega) (by simp; omega) ?_; intro v5 w5 hown5 hgrow5 _)
          have HB5 : Hid (Below wo.heap.size wo w5) := (HBs.out.alloc hss _).grown hgrow5 (by simp; omega) fun i hi => (HO.out.lt i hi).1
          have HO5 : Hid (w5.ownsRow wo.heap.size 126 2 v5 (PL ++ sgl wt (j + 1)).length (coC (PL ++ sgl wt (j + 1)))) := by
            rw [hst.out, ← List.append_assoc, coC_snoc, List.length_append]; exact hown5
          clear hown5 hgrow5
          go_wp2_with fail
          go_roundw
          case rel => exact ⟨j + 1, by omega, by go_num, HO5.out, HB5.out⟩
          case measure => simp [intOf]; omega
        · have hjl : j = n := by omega
          subst hjl
          go_wp2_with fail
          refine (byKeyC_at _).mono ?_
          rintro e w' ⟨rfl, rfl⟩
          have hLv : Hid (PL ++ sgl wt j = lvl wt j (L i)) := by show _ = _; unfold lvl; rw [HPg.out]
          have HOl : Hid (wr.ownsRow wo.heap.size 126 2 u10 (lvl wt j (L i)).length (coC (lvl wt j (L i)))) := by rw [← hLv.out]; exact HO.out
          obtain ⟨q, hq⟩ : ∃ q, Hid ((lvl wt j (L i)).length = q) := ⟨_, Hid.mk' rfl⟩
          have hq0 : 0 < q := by rw [← hq.out, ← hLv.out, hle]; omega
          have hq1 : q ≤ 640 := by rw [← hq.out, ← hLv.out, hle]; omega
          obtain ⟨g, cp, hu, hg, hk1, hk2, hrow⟩ := rowco_of_own HOl.out (by rw [hq.out]; exact hq0)
          rw [hq.out] at hu hk1 hrow
          subst hu
          have hgl := hrow.lt
          obtain ⟨W2, hW2⟩ : ∃ W2, Hid (wr.alloc (.cells #[.func (.func 77) #[] #[]] 131) = W2) := ⟨_, Hid.mk' rfl⟩
          have HBl : Hid (Below wr.heap.size wr W2) := by rw [← hW2.out]; exact (Below.refl _ _).alloc (Nat.le_refl _) _
          have hsW : W2.heap.size = wr.heap.size + 1 := by rw [← hW2.out]; simp
          have HRw : Hid (RowCo W2 g q (rowC (lvl wt j (L i)))) := hrow.block (HBl.out.block g hgl) HBl.out.size
          have HOrd : Hid (OrdC W2 g wr.heap.size) := ⟨by rw [← hW2.out]; simp, by omega, by omega⟩
          rw [hW2.out]
          clear hrow
          go_wp2_with fail
          refine (sort_co g q cp wr.heap.size (rowC (lvl wt j (L i))) _ HOrd.out HRw.out (by omega)).mono ?_
          rintro e w3 ⟨rfl, s', h1, h2, h3⟩
          have h2' := h2
          rw [← hq.out] at h2'
          have HN := Hid.mk' (HL.out.next hWB.out h2' (by rw [hq.out]; exact h3))
          rw [hq.out] at HN
          have HBw3 : Hid (∀ k, k < wo.heap.size → w3.heap[k]? = wo.heap[k]?) := fun k hk => (h1.gr.block k (by omega) (by simp; omega)).trans ((HBl.out.block k (by omega)).trans (HBs.out.block k hk))
          have hs3 : wo.heap.size ≤ w3.heap.size := by have := h1.gr.size; omega
          have HB3 : Hid (Below wo.heap.size wo w3) := (HBs.out.trans (HBl.out.mono hss)).grown h1.gr (by omega) fun i hi => by cases hi; omega
          have HV3 : Hid (RowV w3 w.heap.size m V) := HV.out.block (HBw3.out _ hsz) hs3
          have HLa : Hid (LvAt (w.heap.size + 1) w3 (.slice (some ⟨g, 0, none⟩) q cp) (lsC s' q)) := by
            refine ⟨g, cp, by rw [lsC_length], by rw [lsC_length]; exact hk1, hk2, by omega, ?_⟩
            rw [lsC_length]
            exact h1.row.congr fun x hx => by have := lsC_is h2' x (by rw [hq.out]; exact hx); rwa [hq.out] at this
          have fv := HV3.out.open' i hlt
          have cv := HV3.out.cell i hlt
          clear h1 h2 h3 h2'
          generalize lsC s' q = l' at HN HLa
          go_wp2_with fail
          have HV4 : Hid (RowV (w3.setCell ⟨w.heap.size, i, none⟩ (.slice (some ⟨g, 0, none⟩) q cp)) w.heap.size m _) := HV3.out.set i hlt _
          have hsz4 : (w3.setCell ⟨w.heap.size, i, none⟩ (.slice (some ⟨g, 0, none⟩) q cp)).heap.size = w3.heap.size := by simp [World.setCell]
          have hblk : Hid (∀ k, k ≠ w.heap.size → (w3.setCell ⟨w.heap.size, i, none⟩ (.slice (some ⟨g, 0, none⟩) q cp)).heap[k]? = w3.heap[k]?) := fun k hk => heap_setCell_other _ _ _ _ (by simpa using hk)
          go_roundw
          case rel =>
            refine ⟨i + 1, lvNext L i l', _, by omega, by go_num, HN.out, ?_, HV4.out, fun d hd => ?_, ?_, by omega⟩
            · rw [lvNext_at]
              exact (HLa.out.keep (by omega) fun k hk _ => hblk.out k (by omega)).cos
            · by_cases hdi : d = i
              · subst hdi
                simp only [if_pos]
                rw [lvNext_at]
                exact HLa.out.keep (by omega) fun k hk _ => hblk.out k (by omega)
              · rw [if_neg hdi, lvNext_lo _ _ _ _ (by omega)]
                exact (HA.out d (by omega)).keep (by omega) fun k hk hk2 => (hblk.out k (by omega)).trans (HBw3.out k hk2)
            · exact (HB.out.trans (HB3.out.mono (by omega))).setCell (p := ⟨w.heap.size, i, none⟩) (Nat.le_refl _) _
          case measure => simp [intOf]; omega
    · have him : i = m := by omega
      subst him
      go_wp2_with fail
      go_ret
      exact ⟨⟨L, V, rfl, HL.out, HV.out, HA.out⟩, HB.out⟩
end Go.Proofs.YtcalbicfnhoklaaDoor
