/- The law HuffMerges, walked. -/
import Derived.Test.YthdgfanecfdlkaaKCostWalks
import Derived.Test.YthdgfanecfdlkaaMergeLawMath
import Derived.Test.YthdgfanecfdlkaaComesWalks
import Derived.Test.YthdgfanecfdlkaaCloneInts
import Derived.Test.YthdgfanecfdlkaaRFreqWalks
import Derived.Deep.QuietTactic
import Derived.BigQuiet
import Derived.SizedLaws
namespace Go.Proofs.Ythdgfanecfdlkaa
open Go.RowKit

theorem below_drewM {B : Nat} {a w : World} (h : Below B a w) (q : Nat) : Below B a (w.drewN q) := ⟨h.os, h.tape, h.output, h.size, h.block⟩
theorem wds_555 (w : World) (t : TypeId) : Wds (w.alloc (.cells #[.int .i64 5, .int .i64 5, .int .i64 5] t)) (some ⟨w.heap.size, 0, none⟩) 3 (fun _ => 5) := by
  refine ⟨by omega, fun _ => ⟨w.heap.size, 0, rfl, by simp, fun i hi => ?_⟩, fun i hi => by omega⟩
  rw [Nat.zero_add, World.cell?_alloc_new]
  rcases (by omega : i = 0 ∨ i = 1 ∨ i = 2) with rfl | rfl | rfl <;> rfl
theorem cellsN_is (l : List Nat) : cellsN l = cellsC (fun i => ((l.getD i 0 : Nat) : Int)) l.length := by
  have := cells_drop l 0
  simp only [Nat.zero_add, Nat.sub_zero, List.drop_zero] at this
  exact this.symm
theorem wds_list {w : World} {N : Nat} {v : Value} {l : List Nat} {n : Nat} (hn : l.length = n) (h : w.ownsRow N 3 1 v n (cellsN l)) (hl : n ≤ 320) (hb : ∀ v ∈ l, 0 < v ∧ v ≤ 1048576) : ∃ ao cap, v = .slice ao n cap ∧ Wds w ao n (fun i => ((l.getD i 0 : Nat) : Int)) := by
  subst hn
  rw [cellsN_is] at h
  refine wds_of_own h (by omega) fun i hi => ?_
  have := hb _ (List.getElem_mem hi)
  rw [List.getD_eq_getElem?_getD, List.getElem?_eq_getElem hi, Option.getD_some]
  omega
theorem cell_one_at {w : World} {b : Nat} {v : Value} (h : w.cell? ⟨b, 0, none⟩ = some v) : ∀ j u, [v][j]? = some u → w.cell? ((⟨b, 0, none⟩ : Addr).add j) = some u := by
  intro j u hj
  have hl := (List.getElem?_eq_some_iff.1 hj).1
  have h0 : j = 0 := by simpa using hl
  subst h0
  rw [add_plainC, Nat.zero_add, h]
  simpa using hj
theorem kc_ok {F : Nat → Int} {len : Nat} {most z : Int} (h : KcAns F len most z) (h0 : lensE F len most = 0) : ∃ n : Nat, z = n ∧ n ≤ 5033164800 ∧ Opt (wsL F len) most.toNat n := by
  rcases h with ⟨h1, _⟩ | ⟨_, n, e, hb, ho⟩
  · exact absurd h0 h1
  · exact ⟨n, e, hb, ho⟩
theorem lens_15 {F : Nat → Int} {len : Nat} (h : freqE F len = 0) (hl : (cmL F len).length ≤ 16) : lensE F len 15 = 0 := by
  unfold lensE
  rw [if_neg (by simp [h]), if_neg (by omega), if_neg]
  show ¬ 2 ^ 15 < (cmL F len).length
  omega
theorem k_555 {z : Int} (h : KcAns (fun _ => 5) 3 15 z) : z = 25 := by
  have h0 : lensE (fun _ => 5) 3 15 = 0 := by decide +kernel
  rcases h with ⟨h1, _⟩ | ⟨_, n, rfl, _, ho⟩
  · exact absurd h0 h1
  · have e : wsL (fun _ => 5) 3 = [5, 5, 5] := by decide +kernel
    rw [e] at ho
    have := ho.one opt_555
    omega

set_option maxRecDepth 20000 in
set_option maxHeartbeats 8000000 in
theorem huffMerges_walk (a0 : Option Addr) (len cap : Nat) (F : Nat → Int) (w : World) (w0 : Wds w a0 len F) :
    Calls Try.prog 4 #[.slice a0 len cap] w fun e w' => e = .returned (.bool true) ∧ Below w.heap.size w w' := by
  have HP := Hid.mk' w0
  have hlen := w0.lenB
  clear w0
  obtain ⟨i0, hi, hz0, hz1, hz2⟩ := info_parts infoI64
  have KI := Hid.mk' hi
  have KZ0 := Hid.mk' hz0
  have KZ1 := Hid.mk' hz1
  have KZ2 := Hid.mk' hz2
  clear hi hz0 hz1 hz2
  go_enter Try.func4, Try.ntmps4
  go_wp2_with fail
  refine (kcost_any _ 3 3 (fun _ => 5) 15 _ (wds_555 w 3) (by omega)).mono ?_
  rintro e wa ⟨⟨z, rfl, hans⟩, hb⟩
  obtain rfl : z = 25 := k_555 hans
  have HBa : Hid (Below w.heap.size w wa) := ((Below.refl _ _).alloc (Nat.le_refl _) _).trans (hb.mono (by simp))
  have HPa : Hid (Wds wa a0 len F) := wds_below HP.out HBa.out
  clear hans hb
  go_wp2_with fail
  refine (rfreq_any a0 len cap F _ HPa.out).mono ?_
  rintro e w' ⟨rfl, hw'⟩; obtain rfl := hw'.symm
  by_cases hE : freqE F len = 0
  · rw [hE]
    obtain ⟨hl3, hF⟩ := freqE_zero hE
    have HF := Hid.mk' hF
    have HE := Hid.mk' hE
    clear hE hF
    go_wp2_with fail
    refine (comes_any a0 len cap F _ HPa.out hl3 HF.out).mono ?_
    rintro e w2 ⟨⟨v, rfl, hown⟩, hb2⟩
    have HB2 : Hid (Below w.heap.size w w2) := HBa.out.trans (hb2.mono HBa.out.size)
    have hs2 := hb2.size
    clear hb2
    obtain ⟨c, hc⟩ : ∃ c, (comL F len).length = c := ⟨_, rfl⟩
    have hcb : c ≤ 320 := by rw [← hc, com_len F len (fun i hi => (HF.out i hi).1)]; exact Nat.le_trans (cmL_len F len) hl3
    have HC := Hid.mk' hc
    by_cases h3 : c < 3
    · rw [hc] at hown
      obtain ⟨ao, cp, rfl⟩ := own_sl hown
      have d3 : decide ((c : Int) < 3) = true := decide_eq_true (by omega)
      clear hown hc
      go_wp2_with fail
      go_quiet (fail)
      go_wp2_with fail
      go_ret
      exact ⟨rfl, below_drewM HB2.out _⟩
    · by_cases h16 : 16 < c
      · rw [hc] at hown
        obtain ⟨ao, cp, rfl⟩ := own_sl hown
        have d3 : decide ((c : Int) < 3) = false := decide_eq_false (by omega)
        have d4 : decide ((16 : Int) < (c : Int)) = true := decide_eq_true (by omega)
        clear hown hc
        go_wp2_with fail
        go_quiet (fail)
        go_wp2_with fail
        go_ret
        exact ⟨rfl, below_drewM HB2.out _⟩
      · obtain ⟨c2, hc2⟩ : ∃ c2, c = c2 + 2 := ⟨c - 2, by omega⟩
        obtain ⟨ws, y, x, hL, hwl⟩ := split_two (comL F len) c2 (by omega)
        have HL := Hid.mk' hL
        have HWl := Hid.mk' hwl
        obtain ⟨g, cp, rfl, hgN, hrow⟩ := row_of_own hown (by omega)
        have hcap := own_cap hown
        have hpos := com_pos F len HF.out
        rw [hL] at hpos
        have hxb := hpos x (by simp)
        have hyb := hpos y (by simp)
        have HPos := Hid.mk' hpos
        rw [hc] at hrow hcap ⊢
        obtain ⟨c1, hc1⟩ : ∃ c1, Hid (c1 = c2 + 1) := ⟨_, Hid.mk' rfl⟩
        have cx : w2.cell? ⟨g, c1, none⟩ = some (.int .i64 (x : Int)) := by
          rw [hrow.cell c1 (by rw [hc1.out]; omega), hL, hc1.out, ← hwl, getD_hi]; rfl
        have cy : w2.cell? ⟨g, c2, none⟩ = some (.int .i64 (y : Int)) := by
          have := getD_hi ws [y, x] 0
          rw [hrow.cell c2 (by omega), hL, ← hwl]
          rw [Nat.add_zero] at this
          rw [this]; rfl
        have HRow := Hid.mk' hrow
        have hcp1 : c ≤ cp := hcap.1
        have hcp2 : cp ≤ 9223372036854775807 := hcap.2
        have hgl : g < w2.heap.size := hrow.lt
        have e1 : IntKind.i64.wrap ((c : Int) - 1) = (c1 : Int) := by rw [IntKind.wrap_i64, hc1.out]; omega
        have e2 : IntKind.i64.wrap ((c : Int) - 2) = (c2 : Int) := by rw [IntKind.wrap_i64]; omega
        obtain ⟨s, hs⟩ : ∃ s, Hid (s = x + y) := ⟨_, Hid.mk' rfl⟩
        have e3 : IntKind.i64.wrap ((x : Int) + (y : Int)) = (s : Int) := by rw [IntKind.wrap_i64, hs.out]; omega
        have hc1b : c1 < c := by rw [hc1.out]; omega
        have hc2b : c2 < c := by omega
        have hc2c : c2 ≤ cp := by omega
        have HC2 := Hid.mk' hc2
        have d3 : decide ((c : Int) < 3) = false := decide_eq_false (by omega)
        have d4 : decide ((16 : Int) < (c : Int)) = false := decide_eq_false (by omega)
        have HC16 : Hid (3 ≤ c ∧ c ≤ 16) := ⟨by omega, by omega⟩
        clear hown hrow hcap hpos hL hwl hc hc2 h3 h16
        by_cases hbig : 1048576 < s
        · have d5 : decide ((1048576 : Int) < (s : Int)) = true := decide_eq_true (by omega)
          go_wp2_with fail
          go_quiet (fail)
          go_wp2_with fail
          go_ret
          exact ⟨rfl, below_drewM HB2.out _⟩
        · have d5 : decide ((1048576 : Int) < (s : Int)) = false := decide_eq_false (by omega)
          go_wp2_with fail
          go_quiet (fail)
          go_wp2_with fail
          obtain ⟨w3, hw3⟩ : ∃ w3, w2.drewN nq = w3 := ⟨_, rfl⟩
          have HB3 : Hid (Below w.heap.size w w3) := by rw [← hw3]; exact below_drewM HB2.out _
          have hs3 : Hid (w3.heap.size = w2.heap.size) := by show _ = _; rw [← hw3]; rfl
          have cx3 : w3.cell? ⟨g, c1, none⟩ = some (.int .i64 (x : Int)) := by rw [← hw3]; exact cx
          have cy3 : w3.cell? ⟨g, c2, none⟩ = some (.int .i64 (y : Int)) := by rw [← hw3]; exact cy
          have HRo : Hid (Row64 w3 g c (fun i => (((comL F len).getD i 0 : Nat) : Int))) := by rw [← hw3]; exact ⟨HRow.out.cell, HRow.out.open', HRow.out.lt⟩
          rw [hw3]
          have hgl3 : g < w3.heap.size := by rw [hs3.out]; exact hgl
          clear hw3 HRow cx cy HB2 hs2
          have HW0 : Wds w3 (some ⟨g, 0, none⟩) c2 (fun i => ((ws.getD i 0 : Nat) : Int)) := by
            refine ⟨by omega, fun _ => ⟨g, 0, rfl, hgl3, fun i hi => ?_⟩, fun i hi => ?_⟩
            · rw [Nat.zero_add]
              refine (HRo.out.cell i (by omega)).trans ?_
              show some (Value.int .i64 (((comL F len).getD i 0 : Nat) : Int)) = some (Value.int .i64 ((ws.getD i 0 : Nat) : Int))
              rw [HL.out, getD_lo _ _ _ (by rw [HWl.out]; exact hi)]
            · have hi' : i < ws.length := by rw [HWl.out]; exact hi
              have := HPos.out _ (List.mem_append_left [y, x] (List.getElem_mem hi'))
              rw [List.getD_eq_getElem?_getD, List.getElem?_eq_getElem hi', Option.getD_some]
              omega
          have HWa : Hid (Wds w3.drew (some ⟨g, 0, none⟩) c2 (fun i => ((ws.getD i 0 : Nat) : Int))) := wds_below HW0 (Below.refl _ _).drew
          have HWb : Hid (Wds (w3.alloc (.cells #[.int .i64 (s : Int)] 3)).drew (some ⟨g, 0, none⟩) c2 (fun i => ((ws.getD i 0 : Nat) : Int))) := wds_below HW0 ((Below.refl _ _).alloc (Nat.le_refl _) _).drew
          clear HW0
          have HXb : Hid ((w3.alloc (.cells #[.int .i64 (s : Int)] 3)).drew.cell? ⟨w3.heap.size, 0, none⟩ = some (.int .i64 (s : Int))) := by show (w3.alloc (.cells #[.int .i64 (s : Int)] 3)).cell? ⟨w3.heap.size, 0, none⟩ = _; rw [World.cell?_alloc_new]; rfl
          have cxb := (((Below.refl w3.heap.size w3).alloc (Nat.le_refl _) (.cells #[.int .i64 (s : Int)] 3)).drew.cell (p := ⟨g, c1, none⟩) hgl3).trans cx3
          have cyb := (((Below.refl w3.heap.size w3).alloc (Nat.le_refl _) (.cells #[.int .i64 (s : Int)] 3)).drew.cell (p := ⟨g, c2, none⟩) hgl3).trans cy3
          go_region_held3 (fun X => X.cell? ⟨g, c1, none⟩ = some (.int .i64 (x : Int)) ∧ X.cell? ⟨g, c2, none⟩ = some (.int .i64 (y : Int))) (first | exact ⟨cx5, cy5⟩ | exact ⟨cx4a, cy4a⟩ | exact ⟨cx4, cy4⟩ | exact ⟨cxb, cyb⟩ | exact ⟨cx3, cy3⟩) (first | (go_at_call 11; first | (refine (cloneI_any _ c2 cp (fun i => ((ws.getD i 0 : Nat) : Int)) _ HWa.out (by omega)).mono ?_; rintro e w4 ⟨⟨v4, rfl, ho4⟩, hb4⟩; have HOA := Hid.mk' ho4; have HBA := Hid.mk' hb4; have cx4 := (hb4.cell (p := ⟨g, c1, none⟩) hgl3).trans cx3; have cy4 := (hb4.cell (p := ⟨g, c2, none⟩) hgl3).trans cy3; have cx4a := (((Below.refl w4.heap.size w4).alloc (Nat.le_refl _) (.cells #[.int .i64 (s : Int)] 3)).cell (p := ⟨g, c1, none⟩) (Nat.lt_of_lt_of_le hgl3 hb4.size)).trans cx4; have cy4a := (((Below.refl w4.heap.size w4).alloc (Nat.le_refl _) (.cells #[.int .i64 (s : Int)] 3)).cell (p := ⟨g, c2, none⟩) (Nat.lt_of_lt_of_le hgl3 hb4.size)).trans cy4; clear ho4 hb4) | (refine (cloneI_any _ c2 cp (fun i => ((ws.getD i 0 : Nat) : Int)) _ HWb.out (by omega)).mono ?_; rintro e w4 ⟨⟨v4, rfl, ho4⟩, hb4⟩; have HOB := Hid.mk' ho4; have HBB := Hid.mk' hb4; have cx4 := (hb4.cell (p := ⟨g, c1, none⟩) (show g < (w3.alloc (.cells #[.int .i64 (s : Int)] 3)).heap.size by simp; omega)).trans cxb; have cy4 := (hb4.cell (p := ⟨g, c2, none⟩) (show g < (w3.alloc (.cells #[.int .i64 (s : Int)] 3)).heap.size by simp; omega)).trans cyb; have HX4 := Hid.mk' ((hb4.cell (p := ⟨w3.heap.size, 0, none⟩) (show w3.heap.size < (w3.alloc (.cells #[.int .i64 (s : Int)] 3)).heap.size by simp)).trans HXb.out); clear ho4 hb4)) | (refine step_append_own rfl (.tmp 43) (.tmp 55) 22 rfl w3.heap.size 3 i0 (.int .i64 0) 1 8 Try.underlying22 KI.out KZ0.out KZ1.out KZ2.out rfl (by decide) v4 c2 _ rfl (by exact HOA.out.alloc _) ⟨w4.heap.size, 0, none⟩ 1 1 [.int .i64 (s : Int)] rfl rfl (cell_one_new _ _ _) (one_int _ _) (by unfold maxLen; omega) (by omega) (by show w3.drew.heap.size ≤ _; exact Nat.le_trans HBA.out.size (by simp)) ?_; intro v5 w5 hown5 hgrow5; have HB5 : Hid (Below w3.heap.size w3 w5) := (((Below.refl w3.heap.size w3).drew.trans HBA.out).alloc HBA.out.size _).grown hgrow5 (by show w3.drew.heap.size ≤ _; exact Nat.le_trans HBA.out.size (by simp)) fun i hi => (HOA.out.lt i hi).1; have HO5 : Hid (∃ N, w5.ownsRow N 3 1 v5 (c2 + 1) (cellsC (fun i => ((ws.getD i 0 : Nat) : Int)) c2 ++ [.int .i64 (s : Int)])) := ⟨_, hown5⟩; have cx5 := (HB5.out.cell (p := ⟨g, c1, none⟩) hgl3).trans cx3; have cy5 := (HB5.out.cell (p := ⟨g, c2, none⟩) hgl3).trans cy3; clear hown5 hgrow5) | (refine step_append_own rfl (.tmp 43) (.tmp 55) 22 rfl (w3.alloc (.cells #[.int .i64 (s : Int)] 3)).heap.size 3 i0 (.int .i64 0) 1 8 Try.underlying22 KI.out KZ0.out KZ1.out KZ2.out rfl (by decide) v4 c2 _ rfl (by exact HOB.out) ⟨w3.heap.size, 0, none⟩ 1 1 [.int .i64 (s : Int)] rfl rfl (cell_one_at HX4.out) (one_int _ _) (by unfold maxLen; omega) (by omega) (by exact HBB.out.size) ?_; intro v5 w5 hown5 hgrow5; have HB5 : Hid (Below w3.heap.size w3 w5) := ((((Below.refl w3.heap.size w3).alloc (Nat.le_refl _) _).drew).trans (HBB.out.mono (show w3.heap.size ≤ (w3.alloc (.cells #[.int .i64 (s : Int)] 3)).heap.size by simp))).grown hgrow5 (Nat.le_trans (show w3.heap.size ≤ (w3.alloc (.cells #[.int .i64 (s : Int)] 3)).heap.size by simp) HBB.out.size) fun i hi => Nat.le_trans (show w3.heap.size ≤ (w3.alloc (.cells #[.int .i64 (s : Int)] 3)).heap.size by simp) (HOB.out.lt i hi).1; have HO5 : Hid (∃ N, w5.ownsRow N 3 1 v5 (c2 + 1) (cellsC (fun i => ((ws.getD i 0 : Nat) : Int)) c2 ++ [.int .i64 (s : Int)])) := ⟨_, hown5⟩; have cx5 := (HB5.out.cell (p := ⟨g, c1, none⟩) hgl3).trans cx3; have cy5 := (HB5.out.cell (p := ⟨g, c2, none⟩) hgl3).trans cy3; clear hown5 hgrow5) | fail)
          all_goals
            obtain ⟨N5, ho5⟩ := HO5.out
            obtain ⟨ao, cp5, rfl, hw5⟩ := wds_list (l := ws ++ [s]) (n := c2 + 1) (by rw [List.length_append, HWl.out]; rfl) (by rw [cellsN_snoc, cellsN_is, HWl.out]; exact ho5) (by omega) (fun u hu => by
              rcases List.mem_append.1 hu with h | h
              · exact HPos.out u (List.mem_append_left _ h)
              · have h1 := List.mem_singleton.1 h
                have h2 := hs.out
                omega)
            rw [← hc1.out] at hw5 ⊢
            have HW5 := Hid.mk' hw5
            have HB5w : Hid (Below w.heap.size w w5) := HB3.out.trans (HB5.out.mono HB3.out.size)
            have HP5 : Hid (Wds w5.drew a0 len F) := wds_below HP.out HB5w.out.drew
            have HLz1 : Hid (lensE F len 15 = 0) := lens_15 HE.out (by rw [← com_len F len (fun i hi => (HF.out i hi).1), HC.out]; have := HC16.out; omega)
            have hwl2 : (ws ++ [s]).length = c1 := by rw [List.length_append, HWl.out, hc1.out]; rfl
            have HLz2 : Hid (lensE (fun i => (((ws ++ [s]).getD i 0 : Nat) : Int)) c1 15 = 0) := lens_15 (freqE_mk (by omega) (fun i hi => by
              have hi' : i < (ws ++ [s]).length := by rw [hwl2]; exact hi
              have hm := List.getElem_mem hi'
              show (0 : Int) ≤ (((ws ++ [s]).getD i 0 : Nat) : Int) ∧ (((ws ++ [s]).getD i 0 : Nat) : Int) ≤ 1048576
              rw [List.getD_eq_getElem?_getD, List.getElem?_eq_getElem hi', Option.getD_some]
              rcases List.mem_append.1 hm with h | h
              · have := HPos.out _ (List.mem_append_left [y, x] h); omega
              · have h1 := List.mem_singleton.1 h; rw [h1]; omega)) (Nat.le_trans (cmL_len _ _) (by have := hc1.out; have := HC2.out; have := HC16.out; omega))
            have HMer : Hid (∀ n n2, Opt (wsL F len) 15 n → Opt (wsL (fun i => (((ws ++ [s]).getD i 0 : Nat) : Int)) c1) 15 n2 → n = n2 + x + y) := fun n n2 h1 h2 => by
              rw [← hwl2, ws_all (ws ++ [s]) (fun u hu => by
                rcases List.mem_append.1 hu with h | h
                · exact (HPos.out u (List.mem_append_left _ h)).1
                · have h1 := List.mem_singleton.1 h
                  have h2 := hs.out
                  omega), hs.out] at h2
              exact merged HF.out HL.out (by rw [HWl.out]; have := HC2.out; have := HC16.out; omega) (by rw [HWl.out]; have := HC2.out; have := HC16.out; omega) h1 h2
            have hgl5 : g < w5.heap.size := Nat.lt_of_lt_of_le hgl3 HB5.out.size
            clear ho5 hw5 hwl2
            go_wp2_with fail
            go_region_held3 (fun X => X.cell? ⟨g, c1, none⟩ = some (.int .i64 (x : Int)) ∧ X.cell? ⟨g, c2, none⟩ = some (.int .i64 (y : Int))) (first | exact ⟨cx7, cy7⟩ | exact ⟨cx6, cy6⟩ | exact ⟨cx5, cy5⟩) ((go_at_call 5; refine (kcost_any _ _ _ _ _ _ (by first | exact HP5.out | exact HW6.out | fail) (by omega)).mono ?_; first | (rintro e w6 ⟨⟨z1, rfl, hans1⟩, hb6⟩; obtain ⟨n1, rfl, hn1, ho1⟩ := kc_ok hans1 HLz1.out; have HO1 := Hid.mk' ho1; have hb6' := (Below.refl w5.heap.size w5).drew.trans hb6; have HB6 := Hid.mk' hb6'; have cx6 := (hb6'.cell (p := ⟨g, c1, none⟩) hgl5).trans cx5; have cy6 := (hb6'.cell (p := ⟨g, c2, none⟩) hgl5).trans cy5; have HW6 := Hid.mk' (wds_below HW5.out hb6'); clear hans1 ho1 hb6 hb6') | (rintro e w7 ⟨⟨z2, rfl, hans2⟩, hb7⟩; obtain ⟨n2, rfl, hn2, ho2⟩ := kc_ok hans2 HLz2.out; have hmer := HMer.out _ _ HO1.out ho2; have HB7 := Hid.mk' hb7; have hgl6 := Nat.lt_of_lt_of_le hgl5 HB6.out.size; have cx7 := (hb7.cell (p := ⟨g, c1, none⟩) hgl6).trans cx6; have cy7 := (hb7.cell (p := ⟨g, c2, none⟩) hgl6).trans cy6; obtain ⟨p1, hp1⟩ : ∃ p1, p1 = n2 + x := ⟨_, rfl⟩; have ew1 : IntKind.i64.wrap ((n2 : Int) + (x : Int)) = (p1 : Int) := (by rw [IntKind.wrap_i64, hp1]; omega); have ew2 : IntKind.i64.wrap ((p1 : Int) + (y : Int)) = (n1 : Int) := (by rw [IntKind.wrap_i64]; omega); have hee : ((n1 : Int) == (n1 : Int)) = true := (by simp); clear hans2 ho2 hb7 hmer hp1) | fail))
            all_goals
              go_wp2_with fail
              go_ret
              exact ⟨rfl, HB5w.out.trans ((HB6.out.trans (HB7.out.mono HB6.out.size)).mono HB5w.out.size)⟩
  · have hne : lensE F len 15 ≠ 0 := by rw [lensE_freq hE]; exact hE
    have HN := Hid.mk' hne
    have hn2 := freqE_ne hE
    have his := freqE_is F len
    obtain ⟨x, hx⟩ : ∃ x, Hid (freqE F len = x) := ⟨_, Hid.mk' rfl⟩
    rw [hx.out] at hn2 his ⊢
    clear hE hne
    go_wp2_with fail
    refine (kcost_any a0 len cap F 15 _ HPa.out (by omega)).mono ?_
    rintro e w2 ⟨⟨z, rfl, hans⟩, hb2⟩
    obtain rfl : z = -1 := by
      rcases hans with ⟨_, h⟩ | ⟨h, _⟩
      · exact h
      · exact absurd h HN.out
    have HB2 : Hid (Below w.heap.size w w2) := HBa.out.trans (hb2.mono HBa.out.size)
    clear hans hb2
    go_wp2_with fail
    go_ret
    exact ⟨rfl, HB2.out⟩
end Go.Proofs.Ythdgfanecfdlkaa
