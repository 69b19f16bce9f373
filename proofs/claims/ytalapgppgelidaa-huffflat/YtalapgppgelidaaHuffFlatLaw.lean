/- The law HuffFlat, walked. -/
import Derived.Test.YtalapgppgelidaaKCostWalks
import Derived.Test.YtalapgppgelidaaFlatMath
import Derived.Test.YtalapgppgelidaaFlatIndex
import Derived.Test.YtalapgppgelidaaWithinWalks
import Derived.Test.YtalapgppgelidaaPow2Walks
import Derived.SizedLaws
namespace Go.Proofs.Ytalapgppgelidaa
open Go.RowKit

set_option maxRecDepth 20000 in
set_option maxHeartbeats 8000000 in
theorem huffFlat_walk (a0 : Option Addr) (len cap : Nat) (F : Nat → Int) (a1 a2 a3 : Int) (w : World) (w0 : Wds w a0 len F) (w1 : (Lit.int .i64 a1).wf = true) (w2 : (Lit.int .i64 a2).wf = true) (w3 : (Lit.int .i64 a3).wf = true) :
    Calls Try.prog 7 #[.slice a0 len cap, .int .i64 a1, .int .i64 a2, .int .i64 a3] w fun e w' => e = .returned (.bool true) ∧ Below w.heap.size w w' := by
  obtain ⟨b1, b2⟩ := bounds_i64 w1
  have H2 := Hid.mk' (bounds_i64 w2)
  have H3 := Hid.mk' (bounds_i64 w3)
  have HP := Hid.mk' w0
  have hlen := w0.lenB
  clear w0 w1 w2 w3
  go_enter Try.func7, Try.ntmps7
  go_wp2_with fail
  have HBb : Hid (Below w.heap.size w (w.alloc (.cells #[.int .i64 a2] 3))) := (Below.refl _ _).alloc (Nat.le_refl _) _
  refine (kcost_any a0 len cap F a1 _ (wds_below HP.out HBb.out) ⟨b1, b2⟩).mono ?_
  rintro e w1 ⟨⟨x, rfl, hans⟩, hb1⟩
  have HB1 : Hid (Below w.heap.size w w1) := HBb.out.trans (hb1.mono (by simp))
  have HSZ1 : Hid (w.heap.size < w1.heap.size) := by have := hb1.size; simp at this; show _ < _; omega
  have CB1 : Hid (w1.cell? ⟨w.heap.size, 0, none⟩ = some (.int .i64 a2)) := (hb1.cell (p := ⟨w.heap.size, 0, none⟩) (by simp)).trans (by rw [World.cell?_alloc_new]; rfl)
  have FB1 : Hid (w1.frozen? ⟨w.heap.size, 0, none⟩ = false) := (hb1.frozen (p := ⟨w.heap.size, 0, none⟩) (by simp)).trans (by unfold World.frozen?; rw [heap_alloc_new]; rfl)
  clear hb1
  rcases hans with ⟨_, rfl⟩ | ⟨h0, n, rfl, hnb, hopt0⟩
  · obtain ⟨wc, hwc⟩ : ∃ wc, wc = w1 := ⟨_, rfl⟩
    subst hwc
    have HBc := HB1
    have CB := CB1
    have FB := FB1
    have HSZ := HSZ1
    clear HB1 CB1 FB1 HSZ1
    by_cases hm : a1 < 15
    all_goals
      have cb := CB.out
      have fb := FB.out
      have hsz := HSZ.out
      go_wp2_with fail
      refine (within_at a2 8 _ H2.out.1 H2.out.2 (by omega) (by omega)).mono ?_
      rintro e w' ⟨⟨m8, rfl, hm8⟩, hw'⟩; obtain rfl := hw'.symm
      obtain ⟨k, hk⟩ : ∃ k : Nat, (1 : Int) + (m8 : Int) = (k : Int) := ⟨m8 + 1, by omega⟩
      have hk1 : 1 ≤ k := by omega
      have hk8 : k ≤ 8 := by omega
      clear hm8
      go_wp2_with fail
      refine (within_at a3 1048576 _ H3.out.1 H3.out.2 (by omega) (by omega)).mono ?_
      rintro e w' ⟨⟨mf, rfl, hmf⟩, hw'⟩; obtain rfl := hw'.symm
      obtain ⟨f, hf⟩ : ∃ f : Nat, (1 : Int) + (mf : Int) = (f : Int) := ⟨mf + 1, by omega⟩
      have hf1 : 0 < f := by omega
      have hf2 : f ≤ 1048576 := by omega
      clear hmf
      obtain ⟨p, hp⟩ : ∃ p : Nat, Hid (2 ^ k = p) := ⟨_, Hid.mk' rfl⟩
      have hpz : (2 : Int) ^ k = (p : Int) := by rw [← hp.out]; norm_cast
      have hpb : p ≤ 256 := by rw [← hp.out]; exact Nat.pow_le_pow_right (n := 2) (by decide) hk8
      have hmk := fun w => run_make_row' (P := Try.prog) 22 3 (.int .i64 0) 8 Try.underlying22 infoI64 rfl .i64 .i64 p (by omega) (by omega) w
      have HE : Hid (lensE (fun _ => (f : Int)) p 15 = 0) := by show _ = _; rw [← hp.out]; exact even_lens f hf1 hf2 k hk8
      have hss : (wc.setCell ⟨w.heap.size, 0, none⟩ (.int .i64 (k : Int))).heap.size = wc.heap.size := by simp [World.setCell]
      have HR4 : Hid (Row64 ((wc.setCell ⟨w.heap.size, 0, none⟩ (.int .i64 (k : Int))).alloc (.cells (madeCells #[.int .i64 0] p) 3)) wc.heap.size p (fun i => if i < 0 then (f : Int) else 0)) := by
        have h := row64_made (wc.setCell ⟨w.heap.size, 0, none⟩ (.int .i64 (k : Int))) p 3
        rw [hss] at h
        exact h.congr fun i _ => by rw [if_neg (by omega)]
      have HB4 : Hid (Below w.heap.size w ((wc.setCell ⟨w.heap.size, 0, none⟩ (.int .i64 (k : Int))).alloc (.cells (madeCells #[.int .i64 0] p) 3))) := (HBc.out.setCell (Nat.le_refl _) _).alloc (by rw [hss]; omega) _
      have HX4 : Hid (((wc.setCell ⟨w.heap.size, 0, none⟩ (.int .i64 (k : Int))).alloc (.cells (madeCells #[.int .i64 0] p) 3)).cell? ⟨w.heap.size, 0, none⟩ = some (.int .i64 (k : Int))) := by
        refine (((Below.refl _ _).alloc (Nat.le_refl _) _).cell (p := ⟨w.heap.size, 0, none⟩) (by rw [hss]; exact hsz)).trans ?_
        exact World.cell?_setCell_same _ _ _ cb
      clear hss
      go_wp2_with fail
      go_loopw [74] (fun i wr => ∃ j : Nat, j ≤ p ∧ i = .int .i64 j ∧ Row64 wr wc.heap.size p (fun t => if t < j then (f : Int) else 0) ∧ Below w.heap.size w wr ∧ wr.cell? ⟨w.heap.size, 0, none⟩ = some (.int .i64 (k : Int))) (fun i _ => p - (intOf i).toNat)
      case atStart => exact ⟨0, Nat.zero_le _, rfl, HR4.out, HB4.out, HX4.out⟩
      case round =>
        obtain ⟨j, hj, rfl, hrow, hbel, hbox⟩ := hrel
        by_cases hlt : j < p
        · have c := hrow.cell j hlt
          have fz := hrow.open' j hlt
          have HR : Hid (Row64 (wr.setCell ⟨wc.heap.size, j, none⟩ (.int .i64 (f : Int))) wc.heap.size p (fun t => if t < j + 1 then (f : Int) else 0)) := (hrow.set j hlt (f : Int)).congr fun i hi => by
            by_cases e : i = j
            · subst e; rw [if_pos rfl, if_pos (by omega)]
            · rw [if_neg e]
              by_cases h : i < j
              · rw [if_pos h, if_pos (by omega)]
              · rw [if_neg h, if_neg (by omega)]
          have HBx := Hid.mk' (hbel.setCell (p := ⟨wc.heap.size, j, none⟩) (show w.heap.size ≤ wc.heap.size by omega) (.int .i64 (f : Int)))
          have HX : Hid ((wr.setCell ⟨wc.heap.size, j, none⟩ (.int .i64 (f : Int))).cell? ⟨w.heap.size, 0, none⟩ = some (.int .i64 (k : Int))) := by
            show _ = _
            rw [World.cell?_setCell_other _ _ _ _ (by intro h; simp only [Addr.mk.injEq] at h; omega)]
            exact hbox
          clear hrow hbel hbox cb fb
          go_wp2_with fail
          go_roundw
          case rel => exact ⟨j + 1, by omega, by go_num, HR.out, HBx.out, HX.out⟩
          case measure => simp [intOf]; omega
        · have HR : Hid (Wds wr (some ⟨wc.heap.size, 0, none⟩) p (fun _ => (f : Int))) :=
            ⟨by omega, fun _ => ⟨_, 0, rfl, hrow.lt, fun i hi => by rw [Nat.zero_add]; exact (hrow.cell i hi).trans (by rw [if_pos (by omega)])⟩, fun i hi => by omega⟩
          have HBx := Hid.mk' hbel
          have HX := Hid.mk' hbox
          have hwl := hrow.lt
          clear hrow hbel hbox cb fb
          go_wp2_with fail
          refine (hlens_any (some ⟨wc.heap.size, 0, none⟩) p p (fun _ => (f : Int)) 15 _ HR.out (by omega)).mono ?_
          rintro e w5 ⟨⟨v, rfl, hans⟩, hb5⟩
          rw [HE.out]
          rcases hans with ⟨hne5, _⟩ | ⟨_, T, g5, rfl, hg5, hrow5, hok⟩
          · exact absurd HE.out hne5
          have HC5 : Hid (∀ i, i < p → w5.cell? ⟨g5, i, none⟩ = some (.int .i64 (k : Int))) := fun i hi => by
            rw [hrow5.cell i hi, even_same f hf1 k hk1 hk8 (T := T) (by rw [hp.out]; exact hok) i (by rw [hp.out]; exact hi)]
          have HX5 : Hid (w5.cell? ⟨w.heap.size, 0, none⟩ = some (.int .i64 (k : Int))) := (hb5.cell (p := ⟨w.heap.size, 0, none⟩) (show w.heap.size < wr.heap.size by omega)).trans HX.out
          have HB5 : Hid (Below w.heap.size w w5) := HBx.out.trans (hb5.mono (show w.heap.size ≤ wr.heap.size by omega))
          have hpp : ((p : Int) == (p : Int)) = true := by simp
          clear hb5 hrow5 hok hg5
          go_wp2_with fail
          refine (contains_none g5 p p (k : Int) w.heap.size _ (by omega) HX5.out HC5.out).mono ?_
          rintro e w' ⟨rfl, hw'⟩; obtain rfl := hw'.symm
          go_wp2_with fail
          go_ret
          exact ⟨rfl, HB5.out⟩
  · obtain ⟨hq1, hq2, hq3, hq4⟩ := lensE_zero h0
    have HF := Hid.mk' (freqE_zero hq1).2
    have hl3 := (freqE_zero hq1).1
    have H0 := Hid.mk' h0
    obtain ⟨m, rfl⟩ : ∃ m : Nat, a1 = m := ⟨a1.toNat, by omega⟩
    rw [Int.toNat_natCast] at hq4 hopt0
    have HRm := Hid.mk' hq4
    have hopt := Hid.mk' hopt0
    have hm1 : 1 ≤ m := by omega
    have hm15 : m ≤ 15 := by omega
    clear hq1 hq2 hq3 hq4 h0 hopt0 b1 b2
    by_cases hm : m < 15
    · have hz0 : ((m : Int) < 15) := by omega
      go_wp2_with fail
      refine (kcost_any a0 len cap F ((m : Int) + 1) _ (wds_below HP.out HB1.out) (by omega)).mono ?_
      rintro e wc ⟨⟨x, rfl, hans⟩, hb2⟩
      have HBc : Hid (Below w.heap.size w wc) := HB1.out.trans (hb2.mono HB1.out.size)
      have CB : Hid (wc.cell? ⟨w.heap.size, 0, none⟩ = some (.int .i64 a2)) := (hb2.cell (p := ⟨w.heap.size, 0, none⟩) HSZ1.out).trans CB1.out
      have FB : Hid (wc.frozen? ⟨w.heap.size, 0, none⟩ = false) := (hb2.frozen (p := ⟨w.heap.size, 0, none⟩) HSZ1.out).trans FB1.out
      have HSZ : Hid (w.heap.size < wc.heap.size) := Nat.lt_of_lt_of_le HSZ1.out hb2.size
      have HPc : Hid (Wds wc a0 len F) := wds_below HP.out HBc.out
      clear hb2 HB1 CB1 FB1 HSZ1
      rcases hans with ⟨hne, _⟩ | ⟨_, n2, rfl, hn2, hopt2⟩
      · exact absurd (lensE_next H0.out (by omega)) hne
      have hle : n2 ≤ n := opt_mono hopt.out hopt2 (by omega)
      clear hopt2
      go_wp2_with fail
      go_loop [40, 10, 11] (fun i t c => ∃ j : Nat, j ≤ len ∧ i = .int .i64 j ∧ t = .int .i64 (totF F j : Nat) ∧ c = .int .i64 ((cmL F j).length : Nat)) (fun i _ _ => len - (intOf i).toNat)
      case atStart => exact ⟨0, Nat.zero_le _, rfl, rfl, rfl⟩
      case round =>
        obtain ⟨j, hj, rfl, rfl, rfl⟩ := hrel
        have htb := tot_le F j (fun i hi => (HF.out i (by omega)).2)
        have hcl := cmL_len F j
        by_cases hlt : j < len
        · obtain ⟨b, off, rfl, hbb, hc⟩ := HPc.out.at' (by omega)
          have c0 := hc j hlt
          clear hc
          obtain ⟨y, hy⟩ : ∃ y : Nat, F j = y := ⟨(F j).toNat, by have := HF.out j hlt; omega⟩
          have hyb : y ≤ 1048576 := by have := HF.out j hlt; omega
          have hs : Hid (totF F (j + 1) = totF F j + y) := by show _ = _; rw [totF, hy]; rfl
          have hs1 : Hid (0 < y → (cmL F (j + 1)).length = (cmL F j).length + 1) := fun h => by rw [cmL_yes F j (by omega), List.length_append]; rfl
          have hs2 : Hid (¬ 0 < y → (cmL F (j + 1)).length = (cmL F j).length) := fun h => by rw [cmL_no F j (by omega)]
          rw [hy] at c0
          clear hy
          generalize totF F j = t at *
          generalize (cmL F j).length = c at *
          by_cases hy0 : 0 < y
          · have hs3 := Hid.mk' (hs1.out hy0)
            go_wp2_with fail
            go_round
            case rel => exact ⟨j + 1, by omega, by go_num, by rw [hs.out]; exact int_eq (by omega), by rw [hs3.out]; exact int_eq (by omega)⟩
            case measure => simp [intOf]; omega
          · have hs3 := Hid.mk' (hs2.out hy0)
            have hd : decide (0 < y) = false := decide_eq_false hy0
            go_wp2_with fail
            go_round
            case rel => exact ⟨j + 1, by omega, by go_num, by rw [hs.out]; exact int_eq (by omega), by rw [hs3.out]⟩
            case measure => simp [intOf]; omega
        · have hjl : j = len := by omega
          subst hjl
          have HFl : Hid (∀ s, 1 ≤ s → s ≤ m → (cmL F j).length ≤ 2 ^ s → n ≤ totF F j * s) := fun s h1 h2 h3 => flat_is hopt.out hm15 h1 h2 h3
          obtain ⟨t, ht⟩ : ∃ t, Hid (totF F j = t) := ⟨_, Hid.mk' rfl⟩
          obtain ⟨c, hcc⟩ : ∃ c, Hid ((cmL F j).length = c) := ⟨_, Hid.mk' rfl⟩
          rw [ht.out] at htb HFl ⊢
          rw [hcc.out] at hcl HFl HRm ⊢
          go_wp2_with fail
          go_loop [14] (fun v => ∃ s : Nat, 1 ≤ s ∧ s ≤ m ∧ v = .int .i64 s) (fun v => 16 - (intOf v).toNat)
          case atStart => exact ⟨1, Nat.le_refl _, hm1, rfl⟩
          case round =>
            obtain ⟨s, hs1, hs2, rfl⟩ := hrel
            go_wp2_with fail
            refine (pow2_any s _ (by omega)).mono ?_
            rintro e w' ⟨rfl, hw'⟩; obtain rfl := hw'.symm
            obtain ⟨q, hq⟩ : ∃ q, Hid (2 ^ s = q) := ⟨_, Hid.mk' rfl⟩
            have hqb : q ≤ 32768 := by rw [← hq.out]; exact pow_le15 s (by omega)
            rw [hq.out]
            by_cases hlt2 : q < c
            · have hsm : s + 1 ≤ m := by
                rcases Nat.lt_or_ge s m with h | h
                · exact h
                · have : s = m := by omega
                  subst this
                  have := HRm.out
                  rw [hq.out] at this
                  omega
              go_wp2_with fail
              go_round
              case rel => exact ⟨s + 1, by omega, hsm, by go_num⟩
              case measure => simp [intOf]; omega
            · have hfl := HFl.out s hs1 hs2 (by rw [hq.out]; omega)
              have hs15 : s ≤ 15 := by omega
              have hzb : t * s ≤ 335544320 * 15 := Nat.mul_le_mul (by omega) hs15
              obtain ⟨z, hz⟩ : ∃ z : Nat, z = t * s := ⟨_, rfl⟩
              have hz1 : (t : Int) * (s : Int) = (z : Int) := by rw [hz]; push_cast; rfl
              rw [← hz] at hfl hzb
              clear hz
              have cb := CB.out
              have fb := FB.out
              have hsz := HSZ.out
              go_wp2_with fail
              refine (within_at a2 8 _ H2.out.1 H2.out.2 (by omega) (by omega)).mono ?_
              rintro e w' ⟨⟨m8, rfl, hm8⟩, hw'⟩; obtain rfl := hw'.symm
              obtain ⟨k, hk⟩ : ∃ k : Nat, (1 : Int) + (m8 : Int) = (k : Int) := ⟨m8 + 1, by omega⟩
              have hk1 : 1 ≤ k := by omega
              have hk8 : k ≤ 8 := by omega
              clear hm8
              go_wp2_with fail
              refine (within_at a3 1048576 _ H3.out.1 H3.out.2 (by omega) (by omega)).mono ?_
              rintro e w' ⟨⟨mf, rfl, hmf⟩, hw'⟩; obtain rfl := hw'.symm
              obtain ⟨f, hf⟩ : ∃ f : Nat, (1 : Int) + (mf : Int) = (f : Int) := ⟨mf + 1, by omega⟩
              have hf1 : 0 < f := by omega
              have hf2 : f ≤ 1048576 := by omega
              clear hmf
              obtain ⟨p, hp⟩ : ∃ p : Nat, Hid (2 ^ k = p) := ⟨_, Hid.mk' rfl⟩
              have hpz : (2 : Int) ^ k = (p : Int) := by rw [← hp.out]; norm_cast
              have hpb : p ≤ 256 := by rw [← hp.out]; exact Nat.pow_le_pow_right (n := 2) (by decide) hk8
              have hmk := fun w => run_make_row' (P := Try.prog) 22 3 (.int .i64 0) 8 Try.underlying22 infoI64 rfl .i64 .i64 p (by omega) (by omega) w
              have HE : Hid (lensE (fun _ => (f : Int)) p 15 = 0) := by show _ = _; rw [← hp.out]; exact even_lens f hf1 hf2 k hk8
              have hss : (wc.setCell ⟨w.heap.size, 0, none⟩ (.int .i64 (k : Int))).heap.size = wc.heap.size := by simp [World.setCell]
              have HR4 : Hid (Row64 ((wc.setCell ⟨w.heap.size, 0, none⟩ (.int .i64 (k : Int))).alloc (.cells (madeCells #[.int .i64 0] p) 3)) wc.heap.size p (fun i => if i < 0 then (f : Int) else 0)) := by
                have h := row64_made (wc.setCell ⟨w.heap.size, 0, none⟩ (.int .i64 (k : Int))) p 3
                rw [hss] at h
                exact h.congr fun i _ => by rw [if_neg (by omega)]
              have HB4 : Hid (Below w.heap.size w ((wc.setCell ⟨w.heap.size, 0, none⟩ (.int .i64 (k : Int))).alloc (.cells (madeCells #[.int .i64 0] p) 3))) := (HBc.out.setCell (Nat.le_refl _) _).alloc (by rw [hss]; omega) _
              have HX4 : Hid (((wc.setCell ⟨w.heap.size, 0, none⟩ (.int .i64 (k : Int))).alloc (.cells (madeCells #[.int .i64 0] p) 3)).cell? ⟨w.heap.size, 0, none⟩ = some (.int .i64 (k : Int))) := by
                refine (((Below.refl _ _).alloc (Nat.le_refl _) _).cell (p := ⟨w.heap.size, 0, none⟩) (by rw [hss]; exact hsz)).trans ?_
                exact World.cell?_setCell_same _ _ _ cb
              clear hss
              go_wp2_with fail
              go_loopw [74] (fun i wr => ∃ j : Nat, j ≤ p ∧ i = .int .i64 j ∧ Row64 wr wc.heap.size p (fun t => if t < j then (f : Int) else 0) ∧ Below w.heap.size w wr ∧ wr.cell? ⟨w.heap.size, 0, none⟩ = some (.int .i64 (k : Int))) (fun i _ => p - (intOf i).toNat)
              case atStart => exact ⟨0, Nat.zero_le _, rfl, HR4.out, HB4.out, HX4.out⟩
              case round =>
                obtain ⟨j, hj, rfl, hrow, hbel, hbox⟩ := hrel
                by_cases hlt : j < p
                · have c := hrow.cell j hlt
                  have fz := hrow.open' j hlt
                  have HR : Hid (Row64 (wr.setCell ⟨wc.heap.size, j, none⟩ (.int .i64 (f : Int))) wc.heap.size p (fun t => if t < j + 1 then (f : Int) else 0)) := (hrow.set j hlt (f : Int)).congr fun i hi => by
                    by_cases e : i = j
                    · subst e; rw [if_pos rfl, if_pos (by omega)]
                    · rw [if_neg e]
                      by_cases h : i < j
                      · rw [if_pos h, if_pos (by omega)]
                      · rw [if_neg h, if_neg (by omega)]
                  have HBx := Hid.mk' (hbel.setCell (p := ⟨wc.heap.size, j, none⟩) (show w.heap.size ≤ wc.heap.size by omega) (.int .i64 (f : Int)))
                  have HX : Hid ((wr.setCell ⟨wc.heap.size, j, none⟩ (.int .i64 (f : Int))).cell? ⟨w.heap.size, 0, none⟩ = some (.int .i64 (k : Int))) := by
                    show _ = _
                    rw [World.cell?_setCell_other _ _ _ _ (by intro h; simp only [Addr.mk.injEq] at h; omega)]
                    exact hbox
                  clear hrow hbel hbox cb fb
                  go_wp2_with fail
                  go_roundw
                  case rel => exact ⟨j + 1, by omega, by go_num, HR.out, HBx.out, HX.out⟩
                  case measure => simp [intOf]; omega
                · have HR : Hid (Wds wr (some ⟨wc.heap.size, 0, none⟩) p (fun _ => (f : Int))) :=
                    ⟨by omega, fun _ => ⟨_, 0, rfl, hrow.lt, fun i hi => by rw [Nat.zero_add]; exact (hrow.cell i hi).trans (by rw [if_pos (by omega)])⟩, fun i hi => by omega⟩
                  have HBx := Hid.mk' hbel
                  have HX := Hid.mk' hbox
                  have hwl := hrow.lt
                  clear hrow hbel hbox cb fb
                  go_wp2_with fail
                  refine (hlens_any (some ⟨wc.heap.size, 0, none⟩) p p (fun _ => (f : Int)) 15 _ HR.out (by omega)).mono ?_
                  rintro e w5 ⟨⟨v, rfl, hans⟩, hb5⟩
                  rw [HE.out]
                  rcases hans with ⟨hne5, _⟩ | ⟨_, T, g5, rfl, hg5, hrow5, hok⟩
                  · exact absurd HE.out hne5
                  have HC5 : Hid (∀ i, i < p → w5.cell? ⟨g5, i, none⟩ = some (.int .i64 (k : Int))) := fun i hi => by
                    rw [hrow5.cell i hi, even_same f hf1 k hk1 hk8 (T := T) (by rw [hp.out]; exact hok) i (by rw [hp.out]; exact hi)]
                  have HX5 : Hid (w5.cell? ⟨w.heap.size, 0, none⟩ = some (.int .i64 (k : Int))) := (hb5.cell (p := ⟨w.heap.size, 0, none⟩) (show w.heap.size < wr.heap.size by omega)).trans HX.out
                  have HB5 : Hid (Below w.heap.size w w5) := HBx.out.trans (hb5.mono (show w.heap.size ≤ wr.heap.size by omega))
                  have hpp : ((p : Int) == (p : Int)) = true := by simp
                  clear hb5 hrow5 hok hg5
                  go_wp2_with fail
                  refine (contains_none g5 p p (k : Int) w.heap.size _ (by omega) HX5.out HC5.out).mono ?_
                  rintro e w' ⟨rfl, hw'⟩; obtain rfl := hw'.symm
                  go_wp2_with fail
                  go_ret
                  exact ⟨rfl, HB5.out⟩
    · have HBc := HB1
      obtain ⟨wc, hwc⟩ : ∃ wc, wc = w1 := ⟨_, rfl⟩
      subst hwc
      have CB := CB1
      have FB := FB1
      have HSZ := HSZ1
      have HPc : Hid (Wds wc a0 len F) := wds_below HP.out HBc.out
      clear HB1 CB1 FB1 HSZ1
      obtain rfl : m = 15 := by omega
      go_wp2_with fail
      go_loop [40, 10, 11] (fun i t c => ∃ j : Nat, j ≤ len ∧ i = .int .i64 j ∧ t = .int .i64 (totF F j : Nat) ∧ c = .int .i64 ((cmL F j).length : Nat)) (fun i _ _ => len - (intOf i).toNat)
      case atStart => exact ⟨0, Nat.zero_le _, rfl, rfl, rfl⟩
      case round =>
        obtain ⟨j, hj, rfl, rfl, rfl⟩ := hrel
        have htb := tot_le F j (fun i hi => (HF.out i (by omega)).2)
        have hcl := cmL_len F j
        by_cases hlt : j < len
        · obtain ⟨b, off, rfl, hbb, hc⟩ := HPc.out.at' (by omega)
          have c0 := hc j hlt
          clear hc
          obtain ⟨y, hy⟩ : ∃ y : Nat, F j = y := ⟨(F j).toNat, by have := HF.out j hlt; omega⟩
          have hyb : y ≤ 1048576 := by have := HF.out j hlt; omega
          have hs : Hid (totF F (j + 1) = totF F j + y) := by show _ = _; rw [totF, hy]; rfl
          have hs1 : Hid (0 < y → (cmL F (j + 1)).length = (cmL F j).length + 1) := fun h => by rw [cmL_yes F j (by omega), List.length_append]; rfl
          have hs2 : Hid (¬ 0 < y → (cmL F (j + 1)).length = (cmL F j).length) := fun h => by rw [cmL_no F j (by omega)]
          rw [hy] at c0
          clear hy
          generalize totF F j = t at *
          generalize (cmL F j).length = c at *
          by_cases hy0 : 0 < y
          · have hs3 := Hid.mk' (hs1.out hy0)
            go_wp2_with fail
            go_round
            case rel => exact ⟨j + 1, by omega, by go_num, by rw [hs.out]; exact int_eq (by omega), by rw [hs3.out]; exact int_eq (by omega)⟩
            case measure => simp [intOf]; omega
          · have hs3 := Hid.mk' (hs2.out hy0)
            have hd : decide (0 < y) = false := decide_eq_false hy0
            go_wp2_with fail
            go_round
            case rel => exact ⟨j + 1, by omega, by go_num, by rw [hs.out]; exact int_eq (by omega), by rw [hs3.out]⟩
            case measure => simp [intOf]; omega
        · have hjl : j = len := by omega
          subst hjl
          have HFl : Hid (∀ s, 1 ≤ s → s ≤ 15 → (cmL F j).length ≤ 2 ^ s → n ≤ totF F j * s) := fun s h1 h2 h3 => flat_is hopt.out hm15 h1 h2 h3
          obtain ⟨t, ht⟩ : ∃ t, Hid (totF F j = t) := ⟨_, Hid.mk' rfl⟩
          obtain ⟨c, hcc⟩ : ∃ c, Hid ((cmL F j).length = c) := ⟨_, Hid.mk' rfl⟩
          rw [ht.out] at htb HFl ⊢
          rw [hcc.out] at hcl HFl HRm ⊢
          go_wp2_with fail
          go_loop [14] (fun v => ∃ s : Nat, 1 ≤ s ∧ s ≤ 15 ∧ v = .int .i64 s) (fun v => 16 - (intOf v).toNat)
          case atStart => exact ⟨1, Nat.le_refl _, hm1, rfl⟩
          case round =>
            obtain ⟨s, hs1, hs2, rfl⟩ := hrel
            go_wp2_with fail
            refine (pow2_any s _ (by omega)).mono ?_
            rintro e w' ⟨rfl, hw'⟩; obtain rfl := hw'.symm
            obtain ⟨q, hq⟩ : ∃ q, Hid (2 ^ s = q) := ⟨_, Hid.mk' rfl⟩
            have hqb : q ≤ 32768 := by rw [← hq.out]; exact pow_le15 s (by omega)
            rw [hq.out]
            by_cases hlt2 : q < c
            · have hsm : s + 1 ≤ 15 := by
                rcases Nat.lt_or_ge s 15 with h | h
                · exact h
                · have : s = 15 := by omega
                  subst this
                  have := HRm.out
                  rw [hq.out] at this
                  omega
              go_wp2_with fail
              go_round
              case rel => exact ⟨s + 1, by omega, hsm, by go_num⟩
              case measure => simp [intOf]; omega
            · have hfl := HFl.out s hs1 hs2 (by rw [hq.out]; omega)
              have hs15 : s ≤ 15 := by omega
              have hzb : t * s ≤ 335544320 * 15 := Nat.mul_le_mul (by omega) hs15
              obtain ⟨z, hz⟩ : ∃ z : Nat, z = t * s := ⟨_, rfl⟩
              have hz1 : (t : Int) * (s : Int) = (z : Int) := by rw [hz]; push_cast; rfl
              rw [← hz] at hfl hzb
              clear hz
              have cb := CB.out
              have fb := FB.out
              have hsz := HSZ.out
              go_wp2_with fail
              refine (within_at a2 8 _ H2.out.1 H2.out.2 (by omega) (by omega)).mono ?_
              rintro e w' ⟨⟨m8, rfl, hm8⟩, hw'⟩; obtain rfl := hw'.symm
              obtain ⟨k, hk⟩ : ∃ k : Nat, (1 : Int) + (m8 : Int) = (k : Int) := ⟨m8 + 1, by omega⟩
              have hk1 : 1 ≤ k := by omega
              have hk8 : k ≤ 8 := by omega
              clear hm8
              go_wp2_with fail
              refine (within_at a3 1048576 _ H3.out.1 H3.out.2 (by omega) (by omega)).mono ?_
              rintro e w' ⟨⟨mf, rfl, hmf⟩, hw'⟩; obtain rfl := hw'.symm
              obtain ⟨f, hf⟩ : ∃ f : Nat, (1 : Int) + (mf : Int) = (f : Int) := ⟨mf + 1, by omega⟩
              have hf1 : 0 < f := by omega
              have hf2 : f ≤ 1048576 := by omega
              clear hmf
              obtain ⟨p, hp⟩ : ∃ p : Nat, Hid (2 ^ k = p) := ⟨_, Hid.mk' rfl⟩
              have hpz : (2 : Int) ^ k = (p : Int) := by rw [← hp.out]; norm_cast
              have hpb : p ≤ 256 := by rw [← hp.out]; exact Nat.pow_le_pow_right (n := 2) (by decide) hk8
              have hmk := fun w => run_make_row' (P := Try.prog) 22 3 (.int .i64 0) 8 Try.underlying22 infoI64 rfl .i64 .i64 p (by omega) (by omega) w
              have HE : Hid (lensE (fun _ => (f : Int)) p 15 = 0) := by show _ = _; rw [← hp.out]; exact even_lens f hf1 hf2 k hk8
              have hss : (wc.setCell ⟨w.heap.size, 0, none⟩ (.int .i64 (k : Int))).heap.size = wc.heap.size := by simp [World.setCell]
              have HR4 : Hid (Row64 ((wc.setCell ⟨w.heap.size, 0, none⟩ (.int .i64 (k : Int))).alloc (.cells (madeCells #[.int .i64 0] p) 3)) wc.heap.size p (fun i => if i < 0 then (f : Int) else 0)) := by
                have h := row64_made (wc.setCell ⟨w.heap.size, 0, none⟩ (.int .i64 (k : Int))) p 3
                rw [hss] at h
                exact h.congr fun i _ => by rw [if_neg (by omega)]
              have HB4 : Hid (Below w.heap.size w ((wc.setCell ⟨w.heap.size, 0, none⟩ (.int .i64 (k : Int))).alloc (.cells (madeCells #[.int .i64 0] p) 3))) := (HBc.out.setCell (Nat.le_refl _) _).alloc (by rw [hss]; omega) _
              have HX4 : Hid (((wc.setCell ⟨w.heap.size, 0, none⟩ (.int .i64 (k : Int))).alloc (.cells (madeCells #[.int .i64 0] p) 3)).cell? ⟨w.heap.size, 0, none⟩ = some (.int .i64 (k : Int))) := by
                refine (((Below.refl _ _).alloc (Nat.le_refl _) _).cell (p := ⟨w.heap.size, 0, none⟩) (by rw [hss]; exact hsz)).trans ?_
                exact World.cell?_setCell_same _ _ _ cb
              clear hss
              go_wp2_with fail
              go_loopw [74] (fun i wr => ∃ j : Nat, j ≤ p ∧ i = .int .i64 j ∧ Row64 wr wc.heap.size p (fun t => if t < j then (f : Int) else 0) ∧ Below w.heap.size w wr ∧ wr.cell? ⟨w.heap.size, 0, none⟩ = some (.int .i64 (k : Int))) (fun i _ => p - (intOf i).toNat)
              case atStart => exact ⟨0, Nat.zero_le _, rfl, HR4.out, HB4.out, HX4.out⟩
              case round =>
                obtain ⟨j, hj, rfl, hrow, hbel, hbox⟩ := hrel
                by_cases hlt : j < p
                · have c := hrow.cell j hlt
                  have fz := hrow.open' j hlt
                  have HR : Hid (Row64 (wr.setCell ⟨wc.heap.size, j, none⟩ (.int .i64 (f : Int))) wc.heap.size p (fun t => if t < j + 1 then (f : Int) else 0)) := (hrow.set j hlt (f : Int)).congr fun i hi => by
                    by_cases e : i = j
                    · subst e; rw [if_pos rfl, if_pos (by omega)]
                    · rw [if_neg e]
                      by_cases h : i < j
                      · rw [if_pos h, if_pos (by omega)]
                      · rw [if_neg h, if_neg (by omega)]
                  have HBx := Hid.mk' (hbel.setCell (p := ⟨wc.heap.size, j, none⟩) (show w.heap.size ≤ wc.heap.size by omega) (.int .i64 (f : Int)))
                  have HX : Hid ((wr.setCell ⟨wc.heap.size, j, none⟩ (.int .i64 (f : Int))).cell? ⟨w.heap.size, 0, none⟩ = some (.int .i64 (k : Int))) := by
                    show _ = _
                    rw [World.cell?_setCell_other _ _ _ _ (by intro h; simp only [Addr.mk.injEq] at h; omega)]
                    exact hbox
                  clear hrow hbel hbox cb fb
                  go_wp2_with fail
                  go_roundw
                  case rel => exact ⟨j + 1, by omega, by go_num, HR.out, HBx.out, HX.out⟩
                  case measure => simp [intOf]; omega
                · have HR : Hid (Wds wr (some ⟨wc.heap.size, 0, none⟩) p (fun _ => (f : Int))) :=
                    ⟨by omega, fun _ => ⟨_, 0, rfl, hrow.lt, fun i hi => by rw [Nat.zero_add]; exact (hrow.cell i hi).trans (by rw [if_pos (by omega)])⟩, fun i hi => by omega⟩
                  have HBx := Hid.mk' hbel
                  have HX := Hid.mk' hbox
                  have hwl := hrow.lt
                  clear hrow hbel hbox cb fb
                  go_wp2_with fail
                  refine (hlens_any (some ⟨wc.heap.size, 0, none⟩) p p (fun _ => (f : Int)) 15 _ HR.out (by omega)).mono ?_
                  rintro e w5 ⟨⟨v, rfl, hans⟩, hb5⟩
                  rw [HE.out]
                  rcases hans with ⟨hne5, _⟩ | ⟨_, T, g5, rfl, hg5, hrow5, hok⟩
                  · exact absurd HE.out hne5
                  have HC5 : Hid (∀ i, i < p → w5.cell? ⟨g5, i, none⟩ = some (.int .i64 (k : Int))) := fun i hi => by
                    rw [hrow5.cell i hi, even_same f hf1 k hk1 hk8 (T := T) (by rw [hp.out]; exact hok) i (by rw [hp.out]; exact hi)]
                  have HX5 : Hid (w5.cell? ⟨w.heap.size, 0, none⟩ = some (.int .i64 (k : Int))) := (hb5.cell (p := ⟨w.heap.size, 0, none⟩) (show w.heap.size < wr.heap.size by omega)).trans HX.out
                  have HB5 : Hid (Below w.heap.size w w5) := HBx.out.trans (hb5.mono (show w.heap.size ≤ wr.heap.size by omega))
                  have hpp : ((p : Int) == (p : Int)) = true := by simp
                  clear hb5 hrow5 hok hg5
                  go_wp2_with fail
                  refine (contains_none g5 p p (k : Int) w.heap.size _ (by omega) HX5.out HC5.out).mono ?_
                  rintro e w' ⟨rfl, hw'⟩; obtain rfl := hw'.symm
                  go_wp2_with fail
                  go_ret
                  exact ⟨rfl, HB5.out⟩
end Go.Proofs.Ytalapgppgelidaa
