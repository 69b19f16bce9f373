/- What linenref.Comes answers. -/
import Derived.Test.YthdgfanecfdlkaaComesMath
import Derived.Test.YthdgfanecfdlkaaCopyInts
import Derived.Test.YthdgfanecfdlkaaComingWalks
namespace Go.Proofs.Ythdgfanecfdlkaa
open Go.RowKit

theorem own_cap {w : World} {base n size g cap : Nat} {e : TypeId} {xs : List Value} (h : w.ownsRow base e size (.slice (some ⟨g, 0, none⟩) n cap) n xs) : n ≤ cap ∧ cap ≤ maxLen := by
  rcases h.2 with ⟨h', _⟩ | ⟨g', cap', cur, h', _, _, h1, h2, _⟩
  · simp at h'
  · simp only [Value.slice.injEq, Option.some.injEq, Addr.mk.injEq, and_true, true_and] at h'
    obtain ⟨rfl, rfl⟩ := h'
    exact ⟨h1, h2⟩
theorem own_sl {w : World} {base n size : Nat} {e : TypeId} {v : Value} {xs : List Value} (h : w.ownsRow base e size v n xs) : ∃ ao cap, v = .slice ao n cap := by
  rcases h.2 with ⟨rfl, rfl⟩ | ⟨g, cap, cur, rfl, _⟩
  · exact ⟨none, 0, rfl⟩
  · exact ⟨_, cap, rfl⟩
theorem own_cells {base n size g cap : Nat} {e : TypeId} (vs : List Value) : ∀ (o : Nat) {w : World} {xs : List Value}, w.ownsRow base e size (.slice (some ⟨g, 0, none⟩) n cap) n xs → (w.setCells g o vs).ownsRow base e size (.slice (some ⟨g, 0, none⟩) n cap) n (setAll xs o vs) := by
  induction vs with
  | nil => intro o w xs h; exact h
  | cons v r ih => intro o w xs h; rw [World.setCells, setAll]; exact ih _ (h.stored o v).1
theorem cellsN_len (l : List Nat) : (cellsN l).length = l.length := by simp [cellsN]
theorem cells_drop (l : List Nat) (i : Nat) : cellsC (fun j => ((l.getD (i + j) 0 : Nat) : Int)) (l.length - i) = (cellsN l).drop i := by
  apply List.ext_getElem?
  intro j
  rw [List.getElem?_drop]
  by_cases hj : j < l.length - i
  · rw [cellsC_at _ _ _ hj]
    unfold cellsN
    rw [List.getElem?_map, List.getElem?_eq_getElem (by omega), List.getD_eq_getElem?_getD, List.getElem?_eq_getElem (by omega)]; rfl
  · rw [List.getElem?_eq_none (by rw [cellsC_length]; omega), List.getElem?_eq_none (by rw [cellsN_len]; omega)]

set_option maxRecDepth 20000 in
set_option maxHeartbeats 4000000 in
theorem comes_any (a0 : Option Addr) (len cap : Nat) (F : Nat → Int) (w : World) (hP : Wds w a0 len F) (hn : len ≤ 320) (hF : ∀ i, i < len → 0 ≤ F i ∧ F i ≤ 1048576) :
    Calls Try.prog 9 #[.slice a0 len cap] w fun e w' => (∃ v, e = .returned v ∧ w'.ownsRow w.heap.size 3 1 v (comL F len).length (cellsN (comL F len))) ∧ Below w.heap.size w w' := by
  have HP := Hid.mk' hP
  have HF := Hid.mk' hF
  clear hP hF
  obtain ⟨i0, hi, hz0, hz1, hz2⟩ := info_parts infoI64
  have KI := Hid.mk' hi
  have KZ0 := Hid.mk' hz0
  have KZ1 := Hid.mk' hz1
  have KZ2 := Hid.mk' hz2
  clear hi hz0 hz1 hz2
  go_enter Try.func9, Try.ntmps9
  go_wp2_with fail
  go_loopw [3, 9] (fun ov iv wr => ∃ k : Nat, k ≤ len ∧ iv = .int .i64 (k : Int) ∧ wr.ownsRow w.heap.size 3 1 ov (comL F k).length (cellsN (comL F k)) ∧ ((comL F k).length = 0 → ov = .slice none 0 0) ∧ Below w.heap.size w wr) (fun _ iv _ => len - (intOf iv).toNat)
  case atStart => exact ⟨0, Nat.zero_le _, rfl, World.ownsRow_nil _ _ _ _, fun _ => rfl, Below.refl _ _⟩
  case round =>
    obtain ⟨wo, hwo⟩ : ∃ wo : World, wo = wr := ⟨wr, rfl⟩
    subst hwo
    obtain ⟨k, hk, rfl, hown, hnil, hbl⟩ := hrel
    have HOw := Hid.mk' hown
    have HN := Hid.mk' hnil
    have HB := Hid.mk' hbl
    have hcl : (comL F k).length ≤ k := by rw [com_len F k (fun i hi => (HF.out i (by omega)).1)]; exact cmL_len F k
    clear hown hnil hbl
    by_cases hlt : k < len
    · obtain ⟨b0, off0, rfl, hb0, hc0⟩ := HP.out.at' (by omega)
      have c0 := (HB.out.cell (p := ⟨b0, off0 + k, none⟩) hb0).trans (hc0 k hlt)
      clear hc0
      have hfk := HF.out k hlt
      by_cases hz : F k = 0
      · have hL : Hid (comL F (k + 1) = comL F k) := by show _ = _; rw [comL, if_pos hz]
        rw [hz] at c0
        clear hz hfk
        go_wp2_with fail
        go_roundw
        case rel => exact ⟨k + 1, by omega, by go_num, by rw [hL.out]; exact HOw.out, by rw [hL.out]; exact HN.out, HB.out⟩
        case measure => simp [intOf]; omega
      · have hL : Hid (comL F (k + 1) = insD (F k).toNat (comL F k)) := by show _ = _; rw [comL, if_neg hz]
        obtain ⟨f, hf⟩ : ∃ f : Nat, F k = f := ⟨(F k).toNat, by omega⟩
        have hf0 : 0 < f ∧ f ≤ 1048576 := by omega
        have hfn : ((f : Int) == 0) = false := by rw [beq_eq_false_iff_ne]; omega
        rw [hf] at c0 hL
        rw [Int.toNat_natCast] at hL
        clear hz hfk hf
        generalize comL F k = l at *
        go_wp2_with fail
        go_loop [6] (fun v => ∃ i : Nat, i ≤ l.length ∧ v = .int .i64 (i : Int) ∧ ∀ j, j < i → f ≤ l.getD j 0) (fun v => l.length - (intOf v).toNat)
        case atStart => exact ⟨0, Nat.zero_le _, rfl, fun j hj => by omega⟩
        case round =>
          obtain ⟨i, hin', rfl, hall⟩ := hrel
          have HA := Hid.mk' hall
          clear hall
          by_cases hin : i < l.length
          · obtain ⟨g0, cp0, rfl, hg0, hrow0⟩ := row_of_own HOw.out (by omega)
            have c1 := hrow0.cell i hin
            clear hrow0
            by_cases hcont : f ≤ l.getD i 0
            · have HA2 : Hid (∀ j, j < i + 1 → f ≤ l.getD j 0) := fun j hj => by
                rcases Nat.lt_succ_iff_lt_or_eq.1 hj with h1 | rfl
                · exact HA.out j h1
                · exact hcont
              generalize l.getD i 0 = y at c1 hcont
              go_wp2_with fail
              go_round
              case rel => exact ⟨i + 1, by omega, by go_num, HA2.out⟩
              case measure => simp [intOf]; omega
            · have hins : Hid (insD f l = l.take i ++ f :: l.drop i) := insD_at f l i hin' HA.out (fun _ => by omega)
              have hd : decide (f ≤ l.getD i 0) = false := decide_eq_false hcont
              generalize l.getD i 0 = y at c1 hcont hd
              clear hcont
              go_wp2_with (at_builtin; refine wpList_append_own _ rfl (.tmp 29) (.tmp 30) 22 rfl w.heap.size 3 i0 (.int .i64 0) 1 8 Try.underlying22 KI.out KZ0.out KZ1.out KZ2.out rfl (by decide) _ _ _ rfl (HOw.out.alloc _) ⟨wo.heap.size, 0, none⟩ 1 1 [.int .i64 0] rfl rfl (cell_one_new _ _ _) (one_int _ _) (by unfold maxLen; omega) (by omega) (by simp; have := HB.out.size; omega) ?_; intro v5 w5 hown5 hgrow5 _)
              have hown6 : w5.ownsRow w.heap.size 3 1 v5 (l ++ [0]).length (cellsN (l ++ [0])) := by rw [cellsN_snoc, List.length_append]; exact hown5
              obtain ⟨g, cp, hv, hgN, hrow⟩ := row_of_own hown6 (by simp)
              have HB5 : Hid (Below w.heap.size w w5) := (HB.out.alloc HB.out.size _).grown hgrow5 (by simp; have := HB.out.size; omega) fun i hi => (HOw.out.lt i hi).1
              clear hown5 hgrow5
              obtain ⟨N1, hN0⟩ : ∃ N1, (l ++ [0]).length = N1 := ⟨_, rfl⟩
              have hN1 : Hid (l.length + 1 = N1) := by show _ = _; rw [← hN0]; simp
              rw [hN0] at hv hrow hown6
              clear hN0
              subst hv
              have hcap := own_cap hown6
              have HO5 : Hid (w5.ownsRow w.heap.size 3 1 (.slice (some ⟨g, 0, none⟩) N1 cp) N1 (cellsN l ++ [.int .i64 0])) := by rw [cellsN_snoc] at hown6; exact hown6
              clear hown6
              have hNb : N1 ≤ 321 ∧ 1 ≤ N1 ∧ i + 1 ≤ N1 := by have := hN1.out; omega
              obtain ⟨i1, hi1⟩ : ∃ i1, Hid (i + 1 = i1) := ⟨_, Hid.mk' rfl⟩
              have hib : i1 ≤ N1 ∧ i < i1 := by have := hi1.out; omega
              have hiN : i ≤ N1 := by omega
              have hi1N : i1 ≤ N1 := hib.1
              have hwr : IntKind.i64.wrap ((i : Int) + 1) = (i1 : Int) := by rw [IntKind.wrap_i64]; have := hi1.out; omega
              obtain ⟨m, hm⟩ : ∃ m, Hid (N1 - i1 = m) := ⟨_, Hid.mk' rfl⟩
              have hmm : Hid (m = l.length - i) := by show _ = _; have := hm.out; have := hi1.out; have := hN1.out; omega
              have hml : i1 + m ≤ N1 := by have := hm.out; omega
              have HD := Hid.mk' hrow.drewD
              obtain ⟨c, hc⟩ : ∃ c : Nat → Int, Hid (c = fun j => ((l.getD (i + j) 0 : Nat) : Int)) := ⟨_, Hid.mk' rfl⟩
              have HSrc : Hid (∀ j, j < m → (w5.drew).cell? ((⟨g, i, none⟩ : Addr).add j) = some (.int .i64 (c j))) := fun j hj => by
                rw [hc.out]
                have h1 := hmm.out
                have h2 := hN1.out
                rw [add_plainC]
                refine (HD.out.cell (i + j) (by omega)).trans ?_
                show some (Value.int .i64 (((l ++ [0]).getD (i + j) 0 : Nat) : Int)) = some (Value.int .i64 ((l.getD (i + j) 0 : Nat) : Int))
                rw [List.getD_eq_getElem?_getD, List.getD_eq_getElem?_getD, List.getElem?_append_left (by omega)]
              have HR2 := Hid.mk' (HD.out.copy i1 c m hml)
              have HBs := Hid.mk' ((below_cells (g := g) (cellsC c m) i1 w5.drew HB5.out.drew hgN).setCell (p := ⟨g, i, none⟩) hgN (.int .i64 (f : Int)))
              have HO6 : Hid ((((w5.drew).setCells g i1 (cellsC c m)).setCell ⟨g, i, none⟩ (.int .i64 (f : Int))).ownsRow w.heap.size 3 1 (.slice (some ⟨g, 0, none⟩) N1 cp) N1 (cellsN (insD f l))) := by
                have h1 := ((own_cells (g := g) (cellsC c m) i1 (HO5.out.drew)).stored i (.int .i64 (f : Int))).1
                rw [hins.out]
                have e : cellsC c m = (cellsN l).drop i := by rw [hmm.out, hc.out]; exact cells_drop l i
                rw [e, ← hi1.out, shift_is (cellsN l) (.int .i64 0) (.int .i64 (f : Int)) i (by rw [cellsN_len]; exact hin')] at h1
                rw [e, ← hi1.out]
                have e2 : cellsN (l.take i ++ f :: l.drop i) = (cellsN l).take i ++ .int .i64 (f : Int) :: (cellsN l).drop i := by simp [cellsN, List.map_take, List.map_drop]
                rw [e2]; exact h1
              have hnl : Hid ((insD f l).length = N1) := by show _ = _; rw [(insD_perm f l).length_eq]; exact hN1.out
              obtain ⟨z6, c6⟩ : ∃ z, (w5.drew.setCells g i1 (cellsC c m)).cell? ⟨g, i, none⟩ = some (.int .i64 z) := ⟨_, HR2.out.cell i (by omega)⟩
              have f6 := HR2.out.open' i (by omega)
              clear hrow
              have hcp1 : N1 ≤ cp := hcap.1
              have hcp2 : cp ≤ 9223372036854775807 := hcap.2
              clear hcap
              by_cases hci : cp = i1
              · have hm0 : m = 0 := by have := hm.out; omega
                have hcp := copy_row HD.out 0 c 0 (by omega) 0 0 (cp - i) (cp - i) ⟨g, i, none⟩ (by show 0 = min (cp - i) 0; omega) (fun j hj => by omega) 3
                subst hm0
                have hcp' : (Builtin.copy_ #[22, 22] 3 #[.slice (some ⟨g, 0, none⟩) 0 0, .slice (some ⟨g, i, none⟩) (cp - i) (cp - i)]).run Try.prog w5.drew = .ok (.int .i64 0) w5.drew := hcp
                obtain ⟨z7, c7⟩ : ∃ z, w5.drew.cell? ⟨g, i, none⟩ = some (.int .i64 z) := ⟨_, HD.out.cell i (by omega)⟩
                have f7 := HD.out.open' i (by omega)
                clear c6 f6 hcp
                have hNc : N1 = cp := by omega
                have hNc' := Hid.mk' hNc
                subst hNc
                subst hci
                have hne : ¬ N1 = i := by omega
                go_wp2_with fail
                go_region_held3 (fun _ => True) (trivial) (refine step_copy_run rfl (.tmp 35) (.tmp 38) 22 rfl _ _ rfl rfl hcp' ?_)
                go_wp2_with fail
                go_roundw
                case rel => exact ⟨k + 1, by omega, by go_num, by rw [hL.out, hnl.out]; exact HO6.out, fun h => by rw [hL.out, hnl.out] at h; omega, HBs.out⟩
                case measure => simp [intOf]; omega
              · have hcp := copy_row HD.out i1 c m hml (N1 - i1) (cp - i1) (N1 - i) (cp - i) ⟨g, i, none⟩ (by have := hm.out; show m = min (N1 - i) (N1 - i1); omega) HSrc.out 3
                have hne : ¬ cp = i := by omega
                go_wp2_with fail
                go_region_held3 (fun _ => True) (trivial) (refine step_copy_run rfl (.tmp 35) (.tmp 38) 22 rfl _ _ rfl rfl hcp ?_)
                go_wp2_with fail
                go_roundw
                case rel => exact ⟨k + 1, by omega, by go_num, by rw [hL.out, hnl.out]; exact HO6.out, fun h => by rw [hL.out, hnl.out] at h; omega, HBs.out⟩
                case measure => simp [intOf]; omega
          · have hins : Hid (insD f l = l.take i ++ f :: l.drop i) := insD_at f l i hin' HA.out (fun h => by omega)
            obtain ⟨ao, cpo, rfl⟩ := own_sl HOw.out
            go_wp2_with (at_builtin; refine wpList_append_own _ rfl (.tmp 29) (.tmp 30) 22 rfl w.heap.size 3 i0 (.int .i64 0) 1 8 Try.underlying22 KI.out KZ0.out KZ1.out KZ2.out rfl (by decide) _ _ _ rfl (HOw.out.alloc _) ⟨wo.heap.size, 0, none⟩ 1 1 [.int .i64 0] rfl rfl (cell_one_new _ _ _) (one_int _ _) (by unfold maxLen; omega) (by omega) (by simp; have := HB.out.size; omega) ?_; intro v5 w5 hown5 hgrow5 _)
            have hown6 : w5.ownsRow w.heap.size 3 1 v5 (l ++ [0]).length (cellsN (l ++ [0])) := by rw [cellsN_snoc, List.length_append]; exact hown5
            obtain ⟨g, cp, hv, hgN, hrow⟩ := row_of_own hown6 (by simp)
            have HB5 : Hid (Below w.heap.size w w5) := (HB.out.alloc HB.out.size _).grown hgrow5 (by simp; have := HB.out.size; omega) fun i hi => (HOw.out.lt i hi).1
            clear hown5 hgrow5
            obtain ⟨N1, hN0⟩ : ∃ N1, (l ++ [0]).length = N1 := ⟨_, rfl⟩
            have hN1 : Hid (l.length + 1 = N1) := by show _ = _; rw [← hN0]; simp
            rw [hN0] at hv hrow hown6
            clear hN0
            subst hv
            have hcap := own_cap hown6
            have HO5 : Hid (w5.ownsRow w.heap.size 3 1 (.slice (some ⟨g, 0, none⟩) N1 cp) N1 (cellsN l ++ [.int .i64 0])) := by rw [cellsN_snoc] at hown6; exact hown6
            clear hown6
            have hNb : N1 ≤ 321 ∧ 1 ≤ N1 ∧ i + 1 ≤ N1 := by have := hN1.out; omega
            obtain ⟨i1, hi1⟩ : ∃ i1, Hid (i + 1 = i1) := ⟨_, Hid.mk' rfl⟩
            have hib : i1 ≤ N1 ∧ i < i1 := by have := hi1.out; omega
            have hiN : i ≤ N1 := by omega
            have hi1N : i1 ≤ N1 := hib.1
            have hwr : IntKind.i64.wrap ((i : Int) + 1) = (i1 : Int) := by rw [IntKind.wrap_i64]; have := hi1.out; omega
            obtain ⟨m, hm⟩ : ∃ m, Hid (N1 - i1 = m) := ⟨_, Hid.mk' rfl⟩
            have hmm : Hid (m = l.length - i) := by show _ = _; have := hm.out; have := hi1.out; have := hN1.out; omega
            have hml : i1 + m ≤ N1 := by have := hm.out; omega
            have HD := Hid.mk' hrow.drewD
            obtain ⟨c, hc⟩ : ∃ c : Nat → Int, Hid (c = fun j => ((l.getD (i + j) 0 : Nat) : Int)) := ⟨_, Hid.mk' rfl⟩
            have HSrc : Hid (∀ j, j < m → (w5.drew).cell? ((⟨g, i, none⟩ : Addr).add j) = some (.int .i64 (c j))) := fun j hj => by
              rw [hc.out]
              have h1 := hmm.out
              have h2 := hN1.out
              rw [add_plainC]
              refine (HD.out.cell (i + j) (by omega)).trans ?_
              show some (Value.int .i64 (((l ++ [0]).getD (i + j) 0 : Nat) : Int)) = some (Value.int .i64 ((l.getD (i + j) 0 : Nat) : Int))
              rw [List.getD_eq_getElem?_getD, List.getD_eq_getElem?_getD, List.getElem?_append_left (by omega)]
            have HR2 := Hid.mk' (HD.out.copy i1 c m hml)
            have HBs := Hid.mk' ((below_cells (g := g) (cellsC c m) i1 w5.drew HB5.out.drew hgN).setCell (p := ⟨g, i, none⟩) hgN (.int .i64 (f : Int)))
            have HO6 : Hid ((((w5.drew).setCells g i1 (cellsC c m)).setCell ⟨g, i, none⟩ (.int .i64 (f : Int))).ownsRow w.heap.size 3 1 (.slice (some ⟨g, 0, none⟩) N1 cp) N1 (cellsN (insD f l))) := by
              have h1 := ((own_cells (g := g) (cellsC c m) i1 (HO5.out.drew)).stored i (.int .i64 (f : Int))).1
              rw [hins.out]
              have e : cellsC c m = (cellsN l).drop i := by rw [hmm.out, hc.out]; exact cells_drop l i
              rw [e, ← hi1.out, shift_is (cellsN l) (.int .i64 0) (.int .i64 (f : Int)) i (by rw [cellsN_len]; exact hin')] at h1
              rw [e, ← hi1.out]
              have e2 : cellsN (l.take i ++ f :: l.drop i) = (cellsN l).take i ++ .int .i64 (f : Int) :: (cellsN l).drop i := by simp [cellsN, List.map_take, List.map_drop]
              rw [e2]; exact h1
            have hnl : Hid ((insD f l).length = N1) := by show _ = _; rw [(insD_perm f l).length_eq]; exact hN1.out
            obtain ⟨z6, c6⟩ : ∃ z, (w5.drew.setCells g i1 (cellsC c m)).cell? ⟨g, i, none⟩ = some (.int .i64 z) := ⟨_, HR2.out.cell i (by omega)⟩
            have f6 := HR2.out.open' i (by omega)
            clear hrow
            have hcp1 : N1 ≤ cp := hcap.1
            have hcp2 : cp ≤ 9223372036854775807 := hcap.2
            clear hcap
            by_cases hci : cp = i1
            · have hm0 : m = 0 := by have := hm.out; omega
              have hcp := copy_row HD.out 0 c 0 (by omega) 0 0 (cp - i) (cp - i) ⟨g, i, none⟩ (by show 0 = min (cp - i) 0; omega) (fun j hj => by omega) 3
              subst hm0
              have hcp' : (Builtin.copy_ #[22, 22] 3 #[.slice (some ⟨g, 0, none⟩) 0 0, .slice (some ⟨g, i, none⟩) (cp - i) (cp - i)]).run Try.prog w5.drew = .ok (.int .i64 0) w5.drew := hcp
              obtain ⟨z7, c7⟩ : ∃ z, w5.drew.cell? ⟨g, i, none⟩ = some (.int .i64 z) := ⟨_, HD.out.cell i (by omega)⟩
              have f7 := HD.out.open' i (by omega)
              clear c6 f6 hcp
              have hNc : N1 = cp := by omega
              have hNc' := Hid.mk' hNc
              subst hNc
              subst hci
              have hne : ¬ N1 = i := by omega
              go_wp2_with fail
              go_region_held3 (fun _ => True) (trivial) (refine step_copy_run rfl (.tmp 35) (.tmp 38) 22 rfl _ _ rfl rfl hcp' ?_)
              go_wp2_with fail
              go_roundw
              case rel => exact ⟨k + 1, by omega, by go_num, by rw [hL.out, hnl.out]; exact HO6.out, fun h => by rw [hL.out, hnl.out] at h; omega, HBs.out⟩
              case measure => simp [intOf]; omega
            · have hcp := copy_row HD.out i1 c m hml (N1 - i1) (cp - i1) (N1 - i) (cp - i) ⟨g, i, none⟩ (by have := hm.out; show m = min (N1 - i) (N1 - i1); omega) HSrc.out 3
              have hne : ¬ cp = i := by omega
              go_wp2_with fail
              go_region_held3 (fun _ => True) (trivial) (refine step_copy_run rfl (.tmp 35) (.tmp 38) 22 rfl _ _ rfl rfl hcp ?_)
              go_wp2_with fail
              go_roundw
              case rel => exact ⟨k + 1, by omega, by go_num, by rw [hL.out, hnl.out]; exact HO6.out, fun h => by rw [hL.out, hnl.out] at h; omega, HBs.out⟩
              case measure => simp [intOf]; omega
    · have hkl : k = len := by omega
      subst hkl
      go_wp2_with fail
      go_ret
      exact ⟨⟨_, rfl, HOw.out⟩, HB.out⟩
end Go.Proofs.Ythdgfanecfdlkaa
