import Derived.Test.YtcalbicfnhoklaaDoorStableInts
import Derived.Test.YtcalbicfnhoklaaDoorMsaj

/- What huff.coming answers: the signs that come, the rarest first. -/
namespace Go.Proofs.YtcalbicfnhoklaaDoor
open Go.RowKit

/-- the signs that come -/
def cmL (F : Nat → Int) (k : Nat) : List Nat := (List.range k).filter fun i => decide (0 < F i)
theorem cmL_yes (F : Nat → Int) (k : Nat) (h : 0 < F k) : cmL F (k + 1) = cmL F k ++ [k] := by
  unfold cmL
  rw [List.range_succ, List.filter_append]
  congr 1
  rw [List.filter_cons_of_pos (by exact decide_eq_true h)]; rfl
theorem cmL_no (F : Nat → Int) (k : Nat) (h : ¬ 0 < F k) : cmL F (k + 1) = cmL F k := by
  unfold cmL
  rw [List.range_succ, List.filter_append, List.filter_cons_of_neg (by simp; omega)]; simp
theorem cmL_len (F : Nat → Int) (k : Nat) : (cmL F k).length ≤ k := by
  unfold cmL
  exact Nat.le_trans (List.length_filter_le _ _) (by simp)
theorem cmL_mem (F : Nat → Int) (k i : Nat) (h : i ∈ cmL F k) : i < k ∧ 0 < F i := by
  unfold cmL at h
  rw [List.mem_filter] at h
  exact ⟨by simpa using h.1, of_decide_eq_true h.2⟩
def cellsN (l : List Nat) : List Value := l.map fun i : Nat => .int .i64 (i : Int)
theorem cellsN_snoc (l : List Nat) (k : Nat) : cellsN (l ++ [k]) = cellsN l ++ [.int .i64 (k : Int)] := by simp [cellsN]
theorem row_of_own {w : World} {N : Nat} {v : Value} {l : List Nat} (h : w.ownsRow N 3 1 v l.length (cellsN l)) (hl : 0 < l.length) : ∃ g cap, v = .slice (some ⟨g, 0, none⟩) l.length cap ∧ N ≤ g ∧ Row64 w g l.length (fun i => (l.getD i 0 : Int)) := by
  rcases h.2 with ⟨_, h0⟩ | ⟨g, cap, cur, hv, hb, hg, _, _, _, _⟩
  · omega
  · subst hv
    refine ⟨g, cap, rfl, hb, ⟨fun i hi => ?_, fun i hi => ?_, (Array.getElem?_eq_some_iff.1 hg).1⟩⟩
    · rw [h.cellAt i (by omega)]
      unfold cellsN
      rw [List.getElem?_map, List.getD_eq_getElem?_getD, List.getElem?_eq_getElem hi]; rfl
    · unfold World.frozen?
      rw [hg]; rfl

set_option maxHeartbeats 400000 in
theorem byKeyI_at (fb : Nat) (w : World) :
    Calls Tryd.prog 72 #[.func (.func 73) #[] #[.pointer (some ⟨fb, 0, none⟩)]] w fun e w' =>
      e = .returned (.func (.func 84) #[] #[.pointer (some ⟨w.heap.size, 0, none⟩)]) ∧ w' = w.alloc (.cells #[.func (.func 73) #[] #[.pointer (some ⟨fb, 0, none⟩)]] 120) := by
  go_enter Tryd.func72, Tryd.ntmps72
  go_wp2_with fail
  go_ret
  exact ⟨rfl, rfl⟩

set_option maxHeartbeats 400000 in
theorem insertion_nil (cv : Value) (w : World) :
    Calls Tryd.prog 91 #[.slice none 0 0, .int .i64 0, .int .i64 0, cv] w fun e w' => e = .returned (.tuple #[]) ∧ w' = w := by
  go_enter Tryd.func91, Tryd.ntmps91
  go_wp2_with fail
  go_loop [8] (fun i => i = .int .i64 1) (fun _ => 0)
  case atStart => rfl
  case round =>
    obtain rfl := hrel
    go_wp2_with fail
    go_end0
    exact ⟨rfl, rfl⟩
set_option maxHeartbeats 400000 in
theorem stable_nil (cv : Value) (w : World) :
    Calls Tryd.prog 83 #[.slice none 0 0, .int .i64 0, cv] w fun e w' => e = .returned (.tuple #[]) ∧ w' = w := by
  go_enter Tryd.func83, Tryd.ntmps83
  go_wp2_with fail
  go_loop [7, 8] (fun a b => a = .int .i64 0 ∧ b = .int .i64 20) (fun _ _ => 0)
  case atStart => exact ⟨rfl, rfl⟩
  case round =>
    obtain ⟨rfl, rfl⟩ := hrel
    go_wp2_with fail
    refine (insertion_nil cv _).mono ?_
    rintro e w' ⟨rfl, rfl⟩
    go_wp2_with fail
    go_loop [6] (fun b => b = .int .i64 20) (fun _ => 0)
    case atStart => rfl
    case round =>
      obtain rfl := hrel
      go_wp2_with fail
      go_end0
      exact ⟨rfl, rfl⟩
theorem sort_nil (cv : Value) (w : World) :
    Calls Tryd.prog 71 #[.slice none 0 0, cv] w fun e w' => e = .returned (.tuple #[]) ∧ w' = w := by
  go_enter Tryd.func71, Tryd.ntmps71
  go_wp2_with fail
  refine (stable_nil cv _).mono ?_
  rintro e w' ⟨rfl, rfl⟩
  go_wp2_with fail
  go_end0
  exact ⟨rfl, rfl⟩

set_option maxRecDepth 20000 in
set_option maxHeartbeats 1000000 in
theorem coming_any (a0 : Option Addr) (len cap : Nat) (F : Nat → Int) (w : World) (hP : Wds w a0 len F) (hn : len ≤ 320) :
    Calls Tryd.prog 53 #[.slice a0 len cap] w fun e w' => (∃ v s, e = .returned v ∧ I64s w' v (cmL F len).length (fun i => (s i : Int)) ∧ PermF 0 (cmL F len).length (fun i => (cmL F len).getD i 0) s ∧ SortF F s 0 (cmL F len).length) ∧ Below w.heap.size w w' := by
  have HP := Hid.mk' hP
  clear hP
  obtain ⟨i0, hi, hz0, hz1, hz2⟩ := info_parts infoI64
  have KI := Hid.mk' hi
  have KZ0 := Hid.mk' hz0
  have KZ1 := Hid.mk' hz1
  have KZ2 := Hid.mk' hz2
  clear hi hz0 hz1 hz2
  go_enter Tryd.func53, Tryd.ntmps53
  go_wp2_with fail
  obtain ⟨w1, hw1⟩ : ∃ w1, Hid (w.alloc (.cells #[.slice a0 len cap] 50) = w1) := ⟨_, Hid.mk' rfl⟩
  have HB1 : Hid (Below w.heap.size w w1) := by rw [← hw1.out]; exact (Below.refl _ _).alloc (Nat.le_refl _) _
  have hs1 : w1.heap.size = w.heap.size + 1 := by rw [← hw1.out]; simp
  have HC : Hid (w1.cell? ⟨w.heap.size, 0, none⟩ = some (.slice a0 len cap)) := by rw [← hw1.out]; show _ = _; simp
  rw [hw1.out]
  go_loopw [3, 8] (fun ov iv wr => ∃ k : Nat, k ≤ len ∧ iv = .int .i64 (k : Int) ∧ wr.ownsRow w1.heap.size 3 1 ov (cmL F k).length (cellsN (cmL F k)) ∧ ((cmL F k).length = 0 → ov = .slice none 0 0) ∧ Below w1.heap.size w1 wr) (fun _ iv _ => len - (intOf iv).toNat)
  case atStart => exact ⟨0, Nat.zero_le _, rfl, World.ownsRow_nil _ _ _ _, fun _ => rfl, Below.refl _ _⟩
  case round =>
    obtain ⟨k, hk, rfl, hown, hnil, hbl⟩ := hrel
    have HOw := Hid.mk' hown
    have HN := Hid.mk' hnil
    have HB := Hid.mk' hbl
    have HBw := Hid.mk' (HB1.out.trans (hbl.mono (by omega)))
    have hs2 := hbl.size
    have hcl := cmL_len F k
    clear hown hnil hbl
    by_cases hlt : k < len
    · obtain ⟨b0, off0, rfl, hb0, hc0⟩ := HP.out.at' (by omega)
      have c0 := (HBw.out.cell (p := ⟨b0, off0 + k, none⟩) hb0).trans (hc0 k hlt)
      clear hc0
      by_cases hpos : 0 < F k
      · have hL := Hid.mk' (cmL_yes F k hpos)
        have hF := Hid.mk' hpos
        generalize F k = x at c0 hpos
        go_wp2_with (at_builtin; refine wpList_append_own _ rfl (.tmp 15) (.tmp 17) 50 rfl w1.heap.size 3 i0 (.int .i64 0) 1 8 Tryd.underlying50 KI.out KZ0.out KZ1.out KZ2.out rfl (by decide) u3 _ _ rfl (HOw.out.alloc _) ⟨wr.heap.size, 0, none⟩ 1 1 [.int .i64 (k : Int)] rfl rfl (cell_one_new _ _ _) (one_int _ _) (by unfold maxLen; omega) (by omega) (by simp; omega) ?_; intro v5 w5 hown5 hgrow5 _)
        have HB5 : Hid (Below w1.heap.size w1 w5) := (HB.out.alloc hs2 _).grown hgrow5 (by simp; omega) fun i hi => (HOw.out.lt i hi).1
        have HO5 : Hid (w5.ownsRow w1.heap.size 3 1 v5 (cmL F (k + 1)).length (cellsN (cmL F (k + 1)))) := by
          rw [hL.out, cellsN_snoc, List.length_append]; exact hown5
        have HN5 : Hid ((cmL F (k + 1)).length = 0 → v5 = .slice none 0 0) := by intro h; rw [hL.out] at h; simp at h
        clear hown5 hgrow5
        go_wp2_with fail
        go_roundw
        case rel => exact ⟨k + 1, by omega, by go_num, HO5.out, HN5.out, HB5.out⟩
        case measure => simp [intOf]; omega
      · have hL := Hid.mk' (cmL_no F k hpos)
        generalize F k = x at c0 hpos
        go_wp2_with fail
        go_roundw
        case rel => exact ⟨k + 1, by omega, by go_num, by rw [hL.out]; exact HOw.out, by rw [hL.out]; exact HN.out, HB.out⟩
        case measure => simp [intOf]; omega
    · have hkl : k = len := by omega
      subst hkl
      go_wp2_with fail
      refine (byKeyI_at w.heap.size _).mono ?_
      rintro e w' ⟨rfl, rfl⟩
      by_cases hz : (cmL F k).length = 0
      · have hu := HN.out hz
        subst hu
        have HBf : Hid (Below w.heap.size w (wr.alloc (.cells #[.func (.func 73) #[] #[.pointer (some ⟨w.heap.size, 0, none⟩)]] 120))) := HBw.out.alloc HBw.out.size _
        go_wp2_with fail
        refine (sort_nil _ _).mono ?_
        rintro e w' ⟨rfl, rfl⟩
        go_wp2_with fail
        go_ret
        refine ⟨⟨.slice none 0 0, fun i => (cmL F k).getD i 0, rfl, ?_, PermF.refl _ _ _, ?_⟩, HBf.out⟩
        · rw [hz]; exact i64s_nil _ _
        · rw [hz]; exact fun i j k1 k2 k3 => by omega
      · obtain ⟨g, cp, hv, hgN, hrow⟩ := row_of_own HOw.out (by omega)
        subst hv
        have hgl := hrow.lt
        obtain ⟨W2, hW2⟩ : ∃ W2, Hid (wr.alloc (.cells #[.func (.func 73) #[] #[.pointer (some ⟨w.heap.size, 0, none⟩)]] 120) = W2) := ⟨_, Hid.mk' rfl⟩
        have HBf : Hid (Below w.heap.size w W2) := by rw [← hW2.out]; exact HBw.out.alloc HBw.out.size _
        have HBl : Hid (Below wr.heap.size wr W2) := by rw [← hW2.out]; exact (Below.refl _ _).alloc (Nat.le_refl _) _
        have HRw : Hid (Row64 W2 g (cmL F k).length (fun i => ((cmL F k).getD i 0 : Int))) := ⟨fun i hi => (HBl.out.cell (p := ⟨g, i, none⟩) hgl).trans (hrow.cell i hi), fun i hi => (World.frozen?_of_block (w := wr) (a := ⟨g, i, none⟩) (HBl.out.block g hgl)).trans (hrow.open' i hi), Nat.lt_of_lt_of_le hgl HBl.out.size⟩
        have HOrd : Hid (OrdI W2 g wr.heap.size w.heap.size a0 k cap F) := by
          refine ⟨by rw [← hW2.out]; simp, ?_, wds_below HP.out HBf.out, by rw [← hW2.out]; simp, by have := HBl.out.size; omega, by omega, by omega, fun b off hb => ?_⟩
          · exact (HBl.out.cell (p := ⟨w.heap.size, 0, none⟩) (by show w.heap.size < _; omega)).trans ((HB.out.cell (p := ⟨w.heap.size, 0, none⟩) (by show w.heap.size < _; omega)).trans HC.out)
          · by_cases h0 : 0 < k
            · obtain ⟨b', off', e', hb', _⟩ := HP.out.at' h0
              rw [e'] at hb
              cases hb
              omega
            · rw [show k = 0 by omega] at hz
              exact absurd rfl hz
        have hmem : Hid (∀ i, i < (cmL F k).length → (cmL F k).getD i 0 < k) := fun i hi => (cmL_mem F k _ (by rw [List.getD_eq_getElem?_getD, List.getElem?_eq_getElem hi]; exact List.getElem_mem hi)).1
        rw [hW2.out]
        clear hrow hz
        go_wp2_with fail
        refine (sort_int g (cmL F k).length cp wr.heap.size w.heap.size a0 k cap F (fun i => (cmL F k).getD i 0) _ HOrd.out HRw.out hmem.out (by omega)).mono ?_
        rintro e w3 ⟨rfl, s, h1, h2, h3⟩
        have HI : Hid (I64s w3 (.slice (some ⟨g, 0, none⟩) (cmL F k).length cp) (cmL F k).length (fun i => (s i : Int))) := h1.row.i64s
        have HB3 : Hid (Below w.heap.size w w3) := HBf.out.grown h1.gr HBf.out.size fun i hi => by cases hi; omega
        clear h1
        go_wp2_with fail
        go_ret
        exact ⟨⟨_, s, rfl, HI.out, h2, h3⟩, HB3.out⟩
end Go.Proofs.YtcalbicfnhoklaaDoor
