/- The law BitsOne, walked. -/
import Derived.Test.YtjfkbkhfnnmbnabEqualWalks
import Derived.SizedLaws
import Derived.Lib.Strings
namespace Go.Proofs.Ytjfkbkhfnnmbnab
open Go.RowKit

theorem infoInt3 : (Try.prog.info? 3).map (fun i => (i.zero, i.size, i.bytes)) = some (some (.int .i64 0), 1, 8) := by kernel_rfl
/-- block g holds n numbers, the first k of them 1 -/
structure Ones (w : World) (g n k : Nat) : Prop where
  some' : ∀ i, i < n → ∃ v, w.cell? ⟨g, i, none⟩ = some v
  ones : ∀ i, i < k → w.cell? ⟨g, i, none⟩ = some (.int .i64 1)
  open' : ∀ i, i < n → w.frozen? ⟨g, i, none⟩ = false
theorem ones_start (w : World) (n : Nat) (t : TypeId) : Ones (w.alloc (.cells (madeCells #[.int .i64 0] n) t)) w.heap.size n 0 := by
  refine ⟨fun i hi => ⟨.int .i64 0, ?_⟩, fun i hi => by omega, fun i hi => ?_⟩
  · rw [World.cell?_alloc_new]
    simp [madeCells, hi, Nat.mod_one]
  · exact frozen_of_row _ _ _ _ _ (heap_alloc_new w _)
theorem Ones.next {w : World} {g n k : Nat} (h : Ones w g n k) (hk : k < n) : Ones (w.setCell ⟨g, k, none⟩ (.int .i64 1)) g n (k + 1) := by
  have same : (w.setCell ⟨g, k, none⟩ (.int .i64 1)).cell? ⟨g, k, none⟩ = some (.int .i64 1) := by
    obtain ⟨v, hv⟩ := h.some' k hk
    exact World.cell?_setCell_same _ _ _ hv
  have other : ∀ i, i ≠ k → (w.setCell ⟨g, k, none⟩ (.int .i64 1)).cell? ⟨g, i, none⟩ = w.cell? ⟨g, i, none⟩ := fun i hi =>
    World.cell?_setCell_other _ _ _ _ (by intro e; cases e; exact hi rfl)
  refine ⟨fun i hi => ?_, fun i hi => ?_, fun i hi => by rw [World.frozen?_setCell]; exact h.open' i hi⟩
  · by_cases e : i = k
    · subst e; exact ⟨_, same⟩
    · rw [other i e]; exact h.some' i hi
  · by_cases e : i = k
    · subst e; exact same
    · rw [other i e]; exact h.ones i (by omega)

def oneLen (s : ByteArray) : Nat := min s.size 65536 * 8
set_option maxHeartbeats 400000 in
theorem one_any (s : ByteArray) (w : World) (hs : s.size ≤ 140737488355328) :
    Calls Try.prog 10 #[.string s] w fun e w' => (∃ ao cap, e = .returned (.slice ao (oneLen s) cap) ∧ Wds w' ao (oneLen s) (fun _ => 1)) ∧ Below w.heap.size w w' := by
  obtain ⟨n, en⟩ : ∃ n, Hid (oneLen s = n) := ⟨_, Hid.mk' rfl⟩
  have hn : n ≤ 524288 := by rw [← en.out]; unfold oneLen; omega
  rw [en.out]
  have hmk := fun w => run_make_row' (P := Try.prog) 23 3 (.int .i64 0) 8 Try.underlying23 infoInt3 rfl .i64 .i64 n (by omega) (by omega) w
  have fin : Hid (∀ wr : World, Ones wr w.heap.size n n → w.heap.size < wr.heap.size → Wds wr (some ⟨w.heap.size, 0, none⟩) n (fun _ => 1)) := fun wr ho hlt =>
    ⟨by omega, fun _ => ⟨_, 0, rfl, hlt, fun i hi => by rw [Nat.zero_add]; exact ho.ones i hi⟩, fun i hi => by omega⟩
  rcases Nat.lt_or_ge 65536 s.size with h | h
  case' inl => have hm : (65536 : Int) * 8 = (n : Int) := by rw [← en.out]; unfold oneLen; omega
  case' inr => have hm : (s.size : Int) * 8 = (n : Int) := by rw [← en.out]; unfold oneLen; omega
  all_goals
    go_enter Try.func10, Try.ntmps10
    go_wp2_with fail
    clear hmk hm
    go_loopw [12] (fun i wr => ∃ k : Nat, k ≤ n ∧ i = .int .i64 k ∧ Ones wr w.heap.size n k ∧ Below w.heap.size w wr ∧ w.heap.size < wr.heap.size) (fun i _ => n - (intOf i).toNat)
    case atStart => exact ⟨0, Nat.zero_le _, rfl, ones_start _ _ _, (Below.refl _ _).alloc (Nat.le_refl _) _, by simp⟩
    case round =>
      obtain ⟨k, hk, rfl, ho, hbl, hsz⟩ := hrel
      have HO := Hid.mk' ho
      have HB := Hid.mk' hbl
      clear ho hbl
      by_cases hlt : k < n
      · obtain ⟨v0, hv0⟩ := HO.out.some' k hlt
        have hf0 := HO.out.open' k hlt
        go_wp2_with fail
        go_roundw
        case rel => exact ⟨k + 1, by omega, by go_num, HO.out.next hlt, HB.out.setCell (Nat.le_refl _) _, by simpa using hsz⟩
        case measure => simp [intOf]; omega
      · have hkl := Hid.mk' (show k = n by omega)
        have HF : Hid (Wds wr (some ⟨w.heap.size, 0, none⟩) n (fun _ => 1)) := fin.out wr (by have := HO.out; rw [hkl.out] at this; exact this) hsz
        go_wp2_with fail
        go_ret
        exact ⟨⟨_, _, rfl, HF.out⟩, HB.out⟩

theorem widSum_one (n : Nat) : widSum (fun _ => 1) n = n := by
  induction n with
  | zero => rfl
  | succ n ih => simp only [widSum, ih]; rfl
theorem one_ok (s : ByteArray) : unpE s (oneLen s) (fun _ => 1) = 0 ∧ unpL s (oneLen s) (fun _ => 1) = oneLen s :=
  unp_ok s (oneLen s) _ (fun _ _ => by decide) (by rw [widSum_one]; unfold oneLen; omega)
theorem unpF_one (s : ByteArray) (i : Nat) : unpF s (fun _ => 1) i = ((txtN s.data.toList).testBit i).toNat := by
  unfold unpF getN
  rw [widSum_one, Nat.testBit_eq_decide_div_mod_eq]
  show _ % 2 = _
  have := Nat.mod_two_eq_zero_or_one (txtN s.data.toList / 2 ^ i)
  rcases this with h | h <;> simp [h]
theorem byte_same (a b : UInt8) (h : ∀ t, t < 8 → a.toNat.testBit t = b.toNat.testBit t) : a = b := by
  apply UInt8.toNat_inj.1
  apply Nat.eq_of_testBit_eq
  intro t
  by_cases ht : t < 8
  · exact h t ht
  · have ha : a.toNat < 2 ^ t := Nat.lt_of_lt_of_le a.toNat_lt (Nat.pow_le_pow_right (by omega) (by omega))
    have hb : b.toNat < 2 ^ t := Nat.lt_of_lt_of_le b.toNat_lt (Nat.pow_le_pow_right (by omega) (by omega))
    rw [Nat.testBit_lt_two_pow ha, Nat.testBit_lt_two_pow hb]
theorem one_math (s t : ByteArray) (hs : s.size ≤ 65536) (ht : t.size ≤ 65536) :
    eqB (oneLen s) (oneLen t) (unpF s (fun _ => 1)) (unpF t (fun _ => 1)) = decide (s.data.toList = t.data.toList) := by
  have e1 : oneLen s = s.size * 8 := by unfold oneLen; omega
  have e2 : oneLen t = t.size * 8 := by unfold oneLen; omega
  have l1 : s.data.toList.length = s.size := by simp
  have l2 : t.data.toList.length = t.size := by simp
  rw [e1, e2]
  by_cases h : s.data.toList = t.data.toList
  · have hl : s.size = t.size := by rw [← l1, ← l2, h]
    unfold eqB
    rw [sameTo_of _ _ _ (fun i _ => by rw [unpF_one, unpF_one, h])]
    simp [h, hl]
  · rw [decide_eq_false h]
    unfold eqB
    by_cases hl : s.size = t.size
    · have hx : ∃ j, j < s.size ∧ s.data.toList.getD j 0 ≠ t.data.toList.getD j 0 := by
        refine Classical.byContradiction fun hn => h ?_
        apply List.ext_getElem (by omega)
        intro j h1 h2
        refine Classical.byContradiction fun hne => hn ⟨j, by omega, ?_⟩
        rw [List.getD_eq_getElem?_getD, List.getD_eq_getElem?_getD, List.getElem?_eq_getElem h1, List.getElem?_eq_getElem h2]
        exact hne
      obtain ⟨j, hj, hne⟩ := hx
      have hy : ∃ b, b < 8 ∧ (s.data.toList.getD j 0).toNat.testBit b ≠ (t.data.toList.getD j 0).toNat.testBit b := by
        refine Classical.byContradiction fun hn => hne (byte_same _ _ fun b hb => ?_)
        exact Classical.byContradiction fun hd => hn ⟨b, hb, hd⟩
      obtain ⟨b, hb, hd⟩ := hy
      rw [sameTo_not _ _ _ (8 * j + b) (by omega)]
      · simp
      · rw [unpF_one, unpF_one, txtN_bit _ _ _ hb, txtN_bit _ _ _ hb]
        intro e
        exact hd (by revert e; cases (s.data.toList.getD j 0).toNat.testBit b <;> cases (t.data.toList.getD j 0).toNat.testBit b <;> simp)
    · have : (s.size * 8 == t.size * 8) = false := by rw [beq_eq_false_iff_ne]; omega
      simp [this]
theorem one_math' (s t : ByteArray) (hs : s.size ≤ 65536) (ht : t.size ≤ 65536) :
    eqB (oneLen s) (oneLen t) (unpF s (fun _ => 1)) (unpF t (fun _ => 1)) = (s.toList == t.toList) := by
  rw [one_math s t hs ht, ByteArray.toList_eq, ByteArray.toList_eq, Bool.eq_iff_iff, beq_iff_eq, decide_eq_true_iff]

set_option maxHeartbeats 400000 in
theorem bitsOne_at (s t : ByteArray) (w : World) (hs : s.size ≤ 140737488355328) (ht : t.size ≤ 140737488355328) :
    Calls Try.prog 4 #[.string s, .string t] w fun e w' => e = .returned (.bool true) ∧ Below w.heap.size w w' := by
  have M := Hid.mk' (one_math' s t)
  have O1 := Hid.mk' (one_ok s)
  have O2 := Hid.mk' (one_ok t)
  obtain ⟨n1, en1⟩ : ∃ n, Hid (oneLen s = n) := ⟨_, Hid.mk' rfl⟩
  obtain ⟨n2, en2⟩ : ∃ n, Hid (oneLen t = n) := ⟨_, Hid.mk' rfl⟩
  have hn1 : n1 ≤ 524288 := by rw [← en1.out]; unfold oneLen; omega
  have hn2 : n2 ≤ 524288 := by rw [← en2.out]; unfold oneLen; omega
  go_enter Try.func4, Try.ntmps4
  go_wp2_with fail
  refine (one_any s _ hs).mono ?_
  rintro e w1 ⟨⟨ao, cap, rfl, hw⟩, hb⟩
  have HB1 := Hid.mk' hb
  have HW := Hid.mk' hw
  clear hw hb
  go_wp2_with fail
  refine (unpack_any s ao _ cap _ _ (by omega) HW.out).mono ?_
  rintro e w2 ⟨⟨v2, rfl, hu⟩, hb⟩
  rw [O1.out.1]
  rw [O1.out.2] at hu
  have HB2 := Hid.mk' (HB1.out.trans (hb.mono HB1.out.size))
  have HU := Hid.mk' hu
  clear hu hb
  go_wp2_with fail
  refine (one_any t _ ht).mono ?_
  rintro e w3 ⟨⟨ao3, cap3, rfl, hw⟩, hb⟩
  have HU3 := Hid.mk' (u64s_below HU.out hb)
  have HB3 := Hid.mk' (HB2.out.trans (hb.mono HB2.out.size))
  have HW3 := Hid.mk' hw
  clear hw hb
  go_wp2_with fail
  refine (unpack_any t ao3 _ cap3 _ _ (by omega) HW3.out).mono ?_
  rintro e w4 ⟨⟨v4, rfl, hu⟩, hb⟩
  rw [O2.out.1]
  rw [O2.out.2] at hu
  have HU4 := Hid.mk' (u64s_below HU3.out hb)
  have HV4 := Hid.mk' hu
  have HB4 := Hid.mk' (HB3.out.trans (hb.mono HB3.out.size))
  clear hu hb
  rcases Nat.lt_or_ge 65536 s.size with h | h
  · have d : decide ((65536 : Int) < (s.size : Int)) = true := decide_eq_true (by omega)
    go_wp2_with fail
    go_ret
    exact ⟨rfl, HB4.out⟩
  · have d : decide ((65536 : Int) < (s.size : Int)) = false := decide_eq_false (by omega)
    rcases Nat.lt_or_ge 65536 t.size with h' | h'
    · have d' : decide ((65536 : Int) < (t.size : Int)) = true := decide_eq_true (by omega)
      go_wp2_with fail
      go_ret
      exact ⟨rfl, HB4.out⟩
    · have d' : decide ((65536 : Int) < (t.size : Int)) = false := decide_eq_false (by omega)
      have HM := Hid.mk' (M.out h h')
      go_wp2_with fail
      refine (equal_any v2 v4 _ _ _ _ _ (by rw [en1.out]; omega) (by rw [en2.out]; omega) HU4.out HV4.out).mono ?_
      rintro e w5 ⟨rfl, q, rfl⟩
      rw [HM.out]
      cases hbb : (s.toList == t.toList)
      all_goals
        go_wp2_with fail
        go_ret
        exact ⟨rfl, below_drewN HB4.out q⟩

theorem bitsOne_walk (a0 a1 : ByteArray) (w : World) (_w0 : a0.size ≤ maxLen) (z0 : a0.data.toList.length ≤ reachBytes) (_w1 : a1.size ≤ maxLen) (z1 : a1.data.toList.length ≤ reachBytes) :
    Calls Try.prog 4 #[.string a0, .string a1] w fun e w' => e = .returned (.bool true) ∧ Below w.heap.size w w' := by
  have := reachBytes_lt
  have h0 : a0.data.toList.length = a0.size := by simp
  have h1 : a1.data.toList.length = a1.size := by simp
  exact bitsOne_at a0 a1 w (by omega) (by omega)
end Go.Proofs.Ytjfkbkhfnnmbnab
