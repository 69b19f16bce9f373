import Derived.Test.YtcalbicfnhoklaaDoorMsac
import Derived.Deep.RegionHeld3

/- What strings.Trim answers where noughts are taken off. -/
namespace Go.Proofs.YtcalbicfnhoklaaDoor
open Go.RowKit

def szOf : Value → Nat
  | .string s => s.size
  | _ => 0
theorem ext_frontT (s : ByteArray) (b : Nat) : (s.extract 0 b).data.toList = s.data.toList.take b := by
  rw [ByteArray.data_extract]; simp
theorem ext_backT (s : ByteArray) (a : Nat) : (s.extract a s.size).data.toList = s.data.toList.drop a := by
  rw [ByteArray.data_extract]
  simp only [Array.toList_extract, List.extract_eq_take_drop]
  exact List.take_of_length_le (by simp)
theorem byte_atT (s : ByteArray) (q : Nat) (h : q < s.size) : s.data.toList.getD q 0 = s[q] := by
  have : q < s.data.toList.length := by simpa using h
  rw [List.getD_eq_getElem?_getD, List.getElem?_eq_getElem this]; rfl
theorem u8_zero (b : UInt8) : b.toNat = 0 ↔ b = 0 := ⟨fun h => UInt8.toNat_inj.1 h, fun h => by rw [h]; rfl⟩

/-- noughts are taken off the end -/
def TrR (s T : ByteArray) : Prop := ∃ j, T.data.toList = s.data.toList.take j ∧ j ≤ s.size ∧ (∀ i, j ≤ i → i < s.size → s.data.toList.getD i 0 = 0) ∧ (0 < j → s.data.toList.getD (j - 1) 0 ≠ 0)
/-- nothing is left just where all are noughts -/
def TrL (s T : ByteArray) : Prop := T.data.toList = [] ↔ ∀ i, i < s.size → s.data.toList.getD i 0 = 0
theorem trR_size {s T : ByteArray} (h : TrR s T) : T.size ≤ s.size := by
  obtain ⟨j, hT, hj, _⟩ := h
  have h1 : T.data.toList.length = T.size := by simp
  have h2 : s.data.toList.length = s.size := by simp
  rw [← h1, hT, List.length_take, h2]; omega
theorem trim_both {s T U : ByteArray} (h1 : TrR s T) (h2 : TrL T U) : TrL s U := by
  have hl : s.data.toList.length = s.size := by simp
  obtain ⟨j, hT, hj, hz, hnz⟩ := h1
  have hTl : T.size = j := by
    have h1 : T.data.toList.length = T.size := by simp
    rw [← h1, hT, List.length_take, hl]; omega
  have hget : ∀ i, i < j → T.data.toList.getD i 0 = s.data.toList.getD i 0 := fun i hi => by
    rw [hT, List.getD_eq_getElem?_getD, List.getD_eq_getElem?_getD, List.getElem?_take_of_lt hi]
  unfold TrL at h2 ⊢
  rw [h2, hTl]
  refine ⟨fun h i hi => ?_, fun h i hi => by rw [hget i hi]; exact h i (by omega)⟩
  by_cases hij : i < j
  · rw [← hget i hij]; exact h i hij
  · exact hz i (by omega) hi
set_option maxRecDepth 20000 in
set_option maxHeartbeats 1000000 in
theorem trimR_any (s : ByteArray) (w : World) (hs : s.size ≤ 512) :
    Calls Tryd.prog 16 #[.string s, .int .u8 0] w fun e w' => (∃ T : ByteArray, e = .returned (.string T) ∧ TrR s T) ∧ w' = w := by
  have hl : Hid (s.data.toList.length = s.size) := by show _ = _; simp
  go_enter Tryd.func16, Tryd.ntmps16
  go_wp2_with fail
  go_loop [0] (fun sv => ∃ (T : ByteArray) (j : Nat), sv = .string T ∧ T.data.toList = s.data.toList.take j ∧ j ≤ s.size ∧ (∀ i, j ≤ i → i < s.size → s.data.toList.getD i 0 = 0)) (fun sv => szOf sv)
  case atStart => exact ⟨s, s.size, rfl, by rw [List.take_of_length_le (by rw [hl.out]; exact Nat.le_refl _)], Nat.le_refl _, fun i h1 h2 => by omega⟩
  case round =>
    obtain ⟨T, j, rfl, hT, hj, hz⟩ := hrel
    have HT := Hid.mk' hT
    have HZ := Hid.mk' hz
    have hTs : T.size = j := by
      have h1 : T.data.toList.length = T.size := by simp
      rw [← h1, hT, List.length_take, hl.out]; omega
    have HTs := Hid.mk' hTs
    clear hT hz
    by_cases h0 : j = 0
    · have t0 : decide (0 < T.size) = false := decide_eq_false (by omega)
      have HF : Hid (0 < j → s.data.toList.getD (j - 1) 0 ≠ 0) := fun h => by omega
      clear hTs h0
      go_wp2_with fail
      go_ret
      exact ⟨⟨T, rfl, j, HT.out, hj, HZ.out, HF.out⟩, rfl⟩
    · have t0 : decide (0 < T.size) = true := decide_eq_true (by omega)
      obtain ⟨q, hq⟩ : ∃ q, Hid (q + 1 = T.size) := ⟨T.size - 1, by show _ = _; omega⟩
      have eq1 : IntKind.i64.wrap ((T.size : Int) - 1) = (q : Int) := by rw [IntKind.wrap_i64]; have := hq.out; omega
      have hqT : q < T.size := by have := hq.out; omega
      have hq0 : (0 : Int) ≤ (q : Int) := by omega
      have hq1 : (q : Int) ≤ (T.size : Int) := by omega
      have hqj : Hid (q + 1 = j) := by show _ = _; have := hq.out; omega
      have HBt : Hid (s.data.toList.getD q 0 = T[q]) := by
        show _ = _
        rw [← byte_atT T q hqT, HT.out, List.getD_eq_getElem?_getD, List.getD_eq_getElem?_getD, List.getElem?_take_of_lt (by have := hqj.out; omega)]
      clear hTs
      by_cases hb : T[q].toNat = 0
      · have HN : Hid ((T.extract 0 q).data.toList = s.data.toList.take q) := by
          show _ = _
          rw [ext_frontT, HT.out, List.take_take, Nat.min_eq_left (by have := hqj.out; omega)]
        have HZ2 : Hid (∀ i, q ≤ i → i < s.size → s.data.toList.getD i 0 = 0) := fun i h1 h2 => by
          by_cases e : i = q
          · subst e; rw [HBt.out]; exact (u8_zero _).1 hb
          · exact HZ.out i (by have := hqj.out; omega) h2
        have hsz : Hid ((T.extract 0 q).size < T.size) := by show _ < _; rw [ByteArray.size_extract]; omega
        go_wp2_with fail
        go_round
        case rel => exact ⟨_, q, rfl, HN.out, by have := hqj.out; omega, HZ2.out⟩
        case measure => exact hsz.out
      · have HF : Hid (0 < j → s.data.toList.getD (j - 1) 0 ≠ 0) := fun _ => by
          rw [show j - 1 = q by have := hqj.out; omega, HBt.out]
          exact fun e => hb ((u8_zero _).2 e)
        go_wp2_with fail
        go_ret
        exact ⟨⟨T, rfl, j, HT.out, hj, HZ.out, HF.out⟩, rfl⟩

set_option maxRecDepth 20000 in
set_option maxHeartbeats 1000000 in
theorem trimL_any (s : ByteArray) (w : World) (_hs : s.size ≤ 512) :
    Calls Tryd.prog 15 #[.string s, .int .u8 0] w fun e w' => (∃ T : ByteArray, e = .returned (.string T) ∧ TrL s T) ∧ w' = w := by
  have hl : Hid (s.data.toList.length = s.size) := by show _ = _; simp
  go_enter Tryd.func15, Tryd.ntmps15
  go_wp2_with fail
  go_loop [0] (fun sv => ∃ (T : ByteArray) (j : Nat), sv = .string T ∧ T.data.toList = s.data.toList.drop j ∧ j ≤ s.size ∧ (∀ i, i < j → s.data.toList.getD i 0 = 0)) (fun sv => szOf sv)
  case atStart => exact ⟨s, 0, rfl, rfl, Nat.zero_le _, fun i h1 => by omega⟩
  case round =>
    obtain ⟨T, j, rfl, hT, hj, hz⟩ := hrel
    have HT := Hid.mk' hT
    have HZ := Hid.mk' hz
    have hTs : T.size = s.size - j := by
      have h1 : T.data.toList.length = T.size := by simp
      rw [← h1, hT, List.length_drop, hl.out]
    clear hT hz
    by_cases h0 : T.size = 0
    · have t0 : decide (0 < T.size) = false := decide_eq_false (by omega)
      have HF : Hid (TrL s T) := by
        refine ⟨fun _ i hi => HZ.out i (by omega), fun _ => ?_⟩
        have h1 : T.data.toList.length = T.size := by simp
        exact List.length_eq_zero_iff.1 (by rw [h1]; exact h0)
      clear hTs h0
      go_wp2_with fail
      go_ret
      exact ⟨⟨T, rfl, HF.out⟩, rfl⟩
    · have t0 : decide (0 < T.size) = true := decide_eq_true (by omega)
      have h0T : 0 < T.size := by omega
      have h1T : (1 : Int) ≤ (T.size : Int) := by omega
      have hjs : j < s.size := by omega
      have HBt : Hid (s.data.toList.getD j 0 = T[0]) := by
        show _ = _
        rw [← byte_atT T 0 h0T, HT.out, List.getD_eq_getElem?_getD, List.getD_eq_getElem?_getD, List.getElem?_drop, Nat.add_zero]
      clear hTs
      by_cases hb : T[0].toNat = 0
      · have HN : Hid ((T.extract 1 T.size).data.toList = s.data.toList.drop (j + 1)) := by
          show _ = _
          rw [ext_backT, HT.out, List.drop_drop]
        have HZ2 : Hid (∀ i, i < j + 1 → s.data.toList.getD i 0 = 0) := fun i h1 => by
          by_cases e : i = j
          · subst e; rw [HBt.out]; exact (u8_zero _).1 hb
          · exact HZ.out i (by omega)
        have hsz : Hid ((T.extract 1 T.size).size < T.size) := by show _ < _; rw [ByteArray.size_extract]; omega
        go_wp2_with fail
        go_round
        case rel => exact ⟨_, j + 1, rfl, HN.out, hjs, HZ2.out⟩
        case measure => exact hsz.out
      · have HF : Hid (TrL s T) := by
          refine ⟨fun h => ?_, fun h => ?_⟩
          · have h1 : T.data.toList.length = T.size := by simp
            rw [h] at h1
            simp at h1
            omega
          · exact absurd ((u8_zero _).2 (by rw [← HBt.out]; exact h j hjs)) hb
        go_wp2_with fail
        go_ret
        exact ⟨⟨T, rfl, HF.out⟩, rfl⟩

set_option maxRecDepth 20000 in
set_option maxHeartbeats 1000000 in
theorem trim_any (s : ByteArray) (w : World) (hs : s.size ≤ 512) :
    Calls Tryd.prog 10 #[.string s, .string ⟨#[0]⟩] w fun e w' => (∃ T : ByteArray, e = .returned (.string T) ∧ TrL s T) ∧ Below w.heap.size w w' := by
  have hl : Hid (s.data.toList.length = s.size) := by show _ = _; simp
  by_cases h0 : s.size = 0
  · obtain rfl : s = ⟨#[]⟩ := ByteArray.ext (Array.eq_empty_of_size_eq_zero h0)
    go_enter Tryd.func10, Tryd.ntmps10
    go_wp2_with fail
    go_ret
    exact ⟨⟨_, rfl, ⟨fun _ i hi => absurd hi (Nat.not_lt_zero _), fun _ => rfl⟩⟩, Below.refl _ _⟩
  · have te : s.toList.isEmpty = false := by
      rw [ByteArray.toList_eq]
      cases hd : s.data.toList with
      | nil => have := hl.out; rw [hd] at this; simp at this; omega
      | cons a b => rfl
    go_enter Tryd.func10, Tryd.ntmps10
    go_wp2_with fail
    go_region_held3 (fun _ => True) (trivial) (first | (go_at_call 16; refine (trimR_any s _ hs).mono ?_; rintro e w1 ⟨⟨T1, rfl, hT1⟩, rfl⟩; have HT1 := Hid.mk' hT1; have hT1s := trR_size hT1; clear hT1) | (go_at_call 15; refine (trimL_any T1 _ (by omega)).mono ?_; rintro e w1 ⟨⟨T2, rfl, hT2⟩, rfl⟩; have HT2 := Hid.mk' hT2; clear hT2) | fail)
    all_goals
      go_wp2_with fail
      go_ret
      exact ⟨⟨T2, rfl, trim_both HT1.out HT2.out⟩, (Below.refl _ _).drew⟩
end Go.Proofs.YtcalbicfnhoklaaDoor
