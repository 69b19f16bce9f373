/- What linenref.Sum answers. -/
import Derived.Test.YtbakgobgjfhhhaaDoorRSumTurn
namespace Go.Proofs.YtbakgobgjfhhhaaDoor
open Go.RowKit

theorem take_snoc' (s : ByteArray) (k : Nat) (h : k < s.size) : s.data.toList.take (k + 1) = s.data.toList.take k ++ [s[k]] := by
  rw [List.take_succ_eq_append_getElem (by simpa using h)]; rfl

set_option maxHeartbeats 400000 in
theorem rsum_any (c : BitVec 32) (s : ByteArray) (w : World) (hs : s.size ≤ maxLen) :
    Calls Tryd.prog 56 #[.int .u32 (B c), .string s] w fun e w' => e = .returned (.int .u32 (B (moreC c s.data.toList))) ∧ w' = w := by
  unfold maxLen at hs
  have hsg : IntKind.u32.signed = false := rfl
  have hn := notB c
  go_enter Tryd.func56, Tryd.ntmps56
  go_wp2_with fail
  refine (turn_any _ _).mono ?_
  rintro e w' ⟨rfl, rfl⟩
  go_wp2_with fail
  go_loop [5, 13] (fun x i => ∃ k : Nat, k ≤ s.size ∧ i = .int .i64 k ∧ x = .int .u32 (B (revB (feed (~~~c) (s.data.toList.take k))))) (fun _ i => s.size - (intOf i).toNat)
  case atStart => exact ⟨0, Nat.zero_le _, rfl, rfl⟩
  case round =>
    obtain ⟨k, hk, rfl, rfl⟩ := hrel
    by_cases hlt : k < s.size
    · have hfin : Hid (feed (~~~c) (s.data.toList.take (k + 1)) = byte1 (feed (~~~c) (s.data.toList.take k)) s[k]) := by rw [take_snoc' s k hlt, feed_snoc]; exact rfl
      generalize feed (~~~c) (s.data.toList.take k) = d at *
      go_wp2_with fail
      go_loop [5, 16] (fun x i => ∃ j : Nat, j ≤ 8 ∧ i = .int .i64 j ∧ x = .int .u32 (B (revB (inner d s[k].toNat j)))) (fun _ i => 8 - (intOf i).toNat)
      case atStart => exact ⟨0, Nat.zero_le _, rfl, rfl⟩
      case round =>
        obtain ⟨j, hj, rfl, rfl⟩ := hrel
        by_cases hlt2 : j < 8
        · have e1 := topB (revB (inner d s[k].toNat j)) s[k] j
          have e2 := Hid.mk' (inner_rev d s[k].toNat j)
          go_wp2_with fail
          refine (times_any _ _).mono ?_
          rintro e w2 ⟨rfl, rfl⟩
          go_wp2_with fail
          go_round
          case rel => exact ⟨j + 1, by omega, by go_num, by rw [← e2.out]⟩
          case measure => simp [intOf]; omega
        · have e2 := Hid.mk' (inner_byte d s[k])
          have hj8 := Hid.mk' (show j = 8 by omega)
          go_wp2_with fail
          go_round
          case rel => exact ⟨k + 1, by omega, by go_num, by rw [hfin.out, ← e2.out, hj8.out]⟩
          case measure => simp [intOf]; omega
    · have hf := notB (feed (~~~c) (s.data.toList.take k))
      go_wp2_with fail
      refine (turn_any _ _).mono ?_
      rintro e w2 ⟨rfl, rfl⟩
      rw [revB_revB]
      go_wp2_with fail
      go_ret
      refine ⟨ret_int ?_, rfl⟩
      rw [List.take_of_length_le (by simp; omega)]; rfl
end Go.Proofs.YtbakgobgjfhhhaaDoor
