/- What sum.More answers, where the table holds what four steps make of each half byte. -/
import Derived.Test.YtbakgobgjfhhhaaDoorBase
import Derived.Test.YtbakgobgjfhhhaaDoorCrcMath
namespace Go.Proofs.YtbakgobgjfhhhaaDoor
open Go.RowKit

theorem take_snoc (s : ByteArray) (k : Nat) (h : k < s.size) : s.data.toList.take (k + 1) = s.data.toList.take k ++ [s[k]] := by
  rw [List.take_succ_eq_append_getElem (by simpa using h)]; rfl

/-- the table lies where it was laid -/
def Tab (w : World) : Prop := ∀ i, i < 16 → w.cell? ⟨0, i, none⟩ = some (.int .u32 (B (fours i)))

set_option maxHeartbeats 400000 in
theorem more_any (c : BitVec 32) (s : ByteArray) (w : World) (hs : s.size ≤ maxLen) (hT : Tab w) :
    Calls Tryd.prog 75 #[.int .u32 (B c), .string s] w fun e w' => e = .returned (.int .u32 (B (moreC c s.data.toList))) ∧ w' = w := by
  unfold maxLen at hs
  have hsg : IntKind.u32.signed = false := rfl
  have hn := notB c
  go_enter Tryd.func75, Tryd.ntmps75
  go_wp2
  go_loop [0, 10] (fun x i => ∃ k : Nat, k ≤ s.size ∧ i = .int .i64 k ∧ x = .int .u32 (B (feed (~~~c) (s.data.toList.take k)))) (fun _ i => s.size - (intOf i).toNat)
  case atStart => exact ⟨0, Nat.zero_le _, rfl, rfl⟩
  case round =>
    obtain ⟨k, hk, rfl, rfl⟩ := hrel
    by_cases hlt : k < s.size
    · have hfin : Hid (feed (~~~c) (s.data.toList.take (k + 1)) = byte1 (feed (~~~c) (s.data.toList.take k)) s[k]) := by rw [take_snoc s k hlt, feed_snoc]; exact rfl
      generalize feed (~~~c) (s.data.toList.take k) = d at *
      have e1 := byteB d s[k]
      have hh := Hid.mk' (byte1_halves d s[k])
      generalize d ^^^ BitVec.ofNat 32 s[k].toNat = d1 at *
      have e2 := low15 d1
      have e3 := low15_lt d1
      have e4 := hT _ e3
      have e5 := halfB d1
      generalize (d1 &&& 15#32).toNat = j1 at *
      generalize stps 4 d1 = d2 at *
      have f2 := low15 d2
      have f3 := low15_lt d2
      have f4 := hT _ f3
      have f5 := halfB d2
      generalize (d2 &&& 15#32).toNat = j2 at *
      generalize stps 4 d2 = d3 at *
      go_wp2
      go_round
      case rel => exact ⟨k + 1, by omega, by go_num, by rw [hfin.out, ← hh.out]⟩
      case measure => simp [intOf]; omega
    · have hf := notB (feed (~~~c) (s.data.toList.take k))
      go_wp2
      go_ret
      refine ⟨ret_int ?_, rfl⟩
      rw [List.take_of_length_le (by simp; omega)]; rfl

end Go.Proofs.YtbakgobgjfhhhaaDoor
