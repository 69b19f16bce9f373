/- What sum.stepBack and sum.Force answer. -/
import Derived.Test.YtjfkbkhfnnmbnacDoorBase
import Derived.Test.YtjfkbkhfnnmbnacDoorForceMath
namespace Go.Proofs.YtjfkbkhfnnmbnacDoor
open Go.RowKit

set_option maxHeartbeats 400000 in
theorem stepBack_any (c : BitVec 32) (w : World) :
    Calls Tryd.prog 6 #[.int .u32 (B c)] w fun e w' => e = .returned (.int .u32 (B (bck c))) ∧ w' = w := by
  have ht := top_test c
  cases h : c.getLsbD 31 with
  | true =>
    have hb := Hid.mk' (bck_hi c h)
    rw [h] at ht
    clear h
    go_enter Tryd.func6, Tryd.ntmps6
    go_wp2
    go_ret
    exact ⟨ret_int hb.out, rfl⟩
  | false =>
    have hb := Hid.mk' (bck_lo c h)
    rw [h] at ht
    clear h
    go_enter Tryd.func6, Tryd.ntmps6
    go_wp2
    go_ret
    exact ⟨ret_int hb.out, rfl⟩

theorem four_string (w : World) (x0 x1 x2 x3 : Int) :
    (convert 28 9 (.slice (some ⟨w.heap.size, 0, none⟩) 4 4)).run Tryd.prog (w.alloc (.cells #[.int .u8 x0, .int .u8 x1, .int .u8 x2, .int .u8 x3] 5)) =
      .ok (.string (strOfNums [x0, x1, x2, x3])) (w.alloc (.cells #[.int .u8 x0, .int .u8 x1, .int .u8 x2, .int .u8 x3] 5)) :=
  run_convert_bytes_arg (P := Tryd.prog) _ 28 5 Tryd.underlying28 Tryd.underlying5 w.heap.size 0 4 4 [x0, x1, x2, x3] rfl
    (fun i hi => by
      rcases (by omega : i = 0 ∨ i = 1 ∨ i = 2 ∨ i = 3) with rfl | rfl | rfl | rfl <;> simp) 9 Tryd.underlying9

set_option maxHeartbeats 400000 in
theorem force_any (a c : BitVec 32) (w : World) :
    Calls Tryd.prog 4 #[.int .u32 (B a), .int .u32 (B c)] w fun e w' => e = .returned (.string ⟨(forceL a c).toArray⟩) ∧ ∃ C, w' = w.alloc (.cells C 5) := by
  have hsg : IntKind.u32.signed = false := rfl
  have hn := notB c
  have hn2 := notB a
  go_enter Tryd.func4, Tryd.ntmps4
  go_wp2
  go_loop [5, 8] (fun x i => ∃ k : Nat, k ≤ 32 ∧ i = .int .i64 k ∧ x = .int .u32 (B (bcks k (~~~c)))) (fun _ i => 32 - (intOf i).toNat)
  case atStart => exact ⟨0, Nat.zero_le _, rfl, rfl⟩
  case round =>
    obtain ⟨k, hk, rfl, rfl⟩ := hrel
    by_cases hlt : k < 32
    · go_wp2_with fail
      refine (stepBack_any _ _).mono ?_
      rintro e w' ⟨rfl, rfl⟩
      go_wp2_with fail
      go_round
      case rel => exact ⟨k + 1, by omega, by go_num, rfl⟩
      case measure => simp [intOf]; omega
    · have hx := xorB (bcks k (~~~c)) (~~~a)
      have hF : Hid (forceL a c = [byteAt (bcks k (~~~c) ^^^ ~~~a) 0, byteAt (bcks k (~~~c) ^^^ ~~~a) 1, byteAt (bcks k (~~~c) ^^^ ~~~a) 2, byteAt (bcks k (~~~c) ^^^ ~~~a) 3]) := by
        rw [show k = 32 by omega]; exact rfl
      generalize bcks k (~~~c) ^^^ ~~~a = x at *
      have hcv := four_string w (B x % 256) (B x / 256 % 256) (B x / 65536 % 256) (B x / 16777216 % 256)
      have hb := Hid.mk' (bytes_of x)
      go_wp2
      go_ret
      refine ⟨?_, _, rfl⟩
      rw [hF.out, ← hb.out]
      rfl
end Go.Proofs.YtjfkbkhfnnmbnacDoor
