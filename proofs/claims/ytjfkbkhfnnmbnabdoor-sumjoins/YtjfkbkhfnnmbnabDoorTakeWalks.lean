/- What sum.step and sum.take answer. -/
import Derived.Test.YtjfkbkhfnnmbnabDoorRows32
import Derived.Test.YtjfkbkhfnnmbnabDoorJoinMath
namespace Go.Proofs.YtjfkbkhfnnmbnabDoor
open Go.RowKit

set_option maxHeartbeats 400000 in
theorem step_any (c : BitVec 32) (w : World) :
    Calls Tryd.prog 14 #[.int .u32 (B c)] w fun e w' => e = .returned (.int .u32 (B (stp c))) ∧ w' = w := by
  have ht := bit_low c
  cases h : c.getLsbD 0 with
  | true =>
    have hb := Hid.mk' (stp_hi c h)
    rw [h] at ht
    clear h
    go_enter Tryd.func14, Tryd.ntmps14
    go_wp2
    go_ret
    exact ⟨ret_int hb.out, rfl⟩
  | false =>
    have hb := Hid.mk' (stp_lo c h)
    rw [h] at ht
    clear h
    go_enter Tryd.func14, Tryd.ntmps14
    go_wp2
    go_ret
    exact ⟨ret_int hb.out, rfl⟩

/-- 32 words, as an array holds them -/
structure Row32 (cs : Array Value) (f : Nat → BitVec 32) : Prop where
  size : cs.size = 32
  at' : ∀ i, i < 32 → cs[i]? = some (.int .u32 (B (f i)))

theorem infoSteps : (Tryd.prog.info? 33).map (·.size) = some 32 := by kernel_rfl
theorem infoWord : (Tryd.prog.info? 22).map (·.size) = some 1 := by kernel_rfl
theorem Row32.info {cs : Array Value} {f : Nat → BitVec 32} (h : Row32 cs f) : (Tryd.prog.info? 33).map (·.size) = some cs.size := by rw [h.size]; exact infoSteps
theorem Row32.index {cs : Array Value} {f : Nat → BitVec 32} (h : Row32 cs f) (i : Nat) (hi : i < 32) (w : World) :
    (Instr.index 33 (.agg cs) (.int .i64 (i : Int))).run Tryd.prog w = .ok (.int .u32 (B (f i))) w :=
  run_index_array w 33 22 32 (.int .u32) cs i _ Tryd.underlying33 hi Tryd.underlying22 rfl infoWord (h.at' i hi)

set_option maxHeartbeats 400000 in
theorem take_any (cs : Array Value) (f : Nat → BitVec 32) (h : Row32 cs f) (c : BitVec 32) (w : World) :
    Calls Tryd.prog 12 #[.agg cs, .int .u32 (B c)] w fun e w' => e = .returned (.int .u32 (B (takeTo f c 32))) ∧ w' = w.alloc (.cells cs 33) := by
  have hi := Hid.mk' h.info
  have hx := Hid.mk' h.index
  clear h
  go_enter Tryd.func12, Tryd.ntmps12
  go_wp2_with (refine wpList_load_row rfl 33 _ rfl w.heap.size rfl 33 cs _ _ (heap_alloc_new w _) Tryd.underlying33 rfl hi.out ?_)
  go_loop [5, 9] (fun r i => ∃ k : Nat, k ≤ 32 ∧ i = .int .i64 k ∧ r = .int .u32 (B (takeTo f c k))) (fun _ i => 32 - (intOf i).toNat)
  case atStart => exact ⟨0, Nat.zero_le _, rfl, rfl⟩
  case round =>
    obtain ⟨k, hk, rfl, rfl⟩ := hrel
    by_cases hlt : k < 32
    · have hix := hx.out k hlt
      have ht := bit_of c k
      have hxo := xorB (takeTo f c k) (f k)
      cases hb : c.getLsbD k with
      | true =>
        have hs := Hid.mk' (show takeTo f c (k + 1) = takeTo f c k ^^^ f k by rw [takeTo, if_pos hb])
        rw [hb] at ht
        clear hb
        go_wp2
        go_round
        case rel => exact ⟨k + 1, by omega, by go_num, by rw [hs.out]⟩
        case measure => simp [intOf]; omega
      | false =>
        have hs := Hid.mk' (show takeTo f c (k + 1) = takeTo f c k by rw [takeTo, hb, if_neg (by decide)])
        rw [hb] at ht
        clear hb
        go_wp2
        go_round
        case rel => exact ⟨k + 1, by omega, by go_num, by rw [hs.out]⟩
        case measure => simp [intOf]; omega
    · go_wp2
      go_ret
      exact ⟨ret_int (by rw [show k = 32 by omega]), rfl⟩
end Go.Proofs.YtjfkbkhfnnmbnabDoor
