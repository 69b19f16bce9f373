/- What linenref's times and turn answer. -/
import Derived.Test.YtbakgobgjfhhhaaDoorRFlipWalks
import Derived.Test.YtbakgobgjfhhhaaDoorCrcMath
namespace Go.Proofs.YtbakgobgjfhhhaaDoor
open Go.RowKit

set_option maxHeartbeats 400000 in
theorem times_any (c : BitVec 32) (w : World) :
    Calls Tryd.prog 70 #[.int .u32 (B c)] w fun e w' => e = .returned (.int .u32 (B (tms c))) ∧ w' = w := by
  have h2 := B_lt c
  rcases (by omega : 2147483648 ≤ B c ∨ B c < 2147483648) with h | h
  · go_enter Tryd.func70, Tryd.ntmps70
    go_wp2
    go_ret
    exact ⟨ret_int (tms_hi c h), rfl⟩
  · have hd : decide ((2147483648 : Int) ≤ B c) = false := decide_eq_false (by omega)
    go_enter Tryd.func70, Tryd.ntmps70
    go_wp2
    go_ret
    exact ⟨ret_int (tms_lo c h), rfl⟩

set_option maxHeartbeats 400000 in
theorem turn_any (c : BitVec 32) (w : World) :
    Calls Tryd.prog 69 #[.int .u32 (B c)] w fun e w' => e = .returned (.int .u32 (B (revB c))) ∧ w' = w := by
  have e1 : IntKind.u64.wrap (B c) = (c.toNat : Int) := wrap_u64_of _ (B_nonneg c) (by have := B_lt c; omega)
  have e2 : IntKind.u32.wrap (rv c.toNat 32 : Int) = B (revB c) := wrapB _
  have hc := c.isLt
  go_enter Tryd.func69, Tryd.ntmps69
  go_wp2_with fail
  refine (rflip_in c.toNat 32 _ (by omega) (by decide)).mono ?_
  rintro e w' ⟨rfl, rfl⟩
  go_wp2_with fail
  go_ret
  exact ⟨rfl, rfl⟩

end Go.Proofs.YtbakgobgjfhhhaaDoor
