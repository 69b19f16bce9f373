/- The law SumJoined, walked: both answers are so many steps of a, exclusive-or b. -/
import Derived.Test.YtjfkbkhfnnmbnaaJoinTop
import Derived.Test.YtjfkbkhfnnmbnaaRJoinWalks
namespace Go.Proofs.Ytjfkbkhfnnmbnaa
open Go.RowKit

set_option maxHeartbeats 400000 in
theorem sumJoined_at (a b : BitVec 32) (v : Int) (w : World) (h1 : -9223372036854775808 ≤ v) (h2 : v ≤ 9223372036854775807) :
    Calls Try.prog 6 #[.int .u32 (B a), .int .u32 (B b), .int .i64 v] w fun e w' => e = .returned (.bool true) ∧ Below w.heap.size w w' := by
  go_enter Try.func6, Try.ntmps6
  go_wp2_with fail
  refine (join_any _ _ _ _ h1 h2).mono ?_
  rintro e w1 ⟨rfl, hb⟩
  have hb' := Hid.mk' hb
  clear hb
  go_wp2_with fail
  refine (rjoin_any _ _ _ _ h1 h2).mono ?_
  rintro e w2 ⟨rfl, rfl⟩
  go_wp2_with fail
  go_ret
  exact ⟨rfl, hb'.out⟩

theorem sumJoined_walk (a0 : Int) (a1 : Int) (a2 : Int) (w0 : (Lit.int .u32 a0).wf = true) (w1 : (Lit.int .u32 a1).wf = true) (w2 : (Lit.int .i64 a2).wf = true) (w : World) :
    Calls Try.prog 6 #[.int .u32 a0, .int .u32 a1, .int .i64 a2] w fun e w' => e = .returned (.bool true) ∧ Below w.heap.size w w' := by
  obtain ⟨n, rfl, hn⟩ := u32_nat w0
  obtain ⟨m, rfl, hm⟩ := u32_nat w1
  obtain ⟨h1, h2⟩ := bounds_i64 w2
  rw [B_of n hn, B_of m hm]
  exact sumJoined_at _ _ a2 w h1 h2
end Go.Proofs.Ytjfkbkhfnnmbnaa
