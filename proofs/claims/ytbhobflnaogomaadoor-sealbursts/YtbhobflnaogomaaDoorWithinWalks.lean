/- What linenkeep.Within answers. -/
import Derived.Test.YtbhobflnaogomaaDoorBase
namespace Go.Proofs.YtbhobflnaogomaaDoor
open Go.RowKit

theorem within_is (k n : Int) (h3 : 0 < n) (h4 : n ≤ 9223372036854775807) : ∃ m : Nat, wrap64 ((IntKind.u64.wrap k).tmod n) = m ∧ (m : Int) < n := by
  have h0 : 0 ≤ IntKind.u64.wrap k := by rw [IntKind.wrap_u64]; exact Int.emod_nonneg _ (by decide)
  rw [Int.tmod_eq_emod_of_nonneg h0]
  have h1 := Int.emod_nonneg (IntKind.u64.wrap k) (by omega : n ≠ 0)
  have h2 := Int.emod_lt_of_pos (IntKind.u64.wrap k) h3
  generalize IntKind.u64.wrap k % n = x at *
  exact ⟨x.toNat, by unfold wrap64; omega, by omega⟩
set_option maxHeartbeats 400000 in
theorem within_at (k n : Int) (w : World) (_h1 : -9223372036854775808 ≤ k) (_h2 : k ≤ 9223372036854775807) (h3 : 0 < n) (h4 : n ≤ 9223372036854775807) :
    Calls Tryd.prog 13 #[.int .i64 k, .int .i64 n] w fun e w' => (∃ m : Nat, e = .returned (.int .i64 m) ∧ (m : Int) < n) ∧ w' = w := by
  have hm := Hid.mk' (within_is k n h3 h4)
  go_enter Tryd.func13, Tryd.ntmps13
  go_wp2
  go_ret
  obtain ⟨m, h, hl⟩ := hm.out
  exact ⟨⟨m, ret_int h, hl⟩, rfl⟩
end Go.Proofs.YtbhobflnaogomaaDoor
