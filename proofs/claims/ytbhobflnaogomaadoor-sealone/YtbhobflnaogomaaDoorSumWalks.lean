/- What sum.Sum answers. -/
import Derived.Test.YtbhobflnaogomaaDoorMoreWalks
namespace Go.Proofs.YtbhobflnaogomaaDoor
open Go.RowKit

set_option maxHeartbeats 400000 in
theorem sum_any (s : ByteArray) (w : World) (hs : s.size ≤ maxLen) (hT : Tab w) :
    Calls Tryd.prog 23 #[.string s] w fun e w' => e = .returned (.int .u32 (B (sumC s.data.toList))) ∧ w' = w := by
  have h := Hid.mk' (fun w' (h : Tab w') => more_any 0 s w' hs h)
  go_enter Tryd.func23, Tryd.ntmps23
  go_wp2_with fail
  refine (h.out _ hT).mono ?_
  rintro e w' ⟨rfl, rfl⟩
  go_wp2_with fail
  go_ret
  exact ⟨rfl, rfl⟩
end Go.Proofs.YtbhobflnaogomaaDoor
