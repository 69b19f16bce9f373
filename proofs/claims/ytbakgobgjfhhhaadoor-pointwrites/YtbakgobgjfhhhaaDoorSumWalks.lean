/- What sum.Sum answers. -/
import Derived.Test.YtbakgobgjfhhhaaDoorMoreWalks
namespace Go.Proofs.YtbakgobgjfhhhaaDoor
open Go.RowKit

set_option maxHeartbeats 400000 in
theorem sum_any (s : ByteArray) (w : World) (hs : s.size ≤ maxLen) (hT : Tab w) :
    Calls Tryd.prog 67 #[.string s] w fun e w' => e = .returned (.int .u32 (B (sumC s.data.toList))) ∧ w' = w := by
  have h := Hid.mk' (fun w' (h : Tab w') => more_any 0 s w' hs h)
  go_enter Tryd.func67, Tryd.ntmps67
  go_wp2_with fail
  refine (h.out _ hT).mono ?_
  rintro e w' ⟨rfl, rfl⟩
  go_wp2_with fail
  go_ret
  exact ⟨rfl, rfl⟩
end Go.Proofs.YtbakgobgjfhhhaaDoor
