/- The law LensFills, walked. -/
import Derived.Test.YtgecdldahgfncaaFillWalks
import Derived.Test.YtgecdldahgfncaaRFillWalks
namespace Go.Proofs.Ytgecdldahgfncaa
open Go.RowKit

set_option maxHeartbeats 400000 in
theorem lensFills_walk (a0 : Option Addr) (len cap : Nat) (X : Nat → Int) (w : World) (w0 : Wds w a0 len X) :
    Calls Try.prog 6 #[.slice a0 len cap] w fun e w' => e = .returned (.bool true) ∧ Below w.heap.size w w' := by
  have HP := Hid.mk' w0
  clear w0
  obtain ⟨x, ex⟩ : ∃ t, Hid (fillA X len = t) := ⟨_, Hid.mk' rfl⟩
  obtain ⟨y, ey⟩ : ∃ t, Hid (fillE X len = t) := ⟨_, Hid.mk' rfl⟩
  go_enter Try.func6, Try.ntmps6
  go_wp2_with fail
  refine (fill_any a0 len cap X _ HP.out).mono ?_
  rintro e w' ⟨rfl, rfl⟩
  rw [ex.out, ey.out]
  go_wp2_with fail
  refine (rfill_any a0 len cap X _ HP.out).mono ?_
  rintro e w' ⟨rfl, rfl⟩
  rw [ex.out, ey.out]
  go_wp2_with fail
  go_ret
  exact ⟨rfl, Below.refl _ _⟩
end Go.Proofs.Ytgecdldahgfncaa
