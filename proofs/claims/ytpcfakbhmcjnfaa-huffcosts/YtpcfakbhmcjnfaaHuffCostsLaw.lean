/- The law HuffCosts, walked. -/
import Derived.Test.YtpcfakbhmcjnfaaCostWalks
import Derived.Test.YtpcfakbhmcjnfaaRCostWalks
namespace Go.Proofs.Ytpcfakbhmcjnfaa
open Go.RowKit

theorem costE_is (F : Nat → Int) (n : Nat) (W : Nat → Int) (m : Nat) : 0 ≤ costE F n W m ∧ costE F n W m ≤ 2 := by
  have h1 := freqE_is F n
  have h2 := fillE_is W m
  unfold costE
  split
  · split
    · split <;> omega
    · exact h2
  · exact h1

set_option maxHeartbeats 400000 in
theorem huffCosts_walk (a0 : Option Addr) (len cap : Nat) (X : Nat → Int) (a1 : Option Addr) (len1 cap1 : Nat) (Y : Nat → Int) (w : World) (w0 : Wds w a0 len X) (w1 : Wds w a1 len1 Y) :
    Calls Try.prog 3 #[.slice a0 len cap, .slice a1 len1 cap1] w fun e w' => e = .returned (.bool true) ∧ Below w.heap.size w w' := by
  have HP := Hid.mk' w0
  have HQ := Hid.mk' w1
  clear w0 w1
  obtain ⟨x, ex⟩ : ∃ t, Hid (costA X len Y len1 = t) := ⟨_, Hid.mk' rfl⟩
  obtain ⟨y, ey⟩ : ∃ t, Hid (costE X len Y len1 = t) := ⟨_, Hid.mk' rfl⟩
  go_enter Try.func3, Try.ntmps3
  go_wp2_with fail
  refine (cost_any a0 len cap X a1 len1 cap1 Y _ HP.out HQ.out).mono ?_
  rintro e w' ⟨rfl, rfl⟩
  rw [ex.out, ey.out]
  go_wp2_with fail
  refine (rcost_any a0 len cap X a1 len1 cap1 Y _ HP.out HQ.out).mono ?_
  rintro e w' ⟨rfl, rfl⟩
  rw [ex.out, ey.out]
  go_wp2_with fail
  go_ret
  exact ⟨rfl, Below.refl _ _⟩
end Go.Proofs.Ytpcfakbhmcjnfaa
