/- The law RunsWrites, walked. -/
import Derived.Test.YtpkidjledgcemaaRunsWriteWalks
import Derived.Test.YtpkidjledgcemaaRRunsWalks
namespace Go.Proofs.Ytpkidjledgcemaa
open Go.RowKit

set_option maxHeartbeats 400000 in
theorem runsWrites_walk (a0 : Option Addr) (len cap : Nat) (X : Nat → Int) (w : World) (w0 : Wds w a0 len X) (q0 : len ≤ cap ∧ cap ≤ maxLen) :
    Calls Try.prog 4 #[.slice a0 len cap] w fun e w' => e = .returned (.bool true) ∧ Below w.heap.size w w' := by
  have HP := Hid.mk' w0
  have HQ := Hid.mk' q0
  clear w0 q0
  obtain ⟨x, ex⟩ : ∃ t, Hid (ByteArray.mk (rwB X len).toArray = t) := ⟨_, Hid.mk' rfl⟩
  obtain ⟨y, ey⟩ : ∃ t, Hid (fillE X len = t) := ⟨_, Hid.mk' rfl⟩
  go_enter Try.func4, Try.ntmps4
  go_wp2_with fail
  refine (rwrite_any a0 len cap X _ HP.out HQ.out).mono ?_
  rintro e w1 ⟨rfl, hb⟩
  have HB := Hid.mk' hb
  have HP1 := Hid.mk' (wds_below HP.out hb)
  clear hb
  rw [ex.out, ey.out]
  go_wp2_with fail
  refine (rruns_any a0 len cap X _ HP1.out).mono ?_
  rintro e w2 ⟨rfl, hb⟩
  have HB2 := Hid.mk' (HB.out.trans (hb.mono HB.out.size))
  clear hb
  rw [ex.out, ey.out]
  go_wp2_with fail
  go_ret
  exact ⟨rfl, HB2.out⟩
end Go.Proofs.Ytpkidjledgcemaa
