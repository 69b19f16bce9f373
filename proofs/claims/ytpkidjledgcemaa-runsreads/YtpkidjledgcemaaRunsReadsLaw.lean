/- The law RunsReads, walked. -/
import Derived.Test.YtpkidjledgcemaaRunsReadWalks
import Derived.Test.YtpkidjledgcemaaRRunsReadWalks
import Derived.Test.YtpkidjledgcemaaEqualInts
import Derived.SizedLaws
namespace Go.Proofs.Ytpkidjledgcemaa
open Go.RowKit

set_option maxHeartbeats 400000 in
theorem runsReads_walk (a0 : ByteArray) (w : World) (_w0 : a0.size ≤ maxLen) (z0 : a0.data.toList.length ≤ reachBytes) :
    Calls Try.prog 5 #[.string a0] w fun e w' => e = .returned (.bool true) ∧ Below w.heap.size w w' := by
  have hsz : a0.size ≤ 140737488355328 := by
    have e : a0.data.toList.length = a0.size := by rw [Array.length_toList]; rfl
    have := reachBytes_lt
    omega
  have hnl := rdL_len a0.data.toList
  obtain ⟨L, eL⟩ : ∃ t, Hid (rdRL a0.data.toList = t) := ⟨_, Hid.mk' rfl⟩
  obtain ⟨k, ek⟩ : ∃ t, Hid (rdRN a0.data.toList = t) := ⟨_, Hid.mk' rfl⟩
  obtain ⟨y, ey⟩ : ∃ t, Hid (rdRE a0.data.toList = t) := ⟨_, Hid.mk' rfl⟩
  rw [eL.out] at hnl
  go_enter Try.func5, Try.ntmps5
  go_wp2_with fail
  refine (rread_any a0 _ hsz).mono ?_
  rintro e w1 ⟨⟨v1, rfl, hI, _⟩, hb⟩
  rw [eL.out] at hI
  rw [ek.out, ey.out]
  have HI := Hid.mk' hI
  have HB := Hid.mk' hb
  clear hI hb
  go_wp2_with fail
  refine (rrunsread_any a0 _ hsz).mono ?_
  rintro e w2 ⟨⟨v2, rfl, hI⟩, hb⟩
  rw [eL.out] at hI
  rw [ek.out, ey.out]
  have HJ := Hid.mk' hI
  have HI2 := Hid.mk' (i64s_below HI.out hb)
  have HB2 := Hid.mk' (HB.out.trans (hb.mono HB.out.size))
  clear hI hb
  go_wp2_with fail
  refine (equalI_any v1 v2 L.length L.length _ _ _ (by omega) (by omega) HI2.out HJ.out).mono ?_
  rintro e w3 ⟨rfl, q, rfl⟩
  rw [show eqI L.length L.length (fun i => (L.getD i 0 : Nat)) (fun i => (L.getD i 0 : Nat)) = true by unfold eqI; rw [sameI_of _ _ _ (fun _ _ => rfl)]; simp]
  go_wp2_with fail
  go_ret
  exact ⟨rfl, below_drewN HB2.out _⟩
end Go.Proofs.Ytpkidjledgcemaa
