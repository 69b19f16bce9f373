/- The law NumPuts, walked. -/
import Derived.Test.YticigfleieeooaaRGetWalks
import Derived.Test.YticigfleieeooaaRNumPutWalks
namespace Go.Proofs.Yticigfleieeooaa
open Go.RowKit

set_option maxHeartbeats 400000 in
theorem numPuts_walk (a0 : Int) (a1 : ByteArray) (w : World) (w0 : (Lit.int .u64 a0).wf = true) (_w1 : a1.size ≤ maxLen) (_z1 : a1.data.toList.length ≤ reachBytes) :
    Calls Try.prog 3 #[.int .u64 a0, .string a1] w fun e w' => e = .returned (.bool true) ∧ Below w.heap.size w w' := by
  obtain ⟨n, rfl, hn⟩ := u64_nat w0
  obtain ⟨t, et⟩ : ∃ t, Hid (ByteArray.mk (putB n).toArray = t) := ⟨_, Hid.mk' rfl⟩
  obtain ⟨x, ex⟩ : ∃ t, Hid (getA a1.data.toList = t) := ⟨_, Hid.mk' rfl⟩
  obtain ⟨y, ey⟩ : ∃ t, Hid (getK a1.data.toList = t) := ⟨_, Hid.mk' rfl⟩
  obtain ⟨z, ez⟩ : ∃ t, Hid (getE a1.data.toList = t) := ⟨_, Hid.mk' rfl⟩
  go_enter Try.func3, Try.ntmps3
  go_wp2_with fail
  refine (get_any _ _).mono ?_
  rintro e w' ⟨rfl, rfl⟩
  rw [ex.out, ey.out, ez.out]
  go_wp2_with fail
  refine (rget_any _ _).mono ?_
  rintro e w' ⟨rfl, rfl⟩
  rw [ex.out, ey.out, ez.out]
  go_wp2_with fail
  refine (put_num _ _ hn).mono ?_
  rintro e w1 ⟨rfl, hb⟩
  have HB := Hid.mk' hb
  clear hb
  rw [et.out]
  go_wp2_with fail
  refine (rput_num _ _ hn).mono ?_
  rintro e w2 ⟨rfl, hb⟩
  have HB2 := Hid.mk' (HB.out.trans (hb.mono HB.out.size))
  clear hb
  rw [et.out]
  go_wp2_with fail
  go_ret
  exact ⟨rfl, HB2.out⟩
end Go.Proofs.Yticigfleieeooaa
