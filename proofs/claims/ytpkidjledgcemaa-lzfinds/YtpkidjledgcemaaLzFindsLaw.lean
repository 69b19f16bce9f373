/- The law LzFinds, walked. -/
import Derived.Test.YtpkidjledgcemaaFindWalks
import Derived.Test.YtpkidjledgcemaaFewestWalks
import Derived.Test.YtpkidjledgcemaaGrowAt
import Derived.SizedLaws
namespace Go.Proofs.Ytpkidjledgcemaa
open Go.RowKit

set_option maxRecDepth 20000 in
set_option maxHeartbeats 1000000 in
theorem lzFinds_walk (a0 : ByteArray) (w : World) (_w0 : a0.size ≤ maxLen) (z0 : a0.data.toList.length ≤ reachBytes) :
    Calls Try.prog 7 #[.string a0] w fun e w' => e = .returned (.bool true) ∧ Below w.heap.size w w' := by
  have hsz : a0.size ≤ 140737488355328 := by
    have e := sz_listC a0
    have := reachBytes_lt
    omega
  go_enter Try.func7, Try.ntmps7
  go_wp2_with fail
  by_cases hbig : 512 < a0.size
  · refine (find_large a0 _ hbig hsz).mono ?_
    rintro e w4 ⟨rfl, rfl⟩
    go_wp2_with fail
    go_ret
    exact ⟨rfl, Below.refl _ _⟩
  · refine (find_any a0 _ (by omega)).mono ?_
    rintro e w4 ⟨⟨v4, ms4, rfl, ho4, hf4⟩, hb4⟩
    obtain ⟨ao4, cp4, rfl⟩ := own_slice' ho4
    have HF := Hid.mk' hf4.few
    have HB4 := Hid.mk' hb4
    obtain ⟨n4, hn4⟩ : ∃ n4, ms4.length = n4 := ⟨_, rfl⟩
    rw [hn4] at HF
    rw [hn4]
    clear ho4 hf4 hb4 hn4
    go_wp2_with fail
    refine (fewest_any a0 _ (by omega)).mono ?_
    rintro e w5 ⟨⟨v, rfl, hv⟩, hb5⟩
    have HB5 := Hid.mk' (HB4.out.trans (hb5.mono HB4.out.size))
    have hvn : n4 = v := HF.out.one hv
    subst hvn
    clear hv hb5
    go_wp2_with fail
    go_ret
    exact ⟨rfl, HB5.out⟩
end Go.Proofs.Ytpkidjledgcemaa
