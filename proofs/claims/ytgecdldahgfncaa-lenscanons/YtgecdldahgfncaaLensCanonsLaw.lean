/- The law LensCanons, walked. -/
import Derived.Test.YtgecdldahgfncaaCanonWalks
import Derived.Test.YtgecdldahgfncaaRCanonWalks
import Derived.Test.YtgecdldahgfncaaEqualInts
namespace Go.Proofs.Ytgecdldahgfncaa
open Go.RowKit

theorem canL_le (W : Nat → Int) (len : Nat) : canL W len ≤ len := by unfold canL; split <;> omega
set_option maxHeartbeats 400000 in
theorem lensCanons_walk (a0 : Option Addr) (len cap : Nat) (X : Nat → Int) (w : World) (w0 : Wds w a0 len X) :
    Calls Try.prog 7 #[.slice a0 len cap] w fun e w' => e = .returned (.bool true) ∧ Below w.heap.size w w' := by
  have hlen := w0.lenB
  have HP := Hid.mk' w0
  clear w0
  have hcl := canL_le X len
  obtain ⟨y, ey⟩ : ∃ t, Hid (canE X len = t) := ⟨_, Hid.mk' rfl⟩
  obtain ⟨n, en⟩ : ∃ t, Hid (canL X len = t) := ⟨_, Hid.mk' rfl⟩
  rw [en.out] at hcl
  go_enter Try.func7, Try.ntmps7
  go_wp2_with fail
  refine (canon_any a0 len cap X _ HP.out).mono ?_
  rintro e w1 ⟨⟨v1, rfl, h1⟩, hb1⟩
  rw [ey.out]
  rw [en.out] at h1
  have H1 := Hid.mk' h1
  have HB1 := Hid.mk' hb1
  have HP1 := Hid.mk' (wds_below HP.out hb1)
  clear h1 hb1
  go_wp2_with fail
  refine (rcanon_any a0 len cap X _ HP1.out).mono ?_
  rintro e w2 ⟨⟨v2, rfl, h2⟩, hb2⟩
  rw [ey.out]
  rw [en.out] at h2
  have H2 := Hid.mk' h2
  have H12 := Hid.mk' (i64s_below H1.out hb2)
  have HB2 := Hid.mk' (HB1.out.trans (hb2.mono HB1.out.size))
  clear h2 hb2
  go_wp2_with fail
  refine (equalI_any v1 v2 n n _ _ _ (by omega) (by omega) H12.out H2.out).mono ?_
  rintro e w3 ⟨rfl, q, rfl⟩
  have heq : Hid (eqI n n (fun i => (codeN X len i : Int)) (fun i => (codeN X len i : Int)) = true) := by
    show _ = _
    unfold eqI
    rw [sameI_of _ _ _ (fun _ _ => rfl)]
    simp
  rw [heq.out]
  go_wp2_with fail
  go_ret
  exact ⟨rfl, below_drewN HB2.out q⟩
end Go.Proofs.Ytgecdldahgfncaa
