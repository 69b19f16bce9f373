/- The law BitsUnpacks, walked. -/
import Derived.Test.YtjfkbkhfnnmbnaaRUnpackWalks
import Derived.Test.YtjfkbkhfnnmbnaaEqualWalks
import Derived.SizedLaws
namespace Go.Proofs.Ytjfkbkhfnnmbnaa
open Go.RowKit

theorem eqB_refl (n : Nat) (f : Nat → Nat) : eqB n n f f = true := by
  unfold eqB
  rw [sameTo_of _ _ _ (fun _ _ => rfl)]
  simp
set_option maxHeartbeats 400000 in
theorem bitsUnpacks_at (s : ByteArray) (a0 : Option Addr) (len cap : Nat) (W : Nat → Int) (w : World) (hs : s.size ≤ 1048576) (hP : Wds w a0 len W) :
    Calls Try.prog 4 #[.string s, .slice a0 len cap] w fun e w' => e = .returned (.bool true) ∧ Below w.heap.size w w' := by
  have HP := Hid.mk' hP
  have hL : Hid (unpL s len W ≤ 17592186044416) := by
    show _ ≤ _
    have := hP.lenB
    unfold unpL
    split <;> omega
  clear hP
  go_enter Try.func4, Try.ntmps4
  go_wp2_with fail
  refine (unpack_any s a0 len cap W _ (by omega) HP.out).mono ?_
  rintro e w1 ⟨⟨v1, rfl, hu⟩, hb⟩
  have HB1 := Hid.mk' hb
  have HU1 := Hid.mk' hu
  have HP1 := Hid.mk' (wds_below HP.out hb)
  clear hu hb
  go_wp2_with fail
  refine (runpack_any s a0 len cap W _ hs HP1.out).mono ?_
  rintro e w2 ⟨⟨v2, rfl, hu⟩, hb⟩
  have HB2 := Hid.mk' (HB1.out.trans (hb.mono HB1.out.size))
  have HU2 := Hid.mk' hu
  have HU1' := Hid.mk' (u64s_below HU1.out hb)
  clear hu hb
  generalize unpE s len W = er at *
  go_wp2_with fail
  refine (equal_any v1 v2 _ _ _ _ _ hL.out hL.out HU1'.out HU2.out).mono ?_
  rintro e w3 ⟨rfl, q, rfl⟩
  rw [eqB_refl]
  have her : (er == er) = true := by simp
  go_wp2_with fail
  go_ret
  exact ⟨rfl, below_drewN HB2.out q⟩

theorem bitsUnpacks_walk (a0 : ByteArray) (a1 : Option Addr) (len cap : Nat) (X : Nat → Int) (w : World) (_w0 : a0.size ≤ maxLen) (_z0 : a0.data.toList.length ≤ reachBytes) (b0 : a0.size ≤ 1048576) (w1 : Wds w a1 len X) (_b1 : len ≤ 1048576) :
    Calls Try.prog 4 #[.string a0, .slice a1 len cap] w fun e w' => e = .returned (.bool true) ∧ Below w.heap.size w w' :=
  bitsUnpacks_at a0 a1 len cap X w b0 w1
end Go.Proofs.Ytjfkbkhfnnmbnaa
