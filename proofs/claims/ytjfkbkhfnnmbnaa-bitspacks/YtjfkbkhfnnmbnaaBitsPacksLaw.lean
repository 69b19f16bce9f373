/- The law BitsPacks, walked. -/
import Derived.Test.YtjfkbkhfnnmbnaaRPackWalks
namespace Go.Proofs.Ytjfkbkhfnnmbnaa
open Go.RowKit

set_option maxHeartbeats 400000 in
theorem bitsPacks_at (a0 : Option Addr) (len cap : Nat) (V : Nat → Nat) (W : Nat → Int) (w : World) (hP : Pcs w a0 len V W) :
    Calls Try.prog 3 #[.slice a0 len cap] w fun e w' => e = .returned (.bool true) ∧ Below w.heap.size w w' := by
  have HP := Hid.mk' hP
  clear hP
  go_enter Try.func3, Try.ntmps3
  go_wp2_with fail
  obtain ⟨t, et⟩ : ∃ t, Hid (ByteArray.mk (packS len V W).toArray = t) := ⟨_, Hid.mk' rfl⟩
  obtain ⟨er, eer⟩ : ∃ er, Hid (packE len V W = er) := ⟨_, Hid.mk' rfl⟩
  refine (pack_any a0 len cap V W _ HP.out).mono ?_
  rintro e w1 ⟨rfl, hb⟩
  have HB := Hid.mk' hb
  have HP1 := Hid.mk' (pcs_below HP.out hb)
  clear hb
  rw [et.out, eer.out]
  go_wp2_with fail
  refine (rpack_any a0 len cap V W _ HP1.out).mono ?_
  rintro e w2 ⟨rfl, hb2⟩
  have HB2 := Hid.mk' (HB.out.trans (hb2.mono HB.out.size))
  clear hb2
  rw [et.out, eer.out]
  go_wp2_with fail
  go_ret
  exact ⟨rfl, HB2.out⟩

theorem bitsPacks_walk (a0 : Option Addr) (len cap : Nat) (V : Nat → Nat) (X : Nat → Int) (w : World) (w0 : Pcs w a0 len V X) :
    Calls Try.prog 3 #[.slice a0 len cap] w fun e w' => e = .returned (.bool true) ∧ Below w.heap.size w w' :=
  bitsPacks_at a0 len cap V X w w0
end Go.Proofs.Ytjfkbkhfnnmbnaa
