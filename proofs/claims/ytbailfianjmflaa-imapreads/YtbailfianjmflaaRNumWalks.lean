/- What inode.readNumber answers. -/
import Derived.Test.YtbailfianjmflaaRPlaceWalks
namespace Go.Proofs.Ytbailfianjmflaa
open Go.RowKit

set_option maxRecDepth 20000 in
set_option maxHeartbeats 800000 in
theorem rdnumI_any (s : ByteArray) (k : Nat) (w : World) (hk : k ≤ 4) (hs : k ≤ s.size) (_hz : s.size ≤ 140737488355328) :
    Calls Try.prog 36 #[.string s, .int .i64 k] w fun e w' => e = .returned (.tuple #[.int .i64 (unfN (s.data.toList.take k) : Nat), .string (s.extract k s.size)]) ∧ Below w.heap.size w w' := by
  obtain ⟨p, hp⟩ : ∃ p, Hid (s.extract 0 k = p) := ⟨_, Hid.mk' rfl⟩
  obtain ⟨r, hr⟩ : ∃ r, Hid (s.extract k s.size = r) := ⟨_, Hid.mk' rfl⟩
  have hp' := hp.out
  have hr' := hr.out
  have hpl : p.data.toList = s.data.toList.take k := by rw [← hp.out, ext_preP]
  have hpz : p.size = k := by
    have e : p.data.toList.length = p.size := by rw [Array.length_toList]; rfl
    rw [← e, hpl, List.length_take, Array.length_toList]
    show min k s.size = k
    omega
  have hu := Hid.mk' (fun w => unfix_in p w (by omega))
  rw [hpl] at hu
  have hlt := unfN_lt (s.data.toList.take k)
  have hpw : 256 ^ (s.data.toList.take k).length ≤ 256 ^ 4 := Nat.pow_le_pow_right (by decide) (by rw [List.length_take]; omega)
  have hub : unfN (s.data.toList.take k) < 4294967296 := by omega
  generalize unfN (s.data.toList.take k) = u at *
  have e1 : IntKind.i64.wrap (u : Int) = u := by rw [IntKind.wrap_i64]; omega
  have i1 : (k : Int) ≤ (s.size : Int) := by omega
  clear hpl hlt hpw hpz
  rw [hr.out]
  go_enter Try.func36, Try.ntmps36
  go_wp2_with fail
  refine (hu.out _).mono ?_
  rintro e w1 ⟨rfl, rfl⟩
  go_wp2_with fail
  go_region
  go_wp2_with fail
  go_ret2
  exact ⟨rfl, below_d1 _⟩
end Go.Proofs.Ytbailfianjmflaa
