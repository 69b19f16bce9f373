/- The law NumOne, walked. -/
import Derived.Test.YticigfleieeooaaGetWalks
import Derived.Test.YticigfleieeooaaNumPutWalks
import Derived.Test.YticigfleieeooaaNumOneMath
import Derived.Deep.RegionHeld3
import Derived.Deep.DrawnRows
namespace Go.Proofs.Yticigfleieeooaa
open Go.RowKit

theorem get_known : getE (ByteArray.mk #[128, 1]).data.toList = 0 ∧ getA (ByteArray.mk #[128, 1]).data.toList = 128 ∧ getK (ByteArray.mk #[128, 1]).data.toList = 2 := by decide
theorem cut_is (s : ByteArray) (k : Nat) : ByteArray.mk (s.data.toList.take k).toArray = s.extract 0 k := by
  apply bytes_ext
  rw [ByteArray.data_extract]; simp
attribute [local go_sem] Go.wp_at_zero Go.wp_at_succ
set_option maxRecDepth 20000 in
set_option maxHeartbeats 800000 in
theorem numOne_walk (a0 : ByteArray) (w : World) (_w0 : a0.size ≤ maxLen) (_z0 : a0.data.toList.length ≤ reachBytes) :
    Calls Try.prog 5 #[.string a0] w fun e w' => e = .returned (.bool true) ∧ Below w.heap.size w w' := by
  have hlen : a0.data.toList.length = a0.size := by rw [Array.length_toList]; rfl
  have hkn := Hid.mk' get_known
  have hpg := Hid.mk' (put_get a0.data.toList)
  have hge := Hid.mk' (get_err a0.data.toList)
  have HL := Hid.mk' hlen
  clear hlen
  go_enter Try.func5, Try.ntmps5
  go_wp2_with fail
  refine (get_any _ _).mono ?_
  rintro e w1 ⟨rfl, rfl⟩
  rw [hkn.out.1, hkn.out.2.1, hkn.out.2.2]
  go_wp2_with fail
  refine (get_any _ _).mono ?_
  rintro e w2 ⟨rfl, rfl⟩
  by_cases hE : getE a0.data.toList = 0
  · obtain ⟨g1, g2, g3, g4⟩ := hpg.out hE
    rw [hE]
    rw [HL.out] at g2
    have G4 := Hid.mk' g4
    clear g4 hE hpg hge
    obtain ⟨x, ex⟩ : ∃ x, Hid (getA a0.data.toList = x) := ⟨_, Hid.mk' rfl⟩
    obtain ⟨k, ek⟩ : ∃ x, Hid (getK a0.data.toList = x) := ⟨_, Hid.mk' rfl⟩
    rw [ek.out] at g1 g2 G4
    rw [ex.out] at g3 G4
    rw [ek.out, ex.out]
    have t3 : (0 : Int) ≤ k := by omega
    have t4 : (k : Int) ≤ a0.size := by omega
    have t1 : decide ((1 : Int) ≤ k) = true := decide_eq_true (by omega)
    have t2 : decide ((k : Int) ≤ a0.size) = true := decide_eq_true (by omega)
    go_wp2_with fail
    go_region_held3 (fun _ => True) (trivial) ((go_at_call 10; refine (put_num _ _ g3).mono ?_; rintro e w3 ⟨rfl, hb⟩; have HB := Hid.mk' hb; clear hb; rw [G4.out, cut_is]))
    go_wp2_with fail
    go_ret
    exact ⟨rfl, (Below.refl _ _).drew.trans HB.out⟩
  · obtain ⟨g1, g2⟩ := hge.out hE
    rw [g1, g2]
    clear g1 g2 hpg hge
    generalize getE a0.data.toList = er at *
    have t : (er != 0) = true := by rw [bne_iff_ne]; exact hE
    go_wp2_with fail
    go_ret
    exact ⟨rfl, Below.refl _ _⟩
end Go.Proofs.Yticigfleieeooaa
