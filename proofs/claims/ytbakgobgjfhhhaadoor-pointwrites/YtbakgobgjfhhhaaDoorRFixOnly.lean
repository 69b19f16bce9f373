/- What linenref.Fix answers. -/
import Derived.Test.YtbakgobgjfhhhaaDoorBase
import Derived.Test.YtbakgobgjfhhhaaDoorFixMath
import Derived.Test.YtbakgobgjfhhhaaDoorOneText
import Derived.Deep.OwnRows
import Derived.RegionTactic
namespace Go.Proofs.YtbakgobgjfhhhaaDoor
open Go.RowKit

set_option maxHeartbeats 400000 in
theorem rfix_no (n : Nat) (v : Int) (w : World) (h : v < 1 ∨ 8 < v) :
    Calls Tryd.prog 27 #[.int .u64 n, .int .i64 v] w fun e w' => e = .returned (.string ⟨#[]⟩) ∧ w' = w := by
  rcases h with h | h
  · go_enter Tryd.func27, Tryd.ntmps27
    go_wp2
    go_ret
    exact ⟨rfl, rfl⟩
  · have h1 : ¬ v < 1 := by omega
    go_enter Tryd.func27, Tryd.ntmps27
    go_wp2
    go_ret
    exact ⟨rfl, rfl⟩

set_option maxHeartbeats 800000 in
theorem rfix_in (n m : Nat) (w : World) (hn : n < 18446744073709551616) (h1 : 1 ≤ m) (h8 : m ≤ 8) :
    Calls Tryd.prog 27 #[.int .u64 n, .int .i64 m] w fun e w' => e = .returned (.string ⟨(fixB n m).toArray⟩) ∧ Below w.heap.size w w' := by
  have t1 : decide ((m : Int) < 1) = false := decide_eq_false (by omega)
  have t2 : decide ((8 : Int) < m) = false := decide_eq_false (by omega)
  go_enter Tryd.func27, Tryd.ntmps27
  go_wp2_with fail
  clear t1 t2
  go_loopw [0, 5, 13] (fun x t i wr => ∃ k : Nat, k ≤ m ∧ i = .int .i64 k ∧ x = .int .u64 (n / 256 ^ k : Nat) ∧ t = .string ⟨(fixB n k).toArray⟩ ∧ Below w.heap.size w wr) (fun _ _ i _ => m - (intOf i).toNat)
  case atStart => exact ⟨0, Nat.zero_le _, rfl, by simp, rfl, Below.refl _ _⟩
  case round =>
    obtain ⟨k, hk, rfl, rfl, rfl, hbl⟩ := hrel
    have HB := Hid.mk' hbl
    have hsz := hbl.size
    clear hbl
    by_cases hlt : k < m
    · have hcv := one_string wr ((n / 256 ^ k : Nat) % 256 : Int)
      have hdl : n / 256 ^ k < 18446744073709551616 := Nat.lt_of_le_of_lt (Nat.div_le_self _ _) hn
      have hD := Hid.mk' (div256 n k)
      have hF : Hid (fixB n (k + 1) = UInt8.ofNat (n / 256 ^ k) :: fixB n k) := rfl
      have hll : (fixB n k).length ≤ 8 := by rw [fixB_length]; omega
      generalize n / 256 ^ k = q at *
      generalize fixB n k = l at *
      have hoc := Hid.mk' (one_cat q l)
      have hos := one_size ((q : Int) % 256)
      generalize strOfNums [(q : Int) % 256] = t at *
      go_wp2_with fail
      go_roundw
      case rel => exact ⟨k + 1, by omega, by go_num, by rw [hD.out]; go_num, by rw [hF.out, hoc.out], HB.out.alloc hsz _⟩
      case measure => simp [intOf]; omega
    · have hkm := Hid.mk' (show k = m by omega)
      go_wp2_with fail
      go_ret
      refine ⟨?_, HB.out⟩
      rw [hkm.out]
      rfl

end Go.Proofs.YtbakgobgjfhhhaaDoor
