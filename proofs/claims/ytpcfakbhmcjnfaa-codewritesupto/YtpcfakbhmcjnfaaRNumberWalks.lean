/- What linenref.Number answers. -/
import Derived.Test.YtpcfakbhmcjnfaaBitsKit
namespace Go.Proofs.Ytpcfakbhmcjnfaa
open Go.RowKit

set_option maxHeartbeats 400000 in
theorem rnumber_any (ao : Option Addr) (wd cap : Nat) (X a : Nat) (w : World) (hwd : wd ≤ 64) (hc : 0 < wd → ∃ g off, ao = some ⟨g, off, none⟩ ∧ ∀ i, i < wd → w.cell? ⟨g, off + i, none⟩ = some (.int .i64 ((X / 2 ^ (a + i) % 2 : Nat) : Int))) :
    Calls Try.prog 18 #[.slice ao wd cap] w fun e w' => e = .returned (.int .u64 (getN X a wd : Nat)) ∧ w' = w := by
  have HC := Hid.mk' hc
  clear hc
  go_enter Try.func18, Try.ntmps18
  go_wp2_with fail
  go_loop [3, 4] (fun n i => ∃ k : Nat, k ≤ wd ∧ i = .int .i64 ((k : Int) - 1) ∧ n = .int .u64 (getN X (a + k) (wd - k) : Nat)) (fun _ i => (intOf i + 1).toNat)
  case atStart => exact ⟨wd, Nat.le_refl _, rfl, by simp [getN, Nat.mod_one]⟩
  case round =>
    obtain ⟨k, hk, rfl, rfl⟩ := hrel
    by_cases hlt : 0 < k
    · obtain ⟨j, rfl⟩ : ∃ j, k = j + 1 := ⟨k - 1, by omega⟩
      obtain ⟨g, off, rfl, hcc⟩ := HC.out (by omega)
      have c0 := hcc j (by omega)
      clear hcc
      have hst := Hid.mk' (getN_step X (a + j) (wd - (j + 1)))
      have hlt' := getN_lt X (a + j) (wd - (j + 1) + 1) (by omega)
      rw [hst.out, Nat.add_assoc] at hlt'
      have hst2 : Hid (getN X (a + j) (wd - j) = 2 * getN X (a + (j + 1)) (wd - (j + 1)) + X / 2 ^ (a + j) % 2) := by
        have h := hst.out
        rw [show wd - (j + 1) + 1 = wd - j by omega, Nat.add_assoc] at h
        exact h
      clear hst
      generalize getN X (a + (j + 1)) (wd - (j + 1)) = v at *
      generalize X / 2 ^ (a + j) % 2 = x at *
      rw [show (((j + 1 : Nat) : Int) - 1) = (j : Int) by omega]
      go_wp2_with fail
      go_round
      case rel => exact ⟨j, by omega, by go_num, by rw [hst2.out]; go_num⟩
      case measure => simp [intOf]
    · have hk0 : Hid (k = 0) := by show _ = _; omega
      go_wp2_with fail
      go_ret
      refine ⟨?_, rfl⟩
      rw [hk0.out]
      simp

end Go.Proofs.Ytpcfakbhmcjnfaa
