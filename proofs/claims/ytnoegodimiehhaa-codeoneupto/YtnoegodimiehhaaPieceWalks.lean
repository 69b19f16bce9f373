/- What bits.isWidth and bits.checkPiece answer. -/
import Derived.Test.YtnoegodimiehhaaBase
import Derived.Test.YtnoegodimiehhaaPackMath
namespace Go.Proofs.Ytnoegodimiehhaa
open Go.RowKit

set_option maxHeartbeats 400000 in
theorem isWidth_any (wd : Int) (w : World) :
    Calls Try.prog 32 #[.int .i64 wd] w fun e w' => e = .returned (.bool (widB wd)) ∧ w' = w := by
  unfold widB
  by_cases h1 : 0 ≤ wd
  · by_cases h2 : wd ≤ 64
    · have e : decide (0 ≤ wd ∧ wd ≤ 64) = true := decide_eq_true ⟨h1, h2⟩
      rw [e]; clear e
      go_enter Try.func32, Try.ntmps32
      go_wp2
      go_ret
      exact ⟨rfl, rfl⟩
    · have e : decide (0 ≤ wd ∧ wd ≤ 64) = false := decide_eq_false (by omega)
      have d2 : decide (wd ≤ 64) = false := decide_eq_false (by omega)
      rw [e]; clear e
      go_enter Try.func32, Try.ntmps32
      go_wp2
      go_ret
      exact ⟨rfl, rfl⟩
  · have e : decide (0 ≤ wd ∧ wd ≤ 64) = false := decide_eq_false (by omega)
    have d1 : decide (0 ≤ wd) = false := decide_eq_false (by omega)
    rw [e]; clear e
    go_enter Try.func32, Try.ntmps32
    go_wp2
    go_ret
    exact ⟨rfl, rfl⟩

set_option maxHeartbeats 400000 in
theorem checkPiece_any (v : Nat) (wd : Int) (w : World) (_hv : v < 18446744073709551616) :
    Calls Try.prog 23 #[.agg #[.int .u64 v, .int .i64 wd]] w fun e w' => e = .returned (.int .i64 (errP v wd)) ∧ w' = w.alloc (.cells #[.int .u64 v, .int .i64 wd] 36) := by
  by_cases h : 0 ≤ wd ∧ wd ≤ 64
  · have hw : widB wd = true := decide_eq_true h
    obtain ⟨n, rfl⟩ := Int.eq_ofNat_of_zero_le h.1
    have hn : n ≤ 64 := by omega
    have hP := Hid.mk' (errP_ok v n h)
    have hQ := Hid.mk' (errP_large v n h)
    rw [Int.toNat_natCast] at hP hQ
    clear h
    by_cases hz : v / 2 ^ n = 0
    · have ht : ((v : Int) / 2 ^ n != 0) = false := by rw [cast_div_pow, hz]; rfl
      have hE := Hid.mk' (hP.out hz)
      clear hz hP hQ
      go_enter Try.func23, Try.ntmps23
      go_wp2_with fail
      refine (isWidth_any _ _).mono ?_
      rintro e w' ⟨rfl, rfl⟩
      go_wp2_with fail
      go_ret
      exact ⟨ret_int hE.out.symm, rfl⟩
    · have ht : ((v : Int) / 2 ^ n != 0) = true := by rw [cast_div_pow, bne_iff_ne]; omega
      have hE := Hid.mk' (hQ.out hz)
      clear hz hP hQ
      go_enter Try.func23, Try.ntmps23
      go_wp2_with fail
      refine (isWidth_any _ _).mono ?_
      rintro e w' ⟨rfl, rfl⟩
      go_wp2_with fail
      go_ret
      exact ⟨ret_int hE.out.symm, rfl⟩
  · have hw : widB wd = false := decide_eq_false h
    have hE := Hid.mk' (errP_wid v wd h)
    clear h
    go_enter Try.func23, Try.ntmps23
    go_wp2_with fail
    refine (isWidth_any _ _).mono ?_
    rintro e w' ⟨rfl, rfl⟩
    go_wp2_with fail
    go_ret
    exact ⟨ret_int hE.out.symm, rfl⟩
end Go.Proofs.Ytnoegodimiehhaa
