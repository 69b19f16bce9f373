/- The law NumZigs, walked: what linenref.Zig and linenref.Zag answer is what num's do. -/
import Derived.Test.YtgecdldahgfncaaZagWalks
namespace Go.Proofs.Ytgecdldahgfncaa
open Go.RowKit

set_option maxHeartbeats 400000 in
theorem rzig_any (n : Int) (w : World) (h1 : -9223372036854775808 ≤ n) (h2 : n ≤ 9223372036854775807) :
    Calls Try.prog 14 #[.int .i64 n] w fun e w' => e = .returned (.int .u64 (zigN n : Nat)) ∧ w' = w := by
  by_cases h : n < 0
  · have hz := Hid.mk' (zig_neg n h)
    go_enter Try.func14, Try.ntmps14
    go_wp2
    go_ret
    exact ⟨ret_int (by rw [hz.out]), rfl⟩
  · have hz := Hid.mk' (zig_pos n h)
    go_enter Try.func14, Try.ntmps14
    go_wp2
    go_ret
    exact ⟨ret_int (by rw [hz.out]), rfl⟩
set_option maxHeartbeats 400000 in
theorem rzag_any (u : Nat) (w : World) (h2 : u < 18446744073709551616) :
    Calls Try.prog 16 #[.int .u64 u] w fun e w' => e = .returned (.int .i64 (zagI u)) ∧ w' = w := by
  by_cases h : u % 2 = 1
  · have hz := Hid.mk' (zag_odd u h)
    have ht : ((u : Int) % 2 == 0) = false := by rw [beq_eq_false_iff_ne]; omega
    go_enter Try.func16, Try.ntmps16
    go_wp2
    go_ret
    exact ⟨ret_int (by rw [hz.out]; omega), rfl⟩
  · have hz := Hid.mk' (zag_even u h)
    have ht : ((u : Int) % 2 == 0) = true := by rw [beq_iff_eq]; omega
    go_enter Try.func16, Try.ntmps16
    go_wp2
    go_ret
    exact ⟨ret_int (by rw [hz.out]; omega), rfl⟩

set_option maxHeartbeats 400000 in
theorem numZigs_walk (a0 : Int) (a1 : Int) (w0 : (Lit.int .i64 a0).wf = true) (w1 : (Lit.int .u64 a1).wf = true) (w : World) :
    Calls Try.prog 4 #[.int .i64 a0, .int .u64 a1] w fun e w' => e = .returned (.bool true) ∧ Grown w w' := by
  obtain ⟨u, rfl, hu⟩ := u64_nat w1
  obtain ⟨h1, h2⟩ := bounds_i64 w0
  go_enter Try.func4, Try.ntmps4
  go_wp2_with fail
  refine (zig_any _ _ h1 h2).mono ?_
  rintro e w' ⟨rfl, rfl⟩
  go_wp2_with fail
  refine (rzig_any _ _ h1 h2).mono ?_
  rintro e w' ⟨rfl, rfl⟩
  go_wp2_with fail
  refine (zag_any _ _ hu).mono ?_
  rintro e w' ⟨rfl, rfl⟩
  go_wp2_with fail
  refine (rzag_any _ _ hu).mono ?_
  rintro e w' ⟨rfl, rfl⟩
  go_wp2_with fail
  go_ret
  exact ⟨rfl, Grown.refl _⟩
end Go.Proofs.Ytgecdldahgfncaa
