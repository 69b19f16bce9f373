/- The law BitsFlips, walked: both answers are the lowest bits in turned order. -/
import Derived.Test.YtjfkbkhfnnmbnaaFlipWalks
import Derived.Test.YtjfkbkhfnnmbnaaRFlipWalks
namespace Go.Proofs.Ytjfkbkhfnnmbnaa
open Go.RowKit

set_option maxHeartbeats 400000 in
theorem bitsFlips_of (n x : Nat) (v : Int) (w : World) (h : ∀ w, Calls Try.prog 13 #[.int .u64 n, .int .i64 v] w fun e w' => e = .returned (.int .u64 (x : Nat)) ∧ w' = w)
    (h' : ∀ w, Calls Try.prog 14 #[.int .u64 n, .int .i64 v] w fun e w' => e = .returned (.int .u64 (x : Nat)) ∧ w' = w) :
    Calls Try.prog 5 #[.int .u64 n, .int .i64 v] w fun e w' => e = .returned (.bool true) ∧ Grown w w' := by
  have H := Hid.mk' h
  have H' := Hid.mk' h'
  clear h h'
  go_enter Try.func5, Try.ntmps5
  go_wp2_with fail
  refine (H.out _).mono ?_
  rintro e w' ⟨rfl, rfl⟩
  go_wp2_with fail
  refine (H'.out _).mono ?_
  rintro e w' ⟨rfl, rfl⟩
  go_wp2_with fail
  go_ret
  exact ⟨rfl, Grown.refl _⟩

theorem bitsFlips_walk (a0 : Int) (a1 : Int) (w0 : (Lit.int .u64 a0).wf = true) (w1 : (Lit.int .i64 a1).wf = true) (w : World) :
    Calls Try.prog 5 #[.int .u64 a0, .int .i64 a1] w fun e w' => e = .returned (.bool true) ∧ Grown w w' := by
  obtain ⟨n, rfl, hn⟩ := u64_nat w0
  obtain ⟨h1, h2⟩ := bounds_i64 w1
  rcases (by omega : a1 < 0 ∨ 0 ≤ a1) with h | h
  · exact bitsFlips_of n 0 a1 w (fun w => flip_lo n a1 w h1 h) (fun w => rflip_lo n a1 w h1 h)
  · rcases (by omega : 64 < a1 ∨ a1 ≤ 64) with h3 | h3
    · exact bitsFlips_of n _ a1 w (fun w => flip_in n 64 a1 w hn (by omega) (by omega) (.inl ⟨h3, rfl⟩)) (fun w => rflip_hi n a1 w hn (by omega) h3)
    · obtain ⟨m, rfl⟩ := Int.eq_ofNat_of_zero_le h
      exact bitsFlips_of n _ m w (fun w => flip_in n m m w hn (by omega) (by omega) (.inr rfl)) (fun w => rflip_in n m w hn (by omega))
end Go.Proofs.Ytjfkbkhfnnmbnaa
