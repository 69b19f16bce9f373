/- The law BitsFlipsTwice, walked. -/
import Derived.Test.YtjfkbkhfnnmbnabFlipWalks
namespace Go.Proofs.Ytjfkbkhfnnmbnab
open Go.RowKit

theorem flip_one (w : World) : Calls Try.prog 13 #[.int .u64 1, .int .i64 8] w fun e w' => e = .returned (.int .u64 128) ∧ w' = w :=
  flip_in 1 8 8 w (by decide) (by decide) (by decide) (.inr rfl)

set_option maxHeartbeats 400000 in
theorem bitsFlipsTwice_of (n x y : Nat) (v : Int) (w : World) (hn : n < 18446744073709551616) (_h1 : -9223372036854775808 ≤ v) (_h2 : v ≤ 9223372036854775807)
    (h : ∀ w, Calls Try.prog 13 #[.int .u64 n, .int .i64 v] w fun e w' => e = .returned (.int .u64 (x : Nat)) ∧ w' = w)
    (h' : ∀ w, Calls Try.prog 13 #[.int .u64 (x : Nat), .int .i64 v] w fun e w' => e = .returned (.int .u64 (y : Nat)) ∧ w' = w)
    (hc : (v ≤ 0 ∧ y = 0) ∨ (∃ k : Nat, 0 < k ∧ k < 64 ∧ v = k ∧ y = n % 2 ^ k) ∨ (64 < v ∧ y = n) ∨ (v = 64 ∧ y = n)) :
    Calls Try.prog 5 #[.int .u64 n, .int .i64 v] w fun e w' => e = .returned (.bool true) ∧ Grown w w' := by
  have H := Hid.mk' h
  have H' := Hid.mk' h'
  clear h h'
  rcases hc with ⟨hv, rfl⟩ | ⟨k, hk, hk2, rfl, rfl⟩ | ⟨hv, rfl⟩ | ⟨rfl, rfl⟩
  case' inl => have hl : bits .and .u64 (n : Int) 0 = 0 := by rw [show (0 : Int) = ((0 : Nat) : Int) from rfl, u64_and_nat n 0 hn (by decide)]; simp
  case' inr.inl => have hl := low_and n k hn hk2
  all_goals
    go_enter Try.func5, Try.ntmps5
    go_wp2_with fail
    refine (H.out _).mono ?_
    rintro e w' ⟨rfl, rfl⟩
    go_wp2_with fail
    refine (H'.out _).mono ?_
    rintro e w' ⟨rfl, rfl⟩
    go_wp2_with fail
    refine (flip_one _).mono ?_
    rintro e w' ⟨rfl, rfl⟩
    go_wp2_with fail
    go_ret
    exact ⟨rfl, Grown.refl _⟩

theorem bitsFlipsTwice_walk (a0 : Int) (a1 : Int) (w0 : (Lit.int .u64 a0).wf = true) (w1 : (Lit.int .i64 a1).wf = true) (w : World) :
    Calls Try.prog 5 #[.int .u64 a0, .int .i64 a1] w fun e w' => e = .returned (.bool true) ∧ Grown w w' := by
  obtain ⟨n, rfl, hn⟩ := u64_nat w0
  obtain ⟨h1, h2⟩ := bounds_i64 w1
  have hr := rv_rv n
  rcases (by omega : a1 < 0 ∨ a1 = 0 ∨ (0 < a1 ∧ a1 < 64) ∨ a1 = 64 ∨ 64 < a1) with h | rfl | ⟨h, h3⟩ | rfl | h
  · exact bitsFlipsTwice_of n 0 0 a1 w hn h1 h2 (fun w => flip_lo n a1 w h1 h) (fun w => flip_lo 0 a1 w h1 h) (.inl ⟨by omega, rfl⟩)
  · exact bitsFlipsTwice_of n 0 0 0 w hn h1 h2 (fun w => flip_in n 0 0 w hn (by omega) (by omega) (.inr rfl)) (fun w => flip_in 0 0 0 w (by omega) (by omega) (by omega) (.inr rfl)) (.inl ⟨by omega, rfl⟩)
  · obtain ⟨m, rfl⟩ := Int.eq_ofNat_of_zero_le (Int.le_of_lt h)
    exact bitsFlipsTwice_of n (rv n m) (rv (rv n m) m) m w hn h1 h2 (fun w => flip_in n m m w hn (by omega) (by omega) (.inr rfl)) (fun w => flip_in _ m m w (rv_le64 n m (by omega)) (by omega) (by omega) (.inr rfl))
      (.inr (.inl ⟨m, by omega, by omega, rfl, hr m⟩))
  · exact bitsFlipsTwice_of n (rv n 64) (rv (rv n 64) 64) 64 w hn h1 h2 (fun w => flip_in n 64 64 w hn (by omega) (by omega) (.inr rfl)) (fun w => flip_in _ 64 64 w (rv_le64 n 64 (by omega)) (by omega) (by omega) (.inr rfl))
      (.inr (.inr (.inr ⟨rfl, by rw [hr 64]; exact Nat.mod_eq_of_lt hn⟩)))
  · exact bitsFlipsTwice_of n (rv n 64) (rv (rv n 64) 64) a1 w hn h1 h2 (fun w => flip_in n 64 a1 w hn (by omega) (by omega) (.inl ⟨h, rfl⟩)) (fun w => flip_in _ 64 a1 w (rv_le64 n 64 (by omega)) (by omega) (by omega) (.inl ⟨h, rfl⟩))
      (.inr (.inr (.inl ⟨h, by rw [hr 64]; exact Nat.mod_eq_of_lt hn⟩)))
end Go.Proofs.Ytjfkbkhfnnmbnab
