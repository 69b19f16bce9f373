import Derived.Test.YtcalbicfnhoklaaDoorMsac
import Derived.Test.YtcalbicfnhoklaaDoorMsad
import Derived.Deep.QuietTactic
import Derived.BigQuiet

/- What runs.firstRun answers. -/
namespace Go.Proofs.YtcalbicfnhoklaaDoor
open Go.RowKit

theorem fst_go (X : Nat → Int) (k rem : Nat) (hk : k < rem) (h16 : k < 16) (h : X k = X 0) : fstR (X 0).toNat k (lsF X k rem) = fstR (X 0).toNat (k + 1) (lsF X (k + 1) rem) := by
  rw [lsF_cons X k rem hk, fstR, if_pos ⟨h16, by rw [h]⟩]
theorem fst_end (X : Nat → Int) (k rem : Nat) (hk : k ≤ rem) (hX : ∀ i, i < rem → lenB (X i) = true) (h : k = rem ∨ ¬ k < 16 ∨ (k < rem ∧ X k ≠ X 0)) : fstR (X 0).toNat k (lsF X k rem) = k := by
  by_cases hkr : k = rem
  · subst hkr; rw [lsF_end, fstR]
  · rw [lsF_cons X k rem (by omega), fstR, if_neg]
    rintro ⟨h1, h2⟩
    rcases h with h | h | ⟨_, h⟩
    · exact hkr h
    · exact h h1
    · have a := len_of (hX k (by omega))
      have b := len_of (hX 0 (by omega))
      exact h (by omega)
theorem drewN_add1 (w : World) (q r : Nat) : (w.drewN q).drewN r = w.drewN (q + r) := by simp [World.drewN, Nat.add_assoc]

set_option maxRecDepth 20000 in
set_option maxHeartbeats 800000 in
theorem first_any (b off rem cap : Nat) (X : Nat → Int) (w : World) (hpos : 0 < rem) (hr : rem ≤ 320) (hX : ∀ i, i < rem → lenB (X i) = true) (hc : ∀ i, i < rem → w.cell? ⟨b, off + i, none⟩ = some (.int .i64 (X i))) :
    Calls Tryd.prog 56 #[.slice (some ⟨b, off, none⟩) rem cap] w fun e w' => e = .returned (.int .i64 (fstR (X 0).toNat 1 (lsF X 1 rem) : Nat)) ∧ ∃ q, w' = w.drewN q := by
  have HC := Hid.mk' hc
  have HX := Hid.mk' hX
  clear hc hX
  go_enter Tryd.func56, Tryd.ntmps56
  go_wp2_with fail
  go_loopw [3] (fun n wr => ∃ k q : Nat, 1 ≤ k ∧ k ≤ rem ∧ k ≤ 16 ∧ n = .int .i64 (k : Int) ∧ fstR (X 0).toNat 1 (lsF X 1 rem) = fstR (X 0).toNat k (lsF X k rem) ∧ wr = w.drewN q) (fun n _ => rem - (intOf n).toNat)
  case atStart => exact ⟨1, 0, by omega, by omega, by omega, rfl, rfl, rfl⟩
  case round =>
    obtain ⟨k, q, h1, hk, h16, rfl, hf, rfl⟩ := hrel
    have HF := Hid.mk' hf
    clear hf
    obtain ⟨m, hm⟩ : ∃ m, Hid (min rem 16 = m) := ⟨_, Hid.mk' rfl⟩
    have hmin : (if (16 : Int) < (rem : Int) then (16 : Int) else (rem : Int)) = (m : Int) := by rw [← hm.out]; split <;> omega
    have hm1 : m ≤ rem := by rw [← hm.out]; omega
    have hm2 : m ≤ 16 := by rw [← hm.out]; omega
    by_cases hlt : k < m
    · have c0 := HC.out 0 (by omega)
      have c1 := HC.out k (by omega)
      rw [Nat.add_zero] at c0
      have tl : decide (k < m) = true := decide_eq_true hlt
      by_cases he : X k = X 0
      · have te : (X k == X 0) = true := by rw [beq_iff_eq]; exact he
        have hg := Hid.mk' (fst_go X k rem (by omega) (by omega) he)
        clear he
        go_wp2_with fail
        go_quiet (fail)
        go_wp2_with fail
        go_roundw
        case rel => exact ⟨k + 1, _, by omega, by omega, by omega, by go_num, HF.out.trans hg.out, rfl⟩
        case measure => simp [intOf]; omega
      · have te : (X k == X 0) = false := by rw [beq_eq_false_iff_ne]; exact he
        have hg := Hid.mk' (fst_end X k rem hk HX.out (.inr (.inr ⟨by omega, he⟩)))
        clear he
        go_wp2_with fail
        go_quiet (fail)
        go_wp2_with fail
        go_ret
        exact ⟨by rw [HF.out, hg.out]; rfl, _, drewN_add1 _ _ _⟩
    · have tl : decide (k < m) = false := decide_eq_false hlt
      have hg := Hid.mk' (fst_end X k rem hk HX.out (by have := hm.out; omega))
      go_wp2_with fail
      go_quiet (fail)
      go_wp2_with fail
      go_ret
      exact ⟨by rw [HF.out, hg.out]; rfl, _, drewN_add1 _ _ _⟩
end Go.Proofs.YtcalbicfnhoklaaDoor
