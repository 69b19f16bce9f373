/- slices.Equal of two slices of marks that are alike. -/
import Derived.Test.YtpkidjledgcemacMks
import Derived.Deep.QuietTactic
import Derived.BigQuiet
namespace Go.Proofs.Ytpkidjledgcemac
open Go.RowKit

theorem drewN_addM (w : World) (q r : Nat) : (w.drewN q).drewN r = w.drewN (q + r) := by simp [World.drewN, Nat.add_assoc]
theorem below_dM {B : Nat} {a w : World} (h : Below B a w) (q : Nat) : Below B a (w.drewN q) := ⟨h.os, h.tape, h.output, h.size, h.block⟩

set_option maxRecDepth 20000 in
set_option maxHeartbeats 800000 in
theorem equalM_same (a1 a2 : Option Addr) (n c1 c2 : Nat) (M : Nat → Mk) (w : World) (hn : n ≤ 1024) (h1 : Mks w a1 n M) (h2 : Mks w a2 n M) :
    Calls Try.prog 8 #[.slice a1 n c1, .slice a2 n c2] w fun e w' => e = .returned (.bool true) ∧ ∃ q, w' = w.drewN q := by
  have K1 := Hid.mk' h1
  have K2 := Hid.mk' h2
  clear h1 h2
  have ht : ((n : Int) != (n : Int)) = false := by simp
  go_enter Try.func8, Try.ntmps8
  go_wp2_with fail
  go_loopw [13] (fun i wr => ∃ k q : Nat, k ≤ n ∧ i = .int .i64 k ∧ wr = w.drewN q) (fun i _ => n - (intOf i).toNat)
  case atStart => exact ⟨0, 0, Nat.zero_le _, rfl, rfl⟩
  case round =>
    obtain ⟨k, q, hk, rfl, rfl⟩ := hrel
    by_cases hlt : k < n
    · obtain ⟨g1, o1, rfl, _, d1⟩ := K1.out.at' (by omega)
      obtain ⟨g2, o2, rfl, _, d2⟩ := K2.out.at' (by omega)
      have e1 := (d1 k hlt).1
      have e2 := (d1 k hlt).2.1
      have e3 := (d1 k hlt).2.2
      have f1 := (d2 k hlt).1
      have f2 := (d2 k hlt).2.1
      have f3 := (d2 k hlt).2.2
      clear d1 d2
      obtain ⟨m, hm⟩ : ∃ m, Hid (M k = m) := ⟨_, Hid.mk' rfl⟩
      rw [hm.out] at e1 e2 e3 f1 f2 f3
      obtain ⟨x, y, z⟩ := m
      simp only at e1 e2 e3 f1 f2 f3
      go_wp2_with fail
      go_quiet (fail)
      go_wp2_with fail
      go_roundw
      case rel => exact ⟨k + 1, _, by omega, by go_num, rfl⟩
      case measure => simp [intOf]; omega
    · go_wp2_with fail
      go_ret
      exact ⟨rfl, _, rfl⟩
end Go.Proofs.Ytpkidjledgcemac
