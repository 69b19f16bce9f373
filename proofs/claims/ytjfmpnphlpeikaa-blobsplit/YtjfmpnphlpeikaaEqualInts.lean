/- What slices.Equal answers of two slices of ints. -/
import Derived.Test.YtjfmpnphlpeikaaI64s
import Derived.Deep.QuietTactic
import Derived.BigQuiet
namespace Go.Proofs.Ytjfmpnphlpeikaa
open Go.RowKit

theorem below_drewN {B : Nat} {a w : World} (h : Below B a w) (q : Nat) : Below B a (w.drewN q) := ⟨h.os, h.tape, h.output, h.size, h.block⟩
def sameI (f g : Nat → Int) (n : Nat) : Bool := (List.range n).all fun i => f i == g i
def eqI (n1 n2 : Nat) (f g : Nat → Int) : Bool := (n1 == n2) && sameI f g n1
theorem sameI_of (f g : Nat → Int) (n : Nat) (h : ∀ i, i < n → f i = g i) : sameI f g n = true :=
  List.all_eq_true.2 fun i hi => by rw [h i (by simpa using hi)]; simp
theorem sameI_not (f g : Nat → Int) (n k : Nat) (hk : k < n) (h : f k ≠ g k) : sameI f g n = false := by
  cases hs : sameI f g n with
  | false => rfl
  | true =>
    have := List.all_eq_true.1 hs k (by simpa using hk)
    simp at this
    exact absurd this h

theorem drewN_addI (w : World) (q r : Nat) : (w.drewN q).drewN r = w.drewN (q + r) := by simp [World.drewN, Nat.add_assoc]

set_option maxHeartbeats 800000 in
theorem equalI_any (v1 v2 : Value) (n1 n2 : Nat) (f g : Nat → Int) (w : World) (hn1 : n1 ≤ 17592186044416) (hn2 : n2 ≤ 17592186044416) (h1 : I64s w v1 n1 f) (h2 : I64s w v2 n2 g) :
    Calls Try.prog 18 #[v1, v2] w fun e w' => e = .returned (.bool (eqI n1 n2 f g)) ∧ ∃ q, w' = w.drewN q := by
  obtain ⟨a1, c1, rfl, k1⟩ := h1.is
  obtain ⟨a2, c2, rfl, k2⟩ := h2.is
  have K1 := Hid.mk' k1
  have K2 := Hid.mk' k2
  clear h1 h2 k1 k2
  by_cases hn : n1 = n2
  · subst hn
    have ht : ((n1 : Int) != (n1 : Int)) = false := by simp
    have hE : Hid (eqI n1 n1 f g = sameI f g n1) := by show _ = _; simp [eqI]
    go_enter Try.func18, Try.ntmps18
    go_wp2_with fail
    go_loopw [13] (fun i wr => ∃ k q : Nat, k ≤ n1 ∧ i = .int .i64 k ∧ (∀ i, i < k → f i = g i) ∧ wr = w.drewN q) (fun i _ => n1 - (intOf i).toNat)
    case atStart => exact ⟨0, 0, Nat.zero_le _, rfl, fun i hi => by omega, rfl⟩
    case round =>
      obtain ⟨k, q, hk, rfl, hs, rfl⟩ := hrel
      have HS := Hid.mk' hs
      clear hs
      by_cases hlt : k < n1
      · obtain ⟨g1, o1, rfl, _, d1⟩ := K1.out (by omega)
        obtain ⟨g2, o2, rfl, _, d2⟩ := K2.out (by omega)
        have e1 := d1 k hlt
        have e2 := d2 k hlt
        clear d1 d2
        by_cases hfg : f k = g k
        · have hne : (f k != g k) = false := by rw [hfg]; simp
          have HS2 : Hid (∀ i, i < k + 1 → f i = g i) := fun i hi => by
            rcases Nat.lt_succ_iff_lt_or_eq.1 hi with h1 | rfl
            · exact HS.out i h1
            · exact hfg
          clear hfg
          go_wp2_with fail
          go_quiet (fail)
          go_wp2_with fail
          go_roundw
          case rel => exact ⟨k + 1, _, by omega, by go_num, HS2.out, rfl⟩
          case measure => simp [intOf]; omega
        · have hne : (f k != g k) = true := by rw [bne_iff_ne]; exact hfg
          have hno := Hid.mk' (sameI_not f g n1 k hlt hfg)
          clear hfg
          go_wp2_with fail
          go_quiet (fail)
          go_wp2_with fail
          go_ret
          exact ⟨by rw [hE.out, hno.out]; rfl, _, drewN_addI _ _ _⟩
      · have hyes := Hid.mk' (sameI_of f g n1 (fun i hi => HS.out i (by omega)))
        go_wp2_with fail
        go_ret
        exact ⟨by rw [hE.out, hyes.out]; rfl, _, rfl⟩
  · have ht : ((n1 : Int) != (n2 : Int)) = true := by rw [bne_iff_ne]; omega
    have hE : Hid (eqI n1 n2 f g = false) := by show _ = _; simp [eqI, hn]
    clear hn
    go_enter Try.func18, Try.ntmps18
    go_wp2_with fail
    go_ret
    exact ⟨by rw [hE.out]; rfl, 0, rfl⟩
end Go.Proofs.Ytjfmpnphlpeikaa
