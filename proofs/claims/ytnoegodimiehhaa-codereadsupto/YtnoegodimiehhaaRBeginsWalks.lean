/- What linenref.Begins answers. -/
import Derived.Test.YtnoegodimiehhaaBitsKit
import Derived.Test.YtnoegodimiehhaaWordsMath
import Derived.Deep.QuietTactic
import Derived.BigQuiet
namespace Go.Proofs.Ytnoegodimiehhaa
open Go.RowKit

theorem drewN_addB (w : World) (q r : Nat) : (w.drewN q).drewN r = w.drewN (q + r) := by simp [World.drewN, Nat.add_assoc]
/-- bits that lie in a row -/
structure Bts (w : World) (ao : Option Addr) (X n : Nat) : Prop where
  at' : 0 < n → ∃ g off, ao = some ⟨g, off, none⟩ ∧ g < w.heap.size ∧ ∀ i, i < n → w.cell? ⟨g, off + i, none⟩ = some (.int .i64 ((X / 2 ^ i % 2 : Nat) : Int))
theorem bts_drewN {w : World} {ao : Option Addr} {X n : Nat} (h : Bts w ao X n) (q : Nat) : Bts (w.drewN q) ao X n := ⟨h.at'⟩

set_option maxRecDepth 20000 in
set_option maxHeartbeats 800000 in
theorem rbegins_any (a1 a2 : Option Addr) (c1 c2 X k Z m : Nat) (w : World) (hk : k ≤ 17592186044416) (hm : m ≤ 17592186044416) (h1 : Bts w a1 X k) (h2 : Bts w a2 Z m) :
    Calls Try.prog 31 #[.slice a1 k c1, .slice a2 m c2] w fun e w' => e = .returned (.bool (begB X k Z m)) ∧ ∃ q, w' = w.drewN q := by
  have H1 := Hid.mk' h1
  have H2 := Hid.mk' h2
  clear h1 h2
  by_cases hl : k < m
  · have hb := Hid.mk' (begB_long X k Z m hl)
    go_enter Try.func31, Try.ntmps31
    go_wp2_with fail
    go_ret
    exact ⟨by rw [hb.out]; rfl, 0, rfl⟩
  · have hb : Hid (begB X k Z m = (List.range m).all fun j => X / 2 ^ j % 2 == Z / 2 ^ j % 2) := by
      show _ = _; unfold begB; rw [decide_eq_true (by omega)]; rfl
    go_enter Try.func31, Try.ntmps31
    go_wp2_with fail
    go_loopw [13] (fun i wr => ∃ j q : Nat, j ≤ m ∧ i = .int .i64 j ∧ (∀ i, i < j → X / 2 ^ i % 2 = Z / 2 ^ i % 2) ∧ wr = w.drewN q) (fun i _ => m - (intOf i).toNat)
    case atStart => exact ⟨0, 0, Nat.zero_le _, rfl, fun i hi => by omega, rfl⟩
    case round =>
      obtain ⟨j, q, hj, rfl, hs, rfl⟩ := hrel
      have HS := Hid.mk' hs
      clear hs
      by_cases hlt : j < m
      · obtain ⟨g1, o1, rfl, _, d1⟩ := H1.out.at' (by omega)
        obtain ⟨g2, o2, rfl, _, d2⟩ := H2.out.at' (by omega)
        have e1 : (w.drewN q).cell? ⟨g1, o1 + j, none⟩ = _ := d1 j (by omega)
        have e2 : (w.drewN q).cell? ⟨g2, o2 + j, none⟩ = _ := d2 j hlt
        clear d1 d2
        by_cases hfg : X / 2 ^ j % 2 = Z / 2 ^ j % 2
        · rw [hfg] at e1
          have HS2 : Hid (∀ i, i < j + 1 → X / 2 ^ i % 2 = Z / 2 ^ i % 2) := fun i hi => by
            rcases Nat.lt_succ_iff_lt_or_eq.1 hi with h1 | rfl
            · exact HS.out i h1
            · exact hfg
          clear hfg
          generalize Z / 2 ^ j % 2 = z at *
          have hne : ((z : Int) != (z : Int)) = false := by simp
          obtain ⟨W2, hW2⟩ : ∃ W2, Hid (w.drewN q = W2) := ⟨_, Hid.mk' rfl⟩
          rw [hW2.out] at e1 e2 ⊢
          go_wp2_with fail
          go_quiet (fail)
          go_wp2_with fail
          go_roundw
          case rel => exact ⟨j + 1, _, by omega, by go_num, HS2.out, by rw [← hW2.out, drewN_addB]⟩
          case measure => simp [intOf]; omega
        · have hb2 : Hid (begB X k Z m = false) := by
            show _ = _
            rw [hb.out]
            cases ha : (List.range m).all fun j => X / 2 ^ j % 2 == Z / 2 ^ j % 2 with
            | false => rfl
            | true => exact absurd (by have := List.all_eq_true.1 ha j (by simpa using hlt); simpa using this) hfg
          have hne : (((X / 2 ^ j % 2 : Nat) : Int) != ((Z / 2 ^ j % 2 : Nat) : Int)) = true := by rw [bne_iff_ne]; omega
          generalize Z / 2 ^ j % 2 = z at *
          generalize X / 2 ^ j % 2 = x at *
          obtain ⟨W2, hW2⟩ : ∃ W2, Hid (w.drewN q = W2) := ⟨_, Hid.mk' rfl⟩
          rw [hW2.out] at e1 e2 ⊢
          clear hfg
          go_wp2_with fail
          go_quiet (fail)
          go_wp2_with fail
          go_ret
          exact ⟨by rw [hb2.out]; rfl, q + nq, by rw [← hW2.out, drewN_addB]⟩
      · have hb2 : Hid (begB X k Z m = true) := by
          show _ = _
          rw [hb.out]
          exact List.all_eq_true.2 fun i hi => by simp only [beq_iff_eq]; exact HS.out i (by have hm2 := List.mem_range.1 hi; omega)
        go_wp2_with fail
        go_ret
        exact ⟨by rw [hb2.out]; rfl, q, rfl⟩
end Go.Proofs.Ytnoegodimiehhaa
