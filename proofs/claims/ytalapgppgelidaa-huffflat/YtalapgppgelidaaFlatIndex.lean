/- What slices.ContainsFunc answers where every number is the one that is sought. -/
import Derived.Test.YtalapgppgelidaaI64s
namespace Go.Proofs.Ytalapgppgelidaa
open Go.RowKit

set_option maxHeartbeats 400000 in
theorem flat1_same (x : Int) (g : Nat) (w : World) (hc : w.cell? ⟨g, 0, none⟩ = some (.int .i64 x)) :
    Calls Try.prog 20 #[.int .i64 x, .pointer (some ⟨g, 0, none⟩)] w fun e w' => e = .returned (.bool false) ∧ w' = w := by
  have hne : (x != x) = false := by simp
  go_enter Try.func20, Try.ntmps20
  go_wp2_with fail
  go_ret
  exact ⟨rfl, rfl⟩
set_option maxHeartbeats 400000 in
theorem index_none (g len cap : Nat) (x : Int) (b : Nat) (w : World) (hl : len ≤ 320) (hc : w.cell? ⟨b, 0, none⟩ = some (.int .i64 x)) (hr : ∀ i, i < len → w.cell? ⟨g, i, none⟩ = some (.int .i64 x)) :
    Calls Try.prog 26 #[.slice (some ⟨g, 0, none⟩) len cap, .func (.func 20) #[] #[.pointer (some ⟨b, 0, none⟩)]] w fun e w' => e = .returned (.int .i64 (-1)) ∧ w' = w := by
  have HC := Hid.mk' hc
  have HR := Hid.mk' hr
  clear hc hr
  go_enter Try.func26, Try.ntmps26
  go_wp2_with fail
  go_loop [8] (fun i => ∃ k : Nat, k ≤ len ∧ i = .int .i64 k) (fun i => len - (intOf i).toNat)
  case atStart => exact ⟨0, Nat.zero_le _, rfl⟩
  case round =>
    obtain ⟨k, hk, rfl⟩ := hrel
    by_cases hlt : k < len
    · have c := HR.out k hlt
      go_wp2_with fail
      refine (flat1_same x b _ HC.out).mono ?_
      rintro e w' ⟨rfl, hw'⟩; obtain rfl := hw'.symm
      go_wp2_with fail
      go_round
      case rel => exact ⟨k + 1, by omega, by go_num⟩
      case measure => simp [intOf]; omega
    · go_wp2_with fail
      go_ret
      exact ⟨rfl, rfl⟩
set_option maxHeartbeats 400000 in
theorem contains_none (g len cap : Nat) (x : Int) (b : Nat) (w : World) (hl : len ≤ 320) (hc : w.cell? ⟨b, 0, none⟩ = some (.int .i64 x)) (hr : ∀ i, i < len → w.cell? ⟨g, i, none⟩ = some (.int .i64 x)) :
    Calls Try.prog 19 #[.slice (some ⟨g, 0, none⟩) len cap, .func (.func 20) #[] #[.pointer (some ⟨b, 0, none⟩)]] w fun e w' => e = .returned (.bool false) ∧ w' = w := by
  have HC := Hid.mk' hc
  have HR := Hid.mk' hr
  clear hc hr
  go_enter Try.func19, Try.ntmps19
  go_wp2_with fail
  refine (index_none g len cap x b _ hl HC.out HR.out).mono ?_
  rintro e w' ⟨rfl, hw'⟩; obtain rfl := hw'.symm
  go_wp2_with fail
  go_ret
  exact ⟨rfl, rfl⟩
end Go.Proofs.Ytalapgppgelidaa
