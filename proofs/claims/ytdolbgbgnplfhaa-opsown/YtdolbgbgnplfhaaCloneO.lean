/- What slices.Clone answers over ops. -/
import Derived.Test.YtdolbgbgnplfhaaCloneDk
import Derived.Test.YtdolbgbgnplfhaaRoomyO
namespace Go.Proofs.Ytdolbgbgnplfhaa
open Go.RowKit

set_option maxHeartbeats 400000 in
theorem cloneO_any (a0 : Option Addr) (n cap : Nat) (C : List Opp) (w : World) (hP : Rd w a0 n 3 (opC C)) (hn : C.length = n) (hlen : n ≤ 4398046511103) :
    Calls Try.prog 32 #[.slice a0 n cap] w fun e w' => (∃ v, e = .returned v ∧ w'.ownsRow w.heap.size 29 3 v n (opC C)) ∧ Below w.heap.size w w' := by
  cases a0 with
  | none =>
    obtain rfl := hP.of_none
    obtain rfl : C = [] := List.length_eq_zero_iff.1 hn
    have heq : ∀ w, (binOp .eql 26 (.slice none 0 cap) (.slice none 0 0)).run Try.prog w = .ok (.bool true) w := fun w => Go.run_eql_slice_nil w 26 29 none 0 cap Try.underlying26
    go_enter Try.func32, Try.ntmps32
    go_wp2_with fail
    go_ret
    exact ⟨⟨_, rfl, World.ownsRow_nil _ _ _ _⟩, Below.refl _ _⟩
  | some ad =>
    have HP := Hid.mk' hP
    have HN := Hid.mk' hn
    clear hP hn
    obtain ⟨i0, hi, hz0, hz1, hz2⟩ := info_parts infoOpR
    have KI := Hid.mk' hi
    have KZ0 := Hid.mk' hz0
    have KZ1 := Hid.mk' hz1
    have KZ2 := Hid.mk' hz2
    clear hi hz0 hz1 hz2
    go_enter Try.func32, Try.ntmps32
    have heq : ∀ w, (binOp .eql 26 (.slice (some ad) n cap) (.slice none 0 0)).run Try.prog w = .ok (.bool false) w := fun w => Go.run_eql_slice_nil w 26 29 (some ad) n cap Try.underlying26
    go_wp2_with (at_builtin; refine wpList_append_own _ rfl (.tmp 5) (.tmp 6) 26 rfl w.heap.size 29 i0 (.agg #[.int .i64 0, .int .i64 0, .string ⟨#[]⟩]) 3 32 Try.underlying26 KI.out KZ0.out KZ1.out KZ2.out rfl (by decide) _ _ _ rfl (own_emptyK w 29 3) ad n cap (opC C) rfl (by rw [opC_length, HN.out]) (HP.out.below ((Below.refl _ _).alloc (Nat.le_refl _) _)).news (opC_one _) (by unfold maxLen; omega) (by omega) (by simp) ?_; intro v' w1 hown1 hgrow1 _)
    have HB4 := Hid.mk' (below_growK (own_emptyK w 29 3) ((Below.refl _ _).alloc (Nat.le_refl _) _) (by simp) hgrow1)
    have HO4 : Hid (w1.ownsRow w.heap.size 29 3 v' n (opC C)) := by
      rw [Nat.zero_add, List.nil_append] at hown1; exact hown1
    clear hown1 hgrow1
    go_wp2_with fail
    go_ret
    exact ⟨⟨_, rfl, HO4.out⟩, HB4.out⟩
end Go.Proofs.Ytdolbgbgnplfhaa
