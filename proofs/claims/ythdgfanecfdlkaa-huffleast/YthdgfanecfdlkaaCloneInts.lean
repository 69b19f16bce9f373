/- What slices.Clone answers over ints. -/
import Derived.Test.YthdgfanecfdlkaaCellsC
namespace Go.Proofs.Ythdgfanecfdlkaa
open Go.RowKit

set_option maxHeartbeats 400000 in
theorem cloneI_any (a0 : Option Addr) (len cap : Nat) (W : Nat → Int) (w : World) (hP : Wds w a0 len W) (hlen : len ≤ 8796093022208) :
    Calls Try.prog 11 #[.slice a0 len cap] w fun e w' => (∃ v, e = .returned v ∧ w'.ownsRow w.heap.size 3 1 v len (cellsC W len)) ∧ Below w.heap.size w w' := by
  cases a0 with
  | none =>
    obtain rfl := wds_nil hP
    have heq : ∀ w, (binOp .eql 22 (.slice none 0 cap) (.slice none 0 0)).run Try.prog w = .ok (.bool true) w := fun w => Go.run_eql_slice_nil w 22 3 none 0 cap Try.underlying22
    go_enter Try.func11, Try.ntmps11
    go_wp2_with fail
    go_ret
    exact ⟨⟨_, rfl, World.ownsRow_nil _ _ _ _⟩, Below.refl _ _⟩
  | some ad =>
    have HP := Hid.mk' hP
    clear hP
    obtain ⟨i0, hi, hz0, hz1, hz2⟩ := info_parts infoI64
    have KI := Hid.mk' hi
    have KZ0 := Hid.mk' hz0
    have KZ1 := Hid.mk' hz1
    have KZ2 := Hid.mk' hz2
    clear hi hz0 hz1 hz2
    go_enter Try.func11, Try.ntmps11
    have heq : ∀ w, (binOp .eql 22 (.slice (some ad) len cap) (.slice none 0 0)).run Try.prog w = .ok (.bool false) w := fun w => Go.run_eql_slice_nil w 22 3 (some ad) len cap Try.underlying22
    go_wp2_with (at_builtin; refine wpList_append_own _ rfl (.tmp 5) (.tmp 6) 22 rfl w.heap.size 3 i0 (.int .i64 0) 1 8 Try.underlying22 KI.out KZ0.out KZ1.out KZ2.out rfl (by decide) _ _ _ rfl (own_emptyC w) ad len cap (cellsC W len) rfl (by rw [cellsC_length, Nat.mul_one]) (wds_news (wds_below HP.out ((Below.refl _ _).alloc (Nat.le_refl _) _))) (cellsC_one _ _) (by unfold maxLen; omega) (by omega) (by simp) ?_; intro v' w1 hown1 hgrow1 _)
    have HB4 := Hid.mk' (below_growC (own_emptyC w) ((Below.refl _ _).alloc (Nat.le_refl _) _) (by simp) hgrow1)
    have HO4 : Hid (w1.ownsRow w.heap.size 3 1 v' len (cellsC W len)) := by
      rw [Nat.zero_add, List.nil_append] at hown1; exact hown1
    clear hown1 hgrow1
    go_wp2_with fail
    go_ret
    exact ⟨⟨_, rfl, HO4.out⟩, HB4.out⟩
end Go.Proofs.Ythdgfanecfdlkaa
