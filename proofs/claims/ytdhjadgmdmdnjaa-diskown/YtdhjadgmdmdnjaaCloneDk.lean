/- What slices.Clone answers over strings and over writes that wait. -/
import Derived.Test.YtdhjadgmdmdnjaaCopyDkWalks
import Derived.Test.YtdhjadgmdmdnjaaLandKit
import Derived.Lib.LazyBuf
namespace Go.Proofs.Ytdhjadgmdmdnjaa
open Go.RowKit

theorem own_emptyK (w : World) (e : TypeId) (size : Nat) : (w.alloc (.cells #[] e)).ownsRow w.heap.size e size (.slice (some ⟨w.heap.size, 0, none⟩) 0 0) 0 [] :=
  ⟨by simp, .inr ⟨w.heap.size, 0, #[], rfl, Nat.le_refl _, heap_alloc_new w _, Nat.le_refl _, Nat.zero_le _, by simp, by simp⟩⟩
theorem below_growK {w wr w1 : World} {N k e s : Nat} {v : Value} {xs : List Value} (hown : wr.ownsRow N e s v k xs) (hbl : Below N w wr) (hN : N ≤ wr.heap.size) (hg : wr.grownBy w1 v.ownBlock) : Below N w w1 :=
  hbl.grown hg hN fun j hj => (hown.lt j hj).1
set_option maxHeartbeats 400000 in
theorem cloneS_any (a0 : Option Addr) (n cap : Nat) (C : List ByteArray) (w : World) (hP : Rd w a0 n 1 (stC C)) (hn : C.length = n) (hlen : n ≤ 8796093022208) :
    Calls Try.prog 25 #[.slice a0 n cap] w fun e w' => (∃ v, e = .returned v ∧ w'.ownsRow w.heap.size 9 1 v n (stC C)) ∧ Below w.heap.size w w' := by
  cases a0 with
  | none =>
    obtain rfl := hP.of_none
    obtain rfl : C = [] := List.length_eq_zero_iff.1 hn
    have heq : ∀ w, (binOp .eql 22 (.slice none 0 cap) (.slice none 0 0)).run Try.prog w = .ok (.bool true) w := fun w => Go.run_eql_slice_nil w 22 9 none 0 cap Try.underlying22
    go_enter Try.func25, Try.ntmps25
    go_wp2_with fail
    go_ret
    exact ⟨⟨_, rfl, World.ownsRow_nil _ _ _ _⟩, Below.refl _ _⟩
  | some ad =>
    have HP := Hid.mk' hP
    have HN := Hid.mk' hn
    clear hP hn
    obtain ⟨i0, hi, hz0, hz1, hz2⟩ := info_parts infoStr
    have KI := Hid.mk' hi
    have KZ0 := Hid.mk' hz0
    have KZ1 := Hid.mk' hz1
    have KZ2 := Hid.mk' hz2
    clear hi hz0 hz1 hz2
    go_enter Try.func25, Try.ntmps25
    have heq : ∀ w, (binOp .eql 22 (.slice (some ad) n cap) (.slice none 0 0)).run Try.prog w = .ok (.bool false) w := fun w => Go.run_eql_slice_nil w 22 9 (some ad) n cap Try.underlying22
    go_wp2_with (at_builtin; refine wpList_append_own _ rfl (.tmp 5) (.tmp 6) 22 rfl w.heap.size 9 i0 (.string ⟨#[]⟩) 1 16 Try.underlying22 KI.out KZ0.out KZ1.out KZ2.out rfl (by decide) _ _ _ rfl (own_emptyK w 9 1) ad n cap (stC C) rfl (by rw [stC_length, HN.out, Nat.mul_one]) (HP.out.below ((Below.refl _ _).alloc (Nat.le_refl _) _)).news (stC_one _) (by unfold maxLen; omega) (by omega) (by simp) ?_; intro v' w1 hown1 hgrow1 _)
    have HB4 := Hid.mk' (below_growK (own_emptyK w 9 1) ((Below.refl _ _).alloc (Nat.le_refl _) _) (by simp) hgrow1)
    have HO4 : Hid (w1.ownsRow w.heap.size 9 1 v' n (stC C)) := by
      rw [Nat.zero_add, List.nil_append] at hown1; exact hown1
    clear hown1 hgrow1
    go_wp2_with fail
    go_ret
    exact ⟨⟨_, rfl, HO4.out⟩, HB4.out⟩
set_option maxHeartbeats 400000 in
theorem cloneP_any (a0 : Option Addr) (n cap : Nat) (C : List Pt) (w : World) (hP : Rd w a0 n 2 (ptC C)) (hn : C.length = n) (hlen : n ≤ 5864062014805) :
    Calls Try.prog 31 #[.slice a0 n cap] w fun e w' => (∃ v, e = .returned v ∧ w'.ownsRow w.heap.size 46 2 v n (ptC C)) ∧ Below w.heap.size w w' := by
  cases a0 with
  | none =>
    obtain rfl := hP.of_none
    obtain rfl : C = [] := List.length_eq_zero_iff.1 hn
    have heq : ∀ w, (binOp .eql 23 (.slice none 0 cap) (.slice none 0 0)).run Try.prog w = .ok (.bool true) w := fun w => Go.run_eql_slice_nil w 23 46 none 0 cap Try.underlying23
    go_enter Try.func31, Try.ntmps31
    go_wp2_with fail
    go_ret
    exact ⟨⟨_, rfl, World.ownsRow_nil _ _ _ _⟩, Below.refl _ _⟩
  | some ad =>
    have HP := Hid.mk' hP
    have HN := Hid.mk' hn
    clear hP hn
    obtain ⟨i0, hi, hz0, hz1, hz2⟩ := info_parts infoPt
    have KI := Hid.mk' hi
    have KZ0 := Hid.mk' hz0
    have KZ1 := Hid.mk' hz1
    have KZ2 := Hid.mk' hz2
    clear hi hz0 hz1 hz2
    go_enter Try.func31, Try.ntmps31
    have heq : ∀ w, (binOp .eql 23 (.slice (some ad) n cap) (.slice none 0 0)).run Try.prog w = .ok (.bool false) w := fun w => Go.run_eql_slice_nil w 23 46 (some ad) n cap Try.underlying23
    go_wp2_with (at_builtin; refine wpList_append_own _ rfl (.tmp 5) (.tmp 6) 23 rfl w.heap.size 46 i0 (.agg #[.int .i64 0, .string ⟨#[]⟩]) 2 24 Try.underlying23 KI.out KZ0.out KZ1.out KZ2.out rfl (by decide) _ _ _ rfl (own_emptyK w 46 2) ad n cap (ptC C) rfl (by rw [ptC_length, HN.out]) (HP.out.below ((Below.refl _ _).alloc (Nat.le_refl _) _)).news (ptC_one _) (by unfold maxLen; omega) (by omega) (by simp) ?_; intro v' w1 hown1 hgrow1 _)
    have HB4 := Hid.mk' (below_growK (own_emptyK w 46 2) ((Below.refl _ _).alloc (Nat.le_refl _) _) (by simp) hgrow1)
    have HO4 : Hid (w1.ownsRow w.heap.size 46 2 v' n (ptC C)) := by
      rw [Nat.zero_add, List.nil_append] at hown1; exact hown1
    clear hown1 hgrow1
    go_wp2_with fail
    go_ret
    exact ⟨⟨_, rfl, HO4.out⟩, HB4.out⟩
end Go.Proofs.Ytdhjadgmdmdnjaa
