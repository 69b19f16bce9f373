/- What slices.Clone answers over places and over ints, by their cells. -/
import Derived.Test.YtbailfianjmflabOwnIm
import Derived.Lib.LazyBuf
namespace Go.Proofs.Ytbailfianjmflab
open Go.RowKit

theorem own_emptyM (w : World) (e : TypeId) (size : Nat) : (w.alloc (.cells #[] e)).ownsRow w.heap.size e size (.slice (some ⟨w.heap.size, 0, none⟩) 0 0) 0 [] :=
  ⟨by simp, .inr ⟨w.heap.size, 0, #[], rfl, Nat.le_refl _, heap_alloc_new w _, Nat.le_refl _, Nat.zero_le _, by simp, by simp⟩⟩
theorem below_growM {w wr w1 : World} {N k e s : Nat} {v : Value} {xs : List Value} (hown : wr.ownsRow N e s v k xs) (hbl : Below N w wr) (hN : N ≤ wr.heap.size) (hg : wr.grownBy w1 v.ownBlock) : Below N w w1 :=
  hbl.grown hg hN fun j hj => (hown.lt j hj).1
set_option maxHeartbeats 400000 in
theorem cloneN_any (a0 : Option Addr) (n cap : Nat) (C : List Int) (w : World) (hP : Rd w a0 n 1 (inC C)) (hn : C.length = n) (hlen : n ≤ 17592186044416) :
    Calls Try.prog 22 #[.slice a0 n cap] w fun e w' => (∃ v, e = .returned v ∧ w'.ownsRow w.heap.size 3 1 v n (inC C)) ∧ Below w.heap.size w w' := by
  cases a0 with
  | none =>
    obtain rfl := hP.of_none
    obtain rfl : C = [] := List.length_eq_zero_iff.1 hn
    have heq : ∀ w, (binOp .eql 34 (.slice none 0 cap) (.slice none 0 0)).run Try.prog w = .ok (.bool true) w := fun w => Go.run_eql_slice_nil w 34 3 none 0 cap Try.underlying34
    go_enter Try.func22, Try.ntmps22
    go_wp2_with fail
    go_ret
    exact ⟨⟨_, rfl, World.ownsRow_nil _ _ _ _⟩, Below.refl _ _⟩
  | some ad =>
    have HP := Hid.mk' hP
    have HN := Hid.mk' hn
    clear hP hn
    obtain ⟨i0, hi, hz0, hz1, hz2⟩ := info_parts infoInO
    have KI := Hid.mk' hi
    have KZ0 := Hid.mk' hz0
    have KZ1 := Hid.mk' hz1
    have KZ2 := Hid.mk' hz2
    clear hi hz0 hz1 hz2
    go_enter Try.func22, Try.ntmps22
    have heq : ∀ w, (binOp .eql 34 (.slice (some ad) n cap) (.slice none 0 0)).run Try.prog w = .ok (.bool false) w := fun w => Go.run_eql_slice_nil w 34 3 (some ad) n cap Try.underlying34
    go_wp2_with (at_builtin; refine wpList_append_own _ rfl (.tmp 5) (.tmp 6) 34 rfl w.heap.size 3 i0 (.int .i64 0) 1 8 Try.underlying34 KI.out KZ0.out KZ1.out KZ2.out rfl (by decide) _ _ _ rfl (own_emptyM w 3 1) ad n cap (inC C) rfl (by rw [inC_length, HN.out, Nat.mul_one]) (HP.out.below ((Below.refl _ _).alloc (Nat.le_refl _) _)).news (inC_one _) (by unfold maxLen; omega) (by omega) (by simp) ?_; intro v' w1 hown1 hgrow1 _)
    have HB4 := Hid.mk' (below_growM (own_emptyM w 3 1) ((Below.refl _ _).alloc (Nat.le_refl _) _) (by simp) hgrow1)
    have HO4 : Hid (w1.ownsRow w.heap.size 3 1 v' n (inC C)) := by
      rw [Nat.zero_add, List.nil_append] at hown1; exact hown1
    clear hown1 hgrow1
    go_wp2_with fail
    go_ret
    exact ⟨⟨_, rfl, HO4.out⟩, HB4.out⟩
set_option maxHeartbeats 400000 in
theorem clonePl_any (a0 : Option Addr) (n cap : Nat) (C : List Pla) (w : World) (hP : Rd w a0 n 2 (plC C)) (hn : C.length = n) (hlen : n ≤ 8796093022208) :
    Calls Try.prog 23 #[.slice a0 n cap] w fun e w' => (∃ v, e = .returned v ∧ w'.ownsRow w.heap.size 29 2 v n (plC C)) ∧ Below w.heap.size w w' := by
  cases a0 with
  | none =>
    obtain rfl := hP.of_none
    obtain rfl : C = [] := List.length_eq_zero_iff.1 hn
    have heq : ∀ w, (binOp .eql 22 (.slice none 0 cap) (.slice none 0 0)).run Try.prog w = .ok (.bool true) w := fun w => Go.run_eql_slice_nil w 22 29 none 0 cap Try.underlying22
    go_enter Try.func23, Try.ntmps23
    go_wp2_with fail
    go_ret
    exact ⟨⟨_, rfl, World.ownsRow_nil _ _ _ _⟩, Below.refl _ _⟩
  | some ad =>
    have HP := Hid.mk' hP
    have HN := Hid.mk' hn
    clear hP hn
    obtain ⟨i0, hi, hz0, hz1, hz2⟩ := info_parts infoPlO
    have KI := Hid.mk' hi
    have KZ0 := Hid.mk' hz0
    have KZ1 := Hid.mk' hz1
    have KZ2 := Hid.mk' hz2
    clear hi hz0 hz1 hz2
    go_enter Try.func23, Try.ntmps23
    have heq : ∀ w, (binOp .eql 22 (.slice (some ad) n cap) (.slice none 0 0)).run Try.prog w = .ok (.bool false) w := fun w => Go.run_eql_slice_nil w 22 29 (some ad) n cap Try.underlying22
    go_wp2_with (at_builtin; refine wpList_append_own _ rfl (.tmp 5) (.tmp 6) 22 rfl w.heap.size 29 i0 (.agg #[.int .i64 0, .int .i64 0]) 2 16 Try.underlying22 KI.out KZ0.out KZ1.out KZ2.out rfl (by decide) _ _ _ rfl (own_emptyM w 29 2) ad n cap (plC C) rfl (by rw [plC_length, HN.out]) (HP.out.below ((Below.refl _ _).alloc (Nat.le_refl _) _)).news (plC_one _) (by unfold maxLen; omega) (by omega) (by simp) ?_; intro v' w1 hown1 hgrow1 _)
    have HB4 := Hid.mk' (below_growM (own_emptyM w 29 2) ((Below.refl _ _).alloc (Nat.le_refl _) _) (by simp) hgrow1)
    have HO4 : Hid (w1.ownsRow w.heap.size 29 2 v' n (plC C)) := by
      rw [Nat.zero_add, List.nil_append] at hown1; exact hown1
    clear hown1 hgrow1
    go_wp2_with fail
    go_ret
    exact ⟨⟨_, rfl, HO4.out⟩, HB4.out⟩
end Go.Proofs.Ytbailfianjmflab
