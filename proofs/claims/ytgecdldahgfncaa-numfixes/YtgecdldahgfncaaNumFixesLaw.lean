/- The law NumFixes, walked. -/
import Derived.Test.YtgecdldahgfncaaRFixWalks
import Derived.SizedLaws
namespace Go.Proofs.Ytgecdldahgfncaa
open Go.RowKit

set_option maxHeartbeats 400000 in
theorem numFixes_of (n : Nat) (v : Int) (s t : ByteArray) (x : Nat) (er : Int) (w : World)
    (h1 : ∀ w, Calls Try.prog 17 #[.string s] w fun e w' => e = .returned (.tuple #[.int .u64 (x : Nat), .int .i64 er]) ∧ w' = w)
    (h2 : ∀ w, Calls Try.prog 18 #[.string s] w fun e w' => e = .returned (.tuple #[.int .u64 (x : Nat), .int .i64 er]) ∧ w' = w)
    (h3 : ∀ w, Calls Try.prog 19 #[.int .u64 n, .int .i64 v] w fun e w' => e = .returned (.string t) ∧ Below w.heap.size w w')
    (h4 : ∀ w, Calls Try.prog 20 #[.int .u64 n, .int .i64 v] w fun e w' => e = .returned (.string t) ∧ Below w.heap.size w w') :
    Calls Try.prog 5 #[.int .u64 n, .int .i64 v, .string s] w fun e w' => e = .returned (.bool true) ∧ Below w.heap.size w w' := by
  have H1 := Hid.mk' h1
  have H2 := Hid.mk' h2
  have H3 := Hid.mk' h3
  have H4 := Hid.mk' h4
  clear h1 h2 h3 h4
  go_enter Try.func5, Try.ntmps5
  go_wp2_with fail
  refine (H1.out _).mono ?_
  rintro e w' ⟨rfl, rfl⟩
  go_wp2_with fail
  refine (H2.out _).mono ?_
  rintro e w' ⟨rfl, rfl⟩
  go_wp2_with fail
  refine (H3.out _).mono ?_
  rintro e w1 ⟨rfl, hb⟩
  have HB := Hid.mk' hb
  clear hb
  go_wp2_with fail
  refine (H4.out _).mono ?_
  rintro e w2 ⟨rfl, hb⟩
  have HB2 := Hid.mk' (HB.out.trans (hb.mono HB.out.size))
  clear hb
  go_wp2_with fail
  go_ret
  exact ⟨rfl, HB2.out⟩

theorem below_same {P : Program} {f : Nat} {a : Array Value} {w : World} {r : Ending} (h : Calls P f a w fun e w' => e = r ∧ w' = w) : Calls P f a w fun e w' => e = r ∧ Below w.heap.size w w' :=
  h.mono fun _ _ ⟨h1, h2⟩ => ⟨h1, by rw [h2]; exact Below.refl _ _⟩

theorem numFixes_walk (a0 a1 : Int) (a2 : ByteArray) (w : World) (w0 : (Lit.int .u64 a0).wf = true) (w1 : (Lit.int .i64 a1).wf = true) (_w2 : a2.size ≤ maxLen) (z2 : a2.data.toList.length ≤ reachBytes) :
    Calls Try.prog 5 #[.int .u64 a0, .int .i64 a1, .string a2] w fun e w' => e = .returned (.bool true) ∧ Below w.heap.size w w' := by
  obtain ⟨n, rfl, hn⟩ := u64_nat w0
  have hsz : a2.size ≤ 140737488363520 := by
    have hr := reachBytes_lt
    have e : a2.data.toList.length = a2.size := by rw [Array.length_toList]; rfl
    omega
  rcases (by omega : 8 < a2.size ∨ a2.size ≤ 8) with hs | hs
  · rcases (by omega : (a1 < 1 ∨ 8 < a1) ∨ (1 ≤ a1 ∧ a1 ≤ 8)) with hv | ⟨hv1, hv2⟩
    · exact numFixes_of n a1 a2 _ 0 _ w (fun w => unfix_large _ _ hs hsz) (fun w => runfix_large _ _ hs hsz) (fun w => below_same (fix_no _ _ _ hv)) (fun w => below_same (rfix_no _ _ _ hv))
    · obtain ⟨m, rfl⟩ := Int.eq_ofNat_of_zero_le (show 0 ≤ a1 by omega)
      exact numFixes_of n m a2 _ 0 _ w (fun w => unfix_large _ _ hs hsz) (fun w => runfix_large _ _ hs hsz) (fun w => fix_in _ _ _ (by omega) (by omega)) (fun w => rfix_in _ _ _ hn (by omega) (by omega))
  · rcases (by omega : (a1 < 1 ∨ 8 < a1) ∨ (1 ≤ a1 ∧ a1 ≤ 8)) with hv | ⟨hv1, hv2⟩
    · exact numFixes_of n a1 a2 _ _ _ w (fun w => unfix_in _ _ hs) (fun w => runfix_in _ _ hs) (fun w => below_same (fix_no _ _ _ hv)) (fun w => below_same (rfix_no _ _ _ hv))
    · obtain ⟨m, rfl⟩ := Int.eq_ofNat_of_zero_le (show 0 ≤ a1 by omega)
      exact numFixes_of n m a2 _ _ _ w (fun w => unfix_in _ _ hs) (fun w => runfix_in _ _ hs) (fun w => fix_in _ _ _ (by omega) (by omega)) (fun w => rfix_in _ _ _ hn (by omega) (by omega))
end Go.Proofs.Ytgecdldahgfncaa
