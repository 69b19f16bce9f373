/- The law LensMore, walked. -/
import Derived.Test.YtgecdldahgfncabCanonWalks
import Derived.Test.YtgecdldahgfncabCloneInts
import Derived.Test.YtgecdldahgfncabMoreMath
namespace Go.Proofs.Ytgecdldahgfncab
open Go.RowKit

theorem fill_err (W : Nat → Int) (len : Nat) (h : fillE W len ≠ 0) : fillA W len = 0 := by unfold fillA; rw [if_neg h]

set_option maxRecDepth 20000 in
set_option maxHeartbeats 1000000 in
theorem lensMore_walk (a0 : Option Addr) (len cap : Nat) (X : Nat → Int) (a1 : Int) (w : World) (w0 : Wds w a0 len X) (w1 : (Lit.int .i64 a1).wf = true) :
    Calls Try.prog 8 #[.slice a0 len cap, .int .i64 a1] w fun e w' => e = .returned (.bool true) ∧ Below w.heap.size w w' := by
  have hlen := w0.lenB
  obtain ⟨b1, b2⟩ := bounds_i64 w1
  have HP := Hid.mk' w0
  clear w0
  go_enter Try.func8, Try.ntmps8
  go_wp2_with fail
  refine (fill_any a0 len cap X _ HP.out).mono ?_
  rintro e w2 ⟨rfl, rfl⟩
  by_cases hE : fillE X len = 0
  · obtain ⟨hL, hB, hA⟩ := fillE_zero X len hE
    have HE := Hid.mk' hE
    have HW := Hid.mk' HP.out.wB
    rw [hE, hA]
    clear hE hB hA
    by_cases hcond : len = 320 ∨ a1 < 1 ∨ 15 < a1
    · generalize fillN X len = n
      rcases hcond with h | h | h
      · have t : ((len : Int) == 320) = true := by rw [beq_iff_eq]; omega
        clear h
        go_wp2_with fail
        go_ret
        exact ⟨rfl, Below.refl _ _⟩
      · by_cases h320 : len = 320
        · have t : ((len : Int) == 320) = true := by rw [beq_iff_eq]; omega
          clear h320
          go_wp2_with fail
          go_ret
          exact ⟨rfl, Below.refl _ _⟩
        · have t : ((len : Int) == 320) = false := by rw [beq_eq_false_iff_ne]; omega
          clear h320
          go_wp2_with fail
          go_ret
          exact ⟨rfl, Below.refl _ _⟩
      · have h1 : ¬ a1 < 1 := by omega
        by_cases h320 : len = 320
        · have t : ((len : Int) == 320) = true := by rw [beq_iff_eq]; omega
          clear h320
          go_wp2_with fail
          go_ret
          exact ⟨rfl, Below.refl _ _⟩
        · have t : ((len : Int) == 320) = false := by rw [beq_eq_false_iff_ne]; omega
          clear h320
          go_wp2_with fail
          go_ret
          exact ⟨rfl, Below.refl _ _⟩
    · obtain ⟨s, rfl⟩ := Int.eq_ofNat_of_zero_le (show 0 ≤ a1 by omega)
      have t0 : ((len : Int) == 320) = false := by rw [beq_eq_false_iff_ne]; omega
      have hs0 : 0 < s := by omega
      have hs15 : s ≤ 15 := by omega
      have hl : len < 320 := by omega
      obtain ⟨i0, hi, hz0, hz1, hz2⟩ := info_parts infoI64
      have KI := Hid.mk' hi
      have KZ0 := Hid.mk' hz0
      have KZ1 := Hid.mk' hz1
      have KZ2 := Hid.mk' hz2
      clear hi hz0 hz1 hz2 hcond
      have hmf := Hid.mk' (more_fill X (snocW X len s) len s HE.out hl (fun i hi => snoc_lo _ _ _ _ hi) (snoc_at _ _ _) hs0 hs15)
      have hfb := sumP_le X (fun _ _ => true) len
      rw [← fillN] at hfb
      have t1 : decide ((s : Int) < 1) = false := decide_eq_false (by omega)
      have t2 : decide ((15 : Int) < s) = false := decide_eq_false (by omega)
      obtain ⟨n, en⟩ : ∃ n, Hid (fillN X len = n) := ⟨_, Hid.mk' rfl⟩
      rw [en.out] at hfb hmf ⊢
      go_wp2_with fail
      refine (cloneI_any a0 len cap X _ HP.out (by omega)).mono ?_
      rintro e w3 ⟨⟨v, rfl, hown⟩, hb⟩
      have HO := Hid.mk' hown
      have HB := Hid.mk' hb
      have hsz := hb.size
      clear hown hb
      go_wp2_with (at_builtin; refine wpList_append_own _ rfl (.tmp 36) (.tmp 38) 33 rfl w2.heap.size 3 i0 (.int .i64 0) 1 8 Try.underlying33 KI.out KZ0.out KZ1.out KZ2.out rfl (by decide) v _ _ rfl (HO.out.alloc _) ⟨w3.heap.size, 0, none⟩ 1 1 [.int .i64 (s : Int)] rfl rfl (cell_one_new _ _ _) (one_int _ _) (by unfold maxLen; omega) (by omega) (by simp; omega) ?_; intro v' w4 hown1 hgrow1 _)
      have HB4 := Hid.mk' (below_growC (HO.out.alloc _) (HB.out.alloc hsz _) (by simp; omega) hgrow1)
      have HO4 : Hid (w4.ownsRow w2.heap.size 3 1 v' (len + 1) (cellsC (snocW X len s) (len + 1))) := by
        rw [cellsC_snoc]; exact hown1
      obtain ⟨ao, cp, rfl, hwd⟩ := wds_of_own HO4.out (by omega) (fun i hi => by
        rcases Nat.lt_succ_iff_lt_or_eq.1 hi with h1 | h1
        · rw [snoc_lo _ _ _ _ h1]; exact HW.out i h1
        · rw [h1, snoc_at]; omega)
      have HWD := Hid.mk' hwd
      have hs4 := HB4.out.size
      clear hown1 hgrow1 hwd
      go_wp2_with fail
      refine (canon_any ao (len + 1) cp (snocW X len s) _ HWD.out).mono ?_
      rintro e w5 ⟨⟨v5, rfl, h5⟩, hb5⟩
      have HB5 := Hid.mk' (HB4.out.trans (hb5.mono hs4))
      have hcs : (15 : Int) - s = ((15 - s : Nat) : Int) := by omega
      have hpb : 2 ^ (15 - s) ≤ 32768 := by
        have : 2 ^ (15 - s) ≤ 2 ^ 15 := Nat.pow_le_pow_right (by decide) (by omega)
        omega
      obtain ⟨p, ep⟩ : ∃ p, Hid (2 ^ (15 - s) = p) := ⟨_, Hid.mk' rfl⟩
      have hB : (2 : Int) ^ (15 - s) = (p : Int) := by rw [← ep.out]; simp
      rw [ep.out] at hpb hmf
      clear hb5
      by_cases hov : 32768 < n + p
      · have hco := can_over (snocW X len s) (len + 1) hmf.out.1 (by rw [hmf.out.2]; exact hov)
        rw [hco.1]
        rw [hco.2] at h5
        obtain ⟨ao5, cp5, rfl, _⟩ := h5.is
        clear hco h5
        have t3 : (32768 : Int) - p < n := by omega
        go_wp2_with fail
        go_ret
        exact ⟨rfl, HB5.out⟩
      · have hco := can_ok (snocW X len s) (len + 1) hmf.out.1 (by rw [hmf.out.2]; omega)
        rw [hco.1]
        rw [hco.2] at h5
        obtain ⟨ao5, cp5, rfl, _⟩ := h5.is
        clear hco h5
        have t3 : ¬ (32768 : Int) - p < n := by omega
        go_wp2_with fail
        go_ret
        exact ⟨rfl, HB5.out⟩
  · rw [fill_err X len hE]
    generalize fillE X len = er at *
    have t : (er != 0) = true := by rw [bne_iff_ne]; exact hE
    have t2 : (er == 0) = false := by rw [beq_eq_false_iff_ne]; exact hE
    clear hE
    go_wp2_with fail
    go_ret
    exact ⟨rfl, Below.refl _ _⟩
end Go.Proofs.Ytgecdldahgfncab
