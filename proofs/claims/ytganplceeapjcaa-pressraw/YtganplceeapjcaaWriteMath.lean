/- What code.Write answers, in plain words. -/
import Derived.Test.YtganplceeapjcaaCanonMath
import Derived.Test.YtganplceeapjcaaPackMath
namespace Go.Proofs.Ytganplceeapjcaa

/-- may this sign be written? -/
def sgnB (L : Nat → Int) (len : Nat) (s : Int) : Bool := decide (0 ≤ s ∧ s < (len : Int) ∧ L s.toNat ≠ 0)
def allS (L : Nat → Int) (len : Nat) (S : Nat → Int) (n : Nat) : Bool := (List.range n).all fun i => sgnB L len (S i)
theorem allS_of {L : Nat → Int} {len : Nat} {S : Nat → Int} {n : Nat} (h : allS L len S n = true) (i : Nat) (hi : i < n) : sgnB L len (S i) = true := List.all_eq_true.1 h i (by simpa using hi)
theorem allS_mk {L : Nat → Int} {len : Nat} {S : Nat → Int} {n : Nat} (h : ∀ i, i < n → sgnB L len (S i) = true) : allS L len S n = true := List.all_eq_true.2 fun i hi => h i (by simpa using hi)
theorem allS_not {L : Nat → Int} {len : Nat} {S : Nat → Int} {n : Nat} (k : Nat) (hk : k < n) (h : sgnB L len (S k) = false) : allS L len S n = false := by
  cases ha : allS L len S n with
  | false => rfl
  | true => rw [allS_of ha k hk] at h; cases h
theorem sgn_of {L : Nat → Int} {len : Nat} {s : Int} (h : sgnB L len s = true) : 0 ≤ s ∧ s < (len : Int) ∧ L s.toNat ≠ 0 := of_decide_eq_true h
theorem sgn_not {L : Nat → Int} {len : Nat} {s : Int} (h : sgnB L len s = false) : ¬ (0 ≤ s ∧ s < (len : Int) ∧ L s.toNat ≠ 0) := of_decide_eq_false h
/-- a sign's bits, the first the lowest; how many -/
def wrV (L : Nat → Int) (len : Nat) (S : Nat → Int) (i : Nat) : Nat := rv (codeN L len (S i).toNat) (L (S i).toNat).toNat
def wrW (L : Nat → Int) (S : Nat → Int) (i : Nat) : Int := L (S i).toNat
def wrE (L : Nat → Int) (len : Nat) (S : Nat → Int) (n : Nat) : Int := if canE L len = 0 then (if allS L len S n = true then 0 else 1) else canE L len
def wrL (L : Nat → Int) (len : Nat) (S : Nat → Int) (n : Nat) : Nat := if wrE L len S n = 0 then n else 0
theorem wr_can {L : Nat → Int} {len : Nat} {S : Nat → Int} {n : Nat} (h : canE L len ≠ 0) : wrE L len S n = canE L len ∧ wrL L len S n = 0 := by
  have e : wrE L len S n = canE L len := by unfold wrE; rw [if_neg h]
  exact ⟨e, by unfold wrL; rw [e, if_neg h]⟩
theorem wr_bad {L : Nat → Int} {len : Nat} {S : Nat → Int} {n : Nat} (h : canE L len = 0) (h2 : allS L len S n = false) : wrE L len S n = 1 ∧ wrL L len S n = 0 := by
  have e : wrE L len S n = 1 := by unfold wrE; rw [if_pos h, if_neg (by rw [h2]; decide)]
  exact ⟨e, by unfold wrL; rw [e]; rfl⟩
theorem wr_ok {L : Nat → Int} {len : Nat} {S : Nat → Int} {n : Nat} (h : canE L len = 0) (h2 : allS L len S n = true) : wrE L len S n = 0 ∧ wrL L len S n = n := by
  have e : wrE L len S n = 0 := by unfold wrE; rw [if_pos h, if_pos h2]
  exact ⟨e, by unfold wrL; rw [e]; rfl⟩
theorem wrE_zero {L : Nat → Int} {len : Nat} {S : Nat → Int} {n : Nat} (h : wrE L len S n = 0) : canE L len = 0 ∧ allS L len S n = true := by
  unfold wrE at h
  by_cases h1 : canE L len = 0
  · rw [if_pos h1] at h
    by_cases h2 : allS L len S n = true
    · exact ⟨h1, h2⟩
    · rw [if_neg h2] at h; omega
  · rw [if_neg h1] at h; exact absurd h h1
theorem canE_ok {L : Nat → Int} {len : Nat} (h : canE L len = 0) : len ≤ 320 ∧ (∀ i, i < len → lenB (L i) = true) ∧ fillN L len ≤ 32768 ∧ canL L len = len := by
  have hf : fillE L len = 0 := by
    refine Classical.byContradiction fun hn => ?_
    rw [(can_err L len hn).1] at h
    exact hn h
  obtain ⟨h1, h2, _⟩ := fillE_zero L len hf
  refine ⟨h1, all_of h2, Nat.le_of_not_lt fun hlt => ?_, by unfold canL; rw [if_pos h]⟩
  rw [(can_over L len hf hlt).1] at h
  omega
theorem canE_is (L : Nat → Int) (len : Nat) : 0 ≤ canE L len ∧ canE L len ≤ 6 := by
  have : 0 ≤ fillE L len ∧ fillE L len ≤ 2 := by
    unfold fillE
    split
    · omega
    · split <;> omega
  unfold canE
  split
  · split <;> omega
  · omega
theorem wrE_is (L : Nat → Int) (len : Nat) (S : Nat → Int) (n : Nat) : 0 ≤ wrE L len S n ∧ wrE L len S n ≤ 6 := by
  have := canE_is L len
  unfold wrE
  split
  · split <;> omega
  · omega
/-- what is known of a sign that may be written -/
theorem sgn_is {L : Nat → Int} {len : Nat} {s : Int} (hg : ∀ i, i < len → lenB (L i) = true) (h : sgnB L len s = true) : ∃ j y : Nat, s = (j : Int) ∧ j < len ∧ L j = (y : Int) ∧ 0 < y ∧ y ≤ 15 := by
  obtain ⟨h1, h2, h3⟩ := sgn_of h
  have := len_of (hg s.toNat (by omega))
  exact ⟨s.toNat, (L s.toNat).toNat, by omega, by omega, by omega, by omega, by omega⟩
theorem wr_err {L : Nat → Int} {len : Nat} {S : Nat → Int} {n : Nat} (h : wrE L len S n = 0) (i : Nat) (hi : i < n) : errP (wrV L len S i) (wrW L S i) = 0 := by
  obtain ⟨h1, h2⟩ := wrE_zero h
  obtain ⟨j, y, h3, h4, h5, h6, h7⟩ := sgn_is (canE_ok h1).2.1 (allS_of h2 i hi)
  unfold wrV wrW
  rw [h3, Int.toNat_natCast, h5, Int.toNat_natCast]
  exact errP_ok _ _ (by omega) (by rw [Int.toNat_natCast, Nat.div_eq_of_lt (rv_lt _ _)])
end Go.Proofs.Ytganplceeapjcaa
