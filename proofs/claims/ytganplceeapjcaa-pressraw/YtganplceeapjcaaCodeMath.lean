/- Plain facts on signs that are read bit by bit. No Go in sight. -/
import Derived.Test.YtganplceeapjcaaFreeMath
namespace Go.Proofs.Ytganplceeapjcaa

/-- the sign whose code, of n bits, is v -/
def hitS (W : Nat → Int) (len n v : Nat) : Option Nat := (List.range len).find? fun i => decide (0 < n ∧ W i = (n : Int) ∧ codeN W len i = v)
/-- does a code of more than n bits begin with v? -/
def moreS (W : Nat → Int) (len n v : Nat) : Bool := (List.range len).any fun i => decide ((n : Int) < W i ∧ codeN W len i / 2 ^ ((W i).toNat - n) = v)
/-- a sign of the bits of X, of which there are m: which, of how many bits, or what goes wrong -/
def sgnS (W : Nat → Int) (len X m : Nat) : Nat → Nat → Nat × Nat × Int
  | 0, _ => (0, 0, 7)
  | f + 1, n =>
    match hitS W len n (rv X n) with
    | some i => (i, n, 0)
    | none => if moreS W len n (rv X n) = true then (if n = m then (0, 0, 3) else sgnS W len X m f (n + 1)) else (0, 0, 7)
theorem rv_front (X n j : Nat) : rv X (n + j) / 2 ^ j = rv X n := by
  induction j with
  | zero => simp
  | succ j ih =>
    have e : rv X (n + (j + 1)) = 2 * rv X (n + j) + X / 2 ^ (n + j) % 2 := rfl
    rw [e, Nat.pow_succ, Nat.mul_comm (2 ^ j) 2, ← Nat.div_div_eq_div_mul, show (2 * rv X (n + j) + X / 2 ^ (n + j) % 2) / 2 = rv X (n + j) by omega, ih]
theorem hit_some {W : Nat → Int} {len n v i : Nat} (h : hitS W len n v = some i) : i < len ∧ 0 < n ∧ W i = (n : Int) ∧ codeN W len i = v := by
  have h1 := List.find?_some h
  have h2 := List.mem_of_find?_eq_some h
  simp only [decide_eq_true_eq] at h1
  exact ⟨by simpa using h2, h1⟩
theorem hit_none {W : Nat → Int} {len n v : Nat} (h : hitS W len n v = none) (i : Nat) (hi : i < len) : ¬ (0 < n ∧ W i = (n : Int) ∧ codeN W len i = v) := by
  have := List.find?_eq_none.1 h i (by simpa using hi)
  simpa using this
theorem more_mk {W : Nat → Int} {len n v i : Nat} (hi : i < len) (h1 : (n : Int) < W i) (h2 : codeN W len i / 2 ^ ((W i).toNat - n) = v) : moreS W len n v = true :=
  List.any_eq_true.2 ⟨i, by simpa using hi, decide_eq_true ⟨h1, h2⟩⟩
theorem more_of {W : Nat → Int} {len n v : Nat} (h : moreS W len n v = true) : ∃ i, i < len ∧ (n : Int) < W i ∧ codeN W len i / 2 ^ ((W i).toNat - n) = v := by
  obtain ⟨i, h1, h2⟩ := List.any_eq_true.1 h
  exact ⟨i, by simpa using h1, of_decide_eq_true h2⟩
/-- a sign stands there -/
theorem hit_is {W : Nat → Int} {len : Nat} (hg : ∀ i, i < len → lenB (W i) = true) (i s : Nat) (hi : i < len) (hs : W i = (s : Int)) (h0 : 0 < s) (v : Nat) (hv : codeN W len i = v) : hitS W len s v = some i := by
  have h15 := len_of (hg i hi)
  cases h : hitS W len s v with
  | none => exact absurd ⟨h0, hs, hv⟩ (hit_none h i hi)
  | some k =>
    obtain ⟨k1, _, k3, k4⟩ := hit_some h
    by_cases e : k = i
    · rw [e]
    · have := free W len k i s s k1 hi k3 hs h0 (Nat.le_refl _) (by omega) e
      simp at this
      omega
/-- bits that begin with a code are that sign -/
theorem sgn_code {W : Nat → Int} {len : Nat} (hg : ∀ i, i < len → lenB (W i) = true) (X m i s : Nat) (hi : i < len) (hs : W i = (s : Int)) (h0 : 0 < s) (hm : s ≤ m) (hX : rv X s = codeN W len i) :
    ∀ f n, n ≤ s → s < f + n → sgnS W len X m f n = (i, s, 0) := by
  have h15 := len_of (hg i hi)
  intro f
  induction f with
  | zero => intro n h1 h2; omega
  | succ f ih =>
    intro n h1 h2
    rw [sgnS]
    by_cases e : n = s
    · subst e
      rw [hit_is hg i n hi hs h0 (rv X n) hX.symm]
    · have hfr : rv X n = codeN W len i / 2 ^ (s - n) := by
        rw [← hX]
        have := rv_front X n (s - n)
        rw [show n + (s - n) = s by omega] at this
        exact this.symm
      have hno : hitS W len n (rv X n) = none := by
        cases h : hitS W len n (rv X n) with
        | none => rfl
        | some k =>
          obtain ⟨k1, k2, k3, k4⟩ := hit_some h
          have hne : k ≠ i := by intro e2; rw [e2, hs] at k3; omega
          have := free W len k i n s k1 hi k3 hs k2 h1 (by omega) hne
          exact absurd (by rw [k4, hfr]) this
      have hmo : moreS W len n (rv X n) = true := more_mk hi (by rw [hs]; omega) (by rw [hs, hfr, Int.toNat_natCast])
      rw [hno]
      simp only [hmo, if_true]
      rw [if_neg (by omega)]
      exact ih (n + 1) (by omega) (by omega)
/-- what is told to be a sign is one -/
theorem sgn_ok {W : Nat → Int} {len : Nat} (X m : Nat) : ∀ f n i k, n ≤ m → sgnS W len X m f n = (i, k, 0) → i < len ∧ 0 < k ∧ k ≤ m ∧ W i = (k : Int) ∧ rv X k = codeN W len i := by
  intro f
  induction f with
  | zero => intro n i k _ h; simp [sgnS] at h
  | succ f ih =>
    intro n i k hn h
    rw [sgnS] at h
    cases hh : hitS W len n (rv X n) with
    | some j =>
      rw [hh] at h
      simp at h
      obtain ⟨rfl, rfl⟩ := h
      obtain ⟨k1, k2, k3, k4⟩ := hit_some hh
      exact ⟨k1, k2, hn, k3, k4.symm⟩
    | none =>
      rw [hh] at h
      simp only at h
      by_cases hm : moreS W len n (rv X n) = true
      · rw [if_pos hm] at h
        by_cases e : n = m
        · rw [if_pos e] at h; simp at h
        · rw [if_neg e] at h
          exact ih (n + 1) i k (by omega) h
      · rw [if_neg hm] at h; simp at h
end Go.Proofs.Ytganplceeapjcaa
