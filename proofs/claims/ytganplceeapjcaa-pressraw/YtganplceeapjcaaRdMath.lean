/- Signs that are read one behind the other: what code.Read answers. No Go in sight. -/
import Derived.Test.YtganplceeapjcaaBookMath
import Derived.Test.YtganplceeapjcaaReadMath
namespace Go.Proofs.Ytganplceeapjcaa

def stpS (L : Nat → Int) (len : Nat) (s : ByteArray) (a : Nat) : Nat × Nat × Int := sgnS L len (txtN s.data.toList / 2 ^ a) (8 * s.size - a) 16 0
/-- where the k-th sign begins -/
def rdA (L : Nat → Int) (len : Nat) (s : ByteArray) (a : Nat) : Nat → Nat
  | 0 => a
  | k + 1 => rdA L len s a k + (stpS L len s (rdA L len s a k)).2.1
/-- the first error of the first k -/
def rdE (L : Nat → Int) (len : Nat) (s : ByteArray) (a : Nat) : Nat → Int
  | 0 => 0
  | k + 1 => if rdE L len s a k = 0 then (stpS L len s (rdA L len s a k)).2.2 else rdE L len s a k
def rdF (L : Nat → Int) (len : Nat) (s : ByteArray) (a : Nat) (i : Nat) : Int := ((stpS L len s (rdA L len s a i)).1 : Nat)
theorem sgnS_shape (L : Nat → Int) (len X m : Nat) : ∀ f n, (sgnS L len X m f n).2.2 ≠ 0 → sgnS L len X m f n = (0, 0, (sgnS L len X m f n).2.2) ∧ (sgnS L len X m f n).2.2 ≤ 7 ∧ 0 < (sgnS L len X m f n).2.2 := by
  intro f
  induction f with
  | zero => intro n _; simp [sgnS]
  | succ f ih =>
    intro n h
    rw [sgnS] at h ⊢
    cases hh : hitS L len n (rv X n) with
    | some i => rw [hh] at h; simp at h
    | none =>
      rw [hh] at h
      simp only at h ⊢
      by_cases hm : moreS L len n (rv X n) = true
      · rw [if_pos hm] at h ⊢
        by_cases e : n = m
        · rw [if_pos e]; simp
        · rw [if_neg e] at h ⊢; exact ih _ h
      · rw [if_neg hm]; simp
theorem stp_ok {L : Nat → Int} {len : Nat} {s : ByteArray} {a : Nat} (h : (stpS L len s a).2.2 = 0) : (stpS L len s a).1 < len ∧ 0 < (stpS L len s a).2.1 ∧ (stpS L len s a).2.1 ≤ 8 * s.size - a ∧ L (stpS L len s a).1 = ((stpS L len s a).2.1 : Int) ∧ rv (txtN s.data.toList / 2 ^ a) (stpS L len s a).2.1 = codeN L len (stpS L len s a).1 := by
  have := sgn_ok (W := L) (len := len) (txtN s.data.toList / 2 ^ a) (8 * s.size - a) 16 0 (stpS L len s a).1 (stpS L len s a).2.1 (Nat.zero_le _) (by
    show stpS L len s a = _
    rw [← h])
  exact this
theorem rdE_pre {L : Nat → Int} {len : Nat} {s : ByteArray} {a k : Nat} (h : rdE L len s a (k + 1) = 0) : rdE L len s a k = 0 ∧ (stpS L len s (rdA L len s a k)).2.2 = 0 := by
  rw [rdE] at h
  by_cases h0 : rdE L len s a k = 0
  · rw [if_pos h0] at h; exact ⟨h0, h⟩
  · rw [if_neg h0] at h; exact absurd h h0
theorem rdE_le {L : Nat → Int} {len : Nat} {s : ByteArray} {a k n : Nat} (h : rdE L len s a n = 0) (hk : k ≤ n) : rdE L len s a k = 0 := by
  induction n with
  | zero => rw [show k = 0 by omega]; rfl
  | succ n ih =>
    by_cases e : k = n + 1
    · rw [e]; exact h
    · exact ih (rdE_pre h).1 (by omega)
theorem rdE_stays {L : Nat → Int} {len : Nat} {s : ByteArray} {a k n : Nat} (h : rdE L len s a k ≠ 0) (hk : k ≤ n) : rdE L len s a n = rdE L len s a k := by
  induction n with
  | zero => rw [show k = 0 by omega]
  | succ m ih =>
    by_cases e : k = m + 1
    · rw [e]
    · have := ih (by omega)
      rw [rdE, if_neg (by rw [this]; exact h), this]
theorem rdA_le {L : Nat → Int} {len : Nat} {s : ByteArray} {a : Nat} (ha : a ≤ 8 * s.size) (k : Nat) (h : rdE L len s a k = 0) : rdA L len s a k ≤ 8 * s.size := by
  induction k with
  | zero => exact ha
  | succ k ih =>
    obtain ⟨h1, h2⟩ := rdE_pre h
    have := ih h1
    obtain ⟨_, _, h3, _⟩ := stp_ok h2
    rw [rdA]; omega
def argB (s : ByteArray) (a n : Int) : Bool := decide (a < 0 ∨ 8 * (s.size : Int) < a ∨ n < 0)
def readE (L : Nat → Int) (len : Nat) (s : ByteArray) (a n : Int) : Int :=
  if canE L len = 0 then (if argB s a n = true then 1 else if 1024 < n then 2 else rdE L len s a.toNat n.toNat) else canE L len
def readL (L : Nat → Int) (len : Nat) (s : ByteArray) (a n : Int) : Nat := if readE L len s a n = 0 then n.toNat else 0
def readK (L : Nat → Int) (len : Nat) (s : ByteArray) (a n : Int) : Nat := if readE L len s a n = 0 then rdA L len s a.toNat n.toNat else 0
theorem read_can {L : Nat → Int} {len : Nat} {s : ByteArray} {a n : Int} (h : canE L len ≠ 0) : readE L len s a n = canE L len ∧ readL L len s a n = 0 ∧ readK L len s a n = 0 := by
  have e : readE L len s a n = canE L len := by unfold readE; rw [if_neg h]
  exact ⟨e, by unfold readL; rw [e, if_neg h], by unfold readK; rw [e, if_neg h]⟩
theorem read_arg {L : Nat → Int} {len : Nat} {s : ByteArray} {a n : Int} (h : canE L len = 0) (h2 : argB s a n = true) : readE L len s a n = 1 ∧ readL L len s a n = 0 ∧ readK L len s a n = 0 := by
  have e : readE L len s a n = 1 := by unfold readE; rw [if_pos h, if_pos h2]
  exact ⟨e, by unfold readL; rw [e]; rfl, by unfold readK; rw [e]; rfl⟩
theorem read_many {L : Nat → Int} {len : Nat} {s : ByteArray} {a n : Int} (h : canE L len = 0) (h2 : argB s a n = false) (h3 : 1024 < n) : readE L len s a n = 2 ∧ readL L len s a n = 0 ∧ readK L len s a n = 0 := by
  have e : readE L len s a n = 2 := by unfold readE; rw [if_pos h, if_neg (by rw [h2]; decide), if_pos h3]
  exact ⟨e, by unfold readL; rw [e]; rfl, by unfold readK; rw [e]; rfl⟩
theorem read_err {L : Nat → Int} {len : Nat} {s : ByteArray} {a n k : Nat} (h : canE L len = 0) (ha : a ≤ 8 * s.size) (hn : n ≤ 1024) (hk : k < n) (h0 : rdE L len s a k = 0) (h1 : (stpS L len s (rdA L len s a k)).2.2 ≠ 0) : readE L len s a n = (stpS L len s (rdA L len s a k)).2.2 ∧ readL L len s a n = 0 ∧ readK L len s a n = 0 := by
  have e1 : rdE L len s a (k + 1) = (stpS L len s (rdA L len s a k)).2.2 := by rw [rdE, if_pos h0]
  have e : readE L len s a n = (stpS L len s (rdA L len s a k)).2.2 := by
    unfold readE
    rw [if_pos h, if_neg (by unfold argB; rw [decide_eq_false (by omega)]; decide), if_neg (by omega), Int.toNat_natCast, Int.toNat_natCast, rdE_stays (k := k + 1) (by rw [e1]; exact h1) hk, e1]
  exact ⟨e, by unfold readL; rw [e, if_neg h1], by unfold readK; rw [e, if_neg h1]⟩
theorem read_ok {L : Nat → Int} {len : Nat} {s : ByteArray} {a n : Nat} (h : canE L len = 0) (ha : a ≤ 8 * s.size) (hn : n ≤ 1024) (h0 : rdE L len s a n = 0) : readE L len s a n = 0 ∧ readL L len s a n = n ∧ readK L len s a n = rdA L len s a n := by
  have e : readE L len s a n = 0 := by
    unfold readE
    rw [if_pos h, if_neg (by unfold argB; rw [decide_eq_false (by omega)]; decide), if_neg (by omega), Int.toNat_natCast, Int.toNat_natCast, h0]
  exact ⟨e, by unfold readL; rw [e, if_pos rfl, Int.toNat_natCast], by unfold readK; rw [e, if_pos rfl, Int.toNat_natCast, Int.toNat_natCast]⟩
theorem arg_of {s : ByteArray} {a n : Int} (h : argB s a n = false) : 0 ≤ a ∧ a ≤ 8 * (s.size : Int) ∧ 0 ≤ n := by
  have := of_decide_eq_false h
  omega
theorem arg_yes {s : ByteArray} {a n : Int} (h : argB s a n = true) : a < 0 ∨ 8 * (s.size : Int) < a ∨ n < 0 := of_decide_eq_true h
/-- what is answered with no error -/
theorem readE_zero {L : Nat → Int} {len : Nat} {s : ByteArray} {a n : Int} (h : readE L len s a n = 0) : canE L len = 0 ∧ 0 ≤ a ∧ a ≤ 8 * (s.size : Int) ∧ 0 ≤ n ∧ n ≤ 1024 ∧ rdE L len s a.toNat n.toNat = 0 := by
  unfold readE at h
  by_cases h1 : canE L len = 0
  · rw [if_pos h1] at h
    cases h2 : argB s a n with
    | true => rw [h2, if_pos rfl] at h; omega
    | false =>
      rw [h2, if_neg (by decide)] at h
      obtain ⟨k1, k2, k3⟩ := arg_of h2
      by_cases h3 : 1024 < n
      · rw [if_pos h3] at h; omega
      · rw [if_neg h3] at h; exact ⟨h1, k1, k2, k3, by omega, h⟩
  · rw [if_neg h1] at h; exact absurd h h1
end Go.Proofs.Ytganplceeapjcaa
