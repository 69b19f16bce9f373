/- Plain facts on bits of a text, read one behind the other. No Go in sight. -/
import Derived.Test.YtganplceeapjcaaPackMath
namespace Go.Proofs.Ytganplceeapjcaa

/-- a text as a number, its first byte the lowest -/
def txtN : List UInt8 → Nat
  | [] => 0
  | b :: l => b.toNat + 256 * txtN l
theorem txtN_bit (l : List UInt8) (j t : Nat) (ht : t < 8) : (txtN l).testBit (8 * j + t) = (l.getD j 0).toNat.testBit t := by
  induction l generalizing j with
  | nil => simp [txtN]
  | cons b l ih =>
    have hb := b.toNat_lt
    rw [txtN, Nat.add_comm, show 256 = 2 ^ 8 from rfl, Nat.testBit_two_pow_mul_add _ hb]
    cases j with
    | zero => simp [ht]
    | succ j =>
      rw [if_neg (by omega), show 8 * (j + 1) + t - 8 = 8 * j + t by omega, ih]
      rfl
theorem txtN_lt (l : List UInt8) : txtN l < 2 ^ (8 * l.length) := by
  induction l with
  | nil => simp [txtN]
  | cons b l ih =>
    have hb := b.toNat_lt
    simp only [txtN, List.length_cons]
    rw [show 8 * (l.length + 1) = 8 + 8 * l.length by omega, Nat.pow_add]
    have : 2 ^ 8 * (txtN l + 1) ≤ 2 ^ 8 * 2 ^ (8 * l.length) := Nat.mul_le_mul_left _ ih
    omega
/-- d bits from place a on, as far as 64 bits go -/
def rdN (X a d : Nat) : Nat := X / 2 ^ a % 2 ^ d % 18446744073709551616
theorem rdN_lt (X a d : Nat) : rdN X a d < 18446744073709551616 := Nat.mod_lt _ (by decide)
theorem rdN_bit (X a d k : Nat) : (rdN X a d).testBit k = (decide (k < 64) && (decide (k < d) && X.testBit (a + k))) := by
  unfold rdN
  rw [show 18446744073709551616 = 2 ^ 64 from rfl, Nat.testBit_mod_two_pow, Nat.testBit_mod_two_pow, Nat.testBit_div_two_pow, Nat.add_comm a]
theorem rdN_zero (X a : Nat) : rdN X a 0 = 0 := by simp [rdN, Nat.mod_one]
theorem rd_step (l : List UInt8) (a d : Nat) :
    rdN (txtN l) a d ||| (l.getD ((a + d) / 8) 0).toNat / 2 ^ ((a + d) % 8) * 2 ^ d % 18446744073709551616 = rdN (txtN l) a (d + (8 - (a + d) % 8)) := by
  apply Nat.eq_of_testBit_eq
  intro k
  rw [Nat.testBit_or, rdN_bit, rdN_bit, show 18446744073709551616 = 2 ^ 64 from rfl, Nat.testBit_mod_two_pow, Nat.mul_comm, Nat.testBit_two_pow_mul, Nat.testBit_div_two_pow, ← Bool.and_or_distrib_left]
  congr 1
  by_cases h1 : k < d
  · simp [h1, show ¬ d ≤ k by omega, show k < d + (8 - (a + d) % 8) by omega]
  · by_cases h2 : k < d + (8 - (a + d) % 8)
    · have e := txtN_bit l ((a + d) / 8) (k - d + (a + d) % 8) (by omega)
      rw [← e]
      simp [h1, h2, show d ≤ k by omega, show 8 * ((a + d) / 8) + (k - d + (a + d) % 8) = a + k by omega]
    · have hb := (l.getD ((a + d) / 8) 0).toNat_lt
      have hz : (l.getD ((a + d) / 8) 0).toNat.testBit (k - d + (a + d) % 8) = false := Nat.testBit_lt_two_pow (Nat.lt_of_lt_of_le hb (by
        have : 2 ^ 8 ≤ 2 ^ (k - d + (a + d) % 8) := Nat.pow_le_pow_right (by decide) (by omega)
        omega))
      rw [hz]
      simp [h1, h2]
/-- what is read in the end -/
def getN (X a wd : Nat) : Nat := X / 2 ^ a % 2 ^ wd
theorem rd_end (X a d wd : Nat) (h : wd ≤ d) (hw : wd ≤ 64) : rdN X a d % 2 ^ wd = getN X a wd := by
  apply Nat.eq_of_testBit_eq
  intro k
  unfold getN
  rw [Nat.testBit_mod_two_pow, rdN_bit, Nat.testBit_mod_two_pow, Nat.testBit_div_two_pow, Nat.add_comm k a]
  by_cases hk : k < wd
  · simp [hk, show k < 64 by omega, show k < d by omega]
  · simp [hk]
theorem getN_lt (X a wd : Nat) (h : wd ≤ 64) : getN X a wd < 18446744073709551616 := by
  have h1 : X / 2 ^ a % 2 ^ wd < 2 ^ wd := Nat.mod_lt _ (Nat.two_pow_pos _)
  have h2 : 2 ^ wd ≤ 2 ^ 64 := Nat.pow_le_pow_right (by decide) h
  unfold getN; omega
/-- & (1<<w - 1), also where w is 64 -/
theorem low_and64 (n k : Nat) (hn : n < 18446744073709551616) (hk : k ≤ 64) :
    bits .and .u64 (n : Int) (IntKind.u64.wrap (IntKind.u64.wrap (2 ^ k) - 1)) = ((n % 2 ^ k : Nat) : Int) := by
  rcases Nat.lt_or_ge k 64 with h | h
  · exact low_and n k hn h
  · obtain rfl : k = 64 := by omega
    rw [show IntKind.u64.wrap (IntKind.u64.wrap (2 ^ 64) - 1) = ((2 ^ 64 - 1 : Nat) : Int) by decide, u64_and_nat _ _ hn (by decide), Nat.and_two_pow_sub_one_eq_mod]
theorem rd_or (n : Nat) (b : UInt8) (o d : Nat) (hn : n < 18446744073709551616) :
    bits .or .u64 (n : Int) (IntKind.u64.wrap (IntKind.u64.wrap ((b.toNat : Int) / 2 ^ o) * 2 ^ d)) = ((n ||| b.toNat / 2 ^ o * 2 ^ d % 18446744073709551616 : Nat) : Int) := by
  have hb : b.toNat / 2 ^ o < 256 := Nat.lt_of_le_of_lt (Nat.div_le_self _ _) b.toNat_lt
  rw [cast_div_pow, wrap_u64_of ((b.toNat / 2 ^ o : Nat) : Int) (Int.natCast_nonneg _) (by omega), show ((b.toNat / 2 ^ o : Nat) : Int) * 2 ^ d = ((b.toNat / 2 ^ o * 2 ^ d : Nat) : Int) by simp, IntKind.wrap_u64]
  rw [show ((b.toNat / 2 ^ o * 2 ^ d : Nat) : Int) % 18446744073709551616 = ((b.toNat / 2 ^ o * 2 ^ d % 18446744073709551616 : Nat) : Int) by omega]
  exact u64_or_nat _ _ hn (Nat.mod_lt _ (by decide))
theorem byte_at (s : ByteArray) (q : Nat) (h : q < s.size) : s.data.toList.getD q 0 = s[q] := by
  have : q < s.data.toList.length := by simpa using h
  rw [List.getD_eq_getElem?_getD, List.getElem?_eq_getElem this]; rfl
end Go.Proofs.Ytganplceeapjcaa
