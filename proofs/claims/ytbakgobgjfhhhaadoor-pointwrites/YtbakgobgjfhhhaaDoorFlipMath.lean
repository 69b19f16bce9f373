/- Plain facts on the lowest bits of a number in turned order: no Go in sight. -/
import Derived.Laws.ShiftsVarLaws
namespace Go.Proofs.YtbakgobgjfhhhaaDoor

/-- the lowest k bits of n in turned order -/
def rv (n : Nat) : Nat → Nat
  | 0 => 0
  | k + 1 => 2 * rv n k + n / 2 ^ k % 2

theorem rv_lt (n k : Nat) : rv n k < 2 ^ k := by
  induction k with
  | zero => simp [rv]
  | succ k ih => simp only [rv, Nat.pow_succ]; omega

theorem rv_lt64 (n k : Nat) (h : k < 64) : rv n k < 9223372036854775808 := by
  have h1 := rv_lt n k
  have h2 : 2 ^ k ≤ 2 ^ 63 := Nat.pow_le_pow_right (by decide) (by omega)
  omega
theorem rv_le64 (n k : Nat) (h : k ≤ 64) : rv n k < 18446744073709551616 := by
  have h1 := rv_lt n k
  have h2 : 2 ^ k ≤ 2 ^ 64 := Nat.pow_le_pow_right (by decide) (by omega)
  omega

theorem wrap_u64_of (x : Int) (h0 : 0 ≤ x) (h : x < 18446744073709551616) : IntKind.u64.wrap x = x := by
  rw [IntKind.wrap_u64]; exact Int.emod_eq_of_lt h0 h

theorem cast_div_pow (n k : Nat) : ((n : Int) / 2 ^ k) = ((n / 2 ^ k : Nat) : Int) := by simp

theorem div_pow_lt (n k : Nat) (h : n < 18446744073709551616) : n / 2 ^ k < 18446744073709551616 :=
  Nat.lt_of_le_of_lt (Nat.div_le_self _ _) h

theorem or_even (a b : Nat) (h : b < 2) : 2 * a ||| b = 2 * a + b := nat_join 1 (2 * a) b (by omega) (by omega)

/-- a round of bits.Flip -/
theorem flip_round (n k : Nat) (hn : n < 18446744073709551616) (hk : k < 64) :
    bits .or .u64 (IntKind.u64.wrap ((rv n k : Int) * 2)) (bits .and .u64 ((n : Int) / 2 ^ k) 1) = (rv n (k + 1) : Int) := by
  have h1 := rv_lt64 n k hk
  have h2 := div_pow_lt n k hn
  rw [cast_div_pow, wrap_u64_of _ (by omega) (by omega), show (1 : Int) = ((1 : Nat) : Int) from rfl, u64_and_nat _ _ h2 (by omega), Nat.and_one_is_mod,
    show ((rv n k : Int) * 2) = ((2 * rv n k : Nat) : Int) by omega, u64_or_nat _ _ (by omega) (by omega), or_even _ _ (by omega)]
  rfl

theorem bit_and (n k : Nat) (hn : n < 18446744073709551616) : bits .and .u64 ((n : Int) / 2 ^ k) 1 = ((n / 2 ^ k % 2 : Nat) : Int) := by
  rw [cast_div_pow, show (1 : Int) = ((1 : Nat) : Int) from rfl, u64_and_nat _ _ (div_pow_lt n k hn) (by omega), Nat.and_one_is_mod]

theorem bit_yes (n k : Nat) (hn : n < 18446744073709551616) (h : n / 2 ^ k % 2 = 1) : (bits .and .u64 ((n : Int) / 2 ^ k) 1 == 1) = true := by
  rw [bit_and n k hn, h]; rfl
theorem bit_no (n k : Nat) (hn : n < 18446744073709551616) (h : n / 2 ^ k % 2 = 0) : (bits .and .u64 ((n : Int) / 2 ^ k) 1 == 1) = false := by
  rw [bit_and n k hn, h]; rfl

theorem flip_shift (n k : Nat) : ((n : Int) / 2 ^ k / 2) = ((n / 2 ^ (k + 1) : Nat) : Int) := by
  rw [cast_div_pow, Nat.pow_succ, ← Nat.div_div_eq_div_mul]; omega

/-- what stands in linenref.Flip's answer behind i rounds of m -/
def ru (n m i : Nat) : Nat := rv n i * 2 ^ (m - i)

theorem ru_lt (n m i : Nat) (hi : i ≤ m) (hm : m ≤ 64) : ru n m i < 18446744073709551616 := by
  have h1 := rv_lt n i
  have h2 : 2 ^ i * 2 ^ (m - i) = 2 ^ m := by rw [← Nat.pow_add]; congr 1; omega
  have h3 : 2 ^ m ≤ 2 ^ 64 := Nat.pow_le_pow_right (by decide) hm
  have h4 : rv n i * 2 ^ (m - i) < 2 ^ i * 2 ^ (m - i) := Nat.mul_lt_mul_of_pos_right h1 (Nat.two_pow_pos _)
  unfold ru; omega

theorem ru_step (n m i : Nat) (hi : i < m) : ru n m (i + 1) = ru n m i + n / 2 ^ i % 2 * 2 ^ (m - 1 - i) := by
  unfold ru
  have e : m - i = (m - 1 - i) + 1 := by omega
  have e2 : m - (i + 1) = m - 1 - i := by omega
  rw [e, e2]
  simp only [rv, Nat.pow_succ, Nat.add_mul]
  have : 2 * rv n i * 2 ^ (m - 1 - i) = rv n i * (2 ^ (m - 1 - i) * 2) := by
    rw [Nat.mul_comm 2 (rv n i), Nat.mul_assoc, Nat.mul_comm 2 (2 ^ (m - 1 - i))]
  omega

theorem ru_or (n m i : Nat) (hi : i < m) (hb : n / 2 ^ i % 2 = 1) : ru n m i ||| 2 ^ (m - 1 - i) = ru n m (i + 1) := by
  rw [ru_step n m i hi, hb, Nat.one_mul]
  refine nat_join (m - 1 - i + 1) _ _ ?_ (Nat.pow_lt_pow_right (by decide) (by omega))
  unfold ru
  rw [show m - i = m - 1 - i + 1 by omega]
  exact Nat.mul_mod_left _ _

theorem ru_skip (n m i : Nat) (hi : i < m) (hb : n / 2 ^ i % 2 = 0) : ru n m (i + 1) = ru n m i := by
  rw [ru_step n m i hi, hb]; omega

/-- a round of linenref.Flip at a bit that is 1 -/
theorem rflip_round (n m i : Nat) (hi : i < m) (hm : m ≤ 64) (hb : n / 2 ^ i % 2 = 1) :
    bits .or .u64 (ru n m i : Int) (IntKind.u64.wrap (2 ^ (m - 1 - i))) = (ru n m (i + 1) : Int) := by
  have h1 := ru_lt n m i (by omega) hm
  have h2 : 2 ^ (m - 1 - i) < 2 ^ 64 := Nat.pow_lt_pow_right (by decide) (by omega)
  have e : (2 : Int) ^ (m - 1 - i) = ((2 ^ (m - 1 - i) : Nat) : Int) := by simp
  rw [e, wrap_u64_of _ (Int.natCast_nonneg _) (Int.ofNat_lt.2 h2), u64_or_nat _ _ h1 h2, ru_or n m i hi hb]

theorem ru_zero (n m : Nat) : ru n m 0 = 0 := by simp [ru, rv]
theorem ru_end (n m : Nat) : ru n m m = rv n m := by simp [ru]

theorem rv_testBit (n k i : Nat) : (rv n k).testBit i = (decide (i < k) && n.testBit (k - 1 - i)) := by
  induction k generalizing i with
  | zero => simp [rv]
  | succ k ih =>
    have hb : n / 2 ^ k % 2 < 2 := Nat.mod_lt _ (by decide)
    cases i with
    | zero =>
      have e : rv n (k + 1) = 2 * rv n k + n / 2 ^ k % 2 := rfl
      have e2 : rv n (k + 1) % 2 = n / 2 ^ k % 2 := by omega
      rw [Nat.testBit_zero, e2, Nat.testBit_eq_decide_div_mod_eq, Nat.add_sub_cancel, Nat.sub_zero]
      simp
    | succ i =>
      have e : rv n (k + 1) = 2 * rv n k + n / 2 ^ k % 2 := rfl
      have e2 : rv n (k + 1) / 2 = rv n k := by omega
      rw [Nat.testBit_succ, e2, ih]
      rw [show k + 1 - 1 - (i + 1) = k - 1 - i by omega]
      simp

theorem rv_rv (n k : Nat) : rv (rv n k) k = n % 2 ^ k := by
  apply Nat.eq_of_testBit_eq
  intro i
  rw [rv_testBit, rv_testBit, Nat.testBit_mod_two_pow]
  by_cases h : i < k
  · rw [show k - 1 - (k - 1 - i) = i by omega]
    simp [h, show k - 1 - i < k by omega]
  · simp [h]

/-- n & (1<<k - 1) of 64 bits -/
theorem low_and (n k : Nat) (hn : n < 18446744073709551616) (hk : k < 64) :
    bits .and .u64 (n : Int) (IntKind.u64.wrap (IntKind.u64.wrap (2 ^ k) - 1)) = ((n % 2 ^ k : Nat) : Int) := by
  have h2 : 2 ^ k < 2 ^ 64 := Nat.pow_lt_pow_right (by decide) hk
  have h3 : 0 < 2 ^ k := Nat.two_pow_pos _
  have e : (2 : Int) ^ k = ((2 ^ k : Nat) : Int) := by simp
  have e3 := Nat.and_two_pow_sub_one_eq_mod n k
  rw [e]
  generalize 2 ^ k = p at *
  rw [wrap_u64_of (p : Int) (by omega) (by omega), show ((p : Int) - 1) = ((p - 1 : Nat) : Int) by omega, wrap_u64_of _ (by omega) (by omega), u64_and_nat _ _ hn (by omega), e3]

end Go.Proofs.YtbakgobgjfhhhaaDoor
