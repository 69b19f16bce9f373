/- Plain facts on the steps of 32 bits: linear, so that tables and turned orders say the same. No Go in sight. -/
import Derived.Test.YtbakgobgjfhhhaaDoorFlipMath
namespace Go.Proofs.YtbakgobgjfhhhaaDoor

/-- 32 bits as the number that a slot holds -/
def B (c : BitVec 32) : Int := (c.toNat : Int)

theorem B_nonneg (c : BitVec 32) : 0 ≤ B c := Int.natCast_nonneg _
theorem B_lt (c : BitVec 32) : B c < 4294967296 := by have := c.isLt; unfold B; omega
theorem B_of (n : Nat) (h : n < 4294967296) : (n : Int) = B (BitVec.ofNat 32 n) := by
  unfold B; rw [BitVec.toNat_ofNat, Nat.mod_eq_of_lt h]
theorem xorB (a b : BitVec 32) : bits .xor .u32 (B a) (B b) = B (a ^^^ b) := by
  unfold B; rw [u32_xor_nat a.toNat b.toNat a.isLt b.isLt, ← BitVec.toNat_xor]
theorem andB (a b : BitVec 32) : bits .and .u32 (B a) (B b) = B (a &&& b) := by
  unfold B; rw [u32_and_nat a.toNat b.toNat a.isLt b.isLt, ← BitVec.toNat_and]
theorem orB (a b : BitVec 32) : bits .or .u32 (B a) (B b) = B (a ||| b) := by
  unfold B; rw [u32_or_nat a.toNat b.toNat a.isLt b.isLt, ← BitVec.toNat_or]
theorem notB (c : BitVec 32) : bits .xor .u32 IntKind.u32.max (B c) = B (~~~c) := by
  rw [show IntKind.u32.max = B (BitVec.allOnes 32) by decide, xorB, BitVec.allOnes_xor]
theorem shrB (c : BitVec 32) (k : Nat) : B c / 2 ^ k = B (c >>> k) := by
  unfold B; rw [BitVec.toNat_ushiftRight, Nat.shiftRight_eq_div_pow]; simp
theorem wrapB (n : Nat) : IntKind.u32.wrap (n : Int) = B (BitVec.ofNat 32 n) := by
  unfold B; rw [IntKind.wrap_u32', BitVec.toNat_ofNat]; omega
theorem shlB (c : BitVec 32) (k : Nat) : IntKind.u32.wrap (B c * 2 ^ k) = B (c <<< k) := by
  unfold B
  rw [show ((c.toNat : Int) * 2 ^ k) = ((c.toNat * 2 ^ k : Nat) : Int) by simp, wrapB, B, BitVec.toNat_ofNat, BitVec.toNat_shiftLeft, Nat.shiftLeft_eq]

def mixC : BitVec 32 := 0x82f63b78#32
/-- the chapter's STEP -/
def stp (c : BitVec 32) : BitVec 32 := if c.getLsbD 0 = true then (c >>> 1) ^^^ mixC else c >>> 1
def stps : Nat → BitVec 32 → BitVec 32
  | 0, c => c
  | n + 1, c => stps n (stp c)

theorem stp_xor (a b : BitVec 32) : stp (a ^^^ b) = stp a ^^^ stp b := by
  unfold stp
  rw [BitVec.getLsbD_xor, BitVec.ushiftRight_xor_distrib]
  cases a.getLsbD 0 <;> cases b.getLsbD 0 <;> simp
  · rw [BitVec.xor_assoc]
  · rw [BitVec.xor_assoc, BitVec.xor_assoc, BitVec.xor_comm mixC]
  · rw [BitVec.xor_assoc, ← BitVec.xor_assoc mixC, BitVec.xor_comm mixC, BitVec.xor_assoc, BitVec.xor_self, BitVec.xor_zero]
theorem stps_xor (n : Nat) (a b : BitVec 32) : stps n (a ^^^ b) = stps n a ^^^ stps n b := by
  induction n generalizing a b with
  | zero => rfl
  | succ n ih => simp only [stps, stp_xor, ih]
theorem stps_add (m n : Nat) (c : BitVec 32) : stps (m + n) c = stps n (stps m c) := by
  induction m generalizing c with
  | zero => rw [Nat.zero_add]; rfl
  | succ m ih => rw [Nat.add_right_comm]; simp only [stps]; exact ih _
theorem stps_succ (n : Nat) (c : BitVec 32) : stps (n + 1) c = stp (stps n c) := by rw [stps_add]; rfl
theorem stp_even (c : BitVec 32) (h : c.getLsbD 0 = false) : stp c = c >>> 1 := by unfold stp; rw [h]; rfl

/-- what four steps make of a number below 16 -/
def fours (n : Nat) : BitVec 32 := stps 4 (BitVec.ofNat 32 n)

theorem split4 (c : BitVec 32) : c = (c &&& 0xfffffff0#32) ^^^ (c &&& 15#32) := by
  have h : (0xfffffff0#32) ^^^ (15#32) = BitVec.allOnes 32 := by decide
  apply BitVec.eq_of_getLsbD_eq
  intro i hi
  have h2 := congrArg (fun x : BitVec 32 => x.getLsbD i) h
  simp only [BitVec.getLsbD_xor, BitVec.getLsbD_allOnes, decide_eq_true hi] at h2
  rw [BitVec.getLsbD_xor, BitVec.getLsbD_and, BitVec.getLsbD_and]
  revert h2
  cases c.getLsbD i <;> cases (0xfffffff0#32).getLsbD i <;> cases (15#32).getLsbD i <;> simp
theorem high4 (c : BitVec 32) (j : Nat) (h : j < 4) : (c &&& 0xfffffff0#32).getLsbD j = false := by
  rw [BitVec.getLsbD_and]
  have : (0xfffffff0#32).getLsbD j = false := by
    rcases (by omega : j = 0 ∨ j = 1 ∨ j = 2 ∨ j = 3) with rfl | rfl | rfl | rfl <;> decide
  rw [this, Bool.and_false]
theorem low4 (c : BitVec 32) (j : Nat) (h : 4 ≤ j) : (c &&& 15#32).getLsbD j = false := by
  rw [BitVec.getLsbD_and]
  have : (15#32).getLsbD j = false := by
    rw [← BitVec.testBit_toNat]
    exact Nat.testBit_lt_two_pow (Nat.lt_of_lt_of_le (by decide : (15#32).toNat < 2 ^ 4) (Nat.pow_le_pow_right (by decide) h))
  rw [this, Bool.and_false]
theorem high4_shift (c : BitVec 32) : (c &&& 0xfffffff0#32) >>> 4 = c >>> 4 := by
  apply BitVec.eq_of_getLsbD_eq
  intro i _
  have h1 := congrArg (fun x : BitVec 32 => x.getLsbD (4 + i)) (split4 c)
  simp only [BitVec.getLsbD_xor] at h1
  rw [low4 c (4 + i) (by omega), Bool.xor_false] at h1
  rw [BitVec.getLsbD_ushiftRight, BitVec.getLsbD_ushiftRight, h1]
theorem four_steps (c : BitVec 32) : stps 4 c = (c >>> 4) ^^^ fours (c &&& 15#32).toNat := by
  have e : BitVec.ofNat 32 (c &&& 15#32).toNat = c &&& 15#32 := BitVec.ofNat_toNat .. |>.trans (by simp)
  conv => lhs; rw [split4 c]
  rw [stps_xor]
  unfold fours
  rw [e]
  congr 1
  rw [← high4_shift]
  have h0 := high4 c 0 (by decide)
  have h1 := high4 c 1 (by decide)
  have h2 := high4 c 2 (by decide)
  have h3 := high4 c 3 (by decide)
  generalize c &&& 0xfffffff0#32 = x at *
  show stp (stp (stp (stp x))) = _
  rw [stp_even x h0, stp_even (x >>> 1) (by rw [BitVec.getLsbD_ushiftRight]; exact h1), ← BitVec.shiftRight_add]
  rw [stp_even (x >>> (1 + 1)) (by rw [BitVec.getLsbD_ushiftRight]; exact h2), ← BitVec.shiftRight_add]
  rw [stp_even (x >>> (1 + 1 + 1)) (by rw [BitVec.getLsbD_ushiftRight]; exact h3), ← BitVec.shiftRight_add]

/-- a byte goes in: its bits, then eight steps -/
def byte1 (c : BitVec 32) (b : UInt8) : BitVec 32 := stps 8 (c ^^^ BitVec.ofNat 32 b.toNat)
def feed (c : BitVec 32) (l : List UInt8) : BitVec 32 := l.foldl byte1 c
/-- the chapter's More -/
def moreC (c : BitVec 32) (l : List UInt8) : BitVec 32 := ~~~(feed (~~~c) l)
/-- the chapter's Sum -/
def sumC (l : List UInt8) : BitVec 32 := moreC 0 l
theorem feed_snoc (c : BitVec 32) (l : List UInt8) (b : UInt8) : feed c (l ++ [b]) = byte1 (feed c l) b := by simp [feed]
theorem feed_append (c : BitVec 32) (l m : List UInt8) : feed c (l ++ m) = feed (feed c l) m := by simp [feed]

/- sum.More's round -/
theorem byteB (c : BitVec 32) (b : UInt8) : bits .xor .u32 (B c) ((b.toNat : Int) % 4294967296) = B (c ^^^ BitVec.ofNat 32 b.toNat) := by
  have h := b.toNat_lt
  rw [show ((b.toNat : Int) % 4294967296) = B (BitVec.ofNat 32 b.toNat) by rw [← B_of _ (by omega)]; omega, xorB]
theorem low15 (c : BitVec 32) : bits .and .u32 (B c) 15 = (((c &&& 15#32).toNat : Nat) : Int) := by
  rw [show (15 : Int) = B 15#32 by decide, andB]; rfl
theorem low15_lt (c : BitVec 32) : (c &&& 15#32).toNat < 16 := by
  rw [BitVec.toNat_and]
  exact Nat.lt_of_le_of_lt Nat.and_le_right (by decide)
theorem halfB (c : BitVec 32) : bits .xor .u32 (B c / 16) (B (fours (c &&& 15#32).toNat)) = B (stps 4 c) := by
  rw [four_steps, ← xorB, ← shrB]; rfl
theorem byte1_halves (c : BitVec 32) (b : UInt8) : stps 4 (stps 4 (c ^^^ BitVec.ofNat 32 b.toNat)) = byte1 c b := by
  unfold byte1; rw [← stps_add]

/-! ### turned order -/
def revB (c : BitVec 32) : BitVec 32 := BitVec.ofNat 32 (rv c.toNat 32)
theorem revB_bit (c : BitVec 32) (i : Nat) (h : i < 32) : (revB c).getLsbD i = c.getLsbD (31 - i) := by
  unfold revB
  rw [BitVec.getLsbD_ofNat, rv_testBit, BitVec.testBit_toNat]
  simp [h]
theorem revB_xor (a b : BitVec 32) : revB (a ^^^ b) = revB a ^^^ revB b := by
  apply BitVec.eq_of_getLsbD_eq
  intro i hi
  rw [revB_bit _ i hi, BitVec.getLsbD_xor, BitVec.getLsbD_xor, revB_bit _ i hi, revB_bit _ i hi]
theorem revB_revB (c : BitVec 32) : revB (revB c) = c := by
  apply BitVec.eq_of_getLsbD_eq
  intro i hi
  rw [revB_bit _ i hi, revB_bit _ (31 - i) (by omega), show 31 - (31 - i) = i by omega]
theorem revB_shift (c : BitVec 32) : revB (c >>> 1) = revB c <<< 1 := by
  apply BitVec.eq_of_getLsbD_eq
  intro i hi
  rw [revB_bit _ i hi, BitVec.getLsbD_ushiftRight, BitVec.getLsbD_shiftLeft]
  by_cases h0 : i = 0
  · subst h0; simp
  · rw [revB_bit _ (i - 1) (by omega), show 1 + (31 - i) = 31 - (i - 1) by omega]
    simp [hi, show ¬ i < 1 by omega]
def mixT : BitVec 32 := 0x1edc6f41#32
/-- times x, of a remainder, its highest power first -/
def tms (c : BitVec 32) : BitVec 32 := if c.getLsbD 31 = true then (c <<< 1) ^^^ mixT else c <<< 1
theorem tms_rev (c : BitVec 32) : tms (revB c) = revB (stp c) := by
  have hm : revB mixC = mixT := by decide
  unfold tms stp
  rw [revB_bit c 31 (by decide)]
  show (if c.getLsbD 0 = true then _ else _) = _
  split
  · rw [revB_xor, revB_shift, hm]
  · rw [revB_shift]

theorem dblB (c : BitVec 32) : B c * (2 : Int) % (4294967296 : Int) = B (c <<< 1) := by
  rw [← shlB, IntKind.wrap_u32']; rfl
theorem bit31 (c : BitVec 32) : c.getLsbD 31 = decide (2147483648 ≤ B c) := by
  have h := c.isLt
  unfold B
  rw [← BitVec.testBit_toNat, Nat.testBit_eq_decide_div_mod_eq]
  congr 1
  apply propext
  omega
theorem tms_hi (c : BitVec 32) (h : 2147483648 ≤ B c) : bits .xor .u32 (B c * 2 % 4294967296) 517762881 = B (tms c) := by
  rw [dblB, show (517762881 : Int) = B mixT by decide, xorB, tms, bit31, decide_eq_true h]; rfl
theorem tms_lo (c : BitVec 32) (h : B c < 2147483648) : B c * 2 % 4294967296 = B (tms c) := by
  rw [dblB, tms, bit31, decide_eq_false (by omega)]; rfl

/-! ### bit by bit -/
/-- bit k of a byte, as 32 bits -/
def bitC (b k : Nat) : BitVec 32 := BitVec.ofNat 32 (b / 2 ^ k % 2)
/-- what k of a byte's bits make of c, each followed by a step -/
def inner (c : BitVec 32) (b : Nat) : Nat → BitVec 32
  | 0 => c
  | k + 1 => stp (inner c b k ^^^ bitC b k)
theorem ofNat_xor (a b : Nat) : BitVec.ofNat 32 a ^^^ BitVec.ofNat 32 b = BitVec.ofNat 32 (a ^^^ b) := by
  apply BitVec.eq_of_getLsbD_eq
  intro i hi
  simp [hi]
theorem stp_double (x : Nat) (h : x < 2147483648) : stp (BitVec.ofNat 32 (2 * x)) = BitVec.ofNat 32 x := by
  rw [stp_even]
  · apply BitVec.eq_of_toNat_eq
    rw [BitVec.toNat_ushiftRight, BitVec.toNat_ofNat, BitVec.toNat_ofNat, Nat.shiftRight_eq_div_pow]
    omega
  · rw [BitVec.getLsbD_ofNat, Nat.testBit_zero]; simp
theorem stps_pow (k x : Nat) (hx : x < 2) (hk : k ≤ 8) : stps k (BitVec.ofNat 32 (x * 2 ^ k)) = BitVec.ofNat 32 x := by
  induction k with
  | zero => simp [stps]
  | succ k ih =>
    have hp : 2 ^ k ≤ 2 ^ 8 := Nat.pow_le_pow_right (by decide) (by omega)
    have hm : x * 2 ^ k ≤ 1 * 2 ^ k := Nat.mul_le_mul_right _ (by omega)
    show stps k (stp _) = _
    rw [show x * 2 ^ (k + 1) = 2 * (x * 2 ^ k) by rw [Nat.pow_succ]; simp only [Nat.mul_comm, Nat.mul_left_comm], stp_double _ (by omega), ih (by omega)]
theorem mod_pow_xor (b k : Nat) : b % 2 ^ (k + 1) = b % 2 ^ k ^^^ (b / 2 ^ k % 2) * 2 ^ k := by
  apply Nat.eq_of_testBit_eq
  intro i
  rw [Nat.testBit_xor, Nat.testBit_mod_two_pow, Nat.testBit_mod_two_pow, Nat.mul_comm, Nat.testBit_two_pow_mul]
  by_cases h : i < k
  · simp [h, show i < k + 1 by omega, show ¬ k ≤ i by omega]
  · by_cases h2 : i = k
    · subst h2
      simp [Nat.testBit_eq_decide_div_mod_eq]
    · have h3 : ¬ i < k + 1 := by omega
      have hb : b / 2 ^ k % 2 < 2 ^ (i - k) := Nat.lt_of_lt_of_le (Nat.mod_lt _ (by decide)) (by
        have : 2 ^ 1 ≤ 2 ^ (i - k) := Nat.pow_le_pow_right (by decide) (by omega)
        omega)
      simp [h, h3, Nat.testBit_lt_two_pow hb]
theorem inner_eq (c : BitVec 32) (b k : Nat) (hk : k ≤ 8) : inner c b k = stps k (c ^^^ BitVec.ofNat 32 (b % 2 ^ k)) := by
  induction k with
  | zero => simp [inner, stps, Nat.mod_one]
  | succ k ih =>
    have hs := stps_pow k (b / 2 ^ k % 2) (Nat.mod_lt _ (by decide)) (by omega)
    rw [stps_succ, inner, ih (by omega), mod_pow_xor, ← ofNat_xor, ← BitVec.xor_assoc, stps_xor k (_ ^^^ _), hs]
    rfl
theorem inner_byte (c : BitVec 32) (b : UInt8) : inner c b.toNat 8 = byte1 c b := by
  rw [inner_eq _ _ _ (by decide), Nat.mod_eq_of_lt b.toNat_lt]; rfl
/-- the turned register takes a bit at its top -/
theorem revB_top (x : Nat) (hx : x < 2) : revB (BitVec.ofNat 32 x) = BitVec.ofNat 32 x <<< 31 := by
  rcases (by omega : x = 0 ∨ x = 1) with rfl | rfl <;> decide
theorem inner_rev (c : BitVec 32) (b k : Nat) : tms (revB (inner c b k) ^^^ bitC b k <<< 31) = revB (inner c b (k + 1)) := by
  rw [inner, ← tms_rev, revB_xor, bitC, revB_top _ (Nat.mod_lt _ (by decide))]

theorem topB (x : BitVec 32) (b : UInt8) (j : Nat) :
    bits .xor .u32 (B x) (bits .and .u8 ((b.toNat : Int) / 2 ^ j) 1 % (4294967296 : Int) * (2147483648 : Int) % (4294967296 : Int)) = B (x ^^^ bitC b.toNat j <<< 31) := by
  have hb := b.toNat_lt
  have h1 : b.toNat / 2 ^ j < 256 := Nat.lt_of_le_of_lt (Nat.div_le_self _ _) hb
  have h2 : b.toNat / 2 ^ j % 2 < 2 := Nat.mod_lt _ (by decide)
  rw [cast_div_pow, show (1 : Int) = ((1 : Nat) : Int) from rfl, u8_and_nat _ _ h1 (by decide), Nat.and_one_is_mod]
  unfold bitC
  generalize b.toNat / 2 ^ j % 2 = y at *
  have e : (y : Int) % (4294967296 : Int) * (2147483648 : Int) % (4294967296 : Int) = B (BitVec.ofNat 32 y <<< 31) := by
    rcases (by omega : y = 0 ∨ y = 1) with rfl | rfl <;> decide
  rw [e, xorB]

end Go.Proofs.YtbakgobgjfhhhaaDoor
