/- Plain facts on tables of 32 words that say what steps do. No Go in sight. -/
import Derived.Test.YtjfkbkhfnnmbnabDoorCrcMath
import Derived.Laws.BitsLemmas
namespace Go.Proofs.YtjfkbkhfnnmbnabDoor

/-- what m steps make of bit i alone -/
def tab (m i : Nat) : BitVec 32 := stps m (BitVec.ofNat 32 (2 ^ i))
/-- the words of the first k bits of c, one exclusive-or the other -/
def takeTo (f : Nat → BitVec 32) (c : BitVec 32) : Nat → BitVec 32
  | 0 => 0#32
  | k + 1 => if c.getLsbD k = true then takeTo f c k ^^^ f k else takeTo f c k

theorem stps_zero (m : Nat) : stps m 0#32 = 0#32 := by
  have h := stps_xor m 0#32 0#32
  rw [BitVec.xor_self, BitVec.xor_self] at h
  exact h
theorem takeTo_tab (m : Nat) (c : BitVec 32) (k : Nat) : takeTo (tab m) c k = stps m (BitVec.ofNat 32 (c.toNat % 2 ^ k)) := by
  induction k with
  | zero => simp [takeTo, Nat.mod_one, stps_zero]
  | succ k ih =>
    rw [takeTo, mod_pow_xor, ← ofNat_xor, stps_xor, ih, ← BitVec.testBit_toNat, Nat.testBit_eq_decide_div_mod_eq]
    rcases Nat.mod_two_eq_zero_or_one (c.toNat / 2 ^ k) with h | h
    · rw [h, Nat.zero_mul]; simp [stps_zero]
    · rw [h, Nat.one_mul]; simp [tab]
theorem takeTo_all (m : Nat) (c : BitVec 32) : takeTo (tab m) c 32 = stps m c := by
  rw [takeTo_tab, Nat.mod_eq_of_lt c.isLt, BitVec.ofNat_toNat, BitVec.setWidth_eq]
theorem tab_twice (m i : Nat) : stps m (tab m i) = tab (m + m) i := by unfold tab; rw [stps_add]
theorem tab_one (i : Nat) : tab 1 i = stp (BitVec.ofNat 32 (2 ^ i)) := rfl

/-! ### in the walk's own forms -/
theorem bit_of (c : BitVec 32) (k : Nat) : (bits .and .u32 (B c / 2 ^ k) 1 == 1) = c.getLsbD k := by
  rw [shrB, show (1 : Int) = B 1#32 by decide, andB]
  have e : B ((c >>> k) &&& 1#32) = ((c.toNat / 2 ^ k % 2 : Nat) : Int) := by
    unfold B; rw [BitVec.toNat_and, BitVec.toNat_ushiftRight, Nat.shiftRight_eq_div_pow, show (1#32).toNat = 1 from rfl, Nat.and_one_is_mod]
  rw [e, ← BitVec.testBit_toNat, Nat.testBit_eq_decide_div_mod_eq]
  rcases Nat.mod_two_eq_zero_or_one (c.toNat / 2 ^ k) with h | h <;> rw [h] <;> rfl
theorem bit_low (c : BitVec 32) : (bits .and .u32 (B c) 1 == 1) = c.getLsbD 0 := by
  have h := bit_of c 0
  rw [show (2 : Int) ^ 0 = 1 from rfl, Int.ediv_one] at h
  exact h
theorem down1 (c : BitVec 32) : B c / (2 : Int) = B (c >>> 1) := by rw [← shrB]; rfl
theorem stp_hi (c : BitVec 32) (h : c.getLsbD 0 = true) : bits .xor .u32 (B c / (2 : Int)) 2197175160 = B (stp c) := by
  rw [down1, show (2197175160 : Int) = B mixC by decide, xorB, stp, if_pos h]
theorem stp_lo (c : BitVec 32) (h : c.getLsbD 0 = false) : B c / (2 : Int) = B (stp c) := by
  rw [down1, stp, h, if_neg (by decide)]
theorem powB (i : Nat) : IntKind.u32.wrap (2 ^ i) = B (BitVec.ofNat 32 (2 ^ i)) := by
  rw [← wrapB]; simp
theorem i64_and1 (q : Nat) (h : q < 9223372036854775808) : bits .and .i64 (q : Int) 1 = ((q % 2 : Nat) : Int) := by
  have e : (BitVec.ofInt 64 (q : Int) &&& BitVec.ofInt 64 1).toNat = q % 2 := by
    rw [BitVec.toNat_and, BitVec.ofInt_natCast, BitVec.toNat_ofNat, Nat.mod_eq_of_lt (by omega), show (BitVec.ofInt 64 1).toNat = 1 by decide, Nat.and_one_is_mod]
  show IntKind.i64.wrap ((BitVec.ofInt 64 (q : Int) &&& BitVec.ofInt 64 1).toNat : Nat) = _
  rw [e, IntKind.wrap_i64]
  omega
theorem odd_yes (q : Nat) (h : q < 9223372036854775808) (h1 : q % 2 = 1) : (bits .and .i64 (q : Int) 1 == 1) = true := by rw [i64_and1 q h, h1]; rfl
theorem odd_no (q : Nat) (h : q < 9223372036854775808) (h1 : q % 2 = 0) : (bits .and .i64 (q : Int) 1 == 1) = false := by rw [i64_and1 q h, h1]; rfl
theorem mod_next (n j : Nat) : n % 2 ^ (j + 1) = n % 2 ^ j + n / 2 ^ j % 2 * 2 ^ j := by
  rw [Nat.pow_succ, Nat.mod_mul, Nat.mul_comm (2 ^ j)]
theorem join_odd (n j : Nat) (a : BitVec 32) (h : n / 2 ^ j % 2 = 1) : takeTo (tab (8 * 2 ^ j)) (stps (8 * (n % 2 ^ j)) a) 32 = stps (8 * (n % 2 ^ (j + 1))) a := by
  rw [takeTo_all, ← stps_add, mod_next, h]
  congr 1
  omega
theorem join_even (n j : Nat) (a : BitVec 32) (h : n / 2 ^ j % 2 = 0) : stps (8 * (n % 2 ^ j)) a = stps (8 * (n % 2 ^ (j + 1))) a := by
  rw [mod_next, h, Nat.zero_mul, Nat.add_zero]
theorem join_all (n j : Nat) (a : BitVec 32) (h : n / 2 ^ j = 0) : stps (8 * (n % 2 ^ j)) a = stps (8 * n) a := by
  rw [Nat.mod_eq_of_lt]
  rcases Nat.lt_or_ge n (2 ^ j) with h1 | h1
  · exact h1
  · have := Nat.div_pos h1 (Nat.two_pow_pos j); omega
theorem div_next (n j : Nat) : n / 2 ^ (j + 1) = n / 2 ^ j / 2 := by rw [Nat.pow_succ, Nat.div_div_eq_div_mul]
end Go.Proofs.YtjfkbkhfnnmbnabDoor
