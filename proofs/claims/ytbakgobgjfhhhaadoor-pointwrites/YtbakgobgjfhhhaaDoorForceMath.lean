/- Plain facts on steps back, and on the four bytes that make a sum. No Go in sight. -/
import Derived.Test.YtbakgobgjfhhhaaDoorCrcMath
import Derived.Laws.BytesArg
namespace Go.Proofs.YtbakgobgjfhhhaaDoor

/-- a step back -/
def bck (c : BitVec 32) : BitVec 32 := if c.getLsbD 31 = true then ((c ^^^ mixC) <<< 1) ||| 1#32 else c <<< 1
def bcks : Nat → BitVec 32 → BitVec 32
  | 0, c => c
  | n + 1, c => bck (bcks n c)

theorem top_stp (c : BitVec 32) : (stp c).getLsbD 31 = c.getLsbD 0 := by
  have h : (c >>> 1).getLsbD 31 = false := by rw [BitVec.getLsbD_ushiftRight]; exact BitVec.getLsbD_of_ge c _ (by decide)
  have hm : mixC.getLsbD 31 = true := by decide
  unfold stp
  cases h0 : c.getLsbD 0 with
  | true => rw [if_pos rfl, BitVec.getLsbD_xor, h, hm]; rfl
  | false => rw [if_neg (by decide), h]
theorem down_up (c : BitVec 32) (h : c.getLsbD 0 = false) : (c >>> 1) <<< 1 = c := by
  apply BitVec.eq_of_getLsbD_eq
  intro i hi
  rw [BitVec.getLsbD_shiftLeft, BitVec.getLsbD_ushiftRight]
  by_cases h0 : i = 0
  · subst h0; rw [h]; rfl
  · simp [hi, show ¬ i < 1 by omega, show 1 + (i - 1) = i by omega]
theorem down_up1 (c : BitVec 32) (h : c.getLsbD 0 = true) : (c >>> 1) <<< 1 ||| 1#32 = c := by
  apply BitVec.eq_of_getLsbD_eq
  intro i hi
  rw [BitVec.getLsbD_or, BitVec.getLsbD_shiftLeft, BitVec.getLsbD_ushiftRight]
  by_cases h0 : i = 0
  · subst h0; simp [h]
  · have h1 : (1#32).getLsbD i = false := by
      rw [← BitVec.testBit_toNat]
      exact Nat.testBit_lt_two_pow (Nat.lt_of_lt_of_le (by decide : (1#32).toNat < 2 ^ 1) (Nat.pow_le_pow_right (by decide) (by omega)))
    simp only [h1, Bool.or_false]
    simp [hi, show ¬ i < 1 by omega, show 1 + (i - 1) = i by omega]
theorem bck_stp (c : BitVec 32) : bck (stp c) = c := by
  unfold bck
  rw [top_stp]
  cases h0 : c.getLsbD 0 with
  | true =>
    rw [if_pos rfl]
    unfold stp
    rw [h0, if_pos rfl, BitVec.xor_assoc, BitVec.xor_self, BitVec.xor_zero, down_up1 c h0]
  | false => rw [if_neg (by decide), stp_even c h0, down_up c h0]
theorem up_down (c : BitVec 32) (h : c.getLsbD 31 = false) : (c <<< 1) >>> 1 = c := by
  apply BitVec.eq_of_getLsbD_eq
  intro i hi
  rw [BitVec.getLsbD_ushiftRight, BitVec.getLsbD_shiftLeft]
  by_cases h0 : i = 31
  · subst h0; rw [h]; rfl
  · simp [show 1 + i < 32 by omega, show 1 + i - 1 = i by omega]
theorem up_down1 (c : BitVec 32) (h : c.getLsbD 31 = false) : ((c <<< 1) ||| 1#32) >>> 1 = c := by
  apply BitVec.eq_of_getLsbD_eq
  intro i hi
  have h1 : (1#32).getLsbD (1 + i) = false := by
    rw [← BitVec.testBit_toNat]
    exact Nat.testBit_lt_two_pow (Nat.lt_of_lt_of_le (by decide : (1#32).toNat < 2 ^ 1) (Nat.pow_le_pow_right (by decide) (by omega)))
  have h2 := congrArg (fun x : BitVec 32 => x.getLsbD i) (up_down c h)
  simp only [BitVec.getLsbD_ushiftRight] at h2
  rw [BitVec.getLsbD_ushiftRight, BitVec.getLsbD_or, h1, Bool.or_false, h2]
theorem stp_bck (c : BitVec 32) : stp (bck c) = c := by
  have hm : mixC.getLsbD 31 = true := by decide
  unfold bck
  cases h0 : c.getLsbD 31 with
  | true =>
    rw [if_pos rfl]
    have hx : (c ^^^ mixC).getLsbD 31 = false := by rw [BitVec.getLsbD_xor, h0, hm]; rfl
    have hl : ((c ^^^ mixC) <<< 1 ||| 1#32).getLsbD 0 = true := by
      rw [BitVec.getLsbD_or]
      simp
    unfold stp
    rw [hl, if_pos rfl, up_down1 _ hx, BitVec.xor_assoc, BitVec.xor_self, BitVec.xor_zero]
  | false =>
    rw [if_neg (by decide), stp_even _ (by rw [BitVec.getLsbD_shiftLeft]; simp), up_down c h0]
theorem stps_bcks (n : Nat) (c : BitVec 32) : stps n (bcks n c) = c := by
  induction n with
  | zero => rfl
  | succ n ih => simp only [stps, bcks, stp_bck, ih]
theorem bcks_stps (n : Nat) (c : BitVec 32) : bcks n (stps n c) = c := by
  induction n generalizing c with
  | zero => rfl
  | succ n ih => rw [stps, bcks, ih, bck_stp]

/-- what stands high enough comes down as it is -/
theorem stps_high (k x : Nat) (h : x * 2 ^ k < 4294967296) : stps k (BitVec.ofNat 32 (x * 2 ^ k)) = BitVec.ofNat 32 x := by
  induction k with
  | zero => simp [stps]
  | succ k ih =>
    have e : x * 2 ^ (k + 1) = 2 * (x * 2 ^ k) := by rw [Nat.pow_succ]; simp only [Nat.mul_comm, Nat.mul_left_comm]
    rw [e] at h ⊢
    show stps k (stp _) = _
    rw [stp_double _ (by omega), ih (by omega)]

/-- four bytes as 32 bits, the first the lowest -/
def word (b0 b1 b2 b3 : UInt8) : BitVec 32 := BitVec.ofNat 32 (b0.toNat + 256 * b1.toNat + 65536 * b2.toNat + 16777216 * b3.toNat)
def byteAt (c : BitVec 32) (k : Nat) : UInt8 := UInt8.ofNat (c.toNat / 2 ^ (8 * k))
theorem word_bytes (c : BitVec 32) : word (byteAt c 0) (byteAt c 1) (byteAt c 2) (byteAt c 3) = c := by
  apply BitVec.eq_of_toNat_eq
  have h := c.isLt
  simp only [word, byteAt, BitVec.toNat_ofNat, UInt8.toNat_ofNat']
  omega
theorem bytes_word (b0 b1 b2 b3 : UInt8) : byteAt (word b0 b1 b2 b3) 0 = b0 ∧ byteAt (word b0 b1 b2 b3) 1 = b1 ∧ byteAt (word b0 b1 b2 b3) 2 = b2 ∧ byteAt (word b0 b1 b2 b3) 3 = b3 := by
  have h0 := b0.toNat_lt
  have h1 := b1.toNat_lt
  have h2 := b2.toNat_lt
  have h3 := b3.toNat_lt
  refine ⟨?_, ?_, ?_, ?_⟩ <;> apply UInt8.toNat_inj.1 <;> simp only [word, byteAt, BitVec.toNat_ofNat, UInt8.toNat_ofNat'] <;> omega
theorem nat_xor_high (x y k : Nat) (h : x < 2 ^ k) : x ^^^ y * 2 ^ k = x + y * 2 ^ k := by
  apply Nat.eq_of_testBit_eq
  intro i
  rw [Nat.add_comm x, Nat.mul_comm y, Nat.testBit_two_pow_mul_add y h, Nat.testBit_xor, Nat.testBit_two_pow_mul]
  by_cases hi : i < k
  · simp [hi, show ¬ k ≤ i by omega]
  · have : x.testBit i = false := Nat.testBit_lt_two_pow (Nat.lt_of_lt_of_le h (Nat.pow_le_pow_right (by decide) (by omega)))
    simp [hi, this, show k ≤ i by omega]
theorem word_xor (b0 b1 b2 b3 : UInt8) : word b0 b1 b2 b3 = BitVec.ofNat 32 b0.toNat ^^^ BitVec.ofNat 32 (b1.toNat * 2 ^ 8) ^^^ BitVec.ofNat 32 (b2.toNat * 2 ^ 16) ^^^ BitVec.ofNat 32 (b3.toNat * 2 ^ 24) := by
  have h0 := b0.toNat_lt
  have h1 := b1.toNat_lt
  have h2 := b2.toNat_lt
  rw [ofNat_xor, ofNat_xor, ofNat_xor, nat_xor_high _ _ 8 (by omega), nat_xor_high _ _ 16 (by omega), nat_xor_high _ _ 24 (by omega), word]
  congr 1
  omega
theorem feed_four (c : BitVec 32) (b0 b1 b2 b3 : UInt8) : feed c [b0, b1, b2, b3] = stps 32 (c ^^^ word b0 b1 b2 b3) := by
  have h1 := b1.toNat_lt
  have h2 := b2.toNat_lt
  have h3 := b3.toNat_lt
  have e1 := stps_high 8 b1.toNat (by omega)
  have e2 := stps_high 16 b2.toNat (by omega)
  have e3 := stps_high 24 b3.toNat (by omega)
  show byte1 (byte1 (byte1 (byte1 c b0) b1) b2) b3 = _
  unfold byte1
  rw [← e1, ← stps_xor, ← stps_add, ← e2]
  show stps 8 (stps 8 (stps 16 _ ^^^ stps 16 _) ^^^ _) = _
  rw [← stps_xor, ← stps_add, ← e3]
  show stps 8 (stps 24 _ ^^^ stps 24 _) = _
  rw [← stps_xor, ← stps_add, word_xor]
  simp only [BitVec.xor_assoc]

/-- the chapter's Force -/
def forceC (a want : BitVec 32) : BitVec 32 := bcks 32 (~~~want) ^^^ ~~~a
def forceL (a want : BitVec 32) : List UInt8 := [byteAt (forceC a want) 0, byteAt (forceC a want) 1, byteAt (forceC a want) 2, byteAt (forceC a want) 3]
theorem not_not (c : BitVec 32) : ~~~(~~~c) = c := by simp
theorem force_makes (a want : BitVec 32) : moreC a (forceL a want) = want := by
  unfold moreC forceL
  rw [feed_four, word_bytes]
  unfold forceC
  rw [BitVec.xor_comm (~~~a), BitVec.xor_assoc, BitVec.xor_self, BitVec.xor_zero, stps_bcks, not_not]
theorem force_one (a : BitVec 32) (b0 b1 b2 b3 : UInt8) : forceL a (moreC a [b0, b1, b2, b3]) = [b0, b1, b2, b3] := by
  have e : forceC a (moreC a [b0, b1, b2, b3]) = word b0 b1 b2 b3 := by
    unfold forceC moreC
    rw [not_not, feed_four, bcks_stps, BitVec.xor_comm (~~~a), BitVec.xor_assoc, BitVec.xor_self, BitVec.xor_zero]
  obtain ⟨h0, h1, h2, h3⟩ := bytes_word b0 b1 b2 b3
  unfold forceL
  rw [e, h0, h1, h2, h3]
/-! ### in the walk's own forms -/
theorem top_test (c : BitVec 32) : (bits .and .u32 (B c) 2147483648 != 0) = c.getLsbD 31 := by
  have h := c.isLt
  have e : bits .and .u32 (B c) 2147483648 = ((c.toNat / 2 ^ 31 % 2 * 2 ^ 31 : Nat) : Int) := by
    rw [show (2147483648 : Int) = B 2147483648#32 by decide, andB, B, BitVec.toNat_and]
    rw [show (2147483648#32).toNat = 2 ^ 31 by decide, nat_bit]
  rw [e, ← BitVec.testBit_toNat, Nat.testBit_eq_decide_div_mod_eq]
  rcases Nat.mod_two_eq_zero_or_one (c.toNat / 2 ^ 31) with h | h <;> rw [h] <;> rfl
theorem bck_hi (c : BitVec 32) (h : c.getLsbD 31 = true) : bits .or .u32 (bits .xor .u32 (B c) 2197175160 * (2 : Int) % (4294967296 : Int)) 1 = B (bck c) := by
  rw [show (2197175160 : Int) = B mixC by decide, xorB, dblB, show (1 : Int) = B 1#32 by decide, orB, bck, if_pos h]
theorem bck_lo (c : BitVec 32) (h : c.getLsbD 31 = false) : B c * (2 : Int) % (4294967296 : Int) = B (bck c) := by
  rw [dblB, bck, h, if_neg (by decide)]
theorem ofNat_mod (x : Nat) : UInt8.ofNat (x % 256) = UInt8.ofNat x := by
  apply UInt8.toNat_inj.1
  simp only [UInt8.toNat_ofNat']
  omega
theorem bytes_of (x : BitVec 32) : strOfNums [B x % 256, B x / 256 % 256, B x / 65536 % 256, B x / 16777216 % 256] = ⟨([byteAt x 0, byteAt x 1, byteAt x 2, byteAt x 3]).toArray⟩ := by
  unfold strOfNums
  have e0 : (B x % 256).toNat = x.toNat / 2 ^ (8 * 0) % 256 := by unfold B; omega
  have e1 : (B x / 256 % 256).toNat = x.toNat / 2 ^ (8 * 1) % 256 := by unfold B; omega
  have e2 : (B x / 65536 % 256).toNat = x.toNat / 2 ^ (8 * 2) % 256 := by unfold B; omega
  have e3 : (B x / 16777216 % 256).toNat = x.toNat / 2 ^ (8 * 3) % 256 := by unfold B; omega
  simp only [List.map_cons, List.map_nil, e0, e1, e2, e3, ofNat_mod]
  rfl
end Go.Proofs.YtbakgobgjfhhhaaDoor
