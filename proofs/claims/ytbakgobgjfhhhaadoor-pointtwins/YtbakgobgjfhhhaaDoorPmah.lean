/- Texts of ours, one behind the other: ForceMath SealMath PointMath -/
import Derived.Test.YtbakgobgjfhhhaaDoorPmab
import Derived.Laws.BytesArg

/- Plain facts on steps back, and on the four bytes that make a sum. No Go in sight. -/
namespace Go.Proofs.YtbakgobgjfhhhaaDoor

/-- a step back -/
def bck (c : BitVec 32) : BitVec 32 := if c.getLsbD 31 = true then ((c ^^^ mixC) <<< 1) ||| 1#32 else c <<< 1
def bcks : Nat → BitVec 32 → BitVec 32
  | 0, c => c
  | n + 1, c => bck (bcks n c)

theorem top_stp (c : BitVec 32) : (stp c).getLsbD 31 = c.getLsbD 0 := by
  have h : (c >>> 1).getLsbD 31 = false := by rw [BitVec.getLsbD_ushiftRight]; exact BitVec.getLsbD_of_ge c _ (by decide)
  have hm : mixC.getLsbD 31 = true := by decide
  unfold stp
  cases h0 : c.getLsbD 0 with
  | true => rw [if_pos rfl, BitVec.getLsbD_xor, h, hm]; rfl
  | false => rw [if_neg (by decide), h]
theorem down_up (c : BitVec 32) (h : c.getLsbD 0 = false) : (c >>> 1) <<< 1 = c := by
  apply BitVec.eq_of_getLsbD_eq
  intro i hi
  rw [BitVec.getLsbD_shiftLeft, BitVec.getLsbD_ushiftRight]
  by_cases h0 : i = 0
  · subst h0; rw [h]; rfl
  · simp [hi, show ¬ i < 1 by omega, show 1 + (i - 1) = i by omega]
theorem down_up1 (c : BitVec 32) (h : c.getLsbD 0 = true) : (c >>> 1) <<< 1 ||| 1#32 = c := by
  apply BitVec.eq_of_getLsbD_eq
  intro i hi
  rw [BitVec.getLsbD_or, BitVec.getLsbD_shiftLeft, BitVec.getLsbD_ushiftRight]
  by_cases h0 : i = 0
  · subst h0; simp [h]
  · have h1 : (1#32).getLsbD i = false := by
      rw [← BitVec.testBit_toNat]
      exact Nat.testBit_lt_two_pow (Nat.lt_of_lt_of_le (by decide : (1#32).toNat < 2 ^ 1) (Nat.pow_le_pow_right (by decide) (by omega)))
    simp only [h1, Bool.or_false]
    simp [hi, show ¬ i < 1 by omega, show 1 + (i - 1) = i by omega]
theorem bck_stp (c : BitVec 32) : bck (stp c) = c := by
  unfold bck
  rw [top_stp]
  cases h0 : c.getLsbD 0 with
  | true =>
    rw [if_pos rfl]
    unfold stp
    rw [h0, if_pos rfl, BitVec.xor_assoc, BitVec.xor_self, BitVec.xor_zero, down_up1 c h0]
  | false => rw [if_neg (by decide), stp_even c h0, down_up c h0]
theorem up_down (c : BitVec 32) (h : c.getLsbD 31 = false) : (c <<< 1) >>> 1 = c := by
  apply BitVec.eq_of_getLsbD_eq
  intro i hi
  rw [BitVec.getLsbD_ushiftRight, BitVec.getLsbD_shiftLeft]
  by_cases h0 : i = 31
  · subst h0; rw [h]; rfl
  · simp [show 1 + i < 32 by omega, show 1 + i - 1 = i by omega]
theorem up_down1 (c : BitVec 32) (h : c.getLsbD 31 = false) : ((c <<< 1) ||| 1#32) >>> 1 = c := by
  apply BitVec.eq_of_getLsbD_eq
  intro i hi
  have h1 : (1#32).getLsbD (1 + i) = false := by
    rw [← BitVec.testBit_toNat]
    exact Nat.testBit_lt_two_pow (Nat.lt_of_lt_of_le (by decide : (1#32).toNat < 2 ^ 1) (Nat.pow_le_pow_right (by decide) (by omega)))
  have h2 := congrArg (fun x : BitVec 32 => x.getLsbD i) (up_down c h)
  simp only [BitVec.getLsbD_ushiftRight] at h2
  rw [BitVec.getLsbD_ushiftRight, BitVec.getLsbD_or, h1, Bool.or_false, h2]
theorem stp_bck (c : BitVec 32) : stp (bck c) = c := by
  have hm : mixC.getLsbD 31 = true := by decide
  unfold bck
  cases h0 : c.getLsbD 31 with
  | true =>
    rw [if_pos rfl]
    have hx : (c ^^^ mixC).getLsbD 31 = false := by rw [BitVec.getLsbD_xor, h0, hm]; rfl
    have hl : ((c ^^^ mixC) <<< 1 ||| 1#32).getLsbD 0 = true := by
      rw [BitVec.getLsbD_or]
      simp
    unfold stp
    rw [hl, if_pos rfl, up_down1 _ hx, BitVec.xor_assoc, BitVec.xor_self, BitVec.xor_zero]
  | false =>
    rw [if_neg (by decide), stp_even _ (by rw [BitVec.getLsbD_shiftLeft]; simp), up_down c h0]
theorem stps_bcks (n : Nat) (c : BitVec 32) : stps n (bcks n c) = c := by
  induction n with
  | zero => rfl
  | succ n ih => simp only [stps, bcks, stp_bck, ih]
theorem bcks_stps (n : Nat) (c : BitVec 32) : bcks n (stps n c) = c := by
  induction n generalizing c with
  | zero => rfl
  | succ n ih => rw [stps, bcks, ih, bck_stp]

/-- what stands high enough comes down as it is -/
theorem stps_high (k x : Nat) (h : x * 2 ^ k < 4294967296) : stps k (BitVec.ofNat 32 (x * 2 ^ k)) = BitVec.ofNat 32 x := by
  induction k with
  | zero => simp [stps]
  | succ k ih =>
    have e : x * 2 ^ (k + 1) = 2 * (x * 2 ^ k) := by rw [Nat.pow_succ]; simp only [Nat.mul_comm, Nat.mul_left_comm]
    rw [e] at h ⊢
    show stps k (stp _) = _
    rw [stp_double _ (by omega), ih (by omega)]

/-- four bytes as 32 bits, the first the lowest -/
def word (b0 b1 b2 b3 : UInt8) : BitVec 32 := BitVec.ofNat 32 (b0.toNat + 256 * b1.toNat + 65536 * b2.toNat + 16777216 * b3.toNat)
def byteAt (c : BitVec 32) (k : Nat) : UInt8 := UInt8.ofNat (c.toNat / 2 ^ (8 * k))
theorem word_bytes (c : BitVec 32) : word (byteAt c 0) (byteAt c 1) (byteAt c 2) (byteAt c 3) = c := by
  apply BitVec.eq_of_toNat_eq
  have h := c.isLt
  simp only [word, byteAt, BitVec.toNat_ofNat, UInt8.toNat_ofNat']
  omega
theorem bytes_word (b0 b1 b2 b3 : UInt8) : byteAt (word b0 b1 b2 b3) 0 = b0 ∧ byteAt (word b0 b1 b2 b3) 1 = b1 ∧ byteAt (word b0 b1 b2 b3) 2 = b2 ∧ byteAt (word b0 b1 b2 b3) 3 = b3 := by
  have h0 := b0.toNat_lt
  have h1 := b1.toNat_lt
  have h2 := b2.toNat_lt
  have h3 := b3.toNat_lt
  refine ⟨?_, ?_, ?_, ?_⟩ <;> apply UInt8.toNat_inj.1 <;> simp only [word, byteAt, BitVec.toNat_ofNat, UInt8.toNat_ofNat'] <;> omega
theorem nat_xor_high (x y k : Nat) (h : x < 2 ^ k) : x ^^^ y * 2 ^ k = x + y * 2 ^ k := by
  apply Nat.eq_of_testBit_eq
  intro i
  rw [Nat.add_comm x, Nat.mul_comm y, Nat.testBit_two_pow_mul_add y h, Nat.testBit_xor, Nat.testBit_two_pow_mul]
  by_cases hi : i < k
  · simp [hi, show ¬ k ≤ i by omega]
  · have : x.testBit i = false := Nat.testBit_lt_two_pow (Nat.lt_of_lt_of_le h (Nat.pow_le_pow_right (by decide) (by omega)))
    simp [hi, this, show k ≤ i by omega]
theorem word_xor (b0 b1 b2 b3 : UInt8) : word b0 b1 b2 b3 = BitVec.ofNat 32 b0.toNat ^^^ BitVec.ofNat 32 (b1.toNat * 2 ^ 8) ^^^ BitVec.ofNat 32 (b2.toNat * 2 ^ 16) ^^^ BitVec.ofNat 32 (b3.toNat * 2 ^ 24) := by
  have h0 := b0.toNat_lt
  have h1 := b1.toNat_lt
  have h2 := b2.toNat_lt
  rw [ofNat_xor, ofNat_xor, ofNat_xor, nat_xor_high _ _ 8 (by omega), nat_xor_high _ _ 16 (by omega), nat_xor_high _ _ 24 (by omega), word]
  congr 1
  omega
theorem feed_four (c : BitVec 32) (b0 b1 b2 b3 : UInt8) : feed c [b0, b1, b2, b3] = stps 32 (c ^^^ word b0 b1 b2 b3) := by
  have h1 := b1.toNat_lt
  have h2 := b2.toNat_lt
  have h3 := b3.toNat_lt
  have e1 := stps_high 8 b1.toNat (by omega)
  have e2 := stps_high 16 b2.toNat (by omega)
  have e3 := stps_high 24 b3.toNat (by omega)
  show byte1 (byte1 (byte1 (byte1 c b0) b1) b2) b3 = _
  unfold byte1
  rw [← e1, ← stps_xor, ← stps_add, ← e2]
  show stps 8 (stps 8 (stps 16 _ ^^^ stps 16 _) ^^^ _) = _
  rw [← stps_xor, ← stps_add, ← e3]
  show stps 8 (stps 24 _ ^^^ stps 24 _) = _
  rw [← stps_xor, ← stps_add, word_xor]
  simp only [BitVec.xor_assoc]

/-- the chapter's Force -/
def forceC (a want : BitVec 32) : BitVec 32 := bcks 32 (~~~want) ^^^ ~~~a
def forceL (a want : BitVec 32) : List UInt8 := [byteAt (forceC a want) 0, byteAt (forceC a want) 1, byteAt (forceC a want) 2, byteAt (forceC a want) 3]
theorem not_not (c : BitVec 32) : ~~~(~~~c) = c := by simp
theorem force_makes (a want : BitVec 32) : moreC a (forceL a want) = want := by
  unfold moreC forceL
  rw [feed_four, word_bytes]
  unfold forceC
  rw [BitVec.xor_comm (~~~a), BitVec.xor_assoc, BitVec.xor_self, BitVec.xor_zero, stps_bcks, not_not]
theorem force_one (a : BitVec 32) (b0 b1 b2 b3 : UInt8) : forceL a (moreC a [b0, b1, b2, b3]) = [b0, b1, b2, b3] := by
  have e : forceC a (moreC a [b0, b1, b2, b3]) = word b0 b1 b2 b3 := by
    unfold forceC moreC
    rw [not_not, feed_four, bcks_stps, BitVec.xor_comm (~~~a), BitVec.xor_assoc, BitVec.xor_self, BitVec.xor_zero]
  obtain ⟨h0, h1, h2, h3⟩ := bytes_word b0 b1 b2 b3
  unfold forceL
  rw [e, h0, h1, h2, h3]
/-! ### in the walk's own forms -/
theorem top_test (c : BitVec 32) : (bits .and .u32 (B c) 2147483648 != 0) = c.getLsbD 31 := by
  have h := c.isLt
  have e : bits .and .u32 (B c) 2147483648 = ((c.toNat / 2 ^ 31 % 2 * 2 ^ 31 : Nat) : Int) := by
    rw [show (2147483648 : Int) = B 2147483648#32 by decide, andB, B, BitVec.toNat_and]
    rw [show (2147483648#32).toNat = 2 ^ 31 by decide, nat_bit]
  rw [e, ← BitVec.testBit_toNat, Nat.testBit_eq_decide_div_mod_eq]
  rcases Nat.mod_two_eq_zero_or_one (c.toNat / 2 ^ 31) with h | h <;> rw [h] <;> rfl
theorem bck_hi (c : BitVec 32) (h : c.getLsbD 31 = true) : bits .or .u32 (bits .xor .u32 (B c) 2197175160 * (2 : Int) % (4294967296 : Int)) 1 = B (bck c) := by
  rw [show (2197175160 : Int) = B mixC by decide, xorB, dblB, show (1 : Int) = B 1#32 by decide, orB, bck, if_pos h]
theorem bck_lo (c : BitVec 32) (h : c.getLsbD 31 = false) : B c * (2 : Int) % (4294967296 : Int) = B (bck c) := by
  rw [dblB, bck, h, if_neg (by decide)]
theorem ofNat_mod (x : Nat) : UInt8.ofNat (x % 256) = UInt8.ofNat x := by
  apply UInt8.toNat_inj.1
  simp only [UInt8.toNat_ofNat']
  omega
theorem bytes_of (x : BitVec 32) : strOfNums [B x % 256, B x / 256 % 256, B x / 65536 % 256, B x / 16777216 % 256] = ⟨([byteAt x 0, byteAt x 1, byteAt x 2, byteAt x 3]).toArray⟩ := by
  unfold strOfNums
  have e0 : (B x % 256).toNat = x.toNat / 2 ^ (8 * 0) % 256 := by unfold B; omega
  have e1 : (B x / 256 % 256).toNat = x.toNat / 2 ^ (8 * 1) % 256 := by unfold B; omega
  have e2 : (B x / 65536 % 256).toNat = x.toNat / 2 ^ (8 * 2) % 256 := by unfold B; omega
  have e3 : (B x / 16777216 % 256).toNat = x.toNat / 2 ^ (8 * 3) % 256 := by unfold B; omega
  simp only [List.map_cons, List.map_nil, e0, e1, e2, e3, ofNat_mod]
  rfl
end Go.Proofs.YtbakgobgjfhhhaaDoor

/- Bodies with a sum, as lists. No Go in sight. -/
namespace Go.Proofs.YtbakgobgjfhhhaaDoor

/-- a text's sum in four bytes, its lowest first -/
def leC (l : List UInt8) : List UInt8 := [byteAt (sumC l) 0, byteAt (sumC l) 1, byteAt (sumC l) 2, byteAt (sumC l) 3]
theorem leC_len (l : List UInt8) : (leC l).length = 4 := rfl
theorem le_rev (l : List UInt8) : (fixB (sumC l).toNat 4).reverse = leC l := by
  unfold leC byteAt
  simp only [fixB, List.reverse_cons, List.reverse_nil, List.nil_append, List.cons_append, pow2_8]
/-- what stands ahead of the sum -/
def bodS (k n : Nat) (b : List UInt8) : List UInt8 := fixB k 1 ++ fixB n 4 ++ fixB b.length 2 ++ b
def selS (k n : Nat) (b : List UInt8) : List UInt8 := bodS k n b ++ leC (bodS k n b)
theorem bodS_len (k n : Nat) (b : List UInt8) : (bodS k n b).length = 7 + b.length := by
  unfold bodS
  simp only [List.length_append, fixB_length]
theorem selS_len (k n : Nat) (b : List UInt8) : (selS k n b).length = 11 + b.length := by
  unfold selS
  rw [List.length_append, bodS_len, leC_len]; omega
/-- kinds and serials that may be -/
def mayS (k n : Int) : Bool := decide ((k = 1 ∨ k = 2) ∧ 0 ≤ n ∧ n ≤ 2147483647)
theorem mayS_iff (k n : Int) : mayS k n = true ↔ (k = 1 ∨ k = 2) ∧ 0 ≤ n ∧ n ≤ 2147483647 := by unfold mayS; exact decide_eq_true_iff
/-- what Seal answers -/
def selE (k n : Int) (z : Nat) : Int := if mayS k n = true then (if 1000 < z then 2 else 0) else 1
theorem selE_ok {k n : Int} {z : Nat} (h : selE k n z = 0) : ((k = 1 ∨ k = 2) ∧ 0 ≤ n ∧ n ≤ 2147483647) ∧ z ≤ 1000 := by
  unfold selE at h
  split at h
  · rename_i hm
    split at h
    · omega
    · exact ⟨(mayS_iff k n).1 hm, by omega⟩
  · omega
/-- a text whose last four bytes are the sum of those ahead -/
def Good (l : List UInt8) : Prop := leC (l.take (l.length - 4)) = l.drop (l.length - 4)
def resid : BitVec 32 := ~~~(stps 32 (BitVec.allOnes 32))
theorem more_appendS (c : BitVec 32) (l m : List UInt8) : moreC (moreC c l) m = moreC c (l ++ m) := by
  unfold moreC
  rw [not_not, feed_append]
/-- behind its own sum every text has one and the same -/
theorem sum_resid (l : List UInt8) : sumC (l ++ leC l) = resid := by
  unfold sumC
  rw [← more_appendS]
  show moreC (sumC l) (leC l) = resid
  unfold leC moreC resid
  rw [feed_four, word_bytes, show ~~~(sumC l) = BitVec.allOnes 32 ^^^ sumC l by rw [BitVec.xor_comm]; exact BitVec.xor_allOnes.symm, BitVec.xor_assoc, BitVec.xor_self, BitVec.xor_zero]
theorem good_sum {l : List UInt8} (h : Good l) : sumC l = resid := by
  unfold Good at h
  have e := List.take_append_drop (l.length - 4) l
  rw [← h] at e
  rw [← e]; exact sum_resid _
theorem selS_good (k n : Nat) (b : List UInt8) : Good (selS k n b) := by
  unfold Good
  rw [selS_len, show 11 + b.length - 4 = (bodS k n b).length by rw [bodS_len]; omega]
  unfold selS
  rw [List.take_left, List.drop_left]
/-- what Open takes from a text -/
def kiS (l : List UInt8) : Nat := unfN (l.take 1)
def srS (l : List UInt8) : Nat := unfN ((l.drop 1).take 4)
def ctS (l : List UInt8) : Nat := unfN ((l.drop 5).take 2)
def bdS (l : List UInt8) : List UInt8 := (l.take (l.length - 4)).drop 7
def opnE (l : List UInt8) : Int :=
  if l.length < 11 then 3 else if 1011 < l.length then 2
  else if leC (l.take (l.length - 4)) = l.drop (l.length - 4) then (if mayS (kiS l : Nat) (srS l : Nat) = true ∧ ctS l = l.length - 11 then 0 else 4) else 5
theorem opE_ok {l : List UInt8} (h : opnE l = 0) : (11 ≤ l.length ∧ l.length ≤ 1011) ∧ Good l ∧ mayS (kiS l : Nat) (srS l : Nat) = true ∧ ctS l = l.length - 11 := by
  unfold opnE at h
  split at h
  · omega
  · split at h
    · omega
    · split at h
      · split at h
        · rename_i h1 h2 h3 h4
          exact ⟨⟨by omega, by omega⟩, h3, h4.1, h4.2⟩
        · omega
      · omega
theorem fixB_unfN (l : List UInt8) : fixB (unfN l) l.length = l := by
  induction l with
  | nil => rfl
  | cons b r ih =>
    have hlt := unfN_lt r
    have h1 : (b.toNat * 256 ^ r.length + unfN r) / 256 ^ r.length = b.toNat := by
      rw [Nat.mul_comm, Nat.mul_add_div (Nat.pow_pos (by decide)), Nat.div_eq_of_lt hlt, Nat.add_zero]
    have h2 : ∀ k, k ≤ r.length → fixB (b.toNat * 256 ^ r.length + unfN r) k = fixB (unfN r) k := by
      intro k hk
      induction k with
      | zero => rfl
      | succ k ihk =>
        rw [fixB, fixB, ihk (by omega)]
        congr 1
        apply UInt8.toNat_inj.1
        rw [UInt8.toNat_ofNat', UInt8.toNat_ofNat']
        obtain ⟨j, hj⟩ : ∃ j, r.length = k + 1 + j := ⟨r.length - (k + 1), by omega⟩
        have e : b.toNat * 256 ^ r.length = 256 ^ k * (256 * (b.toNat * 256 ^ j)) := by
          rw [hj, Nat.pow_add, Nat.pow_add, Nat.pow_one]; ac_rfl
        rw [e, Nat.mul_add_div (Nat.pow_pos (by decide)), Nat.mul_add_mod]
    show fixB (b.toNat * 256 ^ r.length + unfN r) (r.length + 1) = _
    rw [fixB, h1, h2 _ (Nat.le_refl _), ih, UInt8.ofNat_toNat]
theorem unf_small (n k : Nat) (h : n < 256 ^ k) : unfN (fixB n k) = n := by rw [unfN_fixB, Nat.mod_eq_of_lt h]
/-- what was sealed, taken apart -/
theorem parts_sel (k n : Nat) (b : List UInt8) (hk : k < 256) (hn : n < 4294967296) (hb : b.length < 65536) : kiS (selS k n b) = k ∧ srS (selS k n b) = n ∧ ctS (selS k n b) = b.length ∧ bdS (selS k n b) = b := by
  have l1 := fixB_length k 1
  have l2 := fixB_length n 4
  have l3 := fixB_length b.length 2
  have e : selS k n b = fixB k 1 ++ (fixB n 4 ++ (fixB b.length 2 ++ (b ++ leC (bodS k n b)))) := by
    unfold selS
    generalize leC (bodS k n b) = T
    unfold bodS; simp only [List.append_assoc]
  have hd1 : (selS k n b).drop 1 = fixB n 4 ++ (fixB b.length 2 ++ (b ++ leC (bodS k n b))) := by rw [e, List.drop_append_of_le_length (by omega), List.drop_of_length_le (by omega), List.nil_append]
  have hd5 : (selS k n b).drop 5 = fixB b.length 2 ++ (b ++ leC (bodS k n b)) := by
    rw [show (5 : Nat) = 1 + 4 by rfl, ← List.drop_drop, hd1, List.drop_append_of_le_length (by omega), List.drop_of_length_le (by omega), List.nil_append]
  refine ⟨?_, ?_, ?_, ?_⟩
  · unfold kiS
    rw [e, List.take_append_of_le_length (by omega), List.take_of_length_le (by omega), unf_small k 1 (by omega)]
  · unfold srS
    rw [hd1, List.take_append_of_le_length (by omega), List.take_of_length_le (by omega), unf_small n 4 (by omega)]
  · unfold ctS
    rw [hd5, List.take_append_of_le_length (by omega), List.take_of_length_le (by omega), unf_small b.length 2 (by omega)]
  · unfold bdS
    rw [selS_len, show 11 + b.length - 4 = (bodS k n b).length by rw [bodS_len]; omega]
    unfold selS
    rw [List.take_left]
    unfold bodS
    rw [List.drop_append_of_le_length (by simp only [List.length_append, fixB_length]; omega), List.drop_of_length_le (by simp only [List.length_append, fixB_length]; omega), List.nil_append]
theorem bd_len {l : List UInt8} (h : 11 ≤ l.length) : (bdS l).length = l.length - 11 := by unfold bdS; rw [List.length_drop, List.length_take]; omega
/-- a text is what Seal makes of its parts just where their number fits -/
theorem sel_parts {l : List UInt8} (h : 11 ≤ l.length) (hg : Good l) : selS (kiS l) (srS l) (bdS l) = l ↔ fixB (bdS l).length 2 = (l.drop 5).take 2 := by
  have e0 : l.take 1 = fixB (kiS l) 1 := by
    have := fixB_unfN (l.take 1)
    rw [show (l.take 1).length = 1 by rw [List.length_take]; omega] at this
    exact this.symm
  have e1 : (l.drop 1).take 4 = fixB (srS l) 4 := by
    have := fixB_unfN ((l.drop 1).take 4)
    rw [show ((l.drop 1).take 4).length = 4 by rw [List.length_take, List.length_drop]; omega] at this
    exact this.symm
  have eall : l.take (l.length - 4) = l.take 1 ++ (l.drop 1).take 4 ++ (l.drop 5).take 2 ++ bdS l := by
    unfold bdS
    apply List.ext_getElem?
    intro j
    have s1 : (l.take 1).length = 1 := by rw [List.length_take]; omega
    have s2 : ((l.drop 1).take 4).length = 4 := by rw [List.length_take, List.length_drop]; omega
    have s3 : ((l.drop 5).take 2).length = 2 := by rw [List.length_take, List.length_drop]; omega
    by_cases h1 : j < 1
    · rw [List.getElem?_append_left (by simp only [List.length_append]; omega), List.getElem?_append_left (by simp only [List.length_append]; omega), List.getElem?_append_left (by omega), List.getElem?_take_of_lt h1, List.getElem?_take_of_lt (by omega)]
    · by_cases h2 : j < 5
      · rw [List.getElem?_append_left (by simp only [List.length_append]; omega), List.getElem?_append_left (by simp only [List.length_append]; omega), List.getElem?_append_right (by omega), s1, List.getElem?_take_of_lt (by omega), List.getElem?_take_of_lt (by omega), List.getElem?_drop, show 1 + (j - 1) = j by omega]
      · by_cases h3 : j < 7
        · rw [List.getElem?_append_left (by simp only [List.length_append]; omega), List.getElem?_append_right (by simp only [List.length_append]; omega), List.length_append, s1, s2, List.getElem?_take_of_lt (by omega), List.getElem?_take_of_lt (by omega), List.getElem?_drop, show 5 + (j - (1 + 4)) = j by omega]
        · rw [List.getElem?_append_right (by simp only [List.length_append]; omega), List.length_append, List.length_append, s1, s2, s3, List.getElem?_drop, show 7 + (j - (1 + 4 + 2)) = j by omega]
  have ebod : bodS (kiS l) (srS l) (bdS l) = l.take 1 ++ (l.drop 1).take 4 ++ fixB (bdS l).length 2 ++ bdS l := by unfold bodS; rw [e0, e1]
  have esum : l = l.take (l.length - 4) ++ leC (l.take (l.length - 4)) := by
    have e := List.take_append_drop (l.length - 4) l
    unfold Good at hg
    rw [hg]; exact e.symm
  constructor
  · intro he
    have hb : bodS (kiS l) (srS l) (bdS l) = l.take (l.length - 4) := by
      have h1 := congrArg (List.take (l.length - 4)) he
      rw [show l.length - 4 = (bodS (kiS l) (srS l) (bdS l)).length by rw [bodS_len, bd_len h]; omega] at h1
      unfold selS at h1
      rw [List.take_left] at h1
      rw [h1, bodS_len, bd_len h, show 7 + (l.length - 11) = l.length - 4 by omega]
    rw [ebod, eall] at hb
    have s3 : ((l.drop 5).take 2).length = 2 := by rw [List.length_take, List.length_drop]; omega
    have h2 := List.append_inj_left hb (by simp only [List.length_append, fixB_length]; omega)
    exact List.append_inj_right h2 rfl
  · intro hc
    have hb : bodS (kiS l) (srS l) (bdS l) = l.take (l.length - 4) := by rw [ebod, eall, hc]
    unfold selS
    rw [hb]; exact esum.symm
theorem count_iff {l : List UInt8} (h : 11 ≤ l.length) (h2 : l.length ≤ 1011) : fixB (bdS l).length 2 = (l.drop 5).take 2 ↔ ctS l = l.length - 11 := by
  have hl : ((l.drop 5).take 2).length = 2 := by rw [List.length_take, List.length_drop]; omega
  unfold ctS
  constructor
  · intro he
    rw [← he, unf_small _ _ (by rw [bd_len h]; omega), bd_len h]
  · intro he
    have := fixB_unfN ((l.drop 5).take 2)
    rw [hl, he] at this
    rw [bd_len h]; exact this
/-- Open answers just where Seal makes the text -/
theorem open_iff {l : List UInt8} (h : 11 ≤ l.length) (h2 : l.length ≤ 1011) (hg : Good l) : (selE (kiS l : Nat) (srS l : Nat) (bdS l).length = 0 ∧ selS (kiS l) (srS l) (bdS l) = l) ↔ opnE l = 0 := by
  rw [sel_parts h hg, count_iff h h2]
  unfold opnE selE
  unfold Good at hg
  have hz := bd_len h
  have n1 : ¬ l.length < 11 := by omega
  have n2 : ¬ 1011 < l.length := by omega
  have n3 : ¬ 1000 < (bdS l).length := by omega
  rw [if_neg n1, if_neg n2, if_pos hg, if_neg n3]
  by_cases hm : mayS (kiS l : Nat) (srS l : Nat) = true
  · rw [if_pos hm]
    by_cases hc : ctS l = l.length - 11
    · rw [if_pos ⟨hm, hc⟩]; exact ⟨fun _ => rfl, fun _ => ⟨rfl, hc⟩⟩
    · rw [if_neg (fun h => hc h.2)]; exact ⟨fun h => absurd h.2 hc, fun h => absurd h (by decide)⟩
  · rw [if_neg hm, if_neg (fun h => hm h.1)]; exact ⟨fun h => absurd h.1 (by decide), fun h => absurd h (by decide)⟩
/-- what is sealed is opened -/
theorem open_sel {k n : Nat} {b : List UInt8} (h : selE (k : Int) (n : Int) b.length = 0) : opnE (selS k n b) = 0 ∧ kiS (selS k n b) = k ∧ srS (selS k n b) = n ∧ bdS (selS k n b) = b := by
  obtain ⟨⟨h1, h2, h3⟩, h4⟩ := selE_ok h
  obtain ⟨p1, p2, p3, p4⟩ := parts_sel k n b (by omega) (by omega) (by omega)
  have hl := selS_len k n b
  refine ⟨?_, p1, p2, p4⟩
  refine (open_iff (by omega) (by omega) (selS_good k n b)).1 ⟨?_, ?_⟩
  · rw [p1, p2, p4]; exact h
  · rw [p1, p2, p4]
end Go.Proofs.YtbakgobgjfhhhaaDoor

/- Check points as bytes. No Go in sight. -/
namespace Go.Proofs.YtbakgobgjfhhhaaDoor

/-- numbers that may be: from 0 to 2^31-1 -/
def srlB (n : Int) : Bool := decide (0 ≤ n ∧ n ≤ 2147483647)
theorem srlB_is {n : Int} (h : srlB n = true) : 0 ≤ n ∧ n ≤ 2147483647 := of_decide_eq_true h
theorem srlB_no {n : Int} (h : srlB n = false) : n < 0 ∨ 2147483647 < n := by
  have := of_decide_eq_false h
  omega
/-- what stands in the seal of a point -/
def ptB (n : Int) (P : List Pla) (G : List Int) : List UInt8 := fixB n.toNat 4 ++ imB P G
theorem ptB_len (n : Int) (P : List Pla) (G : List Int) : (ptB n P G).length = 4 + (imB P G).length := by unfold ptB; rw [List.length_append, fixB_length]
theorem ptB_small (n : Int) {P : List Pla} {G : List Int} (h : chkM P G = 0) : (ptB n P G).length ≤ 340 := by
  rw [ptB_len]
  have := imK_len (chkM_ok h) 48 (by omega)
  show 4 + (imK P G 48).length ≤ 340
  omega
/-- what Write answers -/
def ptE (t n : Int) (P : List Pla) (G : List Int) : Int := if srlB t = true ∧ srlB n = true then chkM P G else 1
theorem ptE_no {t n : Int} {P : List Pla} {G : List Int} (h : ¬ (srlB t = true ∧ srlB n = true)) : ptE t n P G = 1 := if_neg h
theorem ptE_yes {t n : Int} {P : List Pla} {G : List Int} (h1 : srlB t = true) (h2 : srlB n = true) : ptE t n P G = chkM P G := if_pos ⟨h1, h2⟩
theorem ptE_ok {t n : Int} {P : List Pla} {G : List Int} (h : ptE t n P G = 0) : srlB t = true ∧ srlB n = true ∧ chkM P G = 0 := by
  unfold ptE at h
  split at h
  · next hh => exact ⟨hh.1, hh.2, h⟩
  · omega
theorem ptE_mk {t n : Int} {P : List Pla} {G : List Int} (h1 : srlB t = true) (h2 : srlB n = true) (h3 : chkM P G = 0) : ptE t n P G = 0 := by rw [ptE_yes h1 h2, h3]
theorem sel_point {t n : Int} {P : List Pla} {G : List Int} (h1 : srlB t = true) (h : chkM P G = 0) : selE 2 t (ptB n P G).length = 0 := by
  unfold selE
  have hz := ptB_small n h
  have := srlB_is h1
  rw [if_pos ((mayS_iff 2 t).2 ⟨.inr rfl, this.1, this.2⟩), if_neg (by omega)]
/-- the text of a point -/
def ptL (t n : Int) (P : List Pla) (G : List Int) : List UInt8 := if ptE t n P G = 0 then selS 2 t.toNat (ptB n P G) else []
theorem ptL_ok {t n : Int} {P : List Pla} {G : List Int} (h : ptE t n P G = 0) : ptL t n P G = selS 2 t.toNat (ptB n P G) := if_pos h
theorem ptL_no {t n : Int} {P : List Pla} {G : List Int} (h : ptE t n P G ≠ 0) : ptL t n P G = [] := if_neg h
/-- what Read takes from a text -/
def rdPt (s : List UInt8) : Option (Int × Int × List Pla × List Int) :=
  if opnE s = 0 ∧ kiS s = 2 ∧ 4 ≤ (bdS s).length ∧ unfN ((bdS s).take 4) ≤ 2147483647 then
    (match readM ((bdS s).drop 4) with
    | some (P, G) => some (((srS s : Nat) : Int), ((unfN ((bdS s).take 4) : Nat) : Int), P, G)
    | none => none)
  else none
/-- its error -/
def rdPE (s : List UInt8) : Int := if opnE s = 0 then (if (rdPt s).isSome then 0 else 4) else opnE s
theorem rdPt_bad {s : List UInt8} (h : ¬ (opnE s = 0 ∧ kiS s = 2 ∧ 4 ≤ (bdS s).length ∧ unfN ((bdS s).take 4) ≤ 2147483647)) : rdPt s = none := if_neg h
theorem rdPt_none {s : List UInt8} (h : readM ((bdS s).drop 4) = none) : rdPt s = none := by
  unfold rdPt
  split
  · rw [h]
  · rfl
theorem rdPt_some {s : List UInt8} (h1 : opnE s = 0) (h2 : kiS s = 2) (h3 : 4 ≤ (bdS s).length) (h4 : unfN ((bdS s).take 4) ≤ 2147483647) {P : List Pla} {G : List Int} (h5 : readM ((bdS s).drop 4) = some (P, G)) : rdPt s = some (((srS s : Nat) : Int), ((unfN ((bdS s).take 4) : Nat) : Int), P, G) := by
  unfold rdPt
  rw [if_pos ⟨h1, h2, h3, h4⟩, h5]
theorem rdPt_parts {s : List UInt8} {t n : Int} {P : List Pla} {G : List Int} (h : rdPt s = some (t, n, P, G)) : opnE s = 0 ∧ kiS s = 2 ∧ 4 ≤ (bdS s).length ∧ unfN ((bdS s).take 4) ≤ 2147483647 ∧ readM ((bdS s).drop 4) = some (P, G) ∧ t = (srS s : Nat) ∧ n = (unfN ((bdS s).take 4) : Nat) := by
  unfold rdPt at h
  split at h
  · next hh =>
    cases hr : readM ((bdS s).drop 4) with
    | none => rw [hr] at h; simp at h
    | some v =>
      obtain ⟨P2, G2⟩ := v
      rw [hr] at h
      simp only [Option.some.injEq, Prod.mk.injEq] at h
      obtain ⟨h1, h2, h3, h4⟩ := h
      subst h3 h4
      exact ⟨hh.1, hh.2.1, hh.2.2.1, hh.2.2.2, rfl, h1.symm, h2.symm⟩
  · simp at h
/-- what is written is read -/
theorem rdPt_back {t n : Int} {P : List Pla} {G : List Int} (h : ptE t n P G = 0) : rdPt (ptL t n P G) = some (t, n, P, G) := by
  obtain ⟨h1, h2, h3⟩ := ptE_ok h
  have k1 := srlB_is h1
  have k2 := srlB_is h2
  obtain ⟨t', rfl⟩ := Int.eq_ofNat_of_zero_le k1.1
  obtain ⟨n', rfl⟩ := Int.eq_ofNat_of_zero_le k2.1
  have hs := sel_point (n := (n' : Int)) h1 h3
  have ho := open_sel (k := 2) (n := t') (b := ptB n' P G) hs
  rw [ptL_ok h]
  simp only [Int.toNat_natCast]
  obtain ⟨o1, o2, o3, o4⟩ := ho
  have e4 : (ptB (n' : Int) P G).take 4 = fixB n' 4 := by
    unfold ptB
    rw [Int.toNat_natCast]
    exact List.take_left' (fixB_length n' 4)
  have d4 : (ptB (n' : Int) P G).drop 4 = imB P G := by
    unfold ptB
    rw [Int.toNat_natCast]
    exact List.drop_left' (fixB_length n' 4)
  have hu : unfN (fixB n' 4) = n' := unf_small n' 4 (by have := k2.2; omega)
  have hr := readM_back (chkM_ok h3)
  have := rdPt_some (s := selS 2 t' (ptB n' P G)) o1 o2 (by rw [o4, ptB_len]; omega) (by rw [o4, e4, hu]; have := k2.2; omega) (P := P) (G := G) (by rw [o4, d4]; exact hr)
  rw [this, o3, o4, e4, hu]
/-- what is read is written as just that text -/
theorem rdPt_inv {s : List UInt8} {t n : Int} {P : List Pla} {G : List Int} (h : rdPt s = some (t, n, P, G)) : ptE t n P G = 0 ∧ ptL t n P G = s := by
  obtain ⟨h1, h2, h3, h4, h5, rfl, rfl⟩ := rdPt_parts h
  obtain ⟨⟨a1, a2⟩, a3, a4, a5⟩ := opE_ok h1
  obtain ⟨i1, i2⟩ := (open_iff a1 a2 a3).2 h1
  obtain ⟨r1, r2⟩ := readM_inv h5
  obtain ⟨_, m1, m2⟩ := (mayS_iff _ _).1 a4
  have he : ptE ((srS s : Nat) : Int) ((unfN ((bdS s).take 4) : Nat) : Int) P G = 0 := ptE_mk (decide_eq_true ⟨m1, m2⟩) (decide_eq_true ⟨by omega, by omega⟩) r1
  refine ⟨he, ?_⟩
  rw [ptL_ok he]
  simp only [Int.toNat_natCast]
  have hb : ptB ((unfN ((bdS s).take 4) : Nat) : Int) P G = bdS s := by
    unfold ptB
    have := fixB_unfN ((bdS s).take 4)
    rw [show ((bdS s).take 4).length = 4 by rw [List.length_take]; omega] at this
    rw [Int.toNat_natCast, this, r2, List.take_append_drop]
  rw [hb]
  rw [h2] at i2
  exact i2
theorem rdPE_open {s : List UInt8} (h : opnE s ≠ 0) : rdPE s = opnE s ∧ rdPt s = none := ⟨if_neg h, rdPt_bad (fun hh => h hh.1)⟩
theorem rdPE_no {s : List UInt8} (h : opnE s = 0) (h2 : rdPt s = none) : rdPE s = 4 := by
  unfold rdPE
  rw [if_pos h, h2]; rfl
theorem rdPE_yes {s : List UInt8} {t n : Int} {P : List Pla} {G : List Int} (h : rdPt s = some (t, n, P, G)) : rdPE s = 0 := by
  unfold rdPE
  rw [if_pos (rdPt_parts h).1, h]; rfl
theorem rdPE_none {s : List UInt8} (h : rdPt s = none) : rdPE s ≠ 0 := by
  unfold rdPE
  split
  · rw [h]; decide
  · next hh => exact hh
theorem rdPE_zero {s : List UInt8} (h : rdPE s = 0) : ∃ t n P G, rdPt s = some (t, n, P, G) := by
  cases hh : rdPt s with
  | none => exact absurd h (rdPE_none hh)
  | some v => obtain ⟨t, n, P, G⟩ := v; exact ⟨t, n, P, G, rfl⟩
end Go.Proofs.YtbakgobgjfhhhaaDoor
