/- Texts of ours, one behind the other: ForceMath SealMath ScanMath -/
import Derived.Test.YtbakgobgjfhhhaaDoorPsab
import Derived.Laws.BytesArg

/- Plain facts on steps back, and on the four bytes that make a sum. No Go in sight. -/
namespace Go.Proofs.YtbakgobgjfhhhaaDoor

/-- a step back -/
def bck (c : BitVec 32) : BitVec 32 := if c.getLsbD 31 = true then ((c ^^^ mixC) <<< 1) ||| 1#32 else c <<< 1
def bcks : Nat → BitVec 32 → BitVec 32
  | 0, c => c
  | n + 1, c => bck (bcks n c)

theorem top_stp (c : BitVec 32) : (stp c).getLsbD 31 = c.getLsbD 0 := by
  have h : (c >>> 1).getLsbD 31 = false := by rw [BitVec.getLsbD_ushiftRight]; exact BitVec.getLsbD_of_ge c _ (by decide)
  have hm : mixC.getLsbD 31 = true := by decide
  unfold stp
  cases h0 : c.getLsbD 0 with
  | true => rw [if_pos rfl, BitVec.getLsbD_xor, h, hm]; rfl
  | false => rw [if_neg (by decide), h]
theorem down_up (c : BitVec 32) (h : c.getLsbD 0 = false) : (c >>> 1) <<< 1 = c := by
  apply BitVec.eq_of_getLsbD_eq
  intro i hi
  rw [BitVec.getLsbD_shiftLeft, BitVec.getLsbD_ushiftRight]
  by_cases h0 : i = 0
  · subst h0; rw [h]; rfl
  · simp [hi, show ¬ i < 1 by omega, show 1 + (i - 1) = i by omega]
theorem down_up1 (c : BitVec 32) (h : c.getLsbD 0 = true) : (c >>> 1) <<< 1 ||| 1#32 = c := by
  apply BitVec.eq_of_getLsbD_eq
  intro i hi
  rw [BitVec.getLsbD_or, BitVec.getLsbD_shiftLeft, BitVec.getLsbD_ushiftRight]
  by_cases h0 : i = 0
  · subst h0; simp [h]
  · have h1 : (1#32).getLsbD i = false := by
      rw [← BitVec.testBit_toNat]
      exact Nat.testBit_lt_two_pow (Nat.lt_of_lt_of_le (by decide : (1#32).toNat < 2 ^ 1) (Nat.pow_le_pow_right (by decide) (by omega)))
    simp only [h1, Bool.or_false]
    simp [hi, show ¬ i < 1 by omega, show 1 + (i - 1) = i by omega]
theorem bck_stp (c : BitVec 32) : bck (stp c) = c := by
  unfold bck
  rw [top_stp]
  cases h0 : c.getLsbD 0 with
  | true =>
    rw [if_pos rfl]
    unfold stp
    rw [h0, if_pos rfl, BitVec.xor_assoc, BitVec.xor_self, BitVec.xor_zero, down_up1 c h0]
  | false => rw [if_neg (by decide), stp_even c h0, down_up c h0]
theorem up_down (c : BitVec 32) (h : c.getLsbD 31 = false) : (c <<< 1) >>> 1 = c := by
  apply BitVec.eq_of_getLsbD_eq
  intro i hi
  rw [BitVec.getLsbD_ushiftRight, BitVec.getLsbD_shiftLeft]
  by_cases h0 : i = 31
  · subst h0; rw [h]; rfl
  · simp [show 1 + i < 32 by omega, show 1 + i - 1 = i by omega]
theorem up_down1 (c : BitVec 32) (h : c.getLsbD 31 = false) : ((c <<< 1) ||| 1#32) >>> 1 = c := by
  apply BitVec.eq_of_getLsbD_eq
  intro i hi
  have h1 : (1#32).getLsbD (1 + i) = false := by
    rw [← BitVec.testBit_toNat]
    exact Nat.testBit_lt_two_pow (Nat.lt_of_lt_of_le (by decide : (1#32).toNat < 2 ^ 1) (Nat.pow_le_pow_right (by decide) (by omega)))
  have h2 := congrArg (fun x : BitVec 32 => x.getLsbD i) (up_down c h)
  simp only [BitVec.getLsbD_ushiftRight] at h2
  rw [BitVec.getLsbD_ushiftRight, BitVec.getLsbD_or, h1, Bool.or_false, h2]
theorem stp_bck (c : BitVec 32) : stp (bck c) = c := by
  have hm : mixC.getLsbD 31 = true := by decide
  unfold bck
  cases h0 : c.getLsbD 31 with
  | true =>
    rw [if_pos rfl]
    have hx : (c ^^^ mixC).getLsbD 31 = false := by rw [BitVec.getLsbD_xor, h0, hm]; rfl
    have hl : ((c ^^^ mixC) <<< 1 ||| 1#32).getLsbD 0 = true := by
      rw [BitVec.getLsbD_or]
      simp
    unfold stp
    rw [hl, if_pos rfl, up_down1 _ hx, BitVec.xor_assoc, BitVec.xor_self, BitVec.xor_zero]
  | false =>
    rw [if_neg (by decide), stp_even _ (by rw [BitVec.getLsbD_shiftLeft]; simp), up_down c h0]
theorem stps_bcks (n : Nat) (c : BitVec 32) : stps n (bcks n c) = c := by
  induction n with
  | zero => rfl
  | succ n ih => simp only [stps, bcks, stp_bck, ih]
theorem bcks_stps (n : Nat) (c : BitVec 32) : bcks n (stps n c) = c := by
  induction n generalizing c with
  | zero => rfl
  | succ n ih => rw [stps, bcks, ih, bck_stp]

/-- what stands high enough comes down as it is -/
theorem stps_high (k x : Nat) (h : x * 2 ^ k < 4294967296) : stps k (BitVec.ofNat 32 (x * 2 ^ k)) = BitVec.ofNat 32 x := by
  induction k with
  | zero => simp [stps]
  | succ k ih =>
    have e : x * 2 ^ (k + 1) = 2 * (x * 2 ^ k) := by rw [Nat.pow_succ]; simp only [Nat.mul_comm, Nat.mul_left_comm]
    rw [e] at h ⊢
    show stps k (stp _) = _
    rw [stp_double _ (by omega), ih (by omega)]

/-- four bytes as 32 bits, the first the lowest -/
def word (b0 b1 b2 b3 : UInt8) : BitVec 32 := BitVec.ofNat 32 (b0.toNat + 256 * b1.toNat + 65536 * b2.toNat + 16777216 * b3.toNat)
def byteAt (c : BitVec 32) (k : Nat) : UInt8 := UInt8.ofNat (c.toNat / 2 ^ (8 * k))
theorem word_bytes (c : BitVec 32) : word (byteAt c 0) (byteAt c 1) (byteAt c 2) (byteAt c 3) = c := by
  apply BitVec.eq_of_toNat_eq
  have h := c.isLt
  simp only [word, byteAt, BitVec.toNat_ofNat, UInt8.toNat_ofNat']
  omega
theorem bytes_word (b0 b1 b2 b3 : UInt8) : byteAt (word b0 b1 b2 b3) 0 = b0 ∧ byteAt (word b0 b1 b2 b3) 1 = b1 ∧ byteAt (word b0 b1 b2 b3) 2 = b2 ∧ byteAt (word b0 b1 b2 b3) 3 = b3 := by
  have h0 := b0.toNat_lt
  have h1 := b1.toNat_lt
  have h2 := b2.toNat_lt
  have h3 := b3.toNat_lt
  refine ⟨?_, ?_, ?_, ?_⟩ <;> apply UInt8.toNat_inj.1 <;> simp only [word, byteAt, BitVec.toNat_ofNat, UInt8.toNat_ofNat'] <;> omega
theorem nat_xor_high (x y k : Nat) (h : x < 2 ^ k) : x ^^^ y * 2 ^ k = x + y * 2 ^ k := by
  apply Nat.eq_of_testBit_eq
  intro i
  rw [Nat.add_comm x, Nat.mul_comm y, Nat.testBit_two_pow_mul_add y h, Nat.testBit_xor, Nat.testBit_two_pow_mul]
  by_cases hi : i < k
  · simp [hi, show ¬ k ≤ i by omega]
  · have : x.testBit i = false := Nat.testBit_lt_two_pow (Nat.lt_of_lt_of_le h (Nat.pow_le_pow_right (by decide) (by omega)))
    simp [hi, this, show k ≤ i by omega]
theorem word_xor (b0 b1 b2 b3 : UInt8) : word b0 b1 b2 b3 = BitVec.ofNat 32 b0.toNat ^^^ BitVec.ofNat 32 (b1.toNat * 2 ^ 8) ^^^ BitVec.ofNat 32 (b2.toNat * 2 ^ 16) ^^^ BitVec.ofNat 32 (b3.toNat * 2 ^ 24) := by
  have h0 := b0.toNat_lt
  have h1 := b1.toNat_lt
  have h2 := b2.toNat_lt
  rw [ofNat_xor, ofNat_xor, ofNat_xor, nat_xor_high _ _ 8 (by omega), nat_xor_high _ _ 16 (by omega), nat_xor_high _ _ 24 (by omega), word]
  congr 1
  omega
theorem feed_four (c : BitVec 32) (b0 b1 b2 b3 : UInt8) : feed c [b0, b1, b2, b3] = stps 32 (c ^^^ word b0 b1 b2 b3) := by
  have h1 := b1.toNat_lt
  have h2 := b2.toNat_lt
  have h3 := b3.toNat_lt
  have e1 := stps_high 8 b1.toNat (by omega)
  have e2 := stps_high 16 b2.toNat (by omega)
  have e3 := stps_high 24 b3.toNat (by omega)
  show byte1 (byte1 (byte1 (byte1 c b0) b1) b2) b3 = _
  unfold byte1
  rw [← e1, ← stps_xor, ← stps_add, ← e2]
  show stps 8 (stps 8 (stps 16 _ ^^^ stps 16 _) ^^^ _) = _
  rw [← stps_xor, ← stps_add, ← e3]
  show stps 8 (stps 24 _ ^^^ stps 24 _) = _
  rw [← stps_xor, ← stps_add, word_xor]
  simp only [BitVec.xor_assoc]

/-- the chapter's Force -/
def forceC (a want : BitVec 32) : BitVec 32 := bcks 32 (~~~want) ^^^ ~~~a
def forceL (a want : BitVec 32) : List UInt8 := [byteAt (forceC a want) 0, byteAt (forceC a want) 1, byteAt (forceC a want) 2, byteAt (forceC a want) 3]
theorem not_not (c : BitVec 32) : ~~~(~~~c) = c := by simp
theorem force_makes (a want : BitVec 32) : moreC a (forceL a want) = want := by
  unfold moreC forceL
  rw [feed_four, word_bytes]
  unfold forceC
  rw [BitVec.xor_comm (~~~a), BitVec.xor_assoc, BitVec.xor_self, BitVec.xor_zero, stps_bcks, not_not]
theorem force_one (a : BitVec 32) (b0 b1 b2 b3 : UInt8) : forceL a (moreC a [b0, b1, b2, b3]) = [b0, b1, b2, b3] := by
  have e : forceC a (moreC a [b0, b1, b2, b3]) = word b0 b1 b2 b3 := by
    unfold forceC moreC
    rw [not_not, feed_four, bcks_stps, BitVec.xor_comm (~~~a), BitVec.xor_assoc, BitVec.xor_self, BitVec.xor_zero]
  obtain ⟨h0, h1, h2, h3⟩ := bytes_word b0 b1 b2 b3
  unfold forceL
  rw [e, h0, h1, h2, h3]
/-! ### in the walk's own forms -/
theorem top_test (c : BitVec 32) : (bits .and .u32 (B c) 2147483648 != 0) = c.getLsbD 31 := by
  have h := c.isLt
  have e : bits .and .u32 (B c) 2147483648 = ((c.toNat / 2 ^ 31 % 2 * 2 ^ 31 : Nat) : Int) := by
    rw [show (2147483648 : Int) = B 2147483648#32 by decide, andB, B, BitVec.toNat_and]
    rw [show (2147483648#32).toNat = 2 ^ 31 by decide, nat_bit]
  rw [e, ← BitVec.testBit_toNat, Nat.testBit_eq_decide_div_mod_eq]
  rcases Nat.mod_two_eq_zero_or_one (c.toNat / 2 ^ 31) with h | h <;> rw [h] <;> rfl
theorem bck_hi (c : BitVec 32) (h : c.getLsbD 31 = true) : bits .or .u32 (bits .xor .u32 (B c) 2197175160 * (2 : Int) % (4294967296 : Int)) 1 = B (bck c) := by
  rw [show (2197175160 : Int) = B mixC by decide, xorB, dblB, show (1 : Int) = B 1#32 by decide, orB, bck, if_pos h]
theorem bck_lo (c : BitVec 32) (h : c.getLsbD 31 = false) : B c * (2 : Int) % (4294967296 : Int) = B (bck c) := by
  rw [dblB, bck, h, if_neg (by decide)]
theorem ofNat_mod (x : Nat) : UInt8.ofNat (x % 256) = UInt8.ofNat x := by
  apply UInt8.toNat_inj.1
  simp only [UInt8.toNat_ofNat']
  omega
theorem bytes_of (x : BitVec 32) : strOfNums [B x % 256, B x / 256 % 256, B x / 65536 % 256, B x / 16777216 % 256] = ⟨([byteAt x 0, byteAt x 1, byteAt x 2, byteAt x 3]).toArray⟩ := by
  unfold strOfNums
  have e0 : (B x % 256).toNat = x.toNat / 2 ^ (8 * 0) % 256 := by unfold B; omega
  have e1 : (B x / 256 % 256).toNat = x.toNat / 2 ^ (8 * 1) % 256 := by unfold B; omega
  have e2 : (B x / 65536 % 256).toNat = x.toNat / 2 ^ (8 * 2) % 256 := by unfold B; omega
  have e3 : (B x / 16777216 % 256).toNat = x.toNat / 2 ^ (8 * 3) % 256 := by unfold B; omega
  simp only [List.map_cons, List.map_nil, e0, e1, e2, e3, ofNat_mod]
  rfl
end Go.Proofs.YtbakgobgjfhhhaaDoor

/- Bodies with a sum, as lists. No Go in sight. -/
namespace Go.Proofs.YtbakgobgjfhhhaaDoor

/-- a text's sum in four bytes, its lowest first -/
def leC (l : List UInt8) : List UInt8 := [byteAt (sumC l) 0, byteAt (sumC l) 1, byteAt (sumC l) 2, byteAt (sumC l) 3]
theorem leC_len (l : List UInt8) : (leC l).length = 4 := rfl
theorem le_rev (l : List UInt8) : (fixB (sumC l).toNat 4).reverse = leC l := by
  unfold leC byteAt
  simp only [fixB, List.reverse_cons, List.reverse_nil, List.nil_append, List.cons_append, pow2_8]
/-- what stands ahead of the sum -/
def bodS (k n : Nat) (b : List UInt8) : List UInt8 := fixB k 1 ++ fixB n 4 ++ fixB b.length 2 ++ b
def selS (k n : Nat) (b : List UInt8) : List UInt8 := bodS k n b ++ leC (bodS k n b)
theorem bodS_len (k n : Nat) (b : List UInt8) : (bodS k n b).length = 7 + b.length := by
  unfold bodS
  simp only [List.length_append, fixB_length]
theorem selS_len (k n : Nat) (b : List UInt8) : (selS k n b).length = 11 + b.length := by
  unfold selS
  rw [List.length_append, bodS_len, leC_len]; omega
/-- kinds and serials that may be -/
def mayS (k n : Int) : Bool := decide ((k = 1 ∨ k = 2) ∧ 0 ≤ n ∧ n ≤ 2147483647)
theorem mayS_iff (k n : Int) : mayS k n = true ↔ (k = 1 ∨ k = 2) ∧ 0 ≤ n ∧ n ≤ 2147483647 := by unfold mayS; exact decide_eq_true_iff
/-- what Seal answers -/
def selE (k n : Int) (z : Nat) : Int := if mayS k n = true then (if 1000 < z then 2 else 0) else 1
theorem selE_ok {k n : Int} {z : Nat} (h : selE k n z = 0) : ((k = 1 ∨ k = 2) ∧ 0 ≤ n ∧ n ≤ 2147483647) ∧ z ≤ 1000 := by
  unfold selE at h
  split at h
  · rename_i hm
    split at h
    · omega
    · exact ⟨(mayS_iff k n).1 hm, by omega⟩
  · omega
/-- a text whose last four bytes are the sum of those ahead -/
def Good (l : List UInt8) : Prop := leC (l.take (l.length - 4)) = l.drop (l.length - 4)
def resid : BitVec 32 := ~~~(stps 32 (BitVec.allOnes 32))
theorem more_appendS (c : BitVec 32) (l m : List UInt8) : moreC (moreC c l) m = moreC c (l ++ m) := by
  unfold moreC
  rw [not_not, feed_append]
/-- behind its own sum every text has one and the same -/
theorem sum_resid (l : List UInt8) : sumC (l ++ leC l) = resid := by
  unfold sumC
  rw [← more_appendS]
  show moreC (sumC l) (leC l) = resid
  unfold leC moreC resid
  rw [feed_four, word_bytes, show ~~~(sumC l) = BitVec.allOnes 32 ^^^ sumC l by rw [BitVec.xor_comm]; exact BitVec.xor_allOnes.symm, BitVec.xor_assoc, BitVec.xor_self, BitVec.xor_zero]
theorem good_sum {l : List UInt8} (h : Good l) : sumC l = resid := by
  unfold Good at h
  have e := List.take_append_drop (l.length - 4) l
  rw [← h] at e
  rw [← e]; exact sum_resid _
theorem selS_good (k n : Nat) (b : List UInt8) : Good (selS k n b) := by
  unfold Good
  rw [selS_len, show 11 + b.length - 4 = (bodS k n b).length by rw [bodS_len]; omega]
  unfold selS
  rw [List.take_left, List.drop_left]
/-- what Open takes from a text -/
def kiS (l : List UInt8) : Nat := unfN (l.take 1)
def srS (l : List UInt8) : Nat := unfN ((l.drop 1).take 4)
def ctS (l : List UInt8) : Nat := unfN ((l.drop 5).take 2)
def bdS (l : List UInt8) : List UInt8 := (l.take (l.length - 4)).drop 7
def opnE (l : List UInt8) : Int :=
  if l.length < 11 then 3 else if 1011 < l.length then 2
  else if leC (l.take (l.length - 4)) = l.drop (l.length - 4) then (if mayS (kiS l : Nat) (srS l : Nat) = true ∧ ctS l = l.length - 11 then 0 else 4) else 5
theorem opE_ok {l : List UInt8} (h : opnE l = 0) : (11 ≤ l.length ∧ l.length ≤ 1011) ∧ Good l ∧ mayS (kiS l : Nat) (srS l : Nat) = true ∧ ctS l = l.length - 11 := by
  unfold opnE at h
  split at h
  · omega
  · split at h
    · omega
    · split at h
      · split at h
        · rename_i h1 h2 h3 h4
          exact ⟨⟨by omega, by omega⟩, h3, h4.1, h4.2⟩
        · omega
      · omega
theorem fixB_unfN (l : List UInt8) : fixB (unfN l) l.length = l := by
  induction l with
  | nil => rfl
  | cons b r ih =>
    have hlt := unfN_lt r
    have h1 : (b.toNat * 256 ^ r.length + unfN r) / 256 ^ r.length = b.toNat := by
      rw [Nat.mul_comm, Nat.mul_add_div (Nat.pow_pos (by decide)), Nat.div_eq_of_lt hlt, Nat.add_zero]
    have h2 : ∀ k, k ≤ r.length → fixB (b.toNat * 256 ^ r.length + unfN r) k = fixB (unfN r) k := by
      intro k hk
      induction k with
      | zero => rfl
      | succ k ihk =>
        rw [fixB, fixB, ihk (by omega)]
        congr 1
        apply UInt8.toNat_inj.1
        rw [UInt8.toNat_ofNat', UInt8.toNat_ofNat']
        obtain ⟨j, hj⟩ : ∃ j, r.length = k + 1 + j := ⟨r.length - (k + 1), by omega⟩
        have e : b.toNat * 256 ^ r.length = 256 ^ k * (256 * (b.toNat * 256 ^ j)) := by
          rw [hj, Nat.pow_add, Nat.pow_add, Nat.pow_one]; ac_rfl
        rw [e, Nat.mul_add_div (Nat.pow_pos (by decide)), Nat.mul_add_mod]
    show fixB (b.toNat * 256 ^ r.length + unfN r) (r.length + 1) = _
    rw [fixB, h1, h2 _ (Nat.le_refl _), ih, UInt8.ofNat_toNat]
theorem unf_small (n k : Nat) (h : n < 256 ^ k) : unfN (fixB n k) = n := by rw [unfN_fixB, Nat.mod_eq_of_lt h]
/-- what was sealed, taken apart -/
theorem parts_sel (k n : Nat) (b : List UInt8) (hk : k < 256) (hn : n < 4294967296) (hb : b.length < 65536) : kiS (selS k n b) = k ∧ srS (selS k n b) = n ∧ ctS (selS k n b) = b.length ∧ bdS (selS k n b) = b := by
  have l1 := fixB_length k 1
  have l2 := fixB_length n 4
  have l3 := fixB_length b.length 2
  have e : selS k n b = fixB k 1 ++ (fixB n 4 ++ (fixB b.length 2 ++ (b ++ leC (bodS k n b)))) := by
    unfold selS
    generalize leC (bodS k n b) = T
    unfold bodS; simp only [List.append_assoc]
  have hd1 : (selS k n b).drop 1 = fixB n 4 ++ (fixB b.length 2 ++ (b ++ leC (bodS k n b))) := by rw [e, List.drop_append_of_le_length (by omega), List.drop_of_length_le (by omega), List.nil_append]
  have hd5 : (selS k n b).drop 5 = fixB b.length 2 ++ (b ++ leC (bodS k n b)) := by
    rw [show (5 : Nat) = 1 + 4 by rfl, ← List.drop_drop, hd1, List.drop_append_of_le_length (by omega), List.drop_of_length_le (by omega), List.nil_append]
  refine ⟨?_, ?_, ?_, ?_⟩
  · unfold kiS
    rw [e, List.take_append_of_le_length (by omega), List.take_of_length_le (by omega), unf_small k 1 (by omega)]
  · unfold srS
    rw [hd1, List.take_append_of_le_length (by omega), List.take_of_length_le (by omega), unf_small n 4 (by omega)]
  · unfold ctS
    rw [hd5, List.take_append_of_le_length (by omega), List.take_of_length_le (by omega), unf_small b.length 2 (by omega)]
  · unfold bdS
    rw [selS_len, show 11 + b.length - 4 = (bodS k n b).length by rw [bodS_len]; omega]
    unfold selS
    rw [List.take_left]
    unfold bodS
    rw [List.drop_append_of_le_length (by simp only [List.length_append, fixB_length]; omega), List.drop_of_length_le (by simp only [List.length_append, fixB_length]; omega), List.nil_append]
theorem bd_len {l : List UInt8} (h : 11 ≤ l.length) : (bdS l).length = l.length - 11 := by unfold bdS; rw [List.length_drop, List.length_take]; omega
/-- a text is what Seal makes of its parts just where their number fits -/
theorem sel_parts {l : List UInt8} (h : 11 ≤ l.length) (hg : Good l) : selS (kiS l) (srS l) (bdS l) = l ↔ fixB (bdS l).length 2 = (l.drop 5).take 2 := by
  have e0 : l.take 1 = fixB (kiS l) 1 := by
    have := fixB_unfN (l.take 1)
    rw [show (l.take 1).length = 1 by rw [List.length_take]; omega] at this
    exact this.symm
  have e1 : (l.drop 1).take 4 = fixB (srS l) 4 := by
    have := fixB_unfN ((l.drop 1).take 4)
    rw [show ((l.drop 1).take 4).length = 4 by rw [List.length_take, List.length_drop]; omega] at this
    exact this.symm
  have eall : l.take (l.length - 4) = l.take 1 ++ (l.drop 1).take 4 ++ (l.drop 5).take 2 ++ bdS l := by
    unfold bdS
    apply List.ext_getElem?
    intro j
    have s1 : (l.take 1).length = 1 := by rw [List.length_take]; omega
    have s2 : ((l.drop 1).take 4).length = 4 := by rw [List.length_take, List.length_drop]; omega
    have s3 : ((l.drop 5).take 2).length = 2 := by rw [List.length_take, List.length_drop]; omega
    by_cases h1 : j < 1
    · rw [List.getElem?_append_left (by simp only [List.length_append]; omega), List.getElem?_append_left (by simp only [List.length_append]; omega), List.getElem?_append_left (by omega), List.getElem?_take_of_lt h1, List.getElem?_take_of_lt (by omega)]
    · by_cases h2 : j < 5
      · rw [List.getElem?_append_left (by simp only [List.length_append]; omega), List.getElem?_append_left (by simp only [List.length_append]; omega), List.getElem?_append_right (by omega), s1, List.getElem?_take_of_lt (by omega), List.getElem?_take_of_lt (by omega), List.getElem?_drop, show 1 + (j - 1) = j by omega]
      · by_cases h3 : j < 7
        · rw [List.getElem?_append_left (by simp only [List.length_append]; omega), List.getElem?_append_right (by simp only [List.length_append]; omega), List.length_append, s1, s2, List.getElem?_take_of_lt (by omega), List.getElem?_take_of_lt (by omega), List.getElem?_drop, show 5 + (j - (1 + 4)) = j by omega]
        · rw [List.getElem?_append_right (by simp only [List.length_append]; omega), List.length_append, List.length_append, s1, s2, s3, List.getElem?_drop, show 7 + (j - (1 + 4 + 2)) = j by omega]
  have ebod : bodS (kiS l) (srS l) (bdS l) = l.take 1 ++ (l.drop 1).take 4 ++ fixB (bdS l).length 2 ++ bdS l := by unfold bodS; rw [e0, e1]
  have esum : l = l.take (l.length - 4) ++ leC (l.take (l.length - 4)) := by
    have e := List.take_append_drop (l.length - 4) l
    unfold Good at hg
    rw [hg]; exact e.symm
  constructor
  · intro he
    have hb : bodS (kiS l) (srS l) (bdS l) = l.take (l.length - 4) := by
      have h1 := congrArg (List.take (l.length - 4)) he
      rw [show l.length - 4 = (bodS (kiS l) (srS l) (bdS l)).length by rw [bodS_len, bd_len h]; omega] at h1
      unfold selS at h1
      rw [List.take_left] at h1
      rw [h1, bodS_len, bd_len h, show 7 + (l.length - 11) = l.length - 4 by omega]
    rw [ebod, eall] at hb
    have s3 : ((l.drop 5).take 2).length = 2 := by rw [List.length_take, List.length_drop]; omega
    have h2 := List.append_inj_left hb (by simp only [List.length_append, fixB_length]; omega)
    exact List.append_inj_right h2 rfl
  · intro hc
    have hb : bodS (kiS l) (srS l) (bdS l) = l.take (l.length - 4) := by rw [ebod, eall, hc]
    unfold selS
    rw [hb]; exact esum.symm
theorem count_iff {l : List UInt8} (h : 11 ≤ l.length) (h2 : l.length ≤ 1011) : fixB (bdS l).length 2 = (l.drop 5).take 2 ↔ ctS l = l.length - 11 := by
  have hl : ((l.drop 5).take 2).length = 2 := by rw [List.length_take, List.length_drop]; omega
  unfold ctS
  constructor
  · intro he
    rw [← he, unf_small _ _ (by rw [bd_len h]; omega), bd_len h]
  · intro he
    have := fixB_unfN ((l.drop 5).take 2)
    rw [hl, he] at this
    rw [bd_len h]; exact this
/-- Open answers just where Seal makes the text -/
theorem open_iff {l : List UInt8} (h : 11 ≤ l.length) (h2 : l.length ≤ 1011) (hg : Good l) : (selE (kiS l : Nat) (srS l : Nat) (bdS l).length = 0 ∧ selS (kiS l) (srS l) (bdS l) = l) ↔ opnE l = 0 := by
  rw [sel_parts h hg, count_iff h h2]
  unfold opnE selE
  unfold Good at hg
  have hz := bd_len h
  have n1 : ¬ l.length < 11 := by omega
  have n2 : ¬ 1011 < l.length := by omega
  have n3 : ¬ 1000 < (bdS l).length := by omega
  rw [if_neg n1, if_neg n2, if_pos hg, if_neg n3]
  by_cases hm : mayS (kiS l : Nat) (srS l : Nat) = true
  · rw [if_pos hm]
    by_cases hc : ctS l = l.length - 11
    · rw [if_pos ⟨hm, hc⟩]; exact ⟨fun _ => rfl, fun _ => ⟨rfl, hc⟩⟩
    · rw [if_neg (fun h => hc h.2)]; exact ⟨fun h => absurd h.2 hc, fun h => absurd h (by decide)⟩
  · rw [if_neg hm, if_neg (fun h => hm h.1)]; exact ⟨fun h => absurd h.1 (by decide), fun h => absurd h (by decide)⟩
/-- what is sealed is opened -/
theorem open_sel {k n : Nat} {b : List UInt8} (h : selE (k : Int) (n : Int) b.length = 0) : opnE (selS k n b) = 0 ∧ kiS (selS k n b) = k ∧ srS (selS k n b) = n ∧ bdS (selS k n b) = b := by
  obtain ⟨⟨h1, h2, h3⟩, h4⟩ := selE_ok h
  obtain ⟨p1, p2, p3, p4⟩ := parts_sel k n b (by omega) (by omega) (by omega)
  have hl := selS_len k n b
  refine ⟨?_, p1, p2, p4⟩
  refine (open_iff (by omega) (by omega) (selS_good k n b)).1 ⟨?_, ?_⟩
  · rw [p1, p2, p4]; exact h
  · rw [p1, p2, p4]
end Go.Proofs.YtbakgobgjfhhhaaDoor

/- The log, as lists. No Go in sight. -/
namespace Go.Proofs.YtbakgobgjfhhhaaDoor

/-- what is in a cell of the log: which cell, its blobs, last -/
structure Ent where
  cl : Nat
  bl : List Blb
  la : Bool
/-- number, blobs and last of a text that is a cell of the log -/
def lgS (s : List UInt8) : Option (Nat × List Blb × Bool) := if opnE s = 0 ∧ kiS s = 1 then (match readB (bdS s) with | some v => some (srS s, v.1, v.2) | none => none) else none
theorem lgS_no {s : List UInt8} (h : ¬ (opnE s = 0 ∧ kiS s = 1)) : lgS s = none := if_neg h
theorem lgS_none {s : List UInt8} (h : readB (bdS s) = none) : lgS s = none := by
  unfold lgS
  split
  · rw [h]
  · rfl
theorem lgS_some {s : List UInt8} (h1 : opnE s = 0) (h2 : kiS s = 1) {l : List Blb} {b : Bool} (h : readB (bdS s) = some (l, b)) : lgS s = some (srS s, l, b) := by
  unfold lgS
  rw [if_pos ⟨h1, h2⟩, h]
theorem lgS_serial {s : List UInt8} {v : Nat × List Blb × Bool} (h : lgS s = some v) : v.1 ≤ 2147483647 := by
  unfold lgS at h
  split at h
  · next hh =>
    cases hr : readB (bdS s) with
    | none => rw [hr] at h; cases h
    | some u =>
      rw [hr] at h
      simp only [Option.some.injEq] at h
      subst h
      have := ((mayS_iff _ _).1 (opE_ok hh.1).2.2.1).2.2
      simp only
      omega
  · cases h
/-- the first that has a number -/
def fnd {α : Type} (L : List (Nat × α)) (x : Int) : Option α := match L with
  | [] => none
  | p :: r => if (p.1 : Int) = x then some p.2 else fnd r x
theorem fnd_nil {α : Type} (x : Int) : fnd ([] : List (Nat × α)) x = none := rfl
theorem fnd_cons {α : Type} (p : Nat × α) (r : List (Nat × α)) (x : Int) : fnd (p :: r) x = if (p.1 : Int) = x then some p.2 else fnd r x := rfl
theorem fnd_app {α : Type} (L M : List (Nat × α)) (x : Int) : fnd (L ++ M) x = match fnd L x with | some y => some y | none => fnd M x := by
  induction L with
  | nil => rfl
  | cons p r ih =>
    rw [List.cons_append, fnd_cons, fnd_cons]
    split
    · rfl
    · exact ih
theorem fnd_snoc_old {α : Type} {L : List (Nat × α)} {x : Int} {y : α} (h : fnd L x = some y) (p : Nat × α) : fnd (L ++ [p]) x = some y := by rw [fnd_app, h]
theorem fnd_snoc_new {α : Type} {L : List (Nat × α)} {x : Int} (h : fnd L x = none) (p : Nat × α) : fnd (L ++ [p]) x = if (p.1 : Int) = x then some p.2 else none := by rw [fnd_app, h, fnd_cons, fnd_nil]
theorem fnd_map {α β : Type} (f : α → β) (L : List (Nat × α)) (x : Int) : fnd (L.map (fun p => (p.1, f p.2))) x = (fnd L x).map f := by
  induction L with
  | nil => rfl
  | cons p r ih =>
    rw [List.map_cons, fnd_cons, fnd_cons, ih]
    split <;> rfl
theorem fnd_mem {α : Type} {L : List (Nat × α)} {x : Int} {y : α} (h : fnd L x = some y) : ∃ p ∈ L, (p.1 : Int) = x ∧ p.2 = y := by
  induction L with
  | nil => cases h
  | cons p r ih =>
    rw [fnd_cons] at h
    split at h
    · next hh => cases h; exact ⟨p, by simp, hh, rfl⟩
    · obtain ⟨q, h1, h2, h3⟩ := ih h
      exact ⟨q, by simp [h1], h2, h3⟩
theorem fnd_of_mem {α : Type} {L : List (Nat × α)} {p : Nat × α} (h : p ∈ L) : ∃ y, fnd L (p.1 : Int) = some y := by
  induction L with
  | nil => cases h
  | cons q r ih =>
    rw [fnd_cons]
    by_cases hq : (q.1 : Int) = p.1
    · rw [if_pos hq]; exact ⟨_, rfl⟩
    · rw [if_neg hq]
      rcases List.mem_cons.1 h with rfl | h
      · exact absurd rfl hq
      · exact ih h
/-- how many with a number above a and up to b -/
def cntN {α : Type} (L : List (Nat × α)) (a b : Int) : Nat := (L.filter (fun p => decide (a < (p.1 : Int) ∧ (p.1 : Int) ≤ b))).length
theorem cntN_le {α : Type} (L : List (Nat × α)) (a b : Int) : cntN L a b ≤ L.length := List.length_filter_le _ _
theorem cntN_mono {α : Type} (L : List (Nat × α)) (a b : Int) : cntN L a b ≤ cntN L a (b + 1) := by
  unfold cntN
  induction L with
  | nil => exact Nat.le_refl _
  | cons p r ih =>
    rw [List.filter_cons, List.filter_cons]
    by_cases h1 : a < (p.1 : Int) ∧ (p.1 : Int) ≤ b
    · have h2 : a < (p.1 : Int) ∧ (p.1 : Int) ≤ b + 1 := ⟨h1.1, by omega⟩
      simp only [decide_eq_true h1, decide_eq_true h2, if_true, List.length_cons]
      omega
    · simp only [decide_eq_false h1, Bool.false_eq_true, if_false]
      split
      · rw [List.length_cons]; omega
      · exact ih
theorem cntN_step {α : Type} {L : List (Nat × α)} {a b : Int} (h : a ≤ b) {y : α} (hf : fnd L (b + 1) = some y) : cntN L a b + 1 ≤ cntN L a (b + 1) := by
  induction L with
  | nil => cases hf
  | cons p r ih =>
    have hm := cntN_mono r a b
    unfold cntN at hm ih ⊢
    rw [fnd_cons] at hf
    rw [List.filter_cons, List.filter_cons]
    by_cases hp : (p.1 : Int) = b + 1
    · have h1 : ¬ (a < (p.1 : Int) ∧ (p.1 : Int) ≤ b) := by omega
      have h2 : a < (p.1 : Int) ∧ (p.1 : Int) ≤ b + 1 := by omega
      simp only [decide_eq_false h1, decide_eq_true h2, if_true, Bool.false_eq_true, if_false, List.length_cons]
      omega
    · rw [if_neg hp] at hf
      have := ih hf
      by_cases h1 : a < (p.1 : Int) ∧ (p.1 : Int) ≤ b
      · have h2 : a < (p.1 : Int) ∧ (p.1 : Int) ≤ b + 1 := by omega
        simp only [decide_eq_true h1, decide_eq_true h2, if_true, List.length_cons]
        omega
      · have h2 : ¬ (a < (p.1 : Int) ∧ (p.1 : Int) ≤ b + 1) := by omega
        simp only [decide_eq_false h1, decide_eq_false h2, Bool.false_eq_true, if_false]
        exact this
/-- those with the numbers behind a, one behind the other, j of them -/
structure Chn {α : Type} (L : List (Nat × α)) (a : Int) (l : List α) : Prop where
  at' : ∀ i, i < l.length → fnd L (a + 1 + (i : Int)) = l[i]?
  cn : l.length ≤ cntN L a (a + (l.length : Int))
theorem Chn.nil {α : Type} (L : List (Nat × α)) (a : Int) : Chn L a [] := ⟨fun i h => by simp at h, Nat.zero_le _⟩
theorem Chn.le {α : Type} {L : List (Nat × α)} {a : Int} {l : List α} (h : Chn L a l) : l.length ≤ L.length := Nat.le_trans h.cn (cntN_le _ _ _)
theorem Chn.snoc {α : Type} {L : List (Nat × α)} {a : Int} {l : List α} (h : Chn L a l) {y : α} (hy : fnd L (a + 1 + (l.length : Int)) = some y) : Chn L a (l ++ [y]) := by
  refine ⟨fun i hi => ?_, ?_⟩
  · rw [List.length_append, List.length_singleton] at hi
    by_cases hlt : i < l.length
    · rw [List.getElem?_append_left hlt]; exact h.at' i hlt
    · obtain rfl : i = l.length := by omega
      rw [List.getElem?_append_right (Nat.le_refl _), Nat.sub_self]; exact hy
  · rw [List.length_append, List.length_singleton]
    have e : a + 1 + (l.length : Int) = a + (l.length : Int) + 1 := by omega
    rw [e] at hy
    have := cntN_step (a := a) (b := a + (l.length : Int)) (by omega) hy
    have := h.cn
    have e2 : a + ((l.length + 1 : Nat) : Int) = a + (l.length : Int) + 1 := by omega
    rw [e2]; omega
/-- two such, each as long as there is one, are one -/
theorem Chn.one {α : Type} {L : List (Nat × α)} {a : Int} {l m : List α} (h : Chn L a l) (h' : Chn L a m) (hl : fnd L (a + 1 + (l.length : Int)) = none) (hm : fnd L (a + 1 + (m.length : Int)) = none) : l = m := by
  have hle : ∀ {p q : List α}, Chn L a p → Chn L a q → fnd L (a + 1 + (q.length : Int)) = none → p.length ≤ q.length := by
    intro p q hp hq hn
    refine Nat.le_of_not_lt fun hlt => ?_
    have := hp.at' q.length hlt
    rw [hn, List.getElem?_eq_getElem hlt] at this
    cases this
  have e : l.length = m.length := Nat.le_antisymm (hle h h' hm) (hle h' h hl)
  apply List.ext_getElem?
  intro i
  by_cases hi : i < l.length
  · rw [← h.at' i hi, ← h'.at' i (by omega)]
  · rw [List.getElem?_eq_none (by omega), List.getElem?_eq_none (by omega)]
/-- up to the last that has last -/
def trE {α : Type} (f : α → Bool) : List α → Nat
  | [] => 0
  | x :: r => if trE f r = 0 then (if f x then 1 else 0) else trE f r + 1
theorem trE_le {α : Type} (f : α → Bool) (l : List α) : trE f l ≤ l.length := by
  induction l with
  | nil => exact Nat.le_refl _
  | cons x r ih =>
    unfold trE
    rw [List.length_cons]
    split
    · split <;> omega
    · omega
theorem trE_snoc {α : Type} (f : α → Bool) (l : List α) (x : α) : trE f (l ++ [x]) = if f x then l.length + 1 else trE f l := by
  induction l with
  | nil =>
    show (if trE f [] = 0 then (if f x then 1 else 0) else trE f [] + 1) = _
    rw [if_pos (show trE f [] = 0 from rfl)]
    rfl
  | cons y r ih =>
    show (if trE f (r ++ [x]) = 0 then (if f y then 1 else 0) else trE f (r ++ [x]) + 1) = _
    rw [ih]
    by_cases h : f x = true
    · rw [if_pos h, if_pos h, if_neg (by omega), List.length_cons]
    · rw [if_neg h, if_neg h]
      rfl
/-- the greatest number, or n -/
def mxN {α : Type} (L : List (Nat × α)) (n : Int) : Int := match L with
  | [] => n
  | p :: r => if (p.1 : Int) < mxN r n then mxN r n else (p.1 : Int)
theorem mxN_ge {α : Type} (L : List (Nat × α)) (n : Int) : n ≤ mxN L n := by
  induction L with
  | nil => exact Int.le_refl _
  | cons p r ih => unfold mxN; split <;> omega
theorem mxN_all {α : Type} {L : List (Nat × α)} (n : Int) {p : Nat × α} (h : p ∈ L) : (p.1 : Int) ≤ mxN L n := by
  induction L with
  | nil => cases h
  | cons q r ih =>
    unfold mxN
    rcases List.mem_cons.1 h with rfl | h
    · split <;> omega
    · have := ih h
      split <;> omega
theorem mxN_is {α : Type} (L : List (Nat × α)) (n : Int) : mxN L n = n ∨ ∃ p ∈ L, mxN L n = (p.1 : Int) := by
  induction L with
  | nil => exact .inl rfl
  | cons q r ih =>
    unfold mxN
    split
    · rcases ih with h | ⟨p, h1, h2⟩
      · exact .inl h
      · exact .inr ⟨p, by simp [h1], h2⟩
    · exact .inr ⟨q, by simp, rfl⟩
/-- there is just one such -/
theorem mxN_only {α : Type} {L : List (Nat × α)} {n m : Int} (h1 : n ≤ m) (h2 : ∀ p ∈ L, (p.1 : Int) ≤ m) (h3 : m = n ∨ ∃ p ∈ L, m = (p.1 : Int)) : m = mxN L n := by
  have a1 := mxN_ge L n
  have a2 : mxN L n ≤ m := by
    rcases mxN_is L n with h | ⟨p, hp, h⟩
    · omega
    · have := h2 p hp; omega
  have a3 : m ≤ mxN L n := by
    rcases h3 with h | ⟨p, hp, h⟩
    · omega
    · have := mxN_all n hp; omega
  omega
/-- the cells of the log among the first k, as (number, what is in it) -/
def lgK (cell : Nat → List UInt8) : Nat → List (Nat × Ent)
  | 0 => []
  | k + 1 => lgK cell k ++ (if 2 ≤ k then (match lgS (cell k) with | some v => [(v.1, (⟨k, v.2.1, v.2.2⟩ : Ent))] | none => []) else [])
theorem lgK_low (cell : Nat → List UInt8) {k : Nat} (h : k ≤ 2) : lgK cell k = [] := by
  match k, h with
  | 0, _ => rfl
  | 1, _ => rfl
  | 2, _ => rfl
theorem lgK_none {cell : Nat → List UInt8} {k : Nat} (h : lgS (cell k) = none) : lgK cell (k + 1) = lgK cell k := by
  show lgK cell k ++ _ = _
  rw [h]
  split <;> exact List.append_nil _
theorem lgK_some {cell : Nat → List UInt8} {k : Nat} (h2 : 2 ≤ k) {n : Nat} {l : List Blb} {b : Bool} (h : lgS (cell k) = some (n, l, b)) : lgK cell (k + 1) = lgK cell k ++ [(n, ⟨k, l, b⟩)] := by
  show lgK cell k ++ _ = _
  rw [if_pos h2, h]
theorem lgK_len (cell : Nat → List UInt8) (k : Nat) : (lgK cell k).length ≤ k := by
  induction k with
  | zero => exact Nat.le_refl _
  | succ k ih =>
    show (lgK cell k ++ _).length ≤ _
    rw [List.length_append]
    split
    · split <;> simp only [List.length_cons, List.length_nil] <;> omega
    · simp only [List.length_nil]; omega
theorem lgK_num (cell : Nat → List UInt8) (k : Nat) : ∀ p ∈ lgK cell k, p.1 ≤ 2147483647 := by
  induction k with
  | zero => intro p h; cases h
  | succ k ih =>
    intro p h
    rcases List.mem_append.1 h with h | h
    · exact ih p h
    · split at h
      · split at h
        · next v hv => rw [List.mem_singleton.1 h]; exact lgS_serial hv
        · cases h
      · cases h
end Go.Proofs.YtbakgobgjfhhhaaDoor
