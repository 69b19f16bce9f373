/- Plain facts on bits that are turned within 32 in a row. No Go in sight. -/
import Derived.Test.YtbhobflnaogomaaDoorForceMath
import Derived.IntWalk
namespace Go.Proofs.YtbhobflnaogomaaDoor
open Go.RowKit

def byteN (wide i : Nat) : UInt8 := UInt8.ofNat (wide / 2 ^ (8 * i))
/-- the text behind i of the five turned bytes from p on -/
def bst (l : List UInt8) (p wide : Nat) : Nat → List UInt8
  | 0 => l
  | i + 1 => (bst l p wide i).set (p + i) ((bst l p wide i).getD (p + i) 0 ^^^ byteN wide i)
theorem bst_length (l : List UInt8) (p wide i : Nat) : (bst l p wide i).length = l.length := by
  induction i with
  | zero => rfl
  | succ i ih => simp [bst, ih]

theorem within_eq (k n : Int) (h3 : 0 < n) (h4 : n ≤ 9223372036854775807) : ∃ m : Nat, wrap64 ((IntKind.u64.wrap k).tmod n) = m ∧ (m : Int) < n := by
  have h0 : 0 ≤ IntKind.u64.wrap k := by rw [IntKind.wrap_u64]; exact Int.emod_nonneg _ (by decide)
  rw [Int.tmod_eq_emod_of_nonneg h0]
  have h1 := Int.emod_nonneg (IntKind.u64.wrap k) (by omega : n ≠ 0)
  have h2 := Int.emod_lt_of_pos (IntKind.u64.wrap k) h3
  generalize IntKind.u64.wrap k % n = x at *
  exact ⟨x.toNat, by unfold wrap64; omega, by omega⟩
theorem wide_eq (u : BitVec 32) (r : Nat) (hr : r < 8) : IntKind.u64.wrap (IntKind.u64.wrap (B u) * 2 ^ r) = ((u.toNat * 2 ^ r : Nat) : Int) ∧ u.toNat * 2 ^ r < 549755813888 := by
  have h := u.isLt
  have hp : 2 ^ r ≤ 2 ^ 7 := Nat.pow_le_pow_right (by decide) (by omega)
  have h1 : u.toNat * 2 ^ r ≤ 4294967295 * 2 ^ 7 := Nat.mul_le_mul (by omega) hp
  refine ⟨?_, by omega⟩
  rw [wrap_u64_of (B u) (B_nonneg u) (by have := B_lt u; omega)]
  unfold B
  rw [show ((u.toNat : Int) * 2 ^ r) = ((u.toNat * 2 ^ r : Nat) : Int) by simp]
  exact wrap_u64_of _ (Int.natCast_nonneg _) (by omega)
theorem xor8 (x y : UInt8) : bits .xor .u8 (x.toNat : Int) (y.toNat : Int) = ((x ^^^ y).toNat : Int) := by
  rw [u8_xor_nat _ _ x.toNat_lt y.toNat_lt, ← UInt8.toNat_xor]
theorem byteN_toNat (wide i : Nat) : ((byteN wide i).toNat : Int) = (wide : Int) / 2 ^ (8 * i) % 256 := by
  rw [cast_div_pow]; unfold byteN; rw [UInt8.toNat_ofNat']; omega
/-! ### the sum tells -/
theorem stps_inj (n : Nat) (a b : BitVec 32) (h : stps n a = stps n b) : a = b := by rw [← bcks_stps n a, h, bcks_stps]
theorem feed_xor' (x y : BitVec 32) (l : List UInt8) : feed (x ^^^ y) l = feed x l ^^^ stps (8 * l.length) y := by
  induction l generalizing x y with
  | nil => rfl
  | cons b l ih =>
    show feed (byte1 (x ^^^ y) b) l = feed (byte1 x b) l ^^^ _
    have e : byte1 (x ^^^ y) b = byte1 x b ^^^ stps 8 y := by
      unfold byte1
      rw [← stps_xor, BitVec.xor_assoc, BitVec.xor_assoc, BitVec.xor_comm y]
    rw [e, ih, ← stps_add]
    congr 2
    simp only [List.length_cons]; omega
theorem word_xor_word (a0 a1 a2 a3 b0 b1 b2 b3 : UInt8) : word (a0 ^^^ b0) (a1 ^^^ b1) (a2 ^^^ b2) (a3 ^^^ b3) = word a0 a1 a2 a3 ^^^ word b0 b1 b2 b3 := by
  have h : ∀ (a b : UInt8) (k : Nat), BitVec.ofNat 32 ((a ^^^ b).toNat * 2 ^ k) = BitVec.ofNat 32 (a.toNat * 2 ^ k) ^^^ BitVec.ofNat 32 (b.toNat * 2 ^ k) := by
    intro a b k
    rw [ofNat_xor, UInt8.toNat_xor]
    congr 1
    apply Nat.eq_of_testBit_eq
    intro i
    simp only [Nat.testBit_xor, Nat.mul_comm _ (2 ^ k), Nat.testBit_two_pow_mul]
    cases decide (k ≤ i) <;> simp
  have h0 := h a0 b0 0
  simp only [Nat.pow_zero, Nat.mul_one] at h0
  rw [word_xor, word_xor, word_xor, h0, h a1 b1 8, h a2 b2 16, h a3 b3 24]
  ac_rfl
/-- what five turned bytes do to the sum -/
theorem feed_five (c : BitVec 32) (x0 x1 x2 x3 x4 m0 m1 m2 m3 m4 : UInt8) :
    feed c [x0 ^^^ m0, x1 ^^^ m1, x2 ^^^ m2, x3 ^^^ m3, x4 ^^^ m4] = feed c [x0, x1, x2, x3, x4] ^^^ stps 8 (stps 32 (word m0 m1 m2 m3) ^^^ BitVec.ofNat 32 m4.toNat) := by
  have e : ∀ (y0 y1 y2 y3 y4 : UInt8), feed c [y0, y1, y2, y3, y4] = stps 8 (stps 32 (c ^^^ word y0 y1 y2 y3) ^^^ BitVec.ofNat 32 y4.toNat) := by
    intro y0 y1 y2 y3 y4
    show byte1 (feed c [y0, y1, y2, y3]) y4 = _
    rw [feed_four]; rfl
  rw [e, e, word_xor_word, UInt8.toNat_xor, ← ofNat_xor, ← stps_xor]
  congr 1
  rw [← BitVec.xor_assoc c, stps_xor 32 (c ^^^ _)]
  ac_rfl
theorem wide_bytes (wide : Nat) (h : wide < 549755813888) : word (byteN wide 0) (byteN wide 1) (byteN wide 2) (byteN wide 3) = BitVec.ofNat 32 (wide % 4294967296) ∧ (byteN wide 4).toNat = wide / 4294967296 := by
  constructor
  · unfold word byteN
    simp only [UInt8.toNat_ofNat']
    congr 1
    omega
  · unfold byteN
    simp only [UInt8.toNat_ofNat']
    omega
theorem burst_state (u r : Nat) (hu : u < 4294967296) (hr : r < 8) :
    stps 32 (BitVec.ofNat 32 (u * 2 ^ r % 4294967296)) ^^^ BitVec.ofNat 32 (u * 2 ^ r / 4294967296) = stps (32 - r) (BitVec.ofNat 32 u) := by
  have hq : 4294967296 = 2 ^ (32 - r) * 2 ^ r := by rw [← Nat.pow_add, show 32 - r + r = 32 by omega]
  have hpr : 0 < 2 ^ r := Nat.two_pow_pos r
  have hpq : 0 < 2 ^ (32 - r) := Nat.two_pow_pos _
  have e1 : u * 2 ^ r % 4294967296 = u % 2 ^ (32 - r) * 2 ^ r := by rw [hq, Nat.mul_mod_mul_right]
  have e2 : u * 2 ^ r / 4294967296 = u / 2 ^ (32 - r) := by rw [hq, Nat.mul_div_mul_right _ _ hpr]
  have hlo : u % 2 ^ (32 - r) < 2 ^ (32 - r) := Nat.mod_lt _ hpq
  have hhi : u / 2 ^ (32 - r) * 2 ^ (32 - r) < 4294967296 := Nat.lt_of_le_of_lt (Nat.div_mul_le_self _ _) hu
  have hlo2 : u % 2 ^ (32 - r) * 2 ^ r < 4294967296 := by rw [hq]; exact Nat.mul_lt_mul_of_pos_right hlo hpr
  have s1 := stps_high r (u % 2 ^ (32 - r)) hlo2
  have s2 := stps_high (32 - r) (u / 2 ^ (32 - r)) hhi
  have s3 := stps_add r (32 - r) (BitVec.ofNat 32 (u % 2 ^ (32 - r) * 2 ^ r))
  rw [show r + (32 - r) = 32 by omega, s1] at s3
  rw [e1, e2, s3, ← s2, ← stps_xor, ofNat_xor, nat_xor_high _ _ _ hlo]
  congr 2
  have := Nat.mod_add_div u (2 ^ (32 - r))
  rw [Nat.mul_comm] at this
  exact this

theorem bst_split (A C : List UInt8) (x0 x1 x2 x3 x4 : UInt8) (wide : Nat) :
    bst (A ++ [x0, x1, x2, x3, x4] ++ C) A.length wide 5 = A ++ [x0 ^^^ byteN wide 0, x1 ^^^ byteN wide 1, x2 ^^^ byteN wide 2, x3 ^^^ byteN wide 3, x4 ^^^ byteN wide 4] ++ C := by
  simp [bst]
theorem split_at (l : List UInt8) (p : Nat) (h : p + 5 ≤ l.length) : ∃ A C x0 x1 x2 x3 x4, l = A ++ [x0, x1, x2, x3, x4] ++ C ∧ A.length = p := by
  refine ⟨l.take p, l.drop (p + 5), l[p], l[p + 1], l[p + 2], l[p + 3], l[p + 4], ?_, by simp; omega⟩
  rw [List.append_assoc]
  conv => lhs; rw [← List.take_append_drop p l]
  congr 1
  rw [List.drop_eq_getElem_cons (by omega), List.drop_eq_getElem_cons (by omega), List.drop_eq_getElem_cons (by omega), List.drop_eq_getElem_cons (by omega), List.drop_eq_getElem_cons (by omega)]
  simp
theorem burst_tells (l : List UInt8) (u : BitVec 32) (m : Nat) (hm : m / 8 + 5 ≤ l.length) :
    (sumC l = sumC (bst l (m / 8) (u.toNat * 2 ^ (m % 8)) 5)) ↔ l = bst l (m / 8) (u.toNat * 2 ^ (m % 8)) 5 := by
  constructor
  · intro h
    obtain ⟨A, C, x0, x1, x2, x3, x4, rfl, hA⟩ := split_at l (m / 8) hm
    have hw := (wide_eq u (m % 8) (by omega)).2
    obtain ⟨w1, w2⟩ := wide_bytes _ hw
    have hst := burst_state u.toNat (m % 8) u.isLt (by omega)
    rw [← hA, bst_split] at h ⊢
    unfold sumC moreC at h
    have h' := congrArg (fun x => ~~~x) h
    simp only [BitVec.not_not] at h'
    rw [feed_append, feed_append, feed_append, feed_append, feed_five, w1, w2, hst, feed_xor', ← stps_add, ← stps_add] at h'
    have hz : stps (32 - m % 8 + (8 + 8 * C.length)) (BitVec.ofNat 32 u.toNat) = 0#32 := by
      have := congrArg (fun x => feed (feed (feed (~~~(0 : BitVec 32)) A) [x0, x1, x2, x3, x4]) C ^^^ x) h'
      simp only [BitVec.xor_self, ← BitVec.xor_assoc, BitVec.zero_xor] at this
      exact this.symm
    have h0 : BitVec.ofNat 32 u.toNat = 0#32 := by
      have z : stps (32 - m % 8 + (8 + 8 * C.length)) 0#32 = 0#32 := by
        have h := stps_xor (32 - m % 8 + (8 + 8 * C.length)) 0#32 0#32
        rw [BitVec.xor_self, BitVec.xor_self] at h
        exact h
      exact stps_inj _ _ _ (hz.trans z.symm)
    have hu : u.toNat = 0 := by
      have := congrArg BitVec.toNat h0
      simpa using this
    simp [hu, byteN]
  · intro h
    rw [← h]
end Go.Proofs.YtbhobflnaogomaaDoor
