/- Plain facts on lists of bits and the numbers that they are. No Go in sight. -/
import Derived.Test.YtjfkbkhfnnmbnaaPackMath
namespace Go.Proofs.Ytjfkbkhfnnmbnaa

/-- a list of bits as a number, the lowest first -/
def numL : List Nat → Nat
  | [] => 0
  | x :: l => x + 2 * numL l
theorem numL_append (l m : List Nat) : numL (l ++ m) = numL l + 2 ^ l.length * numL m := by
  induction l with
  | nil => simp [numL]
  | cons x l ih =>
    simp only [List.cons_append, numL, ih, List.length_cons, Nat.pow_succ]
    rw [Nat.mul_add, ← Nat.mul_assoc 2, Nat.mul_comm 2 (2 ^ l.length)]; omega
def isBits (l : List Nat) : Prop := ∀ x, x ∈ l → x < 2
theorem numL_lt (l : List Nat) (h : isBits l) : numL l < 2 ^ l.length := by
  induction l with
  | nil => simp [numL]
  | cons x l ih =>
    have h1 := h x (by simp)
    have h2 := ih fun y hy => h y (by simp [hy])
    simp only [numL, List.length_cons, Nat.pow_succ]; omega
theorem or_high (a b k : Nat) (h : a < 2 ^ k) : a ||| b * 2 ^ k = a + b * 2 ^ k := by
  rw [Nat.or_comm, nat_join k (b * 2 ^ k) a (Nat.mul_mod_left _ _) h, Nat.add_comm]
theorem numL_snoc (l : List Nat) (x : Nat) (h : isBits l) : numL (l ++ [x]) = numL l ||| x * 2 ^ l.length := by
  rw [numL_append, or_high _ _ _ (numL_lt l h), Nat.mul_comm (2 ^ l.length)]; simp [numL]
/-- the lowest k bits of v -/
def bitsTo (v : Nat) : Nat → List Nat
  | 0 => []
  | k + 1 => bitsTo v k ++ [v / 2 ^ k % 2]
theorem bitsTo_length (v k : Nat) : (bitsTo v k).length = k := by
  induction k with
  | zero => rfl
  | succ k ih => simp [bitsTo, ih]
theorem bitsTo_bits (v k : Nat) : isBits (bitsTo v k) := by
  induction k with
  | zero => intro x hx; simp [bitsTo] at hx
  | succ k ih =>
    intro x hx
    simp only [bitsTo, List.mem_append, List.mem_singleton] at hx
    rcases hx with hx | rfl
    · exact ih x hx
    · exact Nat.mod_lt _ (by decide)
theorem numL_bitsTo (v k : Nat) : numL (bitsTo v k) = v % 2 ^ k := by
  induction k with
  | zero => simp [bitsTo, numL, Nat.mod_one]
  | succ k ih =>
    rw [bitsTo, numL_append, ih, bitsTo_length, Nat.pow_succ, Nat.mod_mul]
    simp [numL]
/-- all bits of the first j pieces -/
def allBits (V : Nat → Nat) (W : Nat → Int) : Nat → List Nat
  | 0 => []
  | j + 1 => allBits V W j ++ bitsTo (V j) (W j).toNat
theorem allBits_length (V : Nat → Nat) (W : Nat → Int) (j : Nat) : (allBits V W j).length = widSum W j := by
  induction j with
  | zero => rfl
  | succ j ih => simp [allBits, ih, bitsTo_length, widSum]
theorem allBits_bits (V : Nat → Nat) (W : Nat → Int) (j : Nat) : isBits (allBits V W j) := by
  induction j with
  | zero => intro x hx; simp [allBits] at hx
  | succ j ih =>
    intro x hx
    simp only [allBits, List.mem_append] at hx
    rcases hx with hx | hx
    · exact ih x hx
    · exact bitsTo_bits _ _ x hx
theorem allBits_num (V : Nat → Nat) (W : Nat → Int) (j : Nat) (h : ∀ i, i < j → errP (V i) (W i) = 0) : numL (allBits V W j) = packN V W j := by
  induction j with
  | zero => rfl
  | succ j ih =>
    have h1 := ih fun i hi => h i (by omega)
    have hl := numL_lt _ (allBits_bits V W j)
    rw [allBits_length] at hl
    have hv := (ok_wid _ _ (h j (by omega))).2.2
    rw [allBits, numL_append, numL_bitsTo, Nat.mod_eq_of_lt hv, allBits_length, packN, ← h1, or_high _ _ _ hl, Nat.mul_comm]
/-- a bit more in the bytes -/
theorem text_step (l : List Nat) (k n : Nat) (hk : k < l.length) (h : isBits l) (h1 : l.getD k 0 = 1) :
    bytesOf (numL (l.take (k + 1))) n = (bytesOf (numL (l.take k)) n).set (k / 8) ((bytesOf (numL (l.take k)) n).getD (k / 8) 0 ||| UInt8.ofNat (2 ^ (k % 8))) := by
  have ht : l.take (k + 1) = l.take k ++ [l.getD k 0] := by
    rw [List.take_succ_eq_append_getElem hk, List.getD_eq_getElem?_getD, List.getElem?_eq_getElem hk]; rfl
  have hb : isBits (l.take k) := fun x hx => h x (List.mem_of_mem_take hx)
  have hlen : (l.take k).length = k := by simp; omega
  rw [ht, numL_snoc _ _ hb, h1, hlen]
  have hp := put_byte (numL (l.take k)) 1 0 k n
  have hm : more8 (numL (l.take k)) 1 0 k = numL (l.take k) ||| 1 * 2 ^ k := by
    unfold more8
    have : 1 % 2 ^ (8 - k % 8) = 1 := Nat.mod_eq_of_lt (Nat.one_lt_two_pow (by omega))
    simp [this]
  rw [hm] at hp
  rw [hp]
  simp
theorem text_skip (l : List Nat) (k : Nat) (hk : k < l.length) (h1 : l.getD k 0 = 0) : numL (l.take (k + 1)) = numL (l.take k) := by
  have ht : l.take (k + 1) = l.take k ++ [l.getD k 0] := by
    rw [List.take_succ_eq_append_getElem hk, List.getD_eq_getElem?_getD, List.getElem?_eq_getElem hk]; rfl
  rw [ht, numL_append, h1]; simp [numL]
/-- the byte that takes bit k has none above it: the sum is the union -/
theorem text_add (l : List Nat) (k n : Nat) (hk : k < l.length) (hn : k / 8 < n) (h : isBits l) :
    IntKind.u8.wrap (((bytesOf (numL (l.take k)) n).getD (k / 8) 0).toNat + 2 ^ (k % 8)) = (((bytesOf (numL (l.take k)) n).getD (k / 8) 0 ||| UInt8.ofNat (2 ^ (k % 8))).toNat : Int) := by
  have hb : isBits (l.take k) := fun x hx => h x (List.mem_of_mem_take hx)
  have hlt := numL_lt _ hb
  rw [show (l.take k).length = k by simp; omega] at hlt
  rw [bytesOf_getD _ _ _ hn]
  generalize numL (l.take k) = R at *
  have hp : 2 ^ (k % 8) ≤ 2 ^ 7 := Nat.pow_le_pow_right (by decide) (by omega)
  have hq : R / 2 ^ (8 * (k / 8)) < 2 ^ (k % 8) := by
    rw [Nat.div_lt_iff_lt_mul (Nat.two_pow_pos _), ← Nat.pow_add, show k % 8 + 8 * (k / 8) = k by omega]; exact hlt
  rw [UInt8.toNat_or, UInt8.toNat_ofNat', UInt8.toNat_ofNat', Nat.mod_eq_of_lt (show R / 2 ^ (8 * (k / 8)) < 2 ^ 8 by omega), Nat.mod_eq_of_lt (show 2 ^ (k % 8) < 2 ^ 8 by omega)]
  have ho := or_high (R / 2 ^ (8 * (k / 8))) 1 (k % 8) hq
  rw [Nat.one_mul] at ho
  rw [ho, IntKind.wrap_u8']
  generalize R / 2 ^ (8 * (k / 8)) = a at *
  have e : ((2 : Int) ^ (k % 8)) = ((2 ^ (k % 8) : Nat) : Int) := by simp
  rw [e]
  generalize 2 ^ (k % 8) = b at *
  omega
end Go.Proofs.Ytjfkbkhfnnmbnaa
