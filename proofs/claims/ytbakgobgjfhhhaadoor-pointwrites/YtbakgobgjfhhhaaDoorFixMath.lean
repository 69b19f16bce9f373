/- Plain facts on the lowest bytes of a number, the highest first. No Go in sight. -/
import Derived.Test.YtbakgobgjfhhhaaDoorFlipMath
namespace Go.Proofs.YtbakgobgjfhhhaaDoor

/-- the lowest k bytes of n, the highest of them first -/
def fixB (n : Nat) : Nat → List UInt8
  | 0 => []
  | k + 1 => UInt8.ofNat (n / 256 ^ k) :: fixB n k
theorem fixB_length (n k : Nat) : (fixB n k).length = k := by
  induction k with
  | zero => rfl
  | succ k ih => simp [fixB, ih]
/-- the row of num.Fix behind k rounds -/
def fixP (n w k : Nat) : List UInt8 := List.replicate (w - k) 0 ++ fixB n k
theorem fixP_length (n w k : Nat) (h : k ≤ w) : (fixP n w k).length = w := by
  simp [fixP, fixB_length]; omega
theorem fixP_zero (n w : Nat) : fixP n w 0 = List.replicate w 0 := by simp [fixP, fixB]
theorem fixP_all (n w : Nat) : fixP n w w = fixB n w := by simp [fixP]
theorem fixP_step (n w k : Nat) (h : k < w) : (fixP n w k).set (w - 1 - k) (UInt8.ofNat (n / 256 ^ k)) = fixP n w (k + 1) := by
  unfold fixP
  rw [show w - k = (w - 1 - k) + 1 by omega, List.replicate_succ', List.append_assoc, List.set_append, if_neg (by simp)]
  simp [fixB, show w - (k + 1) = w - 1 - k by omega]
/-- a text as a number, the highest byte first -/
def unfN : List UInt8 → Nat
  | [] => 0
  | b :: l => b.toNat * 256 ^ l.length + unfN l
theorem unfN_snoc (l : List UInt8) (b : UInt8) : unfN (l ++ [b]) = unfN l * 256 + b.toNat := by
  induction l with
  | nil => simp [unfN]
  | cons c l ih =>
    simp only [List.cons_append, unfN, ih, List.length_append, List.length_singleton, Nat.pow_succ, Nat.add_mul, Nat.mul_assoc]
    omega
theorem unfN_lt (l : List UInt8) : unfN l < 256 ^ l.length := by
  induction l with
  | nil => simp [unfN]
  | cons b l ih =>
    have hb := b.toNat_lt
    have : b.toNat * 256 ^ l.length ≤ 255 * 256 ^ l.length := Nat.mul_le_mul_right _ (by omega)
    simp only [unfN, List.length_cons, Nat.pow_succ]
    omega
theorem unfN_fixB (n k : Nat) : unfN (fixB n k) = n % 256 ^ k := by
  induction k with
  | zero => simp [unfN, fixB, Nat.mod_one]
  | succ k ih =>
    simp only [fixB, unfN, fixB_length, ih, UInt8.toNat_ofNat']
    have e : n % 256 ^ (k + 1) = n % 256 ^ k + 256 ^ k * (n / 256 ^ k % 256) := by rw [Nat.pow_succ, Nat.mod_mul]
    rw [e, show 2 ^ 8 = 256 from rfl, Nat.mul_comm (256 ^ k)]
    omega
theorem pow256_le (k : Nat) (h : k ≤ 8) : 256 ^ k ≤ 18446744073709551616 := by
  have : 256 ^ k ≤ 256 ^ 8 := Nat.pow_le_pow_right (by decide) h
  omega
theorem pow256_lt (k : Nat) (h : k < 8) : 256 ^ k ≤ 72057594037927936 := by
  have : 256 ^ k ≤ 256 ^ 7 := Nat.pow_le_pow_right (by decide) (by omega)
  omega
theorem pow2_8 (k : Nat) : 2 ^ (8 * k) = 256 ^ k := by rw [Nat.pow_mul]
theorem take_next (l : List UInt8) (k : Nat) (h : k < l.length) : l.take (k + 1) = l.take k ++ [l[k]] := List.take_succ_eq_append_getElem h
theorem unf_step (s : ByteArray) (k : Nat) (h : k < s.size) : unfN (s.data.toList.take (k + 1)) = unfN (s.data.toList.take k) * 256 + s[k].toNat := by
  rw [take_next _ _ (by simpa using h), unfN_snoc]; rfl
theorem unf_or (m b : Nat) (hm : m < 72057594037927936) (hb : b < 256) : bits .or .u64 (IntKind.u64.wrap ((m : Int) * 256)) (IntKind.u64.wrap (b : Int)) = ((m * 256 + b : Nat) : Int) := by
  rw [wrap_u64_of _ (by omega) (by omega), wrap_u64_of (b : Int) (by omega) (by omega), show (m : Int) * 256 = ((m * 256 : Nat) : Int) by omega, u64_or_nat _ _ (by omega) (by omega), nat_join 8 _ _ (by omega) (by omega)]
/-- from the end on -/
theorem unf_drop (s : ByteArray) (j : Nat) (h : j < s.size) : unfN (s.data.toList.drop j) = s[j].toNat * 256 ^ (s.size - 1 - j) + unfN (s.data.toList.drop (j + 1)) := by
  have hl : j < s.data.toList.length := by simpa using h
  rw [List.drop_eq_getElem_cons hl, unfN, List.length_drop]
  have e : s.data.toList.length - (j + 1) = s.size - 1 - j := by
    rw [Array.length_toList]; show s.size - (j + 1) = _; omega
  rw [e]
  rfl
theorem div256 (n k : Nat) : n / 256 ^ (k + 1) = n / 256 ^ k / 256 := by rw [Nat.pow_succ, Nat.div_div_eq_div_mul]
end Go.Proofs.YtbakgobgjfhhhaaDoor
