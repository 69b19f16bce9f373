/- Bits as a list of ints. -/
import Derived.Test.YtganplceeapjcaaReadMath
import Derived.Test.YtganplceeapjcaaGrow
import Derived.Test.YtganplceeapjcaaWds
import Derived.Deep.OwnRows
import Derived.Laws.Rows
namespace Go.Proofs.Ytganplceeapjcaa
open Go.RowKit

theorem infoIntB : (Try.prog.info? 3).map (fun i => (i.zero, i.size, i.bytes)) = some (some (.int .i64 0), 1, 8) := by kernel_rfl
/-- the bits of a number, from bit a on -/
def bitsC (X k : Nat) : List Value := (List.range k).map fun i => .int .i64 ((X / 2 ^ i % 2 : Nat) : Int)
theorem bitsC_succ (X k : Nat) : bitsC X (k + 1) = bitsC X k ++ [.int .i64 ((X / 2 ^ k % 2 : Nat) : Int)] := by simp [bitsC, List.range_succ]
theorem two_bits (a b : Nat) (h : decide (a % 2 = 1) = decide (b % 2 = 1)) : a % 2 = b % 2 := by
  have h1 := Nat.mod_two_eq_zero_or_one a
  have h2 := Nat.mod_two_eq_zero_or_one b
  rcases h1 with h1 | h1 <;> rcases h2 with h2 | h2 <;> simp_all
theorem bit_txt (l : List UInt8) (j t : Nat) (ht : t < 8) : txtN l / 2 ^ (8 * j + t) % 2 = (l.getD j 0).toNat / 2 ^ t % 2 := by
  have h := txtN_bit l j t ht
  rw [Nat.testBit_eq_decide_div_mod_eq, Nat.testBit_eq_decide_div_mod_eq] at h
  exact two_bits _ _ h
theorem i64_and1' (q : Nat) (h : q < 9223372036854775808) : bits .and .i64 (q : Int) 1 = ((q % 2 : Nat) : Int) := by
  have e : (BitVec.ofInt 64 (q : Int) &&& BitVec.ofInt 64 1).toNat = q % 2 := by
    rw [BitVec.toNat_and, BitVec.ofInt_natCast, BitVec.toNat_ofNat, Nat.mod_eq_of_lt (by omega), show (BitVec.ofInt 64 1).toNat = 1 by decide, Nat.and_one_is_mod]
  show IntKind.i64.wrap ((BitVec.ofInt 64 (q : Int) &&& BitVec.ofInt 64 1).toNat : Nat) = _
  rw [e, IntKind.wrap_i64]
  omega
theorem bit_val (b : UInt8) (q : Nat) : bits .and .i64 (wrap64 ((b.toNat : Nat) : Int) / 2 ^ q) 1 = ((b.toNat / 2 ^ q % 2 : Nat) : Int) := by
  have hb := b.toNat_lt
  have e : wrap64 ((b.toNat : Nat) : Int) = ((b.toNat : Nat) : Int) := by
    unfold wrap64; omega
  have hle := Nat.div_le_self b.toNat (2 ^ q)
  rw [e, show ((b.toNat : Nat) : Int) / 2 ^ q = ((b.toNat / 2 ^ q : Nat) : Int) by simp, i64_and1' _ (by omega)]
theorem below_grow' {w wr w1 : World} {N k : Nat} {e : TypeId} {v : Value} {xs : List Value} {o : Obj} (hown : wr.ownsRow N e 1 v k xs) (hbl : Below N w wr) (hN : N ≤ wr.heap.size) (hg : (wr.alloc o).grownBy w1 v.ownBlock) : Below N w w1 :=
  (hbl.alloc hN o).grown hg (by simp; omega) fun j hj => (hown.lt j hj).1

theorem getN_step (X a m : Nat) : getN X a (m + 1) = 2 * getN X (a + 1) m + X / 2 ^ a % 2 := by
  unfold getN
  rw [Nat.pow_succ, Nat.mul_comm (2 ^ m) 2, Nat.mod_mul, Nat.pow_succ, Nat.div_div_eq_div_mul]
  omega
/-- what is left of the bits -/
structure BV (w : World) (v : Value) (X a rem : Nat) : Prop where
  is : ∃ ao cap, v = .slice ao rem cap ∧ rem ≤ cap ∧ (0 < rem → ∃ g off, ao = some ⟨g, off, none⟩ ∧ g < w.heap.size ∧ ∀ i, i < rem → w.cell? ⟨g, off + i, none⟩ = some (.int .i64 ((X / 2 ^ (a + i) % 2 : Nat) : Int)))
theorem bv_of_own {w : World} {N n X : Nat} {v : Value} (h : w.ownsRow N 3 1 v n (bitsC X n)) : BV w v X 0 n := by
  rcases h.2 with ⟨rfl, rfl⟩ | ⟨g, cap, cur, rfl, _, hg, hc, _, _, _⟩
  · exact ⟨none, 0, rfl, Nat.le_refl _, fun hp => by omega⟩
  · refine ⟨some ⟨g, 0, none⟩, cap, rfl, hc, fun _ => ⟨g, 0, rfl, (Array.getElem?_eq_some_iff.1 hg).1, fun i hi => ?_⟩⟩
    rw [Nat.zero_add, h.cellAt i (by omega)]
    simp [bitsC, hi]
theorem bv_next {w : World} {bo : Option Addr} {rem bc X a wd : Nat} (hr : wd ≤ rem) (hb : rem ≤ bc) (hc : 0 < rem → ∃ g off, bo = some ⟨g, off, none⟩ ∧ g < w.heap.size ∧ ∀ i, i < rem → w.cell? ⟨g, off + i, none⟩ = some (.int .i64 ((X / 2 ^ (a + i) % 2 : Nat) : Int))) :
    BV w (.slice (if bc = wd then bo else bo.map (·.add wd)) (rem - wd) (bc - wd)) X (a + wd) (rem - wd) := by
  refine ⟨_, _, rfl, by omega, fun hp => ?_⟩
  obtain ⟨g, off, rfl, hg, hcc⟩ := hc (by omega)
  rw [if_neg (by omega)]
  refine ⟨g, off + wd, by unfold Addr.add; simp, hg, fun i hi => ?_⟩
  rw [Nat.add_assoc, Nat.add_assoc]
  exact hcc (wd + i) (by omega)
end Go.Proofs.Ytganplceeapjcaa
