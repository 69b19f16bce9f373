/- Plain facts on sums of texts one behind the other, and of texts bit by bit. No Go in sight. -/
import Derived.Test.YtjfkbkhfnnmbnabDoorCrcMath
namespace Go.Proofs.YtjfkbkhfnnmbnabDoor

theorem not_eq_xor (c : BitVec 32) : ~~~c = c ^^^ BitVec.allOnes 32 := (BitVec.xor_allOnes).symm
theorem nn (c : BitVec 32) : ~~~(~~~c) = c := by simp
theorem not_xor (c d : BitVec 32) : ~~~(c ^^^ d) = ~~~c ^^^ d := by
  rw [not_eq_xor, not_eq_xor, BitVec.xor_assoc, BitVec.xor_assoc, BitVec.xor_comm d]
theorem more_append (c : BitVec 32) (l m : List UInt8) : moreC (moreC c l) m = moreC c (l ++ m) := by
  unfold moreC
  rw [nn, feed_append]
theorem feed_xor (x y : BitVec 32) (l : List UInt8) : feed (x ^^^ y) l = feed x l ^^^ stps (8 * l.length) y := by
  induction l generalizing x y with
  | nil => rfl
  | cons b l ih =>
    show feed (byte1 (x ^^^ y) b) l = feed (byte1 x b) l ^^^ _
    have e : byte1 (x ^^^ y) b = byte1 x b ^^^ stps 8 y := by
      unfold byte1
      rw [← stps_xor, BitVec.xor_assoc, BitVec.xor_assoc, BitVec.xor_comm y]
    rw [e, ih, ← stps_add]
    congr 2
    simp only [List.length_cons]; omega
theorem more_sum (l m : List UInt8) : moreC (sumC l) m = sumC (l ++ m) := more_append 0 l m
theorem more_zero (l : List UInt8) : sumC l = ~~~(feed (BitVec.allOnes 32) l) := by
  unfold sumC moreC; rw [show ~~~(0 : BitVec 32) = BitVec.allOnes 32 by decide]
theorem join_more (l m : List UInt8) : stps (8 * m.length) (sumC l) ^^^ sumC m = sumC (l ++ m) := by
  rw [more_zero (l ++ m), feed_append, more_zero m, more_zero l]
  generalize feed (BitVec.allOnes 32) l = a
  rw [BitVec.xor_comm, ← not_xor, ← feed_xor, not_eq_xor a, BitVec.xor_comm a, ← BitVec.xor_assoc, BitVec.xor_self, BitVec.zero_xor]
theorem known : sumC [49, 50, 51, 52, 53, 54, 55, 56, 57] = 0xe3069283#32 := by decide +kernel
end Go.Proofs.YtjfkbkhfnnmbnabDoor
