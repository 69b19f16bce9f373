/- Bodies with a sum, as lists. No Go in sight. -/
import Derived.Test.YtbakgobgjfhhhaaDoorFixMath
import Derived.Test.YtbakgobgjfhhhaaDoorForceMath
namespace Go.Proofs.YtbakgobgjfhhhaaDoor

/-- a text's sum in four bytes, its lowest first -/
def leC (l : List UInt8) : List UInt8 := [byteAt (sumC l) 0, byteAt (sumC l) 1, byteAt (sumC l) 2, byteAt (sumC l) 3]
theorem leC_len (l : List UInt8) : (leC l).length = 4 := rfl
theorem le_rev (l : List UInt8) : (fixB (sumC l).toNat 4).reverse = leC l := by
  unfold leC byteAt
  simp only [fixB, List.reverse_cons, List.reverse_nil, List.nil_append, List.cons_append, pow2_8]
/-- what stands ahead of the sum -/
def bodS (k n : Nat) (b : List UInt8) : List UInt8 := fixB k 1 ++ fixB n 4 ++ fixB b.length 2 ++ b
def selS (k n : Nat) (b : List UInt8) : List UInt8 := bodS k n b ++ leC (bodS k n b)
theorem bodS_len (k n : Nat) (b : List UInt8) : (bodS k n b).length = 7 + b.length := by
  unfold bodS
  simp only [List.length_append, fixB_length]
theorem selS_len (k n : Nat) (b : List UInt8) : (selS k n b).length = 11 + b.length := by
  unfold selS
  rw [List.length_append, bodS_len, leC_len]; omega
/-- kinds and serials that may be -/
def mayS (k n : Int) : Bool := decide ((k = 1 ∨ k = 2) ∧ 0 ≤ n ∧ n ≤ 2147483647)
theorem mayS_iff (k n : Int) : mayS k n = true ↔ (k = 1 ∨ k = 2) ∧ 0 ≤ n ∧ n ≤ 2147483647 := by unfold mayS; exact decide_eq_true_iff
/-- what Seal answers -/
def selE (k n : Int) (z : Nat) : Int := if mayS k n = true then (if 1000 < z then 2 else 0) else 1
theorem selE_ok {k n : Int} {z : Nat} (h : selE k n z = 0) : ((k = 1 ∨ k = 2) ∧ 0 ≤ n ∧ n ≤ 2147483647) ∧ z ≤ 1000 := by
  unfold selE at h
  split at h
  · rename_i hm
    split at h
    · omega
    · exact ⟨(mayS_iff k n).1 hm, by omega⟩
  · omega
/-- a text whose last four bytes are the sum of those ahead -/
def Good (l : List UInt8) : Prop := leC (l.take (l.length - 4)) = l.drop (l.length - 4)
def resid : BitVec 32 := ~~~(stps 32 (BitVec.allOnes 32))
theorem more_appendS (c : BitVec 32) (l m : List UInt8) : moreC (moreC c l) m = moreC c (l ++ m) := by
  unfold moreC
  rw [not_not, feed_append]
/-- behind its own sum every text has one and the same -/
theorem sum_resid (l : List UInt8) : sumC (l ++ leC l) = resid := by
  unfold sumC
  rw [← more_appendS]
  show moreC (sumC l) (leC l) = resid
  unfold leC moreC resid
  rw [feed_four, word_bytes, show ~~~(sumC l) = BitVec.allOnes 32 ^^^ sumC l by rw [BitVec.xor_comm]; exact BitVec.xor_allOnes.symm, BitVec.xor_assoc, BitVec.xor_self, BitVec.xor_zero]
theorem good_sum {l : List UInt8} (h : Good l) : sumC l = resid := by
  unfold Good at h
  have e := List.take_append_drop (l.length - 4) l
  rw [← h] at e
  rw [← e]; exact sum_resid _
theorem selS_good (k n : Nat) (b : List UInt8) : Good (selS k n b) := by
  unfold Good
  rw [selS_len, show 11 + b.length - 4 = (bodS k n b).length by rw [bodS_len]; omega]
  unfold selS
  rw [List.take_left, List.drop_left]
/-- what Open takes from a text -/
def kiS (l : List UInt8) : Nat := unfN (l.take 1)
def srS (l : List UInt8) : Nat := unfN ((l.drop 1).take 4)
def ctS (l : List UInt8) : Nat := unfN ((l.drop 5).take 2)
def bdS (l : List UInt8) : List UInt8 := (l.take (l.length - 4)).drop 7
def opE (l : List UInt8) : Int :=
  if l.length < 11 then 3 else if 1011 < l.length then 2
  else if leC (l.take (l.length - 4)) = l.drop (l.length - 4) then (if mayS (kiS l : Nat) (srS l : Nat) = true ∧ ctS l = l.length - 11 then 0 else 4) else 5
theorem opE_ok {l : List UInt8} (h : opE l = 0) : (11 ≤ l.length ∧ l.length ≤ 1011) ∧ Good l ∧ mayS (kiS l : Nat) (srS l : Nat) = true ∧ ctS l = l.length - 11 := by
  unfold opE at h
  split at h
  · omega
  · split at h
    · omega
    · split at h
      · split at h
        · rename_i h1 h2 h3 h4
          exact ⟨⟨by omega, by omega⟩, h3, h4.1, h4.2⟩
        · omega
      · omega
theorem fixB_unfN (l : List UInt8) : fixB (unfN l) l.length = l := by
  induction l with
  | nil => rfl
  | cons b r ih =>
    have hlt := unfN_lt r
    have h1 : (b.toNat * 256 ^ r.length + unfN r) / 256 ^ r.length = b.toNat := by
      rw [Nat.mul_comm, Nat.mul_add_div (Nat.pow_pos (by decide)), Nat.div_eq_of_lt hlt, Nat.add_zero]
    have h2 : ∀ k, k ≤ r.length → fixB (b.toNat * 256 ^ r.length + unfN r) k = fixB (unfN r) k := by
      intro k hk
      induction k with
      | zero => rfl
      | succ k ihk =>
        rw [fixB, fixB, ihk (by omega)]
        congr 1
        apply UInt8.toNat_inj.1
        rw [UInt8.toNat_ofNat', UInt8.toNat_ofNat']
        obtain ⟨j, hj⟩ : ∃ j, r.length = k + 1 + j := ⟨r.length - (k + 1), by omega⟩
        have e : b.toNat * 256 ^ r.length = 256 ^ k * (256 * (b.toNat * 256 ^ j)) := by
          rw [hj, Nat.pow_add, Nat.pow_add, Nat.pow_one]; ac_rfl
        rw [e, Nat.mul_add_div (Nat.pow_pos (by decide)), Nat.mul_add_mod]
    show fixB (b.toNat * 256 ^ r.length + unfN r) (r.length + 1) = _
    rw [fixB, h1, h2 _ (Nat.le_refl _), ih, UInt8.ofNat_toNat]
theorem unf_small (n k : Nat) (h : n < 256 ^ k) : unfN (fixB n k) = n := by rw [unfN_fixB, Nat.mod_eq_of_lt h]
/-- what was sealed, taken apart -/
theorem parts_sel (k n : Nat) (b : List UInt8) (hk : k < 256) (hn : n < 4294967296) (hb : b.length < 65536) : kiS (selS k n b) = k ∧ srS (selS k n b) = n ∧ ctS (selS k n b) = b.length ∧ bdS (selS k n b) = b := by
  have l1 := fixB_length k 1
  have l2 := fixB_length n 4
  have l3 := fixB_length b.length 2
  have e : selS k n b = fixB k 1 ++ (fixB n 4 ++ (fixB b.length 2 ++ (b ++ leC (bodS k n b)))) := by
    unfold selS
    generalize leC (bodS k n b) = T
    unfold bodS; simp only [List.append_assoc]
  have hd1 : (selS k n b).drop 1 = fixB n 4 ++ (fixB b.length 2 ++ (b ++ leC (bodS k n b))) := by rw [e, List.drop_append_of_le_length (by omega), List.drop_of_length_le (by omega), List.nil_append]
  have hd5 : (selS k n b).drop 5 = fixB b.length 2 ++ (b ++ leC (bodS k n b)) := by
    rw [show (5 : Nat) = 1 + 4 by rfl, ← List.drop_drop, hd1, List.drop_append_of_le_length (by omega), List.drop_of_length_le (by omega), List.nil_append]
  refine ⟨?_, ?_, ?_, ?_⟩
  · unfold kiS
    rw [e, List.take_append_of_le_length (by omega), List.take_of_length_le (by omega), unf_small k 1 (by omega)]
  · unfold srS
    rw [hd1, List.take_append_of_le_length (by omega), List.take_of_length_le (by omega), unf_small n 4 (by omega)]
  · unfold ctS
    rw [hd5, List.take_append_of_le_length (by omega), List.take_of_length_le (by omega), unf_small b.length 2 (by omega)]
  · unfold bdS
    rw [selS_len, show 11 + b.length - 4 = (bodS k n b).length by rw [bodS_len]; omega]
    unfold selS
    rw [List.take_left]
    unfold bodS
    rw [List.drop_append_of_le_length (by simp only [List.length_append, fixB_length]; omega), List.drop_of_length_le (by simp only [List.length_append, fixB_length]; omega), List.nil_append]
theorem bd_len {l : List UInt8} (h : 11 ≤ l.length) : (bdS l).length = l.length - 11 := by unfold bdS; rw [List.length_drop, List.length_take]; omega
/-- a text is what Seal makes of its parts just where their number fits -/
theorem sel_parts {l : List UInt8} (h : 11 ≤ l.length) (hg : Good l) : selS (kiS l) (srS l) (bdS l) = l ↔ fixB (bdS l).length 2 = (l.drop 5).take 2 := by
  have e0 : l.take 1 = fixB (kiS l) 1 := by
    have := fixB_unfN (l.take 1)
    rw [show (l.take 1).length = 1 by rw [List.length_take]; omega] at this
    exact this.symm
  have e1 : (l.drop 1).take 4 = fixB (srS l) 4 := by
    have := fixB_unfN ((l.drop 1).take 4)
    rw [show ((l.drop 1).take 4).length = 4 by rw [List.length_take, List.length_drop]; omega] at this
    exact this.symm
  have eall : l.take (l.length - 4) = l.take 1 ++ (l.drop 1).take 4 ++ (l.drop 5).take 2 ++ bdS l := by
    unfold bdS
    apply List.ext_getElem?
    intro j
    have s1 : (l.take 1).length = 1 := by rw [List.length_take]; omega
    have s2 : ((l.drop 1).take 4).length = 4 := by rw [List.length_take, List.length_drop]; omega
    have s3 : ((l.drop 5).take 2).length = 2 := by rw [List.length_take, List.length_drop]; omega
    by_cases h1 : j < 1
    · rw [List.getElem?_append_left (by simp only [List.length_append]; omega), List.getElem?_append_left (by simp only [List.length_append]; omega), List.getElem?_append_left (by omega), List.getElem?_take_of_lt h1, List.getElem?_take_of_lt (by omega)]
    · by_cases h2 : j < 5
      · rw [List.getElem?_append_left (by simp only [List.length_append]; omega), List.getElem?_append_left (by simp only [List.length_append]; omega), List.getElem?_append_right (by omega), s1, List.getElem?_take_of_lt (by omega), List.getElem?_take_of_lt (by omega), List.getElem?_drop, show 1 + (j - 1) = j by omega]
      · by_cases h3 : j < 7
        · rw [List.getElem?_append_left (by simp only [List.length_append]; omega), List.getElem?_append_right (by simp only [List.length_append]; omega), List.length_append, s1, s2, List.getElem?_take_of_lt (by omega), List.getElem?_take_of_lt (by omega), List.getElem?_drop, show 5 + (j - (1 + 4)) = j by omega]
        · rw [List.getElem?_append_right (by simp only [List.length_append]; omega), List.length_append, List.length_append, s1, s2, s3, List.getElem?_drop, show 7 + (j - (1 + 4 + 2)) = j by omega]
  have ebod : bodS (kiS l) (srS l) (bdS l) = l.take 1 ++ (l.drop 1).take 4 ++ fixB (bdS l).length 2 ++ bdS l := by unfold bodS; rw [e0, e1]
  have esum : l = l.take (l.length - 4) ++ leC (l.take (l.length - 4)) := by
    have e := List.take_append_drop (l.length - 4) l
    unfold Good at hg
    rw [hg]; exact e.symm
  constructor
  · intro he
    have hb : bodS (kiS l) (srS l) (bdS l) = l.take (l.length - 4) := by
      have h1 := congrArg (List.take (l.length - 4)) he
      rw [show l.length - 4 = (bodS (kiS l) (srS l) (bdS l)).length by rw [bodS_len, bd_len h]; omega] at h1
      unfold selS at h1
      rw [List.take_left] at h1
      rw [h1, bodS_len, bd_len h, show 7 + (l.length - 11) = l.length - 4 by omega]
    rw [ebod, eall] at hb
    have s3 : ((l.drop 5).take 2).length = 2 := by rw [List.length_take, List.length_drop]; omega
    have h2 := List.append_inj_left hb (by simp only [List.length_append, fixB_length]; omega)
    exact List.append_inj_right h2 rfl
  · intro hc
    have hb : bodS (kiS l) (srS l) (bdS l) = l.take (l.length - 4) := by rw [ebod, eall, hc]
    unfold selS
    rw [hb]; exact esum.symm
theorem count_iff {l : List UInt8} (h : 11 ≤ l.length) (h2 : l.length ≤ 1011) : fixB (bdS l).length 2 = (l.drop 5).take 2 ↔ ctS l = l.length - 11 := by
  have hl : ((l.drop 5).take 2).length = 2 := by rw [List.length_take, List.length_drop]; omega
  unfold ctS
  constructor
  · intro he
    rw [← he, unf_small _ _ (by rw [bd_len h]; omega), bd_len h]
  · intro he
    have := fixB_unfN ((l.drop 5).take 2)
    rw [hl, he] at this
    rw [bd_len h]; exact this
/-- Open answers just where Seal makes the text -/
theorem open_iff {l : List UInt8} (h : 11 ≤ l.length) (h2 : l.length ≤ 1011) (hg : Good l) : (selE (kiS l : Nat) (srS l : Nat) (bdS l).length = 0 ∧ selS (kiS l) (srS l) (bdS l) = l) ↔ opE l = 0 := by
  rw [sel_parts h hg, count_iff h h2]
  unfold opE selE
  unfold Good at hg
  have hz := bd_len h
  have n1 : ¬ l.length < 11 := by omega
  have n2 : ¬ 1011 < l.length := by omega
  have n3 : ¬ 1000 < (bdS l).length := by omega
  rw [if_neg n1, if_neg n2, if_pos hg, if_neg n3]
  by_cases hm : mayS (kiS l : Nat) (srS l : Nat) = true
  · rw [if_pos hm]
    by_cases hc : ctS l = l.length - 11
    · rw [if_pos ⟨hm, hc⟩]; exact ⟨fun _ => rfl, fun _ => ⟨rfl, hc⟩⟩
    · rw [if_neg (fun h => hc h.2)]; exact ⟨fun h => absurd h.2 hc, fun h => absurd h (by decide)⟩
  · rw [if_neg hm, if_neg (fun h => hm h.1)]; exact ⟨fun h => absurd h.1 (by decide), fun h => absurd h (by decide)⟩
/-- what is sealed is opened -/
theorem open_sel {k n : Nat} {b : List UInt8} (h : selE (k : Int) (n : Int) b.length = 0) : opE (selS k n b) = 0 ∧ kiS (selS k n b) = k ∧ srS (selS k n b) = n ∧ bdS (selS k n b) = b := by
  obtain ⟨⟨h1, h2, h3⟩, h4⟩ := selE_ok h
  obtain ⟨p1, p2, p3, p4⟩ := parts_sel k n b (by omega) (by omega) (by omega)
  have hl := selS_len k n b
  refine ⟨?_, p1, p2, p4⟩
  refine (open_iff (by omega) (by omega) (selS_good k n b)).1 ⟨?_, ?_⟩
  · rw [p1, p2, p4]; exact h
  · rw [p1, p2, p4]
end Go.Proofs.YtbakgobgjfhhhaaDoor
