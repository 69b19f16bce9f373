/- Reading an inode, place by place. No Go in sight. -/
import Derived.Test.YtbailfianjmflaaPlMath
namespace Go.Proofs.Ytbailfianjmflaa

theorem prP_app (a b : List UInt8) (h : a.length % 2 = 0) : prP (a ++ b) = prP a ++ prP b := by
  induction a using two_ind with
  | h0 => simp [prP]
  | h1 x => simp at h
  | h2 u v t ih =>
    have : t.length % 2 = 0 := by simp only [List.length_cons] at h; omega
    rw [List.cons_append, List.cons_append, prP_cons, prP_cons, ih this]; rfl
/-- the first k places -/
def frP (s : List UInt8) (k : Nat) : List Pla := prP ((s.drop 7).take (2 * k))
theorem frP_zero (s : List UInt8) : frP s 0 = [] := by simp [frP, prP]
theorem frP_len {s : List UInt8} {k : Nat} (h : 7 + 2 * k ≤ s.length) : (frP s k).length = k := by
  unfold frP
  rw [prP_len, List.length_take, List.length_drop]; omega
theorem frP_next {s : List UInt8} {k : Nat} {x y : UInt8} {r : List UInt8} (h : s.drop (7 + 2 * k) = x :: y :: r) : frP s (k + 1) = frP s k ++ [rpl x y] := by
  have hl := congrArg List.length h
  rw [List.length_drop] at hl
  simp only [List.length_cons] at hl
  unfold frP
  have e : (s.drop 7).take (2 * (k + 1)) = (s.drop 7).take (2 * k) ++ [x, y] := by
    rw [show 2 * (k + 1) = 2 * k + 2 by omega, List.take_add, List.drop_drop, h]; rfl
  rw [e, prP_snoc _ _ _ (by rw [List.length_take, List.length_drop]; omega)]
theorem frP_all {s : List UInt8} {k : Nat} (h : s.length = 7 + 2 * k) : frP s k = (parI s).ps := by
  unfold frP parI
  rw [List.take_of_length_le (by rw [List.length_drop]; omega)]
theorem readI_end {s : List UInt8} {k : Nat} (h : s.length = 7 + 2 * k) : readI s = if chkI (parI s) = 0 then some (parI s) else none := by
  unfold readI
  by_cases hc : chkI (parI s) = 0
  · rw [if_pos hc, if_pos ⟨by omega, by omega, hc⟩]
  · rw [if_neg hc, if_neg (fun h => hc h.2.2)]
theorem readI_bad {s : List UInt8} {k : Nat} (h7 : 7 + 2 * k < s.length) (hb : ∀ x y r, s.drop (7 + 2 * k) = x :: y :: r → rtB (rpl x y) = false) : readI s = none := by
  cases hr : readI s with
  | none => rfl
  | some i =>
    unfold readI at hr
    split at hr
    · next hh =>
      have hl : (s.drop (7 + 2 * k)).length = s.length - (7 + 2 * k) := List.length_drop ..
      match hd : s.drop (7 + 2 * k) with
      | [] => rw [hd] at hl; simp at hl; omega
      | [x] => rw [hd] at hl; simp at hl; omega
      | x :: y :: r =>
        have hf := hb x y r hd
        have ho := (chkI_ok hh.2.2).r (rpl x y) (by
          show rpl x y ∈ prP (s.drop 7)
          have e : s.drop 7 = (s.drop 7).take (2 * k) ++ (x :: y :: r) := by
            conv => lhs; rw [← List.take_append_drop (2 * k) (s.drop 7)]
            rw [List.drop_drop, hd]
          rw [e, prP_app _ _ (by rw [List.length_take, List.length_drop]; omega), prP_cons]
          simp)
        rw [hf] at ho; cases ho
    · cases hr
theorem readI_short {s : List UInt8} (h : s.length < 7) : readI s = none := by
  unfold readI
  rw [if_neg (fun hh => by omega)]
/-- what is answered, as an inode -/
def rdI (s : List UInt8) : Ino := (readI s).getD ⟨0, 0, 0, []⟩
def rdIE (s : List UInt8) : Int := if readI s = none then 4 else 0
theorem rdI_no {s : List UInt8} (h : readI s = none) : rdI s = ⟨0, 0, 0, []⟩ ∧ rdIE s = 4 := by unfold rdI rdIE; rw [h, if_pos rfl]; exact ⟨rfl, rfl⟩
theorem rdI_yes {s : List UInt8} {i : Ino} (h : readI s = some i) : rdI s = i ∧ rdIE s = 0 := by unfold rdI rdIE; rw [h, if_neg (by simp)]; exact ⟨rfl, rfl⟩
end Go.Proofs.Ytbailfianjmflaa
