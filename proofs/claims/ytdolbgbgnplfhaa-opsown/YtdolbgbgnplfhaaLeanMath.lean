/- What ops.Lean keeps. -/
import Derived.Test.YtdolbgbgnplfhaaDkMath
namespace Go.Proofs.Ytdolbgbgnplfhaa

/-- does a write to p stand in what follows, with nothing but writes ahead of it? -/
def metT (p : Int) : List Opp → Bool
  | [] => false
  | o :: t => if o.kd = 1 then (if o.pl = p then true else metT p t) else false
/-- does the op at i stay? -/
def stayB (l : List Opp) (i : Nat) : Bool := if (l.getD i noOp).kd = 1 then !metT (l.getD i noOp).pl (l.drop (i + 1)) else true
/-- what stays -/
def leanL : List Opp → List Opp
  | [] => []
  | o :: t => if o.kd = 1 ∧ metT o.pl t = true then leanL t else o :: leanL t
theorem leanL_cons (o : Opp) (t : List Opp) : leanL (o :: t) = if o.kd = 1 ∧ metT o.pl t = true then leanL t else o :: leanL t := rfl
theorem metT_nil (p : Int) : metT p [] = false := rfl
theorem metT_hit (p : Int) (o : Opp) (t : List Opp) (h1 : o.kd = 1) (h2 : o.pl = p) : metT p (o :: t) = true := by simp [metT, h1, h2]
theorem metT_on (p : Int) (o : Opp) (t : List Opp) (h1 : o.kd = 1) (h2 : ¬ o.pl = p) : metT p (o :: t) = metT p t := by simp [metT, h1, h2]
theorem metT_end (p : Int) (o : Opp) (t : List Opp) (h1 : ¬ o.kd = 1) : metT p (o :: t) = false := by simp [metT, h1]
theorem stayB_other {l : List Opp} {i : Nat} (h : ¬ (l.getD i noOp).kd = 1) : stayB l i = true := by simp only [stayB, h, if_false]
theorem stayB_write {l : List Opp} {i : Nat} (h : (l.getD i noOp).kd = 1) : stayB l i = !metT (l.getD i noOp).pl (l.drop (i + 1)) := by simp only [stayB, h, if_true]
theorem drop_cons_op (l : List Opp) (k : Nat) (h : k < l.length) : l.drop k = l.getD k noOp :: l.drop (k + 1) := by
  rw [List.drop_eq_getElem_cons h, List.getD_eq_getElem?_getD, List.getElem?_eq_getElem h]; rfl
/-- what stays of the ops from i on, one by one -/
theorem leanL_at (l : List Opp) (i : Nat) (h : i < l.length) : leanL (l.drop i) = if stayB l i then l.getD i noOp :: leanL (l.drop (i + 1)) else leanL (l.drop (i + 1)) := by
  rw [drop_cons_op l i h, leanL_cons]
  by_cases h1 : (l.getD i noOp).kd = 1
  · rw [stayB_write h1]
    cases hm : metT (l.getD i noOp).pl (l.drop (i + 1)) with
    | true => rw [if_pos ⟨h1, rfl⟩]; rfl
    | false => rw [if_neg (fun h => absurd h.2 (by simp))]; rfl
  · rw [stayB_other h1, if_neg (fun h => h1 h.1)]; rfl
/-- what stays of the first i, and of the others -/
def frontL (l : List Opp) (i : Nat) : List Opp := ((List.range i).filter (stayB l)).map (fun k => l.getD k noOp)
theorem frontL_zero (l : List Opp) : frontL l 0 = [] := rfl
theorem frontL_snoc (l : List Opp) (i : Nat) : frontL l (i + 1) = frontL l i ++ (if stayB l i then [l.getD i noOp] else []) := by
  unfold frontL
  rw [List.range_succ, List.filter_append, List.map_append]
  cases h : stayB l i <;> simp [h]
theorem leanL_front (l : List Opp) (i : Nat) (h : i ≤ l.length) : frontL l i ++ leanL (l.drop i) = leanL l := by
  induction i with
  | zero => rfl
  | succ i ih =>
    rw [← ih (by omega), leanL_at l i (by omega), frontL_snoc, List.append_assoc]
    cases h : stayB l i <;> simp
theorem leanL_all (l : List Opp) : frontL l l.length = leanL l := by
  have := leanL_front l l.length (Nat.le_refl _)
  rw [List.drop_length] at this
  simpa [leanL] using this
theorem leanL_length (l : List Opp) : (leanL l).length ≤ l.length := by
  induction l with
  | nil => exact Nat.le_refl _
  | cons o t ih =>
    rw [leanL_cons]
    split <;> simp only [List.length_cons] <;> omega
/-- the map of the last writes behind i, and where the next op stands that is no write: what they say of a cell -/
def nxtM (p : Int) (i : Nat) : List Opp → Option Nat
  | [] => none
  | o :: t => if o.kd = 1 ∧ o.pl = p then some i else nxtM p (i + 1) t
def endM (i : Nat) : List Opp → Nat
  | [] => i
  | o :: t => if o.kd = 1 then endM (i + 1) t else i
theorem nxtM_ge (p : Int) (l : List Opp) (i j : Nat) (h : nxtM p i l = some j) : i ≤ j := by
  induction l generalizing i with
  | nil => exact absurd h (by simp [nxtM])
  | cons o t ih =>
    unfold nxtM at h
    split at h
    · exact Nat.le_of_eq (Option.some.inj h)
    · have := ih (i + 1) h; omega
theorem endM_ge (l : List Opp) (i : Nat) : i ≤ endM i l := by
  induction l generalizing i with
  | nil => exact Nat.le_refl _
  | cons o t ih =>
    unfold endM
    split
    · have := ih (i + 1); omega
    · exact Nat.le_refl _
theorem nxtM_cons (p : Int) (o : Opp) (t : List Opp) (i : Nat) : nxtM p i (o :: t) = if o.kd = 1 ∧ o.pl = p then some i else nxtM p (i + 1) t := rfl
theorem endM_cons (o : Opp) (t : List Opp) (i : Nat) : endM i (o :: t) = if o.kd = 1 then endM (i + 1) t else i := rfl
/-- the test of ops.Lean is the document's -/
theorem met_next (p : Int) (l : List Opp) (i : Nat) : metT p l = true ↔ ∃ j, nxtM p i l = some j ∧ j < endM i l := by
  induction l generalizing i with
  | nil => simp [metT, nxtM]
  | cons o t ih =>
    by_cases h1 : o.kd = 1
    · by_cases h2 : o.pl = p
      · rw [metT_hit p o t h1 h2]
        have := endM_ge t (i + 1)
        rw [nxtM_cons, endM_cons, if_pos ⟨h1, h2⟩, if_pos h1]
        exact ⟨fun _ => ⟨i, rfl, by omega⟩, fun _ => rfl⟩
      · rw [metT_on p o t h1 h2, ih (i + 1)]
        rw [nxtM_cons, endM_cons, if_neg (fun h => h2 h.2), if_pos h1]
    · rw [metT_end p o t h1, nxtM_cons, endM_cons, if_neg (fun h => h1 h.1), if_neg h1]
      constructor
      · intro h; exact absurd h (by simp)
      · rintro ⟨j, hj, hlt⟩
        have := nxtM_ge p t (i + 1) j hj
        omega
/-- what is lean stays as it is -/
theorem met_lean (p : Int) (l : List Opp) : metT p (leanL l) = metT p l := by
  induction l generalizing p with
  | nil => rfl
  | cons o t ih =>
    by_cases h1 : o.kd = 1
    · cases hm : metT o.pl t with
      | true =>
        have e : leanL (o :: t) = leanL t := by rw [leanL_cons, if_pos ⟨h1, hm⟩]
        rw [e, ih]
        by_cases h2 : o.pl = p
        · rw [metT_hit p o t h1 h2, ← h2, hm]
        · rw [metT_on p o t h1 h2]
      | false =>
        have e : leanL (o :: t) = o :: leanL t := by rw [leanL_cons, if_neg (fun h => by rw [hm] at h; exact absurd h.2 (by simp))]
        rw [e]
        by_cases h2 : o.pl = p
        · rw [metT_hit p o _ h1 h2, metT_hit p o t h1 h2]
        · rw [metT_on p o _ h1 h2, metT_on p o t h1 h2, ih]
    · have e : leanL (o :: t) = o :: leanL t := by rw [leanL_cons, if_neg (fun h => h1 h.1)]
      rw [e, metT_end p o _ h1, metT_end p o t h1]
theorem lean_lean (l : List Opp) : leanL (leanL l) = leanL l := by
  induction l with
  | nil => rfl
  | cons o t ih =>
    by_cases h : o.kd = 1 ∧ metT o.pl t = true
    · have e : leanL (o :: t) = leanL t := by rw [leanL_cons, if_pos h]
      rw [e, ih]
    · have e : leanL (o :: t) = o :: leanL t := by rw [leanL_cons, if_neg h]
      rw [e]
      have h2 : ¬ (o.kd = 1 ∧ metT o.pl (leanL t) = true) := by rw [met_lean]; exact h
      have e2 : leanL (o :: leanL t) = o :: leanL (leanL t) := by
        show (if o.kd = 1 ∧ metT o.pl (leanL t) = true then leanL (leanL t) else o :: leanL (leanL t)) = _
        rw [if_neg h2]
      rw [e2, ih]
end Go.Proofs.Ytdolbgbgnplfhaa
