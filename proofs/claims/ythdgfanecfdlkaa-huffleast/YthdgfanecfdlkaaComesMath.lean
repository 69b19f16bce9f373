/- Plain facts: the counts that come, the greatest first. No Go in sight. -/
import Derived.Test.YthdgfanecfdlkaaLnFacts
namespace Go.Proofs.Ythdgfanecfdlkaa

/-- f put into a falling list -/
def insD (f : Nat) : List Nat → List Nat
  | [] => [f]
  | x :: l => if f ≤ x then x :: insD f l else f :: x :: l
/-- the counts that come, the greatest first -/
def comL (F : Nat → Int) : Nat → List Nat
  | 0 => []
  | k + 1 => if F k = 0 then comL F k else insD (F k).toNat (comL F k)
theorem insD_perm (f : Nat) (l : List Nat) : (insD f l).Perm (f :: l) := by
  induction l with
  | nil => exact List.Perm.refl _
  | cons x l ih =>
    rw [insD]
    split
    · exact (List.Perm.cons x ih).trans (List.Perm.swap f x l)
    · exact List.Perm.refl _
theorem insD_down (f : Nat) (l : List Nat) (h : l.Pairwise (· ≥ ·)) : (insD f l).Pairwise (· ≥ ·) := by
  induction l with
  | nil => simp [insD]
  | cons x l ih =>
    rw [List.pairwise_cons] at h
    rw [insD]
    split
    · rw [List.pairwise_cons]
      refine ⟨fun a ha => ?_, ih h.2⟩
      rcases List.mem_cons.1 ((insD_perm f l).mem_iff.1 ha) with rfl | h1
      · assumption
      · exact h.1 a h1
    · rw [List.pairwise_cons]
      refine ⟨fun a ha => ?_, by rw [List.pairwise_cons]; exact h⟩
      rcases List.mem_cons.1 ha with rfl | h1
      · omega
      · have := h.1 a h1; omega
theorem com_down (F : Nat → Int) (k : Nat) : (comL F k).Pairwise (· ≥ ·) := by
  induction k with
  | zero => exact List.Pairwise.nil
  | succ k ih =>
    rw [comL]
    split
    · exact ih
    · exact insD_down _ _ ih
theorem com_perm (F : Nat → Int) (k : Nat) (h : ∀ i, i < k → 0 ≤ F i) : (comL F k).Perm (wsL F k) := by
  induction k with
  | zero => exact List.Perm.refl _
  | succ k ih =>
    have h1 := ih (fun i hi => h i (by omega))
    have h2 := h k (by omega)
    rw [comL]
    unfold wsL
    by_cases hz : F k = 0
    · rw [if_pos hz, cmL_no F k (by omega)]; exact h1
    · rw [if_neg hz, cmL_yes F k (by omega), List.map_append]
      exact (insD_perm _ _).trans ((List.Perm.cons _ h1).trans (List.perm_append_singleton _ _).symm)
theorem com_len (F : Nat → Int) (k : Nat) (h : ∀ i, i < k → 0 ≤ F i) : (comL F k).length = (cmL F k).length := by rw [(com_perm F k h).length_eq, wsL, List.length_map]
theorem com_pos (F : Nat → Int) (k : Nat) (h : ∀ i, i < k → 0 ≤ F i ∧ F i ≤ 1048576) : ∀ v ∈ comL F k, 0 < v ∧ v ≤ 1048576 := by
  intro v hv
  rw [(com_perm F k (fun i hi => (h i hi).1)).mem_iff] at hv
  obtain ⟨i, hi, rfl⟩ := List.mem_map.1 hv
  have h1 := cmL_mem F k i hi
  have h2 := h i h1.1
  omega
theorem insD_at (f : Nat) (l : List Nat) (i : Nat) (hi : i ≤ l.length) (h1 : ∀ j, j < i → f ≤ l.getD j 0) (h2 : i < l.length → l.getD i 0 < f) : insD f l = l.take i ++ f :: l.drop i := by
  induction l generalizing i with
  | nil => simp [insD]
  | cons x l ih =>
    rw [insD]
    cases i with
    | zero =>
      have := h2 (by simp)
      simp at this
      rw [if_neg (by omega)]; rfl
    | succ i =>
      have := h1 0 (by omega)
      simp at this
      rw [if_pos this, ih i (by simpa using hi) (fun j hj => by simpa using h1 (j + 1) (by omega)) (fun h => by simpa using h2 (by simpa using h))]
      rfl
/-- a stretch of a list written anew -/
def setAll {α : Type} : List α → Nat → List α → List α
  | xs, _, [] => xs
  | xs, o, v :: r => setAll (xs.set o v) (o + 1) r
theorem setAll_is {α : Type} (vs : List α) : ∀ (xs : List α) (o : Nat), o + vs.length ≤ xs.length → setAll xs o vs = xs.take o ++ vs ++ xs.drop (o + vs.length) := by
  induction vs with
  | nil => intro xs o _; simp [setAll]
  | cons v r ih =>
    intro xs o h
    simp only [List.length_cons] at h
    rw [setAll, ih _ _ (by simp; omega)]
    have e1 : (xs.set o v).take (o + 1) = xs.take o ++ [v] := by
      rw [List.take_add_one, List.take_set_of_le (Nat.le_refl o), List.getElem?_set_self (by omega)]; rfl
    have e2 : (xs.set o v).drop (o + 1 + r.length) = xs.drop (o + (v :: r).length) := by
      rw [List.drop_set_of_lt (by omega), List.length_cons]; congr 1; omega
    rw [e1, e2]; simp
theorem shift_is {α : Type} (l : List α) (z f : α) (i : Nat) (hi : i ≤ l.length) : (setAll (l ++ [z]) (i + 1) (l.drop i)).set i f = l.take i ++ f :: l.drop i := by
  have hd : (l.drop i).length = l.length - i := by simp
  generalize l.drop i = D at *
  have h0 : (l ++ [z]).drop (i + 1 + D.length) = [] := List.drop_of_length_le (by rw [List.length_append, hd]; simp; omega)
  rw [setAll_is _ _ _ (by rw [hd, List.length_append]; simp; omega), h0, List.append_nil]
  have e : ∃ y, (l ++ [z]).take (i + 1) = l.take i ++ [y] := by
    refine ⟨(l ++ [z])[i]'(by simp; omega), ?_⟩
    rw [List.take_add_one, List.getElem?_eq_getElem (by simp; omega), List.take_append_of_le_length hi]; rfl
  obtain ⟨y, hy⟩ := e
  have hl : (l.take i).length = i := by simp; omega
  rw [hy, List.append_assoc, List.set_append_right _ _ (by omega), hl, Nat.sub_self]; rfl
end Go.Proofs.Ythdgfanecfdlkaa
