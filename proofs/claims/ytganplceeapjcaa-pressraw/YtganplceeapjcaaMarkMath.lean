/- Plain facts on marks and the texts that they make. No Go in sight. -/
import Derived.Test.YtganplceeapjcaaFlipMath
namespace Go.Proofs.Ytganplceeapjcaa

/-- a mark -/
structure Mk where
  ln : Int
  ds : Int
  by' : Nat
def okM (m : Mk) : Bool := decide (m.ln = 0 ∧ m.ds = 0) || decide (3 ≤ m.ln ∧ m.ln ≤ 66 ∧ 1 ≤ m.ds ∧ m.by' = 0)
theorem okM_of {m : Mk} (h : okM m = true) : (m.ln = 0 ∧ m.ds = 0) ∨ (3 ≤ m.ln ∧ m.ln ≤ 66 ∧ 1 ≤ m.ds ∧ m.by' = 0) := by
  unfold okM at h
  rw [Bool.or_eq_true] at h
  rcases h with h | h
  · exact .inl (of_decide_eq_true h)
  · exact .inr (of_decide_eq_true h)
theorem okM_mk {m : Mk} (h : (m.ln = 0 ∧ m.ds = 0) ∨ (3 ≤ m.ln ∧ m.ln ≤ 66 ∧ 1 ≤ m.ds ∧ m.by' = 0)) : okM m = true := by
  unfold okM
  rw [Bool.or_eq_true]
  rcases h with h | h
  · exact .inl (decide_eq_true h)
  · exact .inr (decide_eq_true h)
theorem okM_not {m : Mk} (h : okM m = false) : ¬ ((m.ln = 0 ∧ m.ds = 0) ∨ (3 ≤ m.ln ∧ m.ln ≤ 66 ∧ 1 ≤ m.ds ∧ m.by' = 0)) := fun hn => by rw [okM_mk hn] at h; cases h
def chkM (m : Mk) : Int := if okM m = true then 0 else 4
/-- how many bytes a mark adds -/
def szM (m : Mk) : Nat := if m.ln = 0 then 1 else m.ln.toNat
/-- n bytes more, each the one that stands d ahead -/
def cpy (d : Nat) : Nat → List UInt8 → List UInt8
  | 0, out => out
  | n + 1, out => cpy d n (out ++ [out.getD (out.length - d) 0])
def addM (out : List UInt8) (m : Mk) : List UInt8 := if m.ln = 0 then out ++ [UInt8.ofNat m.by'] else cpy m.ds.toNat m.ln.toNat out
theorem cpy_len (d n : Nat) : ∀ out, (cpy d n out).length = out.length + n := by
  induction n with
  | zero => intro out; rfl
  | succ n ih => intro out; rw [cpy, ih]; simp; omega
theorem cpy_pre (d n : Nat) : ∀ out, ∃ more, cpy d n out = out ++ more := by
  induction n with
  | zero => intro out; exact ⟨[], by simp [cpy]⟩
  | succ n ih =>
    intro out
    obtain ⟨more, h⟩ := ih (out ++ [out.getD (out.length - d) 0])
    exact ⟨[out.getD (out.length - d) 0] ++ more, by rw [cpy, h, List.append_assoc]⟩
theorem addM_len (out : List UInt8) (m : Mk) : (addM out m).length = out.length + szM m := by
  unfold addM szM
  split
  · simp
  · exact cpy_len _ _ _
theorem addM_pre (out : List UInt8) (m : Mk) : ∃ more, addM out m = out ++ more := by
  unfold addM
  split
  · exact ⟨_, rfl⟩
  · exact cpy_pre _ _ _
/-- what marks make, with out ahead: the error, and the text -/
def exE : List Mk → List UInt8 → Int
  | [], _ => 0
  | m :: t, out => if okM m = true then (if (out.length : Int) < m.ds then 8 else if 512 < out.length + szM m then 2 else exE t (addM out m)) else 4
def exT : List Mk → List UInt8 → List UInt8
  | [], out => out
  | m :: t, out => exT t (addM out m)
def exA (l : List Mk) : List UInt8 := if exE l [] = 0 then exT l [] else []
theorem exA_bad (l : List Mk) (x : Int) (h : exE l [] = x) (hx : x ≠ 0) : exA l = [] := by unfold exA; rw [h, if_neg hx]
theorem exA_ok (l : List Mk) (h : exE l [] = 0) : exA l = exT l [] := by unfold exA; rw [if_pos h]
theorem exE_form (m : Mk) (t : List Mk) (out : List UInt8) (h : okM m = false) : exE (m :: t) out = 4 := by rw [exE, h]; rfl
theorem exE_dist (m : Mk) (t : List Mk) (out : List UInt8) (h : okM m = true) (hd : (out.length : Int) < m.ds) : exE (m :: t) out = 8 := by rw [exE, if_pos h, if_pos hd]
theorem exE_large (m : Mk) (t : List Mk) (out : List UInt8) (h : okM m = true) (hd : ¬ (out.length : Int) < m.ds) (hl : 512 < out.length + szM m) : exE (m :: t) out = 2 := by rw [exE, if_pos h, if_neg hd, if_pos hl]
theorem exE_step (m : Mk) (t : List Mk) (out : List UInt8) (h : okM m = true) (hd : ¬ (out.length : Int) < m.ds) (hl : ¬ 512 < out.length + szM m) : exE (m :: t) out = exE t (addM out m) := by rw [exE, if_pos h, if_neg hd, if_neg hl]
theorem exE_cat (a b : List Mk) : ∀ out, exE (a ++ b) out = if exE a out = 0 then exE b (exT a out) else exE a out := by
  induction a with
  | nil => intro out; simp [exE, exT]
  | cons m t ih =>
    intro out
    rw [List.cons_append]
    cases hm : okM m with
    | false => rw [exE_form _ _ _ hm, exE_form _ _ _ hm]; rfl
    | true =>
      by_cases hd : (out.length : Int) < m.ds
      · rw [exE_dist _ _ _ hm hd, exE_dist _ _ _ hm hd]; rfl
      · by_cases hl : 512 < out.length + szM m
        · rw [exE_large _ _ _ hm hd hl, exE_large _ _ _ hm hd hl]; rfl
        · rw [exE_step _ _ _ hm hd hl, exE_step _ _ _ hm hd hl, ih, exT]
theorem exT_cat (a b : List Mk) : ∀ out, exT (a ++ b) out = exT b (exT a out) := by
  induction a with
  | nil => intro out; rfl
  | cons m t ih => intro out; rw [List.cons_append, exT, exT, ih]
theorem exT_pre (a : List Mk) : ∀ out, ∃ more, exT a out = out ++ more := by
  induction a with
  | nil => intro out; exact ⟨[], by simp [exT]⟩
  | cons m t ih =>
    intro out
    obtain ⟨x, hx⟩ := addM_pre out m
    obtain ⟨y, hy⟩ := ih (addM out m)
    exact ⟨x ++ y, by rw [exT, hy, hx, List.append_assoc]⟩
theorem exT_le (a : List Mk) : ∀ out, exE a out = 0 → out.length ≤ 512 → (exT a out).length ≤ 512 := by
  induction a with
  | nil => intro out _ h; exact h
  | cons m t ih =>
    intro out h h5
    cases hm : okM m with
    | false => rw [exE_form _ _ _ hm] at h; exact absurd h (by decide)
    | true =>
      by_cases hd : (out.length : Int) < m.ds
      · rw [exE_dist _ _ _ hm hd] at h; exact absurd h (by decide)
      · by_cases hl : 512 < out.length + szM m
        · rw [exE_large _ _ _ hm hd hl] at h; exact absurd h (by decide)
        · rw [exE_step _ _ _ hm hd hl] at h
          rw [exT]
          exact ih _ h (by rw [addM_len]; omega)
/-- a byte of what a copy makes -/
theorem cpy_get (d : Nat) (hd : 1 ≤ d) (n : Nat) : ∀ (out : List UInt8) (p : Nat), d ≤ p → p ≤ out.length + n → out.length = p → ∀ j, j < n → (cpy d n out).getD (p + j) 0 = (cpy d n out).getD (p + j - d) 0 := by
  induction n with
  | zero => intro out p _ _ _ j hj; omega
  | succ n ih =>
    intro out p h1 h2 h3 j hj
    rw [cpy]
    obtain ⟨more, hm⟩ := cpy_pre d n (out ++ [out.getD (out.length - d) 0])
    cases j with
    | zero =>
      rw [hm, List.append_assoc, Nat.add_zero]
      subst h3
      simp only [List.getD_eq_getElem?_getD]
      rw [List.getElem?_append_right (Nat.le_refl _), List.getElem?_append_left (l₁ := out) (i := out.length - d) (by omega)]
      simp
    | succ j =>
      have := ih (out ++ [out.getD (out.length - d) 0]) (p + 1) (by omega) (by simp; omega) (by simp; omega) j (by omega)
      rw [show p + (j + 1) = p + 1 + j by omega]; exact this
theorem cpy_old (d n : Nat) (out : List UInt8) (j : Nat) (h : j < out.length) : (cpy d n out).getD j 0 = out.getD j 0 := by
  obtain ⟨more, hm⟩ := cpy_pre d n out
  rw [hm]
  simp only [List.getD_eq_getElem?_getD]
  rw [List.getElem?_append_left h]
/-- the bytes of a copy, again and again -/
theorem cpy_mod (d : Nat) (hd : 1 ≤ d) (n : Nat) (out : List UInt8) (h : d ≤ out.length) : ∀ j, j < n → (cpy d n out).getD (out.length + j) 0 = out.getD (out.length - d + j % d) 0 := by
  intro j
  induction j using Nat.strongRecOn with
  | _ j ih =>
    intro hj
    rw [cpy_get d hd n out out.length h (by omega) rfl j hj]
    by_cases hjd : j < d
    · rw [Nat.mod_eq_of_lt hjd, show out.length + j - d = out.length - d + j by omega]
      exact cpy_old _ _ _ _ (by omega)
    · rw [show out.length + j - d = out.length + (j - d) by omega, ih (j - d) (by omega) (by omega), ← Nat.mod_eq_sub_mod (a := j) (by omega)]
theorem cpy_eq (d : Nat) (hd : 1 ≤ d) (n : Nat) (out : List UInt8) (h : d ≤ out.length) : cpy d n out = out ++ (List.range n).map fun j => out.getD (out.length - d + j % d) 0 := by
  apply List.ext_getElem
  · rw [cpy_len]; simp
  · intro i h1 h2
    have key : ∀ (l : List UInt8) (hl : i < l.length), l[i] = l.getD i 0 := fun l hl => by rw [List.getD_eq_getElem?_getD, List.getElem?_eq_getElem hl]; rfl
    rw [key _ h1, key _ h2]
    rw [cpy_len] at h1
    by_cases hi : i < out.length
    · rw [cpy_old _ _ _ _ hi]
      simp only [List.getD_eq_getElem?_getD]
      rw [List.getElem?_append_left hi]
    · obtain ⟨j, rfl⟩ : ∃ j, i = out.length + j := ⟨i - out.length, by omega⟩
      rw [cpy_mod d hd n out h j (by omega)]
      conv => rhs; rw [List.getD_eq_getElem?_getD]
      rw [List.getElem?_append_right (by omega), show out.length + j - out.length = j by omega]
      simp [show j < n by omega]
end Go.Proofs.Ytganplceeapjcaa
