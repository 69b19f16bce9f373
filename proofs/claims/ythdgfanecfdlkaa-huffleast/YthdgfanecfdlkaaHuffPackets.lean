/- Plain facts: packets, level by level: no code costs less than the first 2n-2 of them. No Go in sight. -/
import Derived.Test.YthdgfanecfdlkaaHuffOpt
namespace Go.Proofs.Ythdgfanecfdlkaa

/-- the first k of a list, added up -/
def fstS (l : List Nat) (k : Nat) : Nat := sm (fun f => f) (l.take k)
theorem fstS_cons (a : Nat) (l : List Nat) (k : Nat) : fstS (a :: l) (k + 1) = a + fstS l k := rfl
theorem fstS_zero (l : List Nat) : fstS l 0 = 0 := by simp [fstS, sm]
theorem fstS_mono (l : List Nat) (i k : Nat) (h : i ≤ k) : fstS l i ≤ fstS l k := by
  induction l generalizing i k with
  | nil => simp [fstS]
  | cons a l ih =>
    cases i with
    | zero => rw [fstS_zero]; exact Nat.zero_le _
    | succ i =>
      cases k with
      | zero => omega
      | succ k =>
        have := ih i k (by omega)
        rw [fstS_cons, fstS_cons]; omega
/-- of a list that goes up the first k are the least of any k -/
theorem fstS_least (C : List Nat) (hs : C.Pairwise (· ≤ ·)) : ∀ D E : List Nat, C.Perm (D ++ E) → fstS C D.length ≤ sm (fun f => f) D := by
  induction C with
  | nil =>
    intro D E h
    have : D = [] := by
      have := h.length_eq
      simp at this
      exact List.length_eq_zero_iff.1 (by omega)
    subst this
    simp [fstS]
  | cons c C ih =>
    intro D E h
    obtain ⟨h1, h2⟩ := List.pairwise_cons.1 hs
    cases D with
    | nil => simp [fstS, sm]
    | cons d D =>
      by_cases hc : c ∈ d :: D
      · have hp := List.perm_cons_erase hc
        have h3 : C.Perm ((d :: D).erase c ++ E) := by
          have := h.trans (hp.append_right E)
          exact (List.perm_cons c).1 this
        have h4 := ih h2 _ _ h3
        have hl : ((d :: D).erase c).length = D.length := by
          have := hp.length_eq
          simp only [List.length_cons] at this
          omega
        rw [hl] at h4
        rw [List.length_cons, fstS_cons, sm_perm _ hp, sm]
        omega
      · have hcE : c ∈ E := by
          have := h.mem_iff.1 (show c ∈ c :: C by simp)
          rcases List.mem_append.1 this with h | h
          · exact absurd h hc
          · exact h
        have hp := List.perm_cons_erase hcE
        generalize E.erase c = E' at hp
        have h3 : (c :: C).Perm (c :: (d :: D ++ E')) := by
          have h5 : (d :: D ++ E).Perm (d :: D ++ c :: E') := hp.append_left _
          exact h.trans (h5.trans List.perm_middle)
        have h4 : C.Perm (D ++ d :: E') := ((List.perm_cons c).1 h3).trans (by
          rw [List.cons_append]; exact List.perm_middle.symm)
        have h5 := ih h2 D (d :: E') h4
        have hcd : c ≤ d := h1 d (h4.mem_iff.2 (by simp))
        rw [List.length_cons, fstS_cons, sm]
        omega
/-- pairs, added up -/
def prs : List Nat → List Nat
  | a :: b :: l => (a + b) :: prs l
  | _ => []
theorem prs_length (l : List Nat) : (prs l).length = l.length / 2 := by
  match l with
  | [] => rfl
  | [_] => simp [prs]
  | a :: b :: l =>
    have := prs_length l
    simp only [prs, List.length_cons, this]; omega
theorem prs_fstS (l : List Nat) (j : Nat) (h : 2 * j ≤ l.length) : fstS (prs l) j = fstS l (2 * j) := by
  match l, j with
  | _, 0 => rw [fstS_zero, fstS_zero]
  | [], j + 1 => simp at h
  | [_], j + 1 => simp at h; omega
  | a :: b :: l, j + 1 =>
    have := prs_fstS l j (by simp at h; omega)
    rw [prs, fstS_cons, show 2 * (j + 1) = 2 * j + 1 + 1 by omega, fstS_cons, fstS_cons, this]; omega
/-- the packets of d levels: each list goes up -/
def Lv (w : List Nat) : Nat → List Nat → Prop
  | 0, Q => Q = []
  | d + 1, Q => ∃ Q', Lv w d Q' ∧ Q.Pairwise (· ≤ ·) ∧ Q.Perm (w ++ prs Q')
theorem Lv.zero {w : List Nat} : Lv w 0 [] := rfl
theorem Lv.succ {w : List Nat} {d : Nat} {Q Q' : List Nat} (h : Lv w d Q') (hs : Q.Pairwise (· ≤ ·)) (hp : Q.Perm (w ++ prs Q')) : Lv w (d + 1) Q := ⟨Q', h, hs, hp⟩
theorem Lv.ind {w : List Nat} {motive : (d : Nat) → (Q : List Nat) → Lv w d Q → Prop} (zero : motive 0 [] Lv.zero)
    (succ : ∀ {d : Nat} {Q Q' : List Nat} (h : Lv w d Q') (hs : Q.Pairwise (· ≤ ·)) (hp : Q.Perm (w ++ prs Q')), motive d Q' h → motive (d + 1) Q (Lv.succ h hs hp)) {d : Nat} {Q : List Nat} (h : Lv w d Q) : motive d Q h := by
  induction d generalizing Q with
  | zero => cases (show Q = [] from h); exact zero
  | succ d ih =>
    obtain ⟨Q', h1, h2, h3⟩ := h
    exact succ h1 h2 h3 (ih h1)

/-- signs of length L or more: how many, and how often they come -/
def cntL (P : List (Nat × Nat)) (L : Nat) : Nat := (P.filter fun p => decide (L ≤ p.2)).length
def sumL (P : List (Nat × Nat)) (L : Nat) : Nat := sm (fun p => p.1) (P.filter fun p => decide (L ≤ p.2))
def cntA (P : List (Nat × Nat)) (m : Nat) : Nat → Nat
  | 0 => 0
  | d + 1 => cntL P (m - d) + cntA P m d / 2
def sumX (P : List (Nat × Nat)) (m : Nat) : Nat → Nat
  | 0 => 0
  | d + 1 => sumL P (m - d) + sumX P m d
def cntV (P : List (Nat × Nat)) (m : Nat) : Nat → Nat
  | 0 => 0
  | d + 1 => cntL P (m - d) * 2 ^ d + cntV P m d
/-- the packets of d levels cost no more than what is of the d longest lengths -/
theorem lv_le (w : List Nat) (P : List (Nat × Nat)) (m : Nat) (hP : (P.map Prod.fst).Perm w) : ∀ d Q, Lv w d Q → cntA P m d ≤ Q.length ∧ fstS Q (cntA P m d) ≤ sumX P m d := by
  intro d Q h
  induction h using Lv.ind with
  | zero => simp [cntA, sumX, fstS, sm]
  | @succ d Q Q' h hs hp ih =>
    obtain ⟨i1, i2⟩ := ih
    simp only [cntA, sumX]
    have hl := hp.length_eq
    rw [List.length_append, prs_length] at hl
    have hPl := hP.length_eq
    rw [List.length_map] at hPl
    have hc : cntL P (m - d) ≤ P.length := List.length_filter_le _ _
    refine ⟨by omega, ?_⟩
    have hsub : w.Perm ((P.filter fun p => decide (m - d ≤ p.2)).map Prod.fst ++ (P.filter fun p => !decide (m - d ≤ p.2)).map Prod.fst) := by
      rw [← List.map_append]
      exact hP.symm.trans ((List.filter_append_perm (fun p => decide (m - d ≤ p.2)) P).symm.map Prod.fst)
    generalize hD : (P.filter fun p => decide (m - d ≤ p.2)).map Prod.fst = D at hsub
    generalize (P.filter fun p => !decide (m - d ≤ p.2)).map Prod.fst = E at hsub
    have hDl : D.length = cntL P (m - d) := by rw [← hD, List.length_map]; rfl
    have hDs : sm (fun f => f) D = sumL P (m - d) := by rw [← hD, sm_map]; rfl
    have hall : Q.Perm ((D ++ (prs Q').take (cntA P m d / 2)) ++ (E ++ (prs Q').drop (cntA P m d / 2))) := by
      refine hp.trans ((hsub.append_right _).trans ?_)
      have e : prs Q' = (prs Q').take (cntA P m d / 2) ++ (prs Q').drop (cntA P m d / 2) := (List.take_append_drop _ _).symm
      rw [List.append_assoc, List.append_assoc]
      refine List.Perm.append_left D ?_
      conv => lhs; rw [e]
      rw [← List.append_assoc, ← List.append_assoc]
      exact List.perm_append_comm.append_right _
    have hmin := fstS_least Q hs _ _ hall
    have htk : ((prs Q').take (cntA P m d / 2)).length = cntA P m d / 2 := by
      rw [List.length_take, prs_length]; omega
    rw [List.length_append, htk, hDl, sm_append, hDs] at hmin
    have h1 : sm (fun f => f) ((prs Q').take (cntA P m d / 2)) = fstS Q' (2 * (cntA P m d / 2)) := prs_fstS Q' _ (by omega)
    have h2 := fstS_mono Q' (2 * (cntA P m d / 2)) (cntA P m d) (by omega)
    omega
theorem cnt_div (P : List (Nat × Nat)) (m d : Nat) : cntA P m (d + 1) = cntV P m (d + 1) / 2 ^ d := by
  induction d with
  | zero => simp [cntA, cntV]
  | succ d ih =>
    have e1 : cntA P m (d + 1 + 1) = cntL P (m - (d + 1)) + cntA P m (d + 1) / 2 := rfl
    have e2 : cntV P m (d + 1 + 1) = cntL P (m - (d + 1)) * 2 ^ (d + 1) + cntV P m (d + 1) := rfl
    rw [e1, ih, Nat.div_div_eq_div_mul, ← Nat.pow_succ, e2, Nat.mul_comm (cntL P (m - (d + 1))), Nat.mul_add_div (Nat.two_pow_pos _)]
/-- one sign's share -/
def one1 (l m : Nat) : Nat → Nat
  | 0 => 0
  | d + 1 => (if m - d ≤ l then 1 else 0) + one1 l m d
def oneV (l m : Nat) : Nat → Nat
  | 0 => 0
  | d + 1 => (if m - d ≤ l then 2 ^ d else 0) + oneV l m d
theorem one1_eq (l m d : Nat) (hl : l ≤ m) (hd : d ≤ m) : one1 l m d = d - (m - l) := by
  induction d with
  | zero => simp [one1]
  | succ d ih =>
    simp only [one1, ih (by omega)]
    split <;> omega
theorem oneV_eq (l m d : Nat) (hl : l ≤ m) (hd : d ≤ m) : oneV l m d = if d ≤ m - l then 0 else 2 ^ d - 2 ^ (m - l) := by
  induction d with
  | zero => simp [oneV]
  | succ d ih =>
    have hp : 2 ^ (d + 1) = 2 * 2 ^ d := by rw [Nat.pow_succ, Nat.mul_comm]
    simp only [oneV, ih (by omega)]
    by_cases h1 : m - d ≤ l
    · rw [if_pos h1, if_neg (show ¬ d + 1 ≤ m - l by omega)]
      by_cases h2 : d ≤ m - l
      · rw [if_pos h2, show m - l = d by omega]; omega
      · rw [if_neg h2]
        have : 2 ^ (m - l) ≤ 2 ^ d := Nat.pow_le_pow_right (by decide) (by omega)
        omega
    · rw [if_neg h1, if_pos (show d + 1 ≤ m - l by omega), if_pos (show d ≤ m - l by omega)]
theorem cntL_cons (p : Nat × Nat) (P : List (Nat × Nat)) (L : Nat) : cntL (p :: P) L = (if L ≤ p.2 then 1 else 0) + cntL P L := by
  unfold cntL
  by_cases h : L ≤ p.2
  · simp [h]; omega
  · simp [h]
theorem sumL_cons (p : Nat × Nat) (P : List (Nat × Nat)) (L : Nat) : sumL (p :: P) L = (if L ≤ p.2 then p.1 else 0) + sumL P L := by
  unfold sumL
  by_cases h : L ≤ p.2
  · simp [h, sm]
  · simp [h]
theorem cntV_cons (p : Nat × Nat) (P : List (Nat × Nat)) (m d : Nat) : cntV (p :: P) m d = oneV p.2 m d + cntV P m d := by
  induction d with
  | zero => rfl
  | succ d ih =>
    simp only [cntV, oneV, cntL_cons, ih, Nat.add_mul]
    split <;> omega
theorem sumX_cons (p : Nat × Nat) (P : List (Nat × Nat)) (m d : Nat) : sumX (p :: P) m d = p.1 * one1 p.2 m d + sumX P m d := by
  induction d with
  | zero => rfl
  | succ d ih =>
    simp only [sumX, one1, sumL_cons, ih, Nat.mul_add]
    split <;> simp <;> omega
theorem sumX_cost (P : List (Nat × Nat)) (m : Nat) (h : ∀ p ∈ P, p.2 ≤ m) : sumX P m m = costP P := by
  induction P with
  | nil =>
    have : ∀ d, sumX [] m d = 0 := by
      intro d
      induction d with
      | zero => rfl
      | succ d ih => simp [sumX, sumL, sm, ih]
    rw [this]; rfl
  | cons p P ih =>
    have hp := h p (by simp)
    rw [sumX_cons, ih fun q hq => h q (by simp [hq]), one1_eq p.2 m m hp (Nat.le_refl _), show m - (m - p.2) = p.2 by omega]
    rfl
theorem cntV_all (P : List (Nat × Nat)) (m : Nat) (h : ∀ p ∈ P, 1 ≤ p.2 ∧ p.2 ≤ m) : cntV P m m + sm (fun p => 2 ^ (m - p.2)) P = P.length * 2 ^ m := by
  induction P with
  | nil =>
    have : ∀ d, cntV [] m d = 0 := by
      intro d
      induction d with
      | zero => rfl
      | succ d ih => simp [cntV, cntL, ih]
    rw [this]; simp [sm]
  | cons p P ih =>
    obtain ⟨h1, h2⟩ := h p (by simp)
    have i := ih fun q hq => h q (by simp [hq])
    rw [cntV_cons, oneV_eq p.2 m m h2 (Nat.le_refl _), if_neg (by omega), sm, List.length_cons, Nat.add_mul, Nat.one_mul]
    have : 2 ^ (m - p.2) ≤ 2 ^ m := Nat.pow_le_pow_right (by decide) (by omega)
    omega
/-- no code costs less than the first 2n-2 packets -/
theorem packets_le (w Q : List Nat) (m : Nat) (hm0 : 1 ≤ m) (hm : m ≤ 15) (hQ : Lv w m Q) (P : List (Nat × Nat)) (hP : (P.map Prod.fst).Perm w) (ho : OkP m P) : 2 * w.length - 2 ≤ Q.length ∧ fstS Q (2 * w.length - 2) ≤ costP P := by
  obtain ⟨h1, h2⟩ := lv_le w P m hP m Q hQ
  have hPl := hP.length_eq
  rw [List.length_map] at hPl
  rw [sumX_cost P m ho.hi] at h2
  have hA : 2 * w.length - 2 ≤ cntA P m m := by
    obtain ⟨d, rfl⟩ : ∃ d, m = d + 1 := ⟨m - 1, by omega⟩
    rw [cnt_div]
    refine (Nat.le_div_iff_mul_le (Nat.two_pow_pos _)).2 ?_
    have hV := cntV_all P (d + 1) (fun p hp => ⟨ho.lo p hp, ho.hi p hp⟩)
    have hk : sm (fun p : Nat × Nat => 2 ^ (d + 1 - p.2)) P ≤ 2 ^ (d + 1) := by
      have hs : ∀ R : List (Nat × Nat), (∀ p ∈ R, p.2 ≤ d + 1) → 2 ^ (15 - (d + 1)) * sm (fun p : Nat × Nat => 2 ^ (d + 1 - p.2)) R = krf R := by
        intro R
        induction R with
        | nil => intro _; rfl
        | cons p R ih =>
          intro h
          have i := ih fun q hq => h q (by simp [hq])
          have hp := h p (by simp)
          simp only [sm, krf, Nat.mul_add] at i ⊢
          rw [i, ← Nat.pow_add, show 15 - (d + 1) + (d + 1 - p.2) = 15 - p.2 by omega]
      have h3 := hs P ho.hi
      have h4 : 2 ^ (15 - (d + 1)) * 2 ^ (d + 1) = 32768 := by rw [← Nat.pow_add, show 15 - (d + 1) + (d + 1) = 15 by omega]
      refine Nat.le_of_mul_le_mul_left ?_ (Nat.two_pow_pos (15 - (d + 1)))
      rw [h3, h4]; exact ho.room
    have hp : 2 ^ (d + 1) = 2 * 2 ^ d := by rw [Nat.pow_succ, Nat.mul_comm]
    rw [hp] at hV hk
    rw [hPl] at hV
    generalize 2 ^ d = z at *
    rcases Nat.eq_zero_or_pos w.length with e | e
    · rw [e]; simp
    · obtain ⟨n, hn⟩ : ∃ n, w.length = n + 1 := ⟨w.length - 1, by omega⟩
      rw [hn] at hV ⊢
      rw [show 2 * (n + 1) - 2 = 2 * n by omega]
      rw [Nat.add_mul, Nat.one_mul] at hV
      have : 2 * n * z = n * (2 * z) := by rw [Nat.mul_comm 2 n, Nat.mul_assoc]
      omega
  exact ⟨by omega, Nat.le_trans (fstS_mono Q _ _ hA) h2⟩
end Go.Proofs.Ythdgfanecfdlkaa
