/- Plain facts on runs of like lengths. No Go in sight. -/
import Derived.Test.YtganplceeapjcaaLensMath
import Derived.Test.YtganplceeapjcaaNumMath
namespace Go.Proofs.Ytganplceeapjcaa

/-- a run as a byte: n lengths x -/
def runB (x n : Nat) : UInt8 := UInt8.ofNat (16 * x + n - 1)
/-- the runs of a list that begins with n lengths x, with l behind them -/
def rnC (x n : Nat) : List Nat → List UInt8
  | [] => [runB x n]
  | y :: t => if n < 16 ∧ x = y then rnC x (n + 1) t else runB x n :: rnC y 1 t
def rnB : List Nat → List UInt8
  | [] => []
  | x :: t => rnC x 1 t
/-- how many like ones a list begins with, n of them seen -/
def fstR (x n : Nat) : List Nat → Nat
  | [] => n
  | y :: t => if n < 16 ∧ x = y then fstR x (n + 1) t else n
theorem rnC_fst (x : Nat) (l : List Nat) : ∀ n, rnC x n l = runB x (fstR x n l) :: rnB (l.drop (fstR x n l - n)) := by
  induction l with
  | nil => intro n; simp [rnC, fstR, rnB]
  | cons y t ih =>
    intro n
    by_cases h : n < 16 ∧ x = y
    · rw [rnC, if_pos h, fstR, if_pos h, ih (n + 1)]
      have hge : n + 1 ≤ fstR x (n + 1) t := by
        clear ih h
        generalize n + 1 = m
        induction t generalizing m with
        | nil => exact Nat.le_refl _
        | cons z t ih =>
          rw [fstR]; split
          · have := ih (m + 1); omega
          · exact Nat.le_refl _
      rw [show fstR x (n + 1) t - n = (fstR x (n + 1) t - (n + 1)) + 1 by omega, List.drop_succ_cons]
    · rw [rnC, if_neg h, fstR, if_neg h, Nat.sub_self, List.drop_zero, rnB]
theorem fstR_ge (x : Nat) (l : List Nat) : ∀ n, n ≤ fstR x n l := by
  induction l with
  | nil => intro n; exact Nat.le_refl _
  | cons z t ih =>
    intro n
    rw [fstR]; split
    · have := ih (n + 1); omega
    · exact Nat.le_refl _
theorem fstR_le (x : Nat) (l : List Nat) : ∀ n, n ≤ 16 → fstR x n l ≤ 16 ∧ fstR x n l ≤ n + l.length := by
  induction l with
  | nil => intro n hn; exact ⟨hn, by simp [fstR]⟩
  | cons z t ih =>
    intro n hn
    rw [fstR]; split
    · have := ih (n + 1) (by omega)
      simp only [List.length_cons]; omega
    · exact ⟨hn, by omega⟩
/-- lengths as plain numbers, from the p-th on -/
def lsF (W : Nat → Int) (p len : Nat) : List Nat := (List.range (len - p)).map fun i => (W (p + i)).toNat
theorem lsF_end (W : Nat → Int) (len : Nat) : lsF W len len = [] := by simp [lsF]
theorem lsF_cons (W : Nat → Int) (p len : Nat) (h : p < len) : lsF W p len = (W p).toNat :: lsF W (p + 1) len := by
  unfold lsF
  rw [show len - p = (len - (p + 1)) + 1 by omega, List.range_succ_eq_map]
  simp only [List.map_cons, List.map_map, Nat.add_zero]
  congr 1
  apply List.map_congr_left
  intro i _
  simp [Nat.add_assoc, Nat.add_comm 1]
theorem lsF_length (W : Nat → Int) (p len : Nat) : (lsF W p len).length = len - p := by simp [lsF]
theorem lsF_drop (W : Nat → Int) (p len k : Nat) (h : p + k ≤ len) : (lsF W p len).drop k = lsF W (p + k) len := by
  induction k with
  | zero => rfl
  | succ k ih =>
    rw [← List.drop_drop, ih (by omega), lsF_cons W (p + k) len (by omega)]
    rfl
/-- the error of runs.Write, and its bytes -/
def rwB (W : Nat → Int) (len : Nat) : List UInt8 := if fillE W len = 0 then putB len ++ rnB (lsF W 0 len) else []
theorem rnC_len (x : Nat) (l : List Nat) : ∀ n, (rnC x n l).length ≤ l.length + 1 := by
  induction l generalizing x with
  | nil => intro n; simp [rnC]
  | cons y t ih =>
    intro n
    rw [rnC]; split
    · have := ih x (n + 1); simp only [List.length_cons]; omega
    · have := ih y 1; simp only [List.length_cons]; omega
theorem rnB_len (l : List Nat) : (rnB l).length ≤ l.length := by
  cases l with
  | nil => simp [rnB]
  | cons x t => simpa [rnB] using rnC_len x t 1
/-- what is read of runs: c lengths in all, m of them there, the run ahead -/
def badR (pv : Option UInt8) (b : UInt8) : Bool := match pv with
  | none => false
  | some a => decide (a.toNat / 16 = b.toNat / 16) && decide (a.toNat % 16 < 15)
def rrE (c : Nat) : List UInt8 → Nat → Option UInt8 → Int
  | [], m, _ => if m = c then 0 else 3
  | b :: t, m, pv => if m = c then 0 else if badR pv b = true ∨ c < m + (b.toNat % 16 + 1) then 4 else rrE c t (m + (b.toNat % 16 + 1)) (some b)
def rrL (c : Nat) : List UInt8 → Nat → Option UInt8 → List Nat
  | [], _, _ => []
  | b :: t, m, pv => if m = c then [] else if badR pv b = true ∨ c < m + (b.toNat % 16 + 1) then [] else List.replicate (b.toNat % 16 + 1) (b.toNat / 16) ++ rrL c t (m + (b.toNat % 16 + 1)) (some b)
def rrN (c : Nat) : List UInt8 → Nat → Option UInt8 → Nat
  | [], _, _ => 0
  | b :: t, m, pv => if m = c then 0 else if badR pv b = true ∨ c < m + (b.toNat % 16 + 1) then 0 else 1 + rrN c t (m + (b.toNat % 16 + 1)) (some b)
/-- the whole of runs.Read -/
def rdRE (s : List UInt8) : Int := if getE s = 0 then (if 320 < getA s then 2 else rrE (getA s) (s.drop (getK s)) 0 none) else getE s
def rdRL (s : List UInt8) : List Nat := if rdRE s = 0 then rrL (getA s) (s.drop (getK s)) 0 none else []
def rdRN (s : List UInt8) : Nat := if rdRE s = 0 then getK s + rrN (getA s) (s.drop (getK s)) 0 none else 0
theorem rdR_get (s : List UInt8) (h : getE s ≠ 0) : rdRE s = getE s ∧ rdRL s = [] ∧ rdRN s = 0 := by
  have e : rdRE s = getE s := by unfold rdRE; rw [if_neg h]
  exact ⟨e, by unfold rdRL; rw [e, if_neg h], by unfold rdRN; rw [e, if_neg h]⟩
theorem rdR_large (s : List UInt8) (h : getE s = 0) (hl : 320 < getA s) : rdRE s = 2 ∧ rdRL s = [] ∧ rdRN s = 0 := by
  have e : rdRE s = 2 := by unfold rdRE; rw [if_pos h, if_pos hl]
  exact ⟨e, by unfold rdRL; rw [e]; rfl, by unfold rdRN; rw [e]; rfl⟩
theorem rdR_run (s : List UInt8) (h : getE s = 0) (hl : ¬ 320 < getA s) : rdRE s = rrE (getA s) (s.drop (getK s)) 0 none := by
  unfold rdRE; rw [if_pos h, if_neg hl]
theorem rdR_bad (s : List UInt8) (x : Int) (h : rdRE s = x) (hx : x ≠ 0) : rdRL s = [] ∧ rdRN s = 0 := by
  unfold rdRL rdRN
  rw [h, if_neg hx, if_neg hx]; exact ⟨rfl, rfl⟩
theorem rdR_ok (s : List UInt8) (h : rdRE s = 0) : rdRL s = rrL (getA s) (s.drop (getK s)) 0 none ∧ rdRN s = getK s + rrN (getA s) (s.drop (getK s)) 0 none := by
  unfold rdRL rdRN
  rw [if_pos h, if_pos h]; exact ⟨rfl, rfl⟩
theorem rr_done (c : Nat) (t : List UInt8) (pv : Option UInt8) : rrE c t c pv = 0 ∧ rrL c t c pv = [] ∧ rrN c t c pv = 0 := by
  cases t <;> simp [rrE, rrL, rrN]
theorem rrL_len (c : Nat) (t : List UInt8) : ∀ m pv, rrE c t m pv = 0 → (rrL c t m pv).length + m = c := by
  induction t with
  | nil => intro m pv h; rw [rrE] at h; split at h <;> simp_all [rrL]
  | cons b t ih =>
    intro m pv h
    rw [rrE] at h
    rw [rrL]
    by_cases hm : m = c
    · rw [if_pos hm]; simpa using hm
    · rw [if_neg hm] at h ⊢
      by_cases hb : badR pv b = true ∨ c < m + (b.toNat % 16 + 1)
      · rw [if_pos hb] at h; exact absurd h (by decide)
      · rw [if_neg hb] at h ⊢
        have := ih _ _ h
        rw [List.length_append, List.length_replicate]; omega
theorem runB_val (x n : Nat) (hx : x ≤ 15) (h1 : 1 ≤ n) (h2 : n ≤ 16) : (runB x n).toNat = 16 * x + n - 1 := by
  unfold runB; rw [UInt8.toNat_ofNat']; omega
theorem runB_hi (x n : Nat) (hx : x ≤ 15) (h1 : 1 ≤ n) (h2 : n ≤ 16) : (runB x n).toNat / 16 = x := by rw [runB_val x n hx h1 h2]; omega
theorem runB_lo (x n : Nat) (hx : x ≤ 15) (h1 : 1 ≤ n) (h2 : n ≤ 16) : (runB x n).toNat % 16 + 1 = n := by rw [runB_val x n hx h1 h2]; omega
theorem runB_of (b : UInt8) : runB (b.toNat / 16) (b.toNat % 16 + 1) = b := by
  apply UInt8.toNat_inj.1
  have := b.toNat_lt
  rw [runB_val _ _ (by omega) (by omega) (by omega)]; omega
/-- what was written is read -/
theorem rr_back (c : Nat) (more : List UInt8) (l : List Nat) : ∀ (x n m : Nat) (pv : Option UInt8), x ≤ 15 → 1 ≤ n → n ≤ 16 → (∀ y ∈ l, y ≤ 15) → m + n + l.length = c → (∀ a, pv = some a → a.toNat / 16 = x → a.toNat % 16 = 15) →
    rrE c (rnC x n l ++ more) m pv = 0 ∧ rrL c (rnC x n l ++ more) m pv = List.replicate n x ++ l ∧ rrN c (rnC x n l ++ more) m pv = (rnC x n l).length := by
  have step : ∀ (x n m : Nat) (pv : Option UInt8) (t : List UInt8), x ≤ 15 → 1 ≤ n → n ≤ 16 → m + n ≤ c → (∀ a, pv = some a → a.toNat / 16 = x → a.toNat % 16 = 15) →
      rrE c (runB x n :: t) m pv = rrE c t (m + n) (some (runB x n)) ∧ rrL c (runB x n :: t) m pv = List.replicate n x ++ rrL c t (m + n) (some (runB x n)) ∧ rrN c (runB x n :: t) m pv = 1 + rrN c t (m + n) (some (runB x n)) := by
    intro x n m pv t hx h1 h2 hm hpv
    have hb : ¬ (badR pv (runB x n) = true ∨ c < m + ((runB x n).toNat % 16 + 1)) := by
      rw [runB_lo x n hx h1 h2]
      rintro (h | h)
      · cases pv with
        | none => simp [badR] at h
        | some a =>
          simp only [badR, Bool.and_eq_true, decide_eq_true_eq, runB_hi x n hx h1 h2] at h
          have := hpv a rfl h.1
          omega
      · omega
    have hmc : ¬ m = c := by omega
    simp only [runB_lo x n hx h1 h2] at hb
    simp only [rrE, rrL, rrN, if_neg hmc, runB_lo x n hx h1 h2, runB_hi x n hx h1 h2, if_neg hb, and_self]
  induction l with
  | nil =>
    intro x n m pv hx h1 h2 _ hc hpv
    simp only [List.length_nil, Nat.add_zero] at hc
    have hs := step x n m pv more hx h1 h2 (by omega) hpv
    have hd := rr_done c more (some (runB x n))
    rw [hc, hd.1, hd.2.1, hd.2.2] at hs
    simp only [rnC, List.cons_append, List.nil_append]
    simpa using hs
  | cons y t ih =>
    intro x n m pv hx h1 h2 hl hc hpv
    simp only [List.length_cons] at hc
    have hy := hl y (by simp)
    have ht : ∀ z ∈ t, z ≤ 15 := fun z hz => hl z (by simp [hz])
    by_cases h : n < 16 ∧ x = y
    · rw [rnC, if_pos h]
      have := ih x (n + 1) m pv hx (by omega) (by omega) ht (by omega) hpv
      rw [List.replicate_succ'] at this
      rw [← h.2]
      simpa using this
    · rw [rnC, if_neg h, List.cons_append]
      have hs := step x n m pv (rnC y 1 t ++ more) hx h1 h2 (by omega) hpv
      have hi := ih y 1 (m + n) (some (runB x n)) hy (by omega) (by omega) ht (by omega) (by
        intro a ha hay
        cases ha
        rw [runB_hi x n hx h1 h2] at hay
        have := runB_lo x n hx h1 h2
        omega)
      rw [hi.1, hi.2.1, hi.2.2] at hs
      refine ⟨hs.1, by rw [hs.2.1]; simp, by rw [hs.2.2, List.length_cons]; omega⟩
/-- what was read is written -/
theorem rnC_rep (x : Nat) (l : List Nat) : ∀ (j n : Nat), n + j ≤ 16 → (n + j = 16 ∨ ∀ y t, l = y :: t → y ≠ x) → rnC x n (List.replicate j x ++ l) = runB x (n + j) :: rnB l := by
  intro j
  induction j with
  | zero =>
    intro n hn h
    cases l with
    | nil => simp [rnC, rnB]
    | cons y t =>
      rw [List.replicate_zero, List.nil_append, rnC, if_neg, rnB, Nat.add_zero]
      rintro ⟨h1, h2⟩
      rcases h with h | h
      · omega
      · exact h y t rfl h2.symm
  | succ j ih =>
    intro n hn h
    rw [List.replicate_succ, List.cons_append, rnC, if_pos ⟨by omega, rfl⟩, ih (n + 1) (by omega) (by rcases h with h | h; exact .inl (by omega); exact .inr h)]
    rw [show n + 1 + j = n + (j + 1) by omega]
theorem rr_one (c : Nat) (t : List UInt8) : ∀ m pv, rrE c t m pv = 0 → rnB (rrL c t m pv) = t.take (rrN c t m pv) ∧ (∀ y l, rrL c t m pv = y :: l → ∀ a, pv = some a → a.toNat / 16 = y → a.toNat % 16 = 15) ∧ (∀ y ∈ rrL c t m pv, y ≤ 15) ∧ rrN c t m pv ≤ t.length := by
  induction t with
  | nil => intro m pv _; simp [rrL, rrN, rnB]
  | cons b t ih =>
    intro m pv h
    have hb256 := b.toNat_lt
    rw [rrE] at h
    rw [rrL, rrN]
    by_cases hm : m = c
    · simp [hm, rnB]
    · rw [if_neg hm] at h ⊢
      rw [if_neg hm]
      by_cases hb : badR pv b = true ∨ c < m + (b.toNat % 16 + 1)
      · rw [if_pos hb] at h; exact absurd h (by decide)
      · rw [if_neg hb] at h ⊢
        rw [if_neg hb]
        obtain ⟨h1, h2, h3, h4⟩ := ih _ _ h
        refine ⟨?_, ?_, ?_, by simp only [List.length_cons]; omega⟩
        · rw [List.replicate_succ, List.cons_append, rnB, rnC_rep _ _ _ _ (by omega), h1, Nat.add_comm 1 (b.toNat % 16), runB_of, Nat.add_comm 1, List.take_succ_cons]
          by_cases h15 : b.toNat % 16 = 15
          · exact .inl (by omega)
          · refine .inr fun y l hy he => ?_
            exact h15 (h2 y l hy b rfl he.symm)
        · intro y l hy a ha hay
          rw [List.replicate_succ, List.cons_append] at hy
          cases hy
          subst ha
          refine Classical.byContradiction fun hn => hb (.inl ?_)
          simp only [badR, Bool.and_eq_true, decide_eq_true_eq]
          exact ⟨hay, by omega⟩
        · intro y hy
          rw [List.mem_append] at hy
          rcases hy with hy | hy
          · rw [List.eq_of_mem_replicate hy]; omega
          · exact h3 y hy
/-- how often a list turns behind x -/
def trnC (x : Nat) : List Nat → Nat
  | [] => 0
  | y :: t => (if x = y then 0 else 1) + trnC y t
theorem rnC_trn (l : List Nat) : ∀ x n, 1 ≤ n → n ≤ 16 → (rnC x n l).length ≤ 1 + trnC x l + (n + l.length) / 16 := by
  induction l with
  | nil => intro x n _ _; simp [rnC]; omega
  | cons y t ih =>
    intro x n h1 h2
    rw [rnC, trnC, List.length_cons]
    by_cases hxy : x = y
    · rw [if_pos hxy]
      by_cases hn : n < 16
      · rw [if_pos ⟨hn, hxy⟩]
        have := ih x (n + 1) (by omega) (by omega)
        rw [hxy] at this ⊢
        rw [show n + (t.length + 1) = n + 1 + t.length by omega]; omega
      · rw [if_neg (by omega), List.length_cons]
        have := ih y 1 (by omega) (by omega)
        omega
    · rw [if_neg hxy, if_neg (by omega), List.length_cons]
      have := ih y 1 (by omega) (by omega)
      omega
end Go.Proofs.Ytganplceeapjcaa
