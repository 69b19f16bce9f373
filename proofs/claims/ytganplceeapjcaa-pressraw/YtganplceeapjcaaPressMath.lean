/- What press.Open says of a text. No Go in sight. -/
import Derived.Test.YtganplceeapjcaaRdMath
import Derived.Test.YtganplceeapjcaaMarkMath
import Derived.Test.YtganplceeapjcaaRunsRdMath
namespace Go.Proofs.Ytganplceeapjcaa

/-- lengths as a row -/
def rowQ (l : List Nat) (i : Nat) : Int := (l.getD i 0 : Nat)
/-- one mark from bit a on, and where the next begins -/
def mk1 (L1 L2 : Nat → Int) (s : ByteArray) (a : Nat) : Option (Mk × Nat) :=
  if (stpS L1 320 s a).2.2 = 0 then
    if (stpS L1 320 s a).1 < 256 then some (⟨0, 0, (stpS L1 320 s a).1⟩, a + (stpS L1 320 s a).2.1)
    else if (stpS L2 9 s (a + (stpS L1 320 s a).2.1)).2.2 = 0 then
      if a + (stpS L1 320 s a).2.1 + (stpS L2 9 s (a + (stpS L1 320 s a).2.1)).2.1 + (stpS L2 9 s (a + (stpS L1 320 s a).2.1)).1 ≤ 8 * s.size then
        some (⟨(((stpS L1 320 s a).1 - 253 : Nat) : Int), ((2 ^ (stpS L2 9 s (a + (stpS L1 320 s a).2.1)).1 + getN (txtN s.data.toList) (a + (stpS L1 320 s a).2.1 + (stpS L2 9 s (a + (stpS L1 320 s a).2.1)).2.1) (stpS L2 9 s (a + (stpS L1 320 s a).2.1)).1 : Nat) : Int), 0⟩,
          a + (stpS L1 320 s a).2.1 + (stpS L2 9 s (a + (stpS L1 320 s a).2.1)).2.1 + (stpS L2 9 s (a + (stpS L1 320 s a).2.1)).1)
      else none
    else none
  else none
theorem mk1_bad {L1 L2 : Nat → Int} {s : ByteArray} {a i k : Nat} {e : Int} (h : stpS L1 320 s a = (i, k, e)) (he : e ≠ 0) : mk1 L1 L2 s a = none := by
  unfold mk1; rw [h]; simp only; rw [if_neg he]
theorem mk1_byte {L1 L2 : Nat → Int} {s : ByteArray} {a i k : Nat} (h : stpS L1 320 s a = (i, k, 0)) (hi : i < 256) : mk1 L1 L2 s a = some (⟨0, 0, i⟩, a + k) := by
  unfold mk1; rw [h]; simp only; rw [if_pos trivial, if_pos hi]
theorem mk1_bad2 {L1 L2 : Nat → Int} {s : ByteArray} {a i k j l : Nat} {e : Int} (h : stpS L1 320 s a = (i, k, 0)) (hi : ¬ i < 256) (h2 : stpS L2 9 s (a + k) = (j, l, e)) (he : e ≠ 0) : mk1 L1 L2 s a = none := by
  unfold mk1; rw [h]; simp only; rw [if_pos trivial, if_neg hi, h2]; simp only; rw [if_neg he]
theorem mk1_short {L1 L2 : Nat → Int} {s : ByteArray} {a i k j l : Nat} (h : stpS L1 320 s a = (i, k, 0)) (hi : ¬ i < 256) (h2 : stpS L2 9 s (a + k) = (j, l, 0)) (hl : ¬ a + k + l + j ≤ 8 * s.size) : mk1 L1 L2 s a = none := by
  unfold mk1; rw [h]; simp only; rw [if_pos trivial, if_neg hi, h2]; simp only; rw [if_pos trivial, if_neg hl]
theorem mk1_copy {L1 L2 : Nat → Int} {s : ByteArray} {a i k j l : Nat} (h : stpS L1 320 s a = (i, k, 0)) (hi : ¬ i < 256) (h2 : stpS L2 9 s (a + k) = (j, l, 0)) (hl : a + k + l + j ≤ 8 * s.size) :
    mk1 L1 L2 s a = some (⟨((i - 253 : Nat) : Int), ((2 ^ j + getN (txtN s.data.toList) (a + k + l) j : Nat) : Int), 0⟩, a + k + l + j) := by
  unfold mk1; rw [h]; simp only; rw [if_pos trivial, if_neg hi, h2]; simp only; rw [if_pos trivial, if_pos hl]
/-- the first n marks from bit a on -/
def mkS (L1 L2 : Nat → Int) (s : ByteArray) (a : Nat) : Nat → Option (List Mk × Nat)
  | 0 => some ([], a)
  | n + 1 => match mkS L1 L2 s a n with
    | some (l, b) => (match mk1 L1 L2 s b with
      | some (m, c) => some (l ++ [m], c)
      | none => none)
    | none => none
theorem mkS_step {L1 L2 : Nat → Int} {s : ByteArray} {a n b c : Nat} {l : List Mk} {m : Mk} (h : mkS L1 L2 s a n = some (l, b)) (h1 : mk1 L1 L2 s b = some (m, c)) : mkS L1 L2 s a (n + 1) = some (l ++ [m], c) := by
  simp only [mkS, h, h1]
theorem mkS_none {L1 L2 : Nat → Int} {s : ByteArray} {a n b : Nat} {l : List Mk} (h : mkS L1 L2 s a n = some (l, b)) (h1 : mk1 L1 L2 s b = none) : mkS L1 L2 s a (n + 1) = none := by
  simp only [mkS, h, h1]
theorem mkS_stays {L1 L2 : Nat → Int} {s : ByteArray} {a n m : Nat} (h : mkS L1 L2 s a n = none) (hm : n ≤ m) : mkS L1 L2 s a m = none := by
  induction m with
  | zero => rw [show n = 0 by omega] at h; exact h
  | succ m ih =>
    by_cases e : n = m + 1
    · rw [← e]; exact h
    · simp only [mkS, ih (by omega)]
/-- marks that can be read -/
def MkOk (m : Mk) : Prop := (0 ≤ m.ln ∧ m.ln ≤ 66) ∧ (0 ≤ m.ds ∧ m.ds ≤ 511) ∧ m.by' < 256
theorem getN_low (X a j : Nat) (hj : j ≤ 8) : getN X a j < 256 := by
  unfold getN
  have h1 : X / 2 ^ a % 2 ^ j < 2 ^ j := Nat.mod_lt _ (Nat.two_pow_pos _)
  have h2 : 2 ^ j ≤ 2 ^ 8 := Nat.pow_le_pow_right (by decide) hj
  omega
theorem pow_le8 (j : Nat) (hj : j ≤ 8) : 2 ^ j ≤ 256 := Nat.pow_le_pow_right (n := 2) (by decide) hj
theorem pow_getN (X a j : Nat) (hj : j ≤ 8) : 2 ^ j + getN X a j ≤ 511 := by
  unfold getN
  have h1 : X / 2 ^ a % 2 ^ j < 2 ^ j := Nat.mod_lt _ (Nat.two_pow_pos _)
  have h2 := pow_le8 j hj
  omega
theorem mk1_ok {L1 L2 : Nat → Int} {s : ByteArray} {a b : Nat} {m : Mk} (h : mk1 L1 L2 s a = some (m, b)) (ha : a ≤ 8 * s.size) : MkOk m ∧ b ≤ 8 * s.size := by
  obtain ⟨⟨i, k, e⟩, hr⟩ : ∃ r, stpS L1 320 s a = r := ⟨_, rfl⟩
  by_cases he : e = 0
  · subst he
    have hk := stp_ok (L := L1) (len := 320) (s := s) (a := a) (by rw [hr])
    rw [hr] at hk
    simp only at hk
    by_cases hi : i < 256
    · rw [mk1_byte hr hi] at h
      cases h
      exact ⟨⟨⟨by simp only; omega, by simp only; omega⟩, ⟨by simp only; omega, by simp only; omega⟩, hi⟩, by omega⟩
    · obtain ⟨⟨j, l, e⟩, hr2⟩ : ∃ r, stpS L2 9 s (a + k) = r := ⟨_, rfl⟩
      by_cases he2 : e = 0
      · subst he2
        have hj := stp_ok (L := L2) (len := 9) (s := s) (a := a + k) (by rw [hr2])
        rw [hr2] at hj
        simp only at hj
        by_cases hl : a + k + l + j ≤ 8 * s.size
        · rw [mk1_copy hr hi hr2 hl] at h
          cases h
          have := pow_getN (txtN s.data.toList) (a + k + l) j (by omega)
          generalize 2 ^ j + getN (txtN s.data.toList) (a + k + l) j = z at this
          exact ⟨⟨⟨by simp only; omega, by simp only; omega⟩, ⟨by simp only; omega, by simp only; omega⟩, Nat.zero_lt_succ _⟩, hl⟩
        · rw [mk1_short hr hi hr2 hl] at h; cases h
      · rw [mk1_bad2 hr hi hr2 he2] at h; cases h
  · rw [mk1_bad hr he] at h; cases h
theorem mkS_ok {L1 L2 : Nat → Int} {s : ByteArray} {a : Nat} (ha : a ≤ 8 * s.size) : ∀ n l b, mkS L1 L2 s a n = some (l, b) → (∀ m ∈ l, MkOk m) ∧ b ≤ 8 * s.size ∧ l.length = n := by
  intro n
  induction n with
  | zero => intro l b h; simp only [mkS] at h; cases h; exact ⟨fun m hm => by simp at hm, ha, rfl⟩
  | succ n ih =>
    intro l b h
    cases h1 : mkS L1 L2 s a n with
    | none => simp only [mkS, h1] at h; cases h
    | some p =>
      obtain ⟨l1, b1⟩ := p
      obtain ⟨i1, i2, i3⟩ := ih l1 b1 h1
      cases h2 : mk1 L1 L2 s b1 with
      | none => rw [mkS_none h1 h2] at h; cases h
      | some q =>
        obtain ⟨m, c⟩ := q
        rw [mkS_step h1 h2] at h
        cases h
        obtain ⟨j1, j2⟩ := mk1_ok h2 i2
        refine ⟨fun m' hm' => ?_, j2, by simp [i3]⟩
        rcases List.mem_append.1 hm' with h | h
        · exact i1 m' h
        · rw [List.mem_singleton.1 h]; exact j1
/-- nothing but noughts is left, less than a byte -/
def endB (s : ByteArray) (e : Nat) : Bool := decide (8 * s.size - e < 8 ∧ txtN s.data.toList / 2 ^ e = 0)
/-- a code's lengths, and what stands behind -/
def rbk (t : List UInt8) (n : Nat) : Option (List Nat × List UInt8) :=
  if rdRE t = 0 ∧ (rdRL t).length = n ∧ canE (rowQ (rdRL t)) n = 0 then some (rdRL t, t.drop (rdRN t)) else none
/-- marks behind their number -/
def rmM (t : List UInt8) (n : Nat) : Option (List Mk) :=
  match rbk t 320 with
  | some (l1, b1) => (match rbk b1 9 with
    | some (l2, b2) => (match mkS (rowQ l1) (rowQ l2) ⟨b2.toArray⟩ 0 n with
      | some (ms, e) => if endB ⟨b2.toArray⟩ e = true then some ms else none
      | none => none)
    | none => none)
  | none => none
/-- what the third form says -/
def rmR (t : List UInt8) : Option (List UInt8) :=
  if getE t = 0 ∧ getA t ≤ 512 then
    match rmM (t.drop (getK t)) (getA t) with
    | some ms => if exE ms [] = 0 then some (exT ms []) else none
    | none => none
  else none
/-- what Open answers -/
def openR : List UInt8 → Option (List UInt8)
  | [] => none
  | f :: r =>
    if getE r = 0 ∧ getA r ≤ 512 then
      if f = 0 then (if r.drop (getK r) = [] then some (List.replicate (getA r) 0) else none)
      else if f = 1 then (if (r.drop (getK r)).length = getA r then some (r.drop (getK r)) else none)
      else if f = 2 then (match rmR (r.drop (getK r)) with
        | some x => if x.length = getA r then some x else none
        | none => none)
      else none
    else none
theorem rbk_len {t : List UInt8} {n : Nat} {l : List Nat} {b : List UInt8} (h : rbk t n = some (l, b)) : canE (rowQ l) n = 0 := by
  unfold rbk at h
  split at h
  · rename_i hc
    cases h
    exact hc.2.2
  · cases h
end Go.Proofs.Ytganplceeapjcaa
