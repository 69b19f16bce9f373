/- Disks and what is done to them, as lists. No Go in sight. -/
import Derived.Test.YtdhjadgmdmdnjaaBase
namespace Go.Proofs.Ytdhjadgmdmdnjaa

/-- a write that waits -/
structure Pt where
  pl : Int
  tx : ByteArray
/-- something that is done to a disk -/
structure Opp where
  kd : Int
  pl : Int
  tx : ByteArray
def noPt : Pt := ⟨0, ⟨#[]⟩⟩
def noOp : Opp := ⟨0, 0, ⟨#[]⟩⟩

/-- what is wrong with a write to a disk of n cells -/
def putE (n : Nat) (p : Pt) : Int := if p.pl < 0 ∨ (n : Int) ≤ p.pl then 1 else if 1024 < p.tx.size then 2 else 0
def putsE (n : Nat) : List Pt → Int
  | [] => 0
  | p :: r => if putE n p = 0 then putsE n r else putE n p
def celE : List ByteArray → Int
  | [] => 0
  | s :: r => if 1024 < s.size then 2 else celE r
/-- what Check answers -/
def chkD (C : List ByteArray) (P : List Pt) : Int :=
  if C.length < 1 ∨ 128 < C.length then 1
  else if celE C = 0 then (if putsE C.length P = 0 then (if 400 < P.length then 2 else 0) else putsE C.length P) else celE C

theorem putE_cases (n : Nat) (p : Pt) : putE n p = 0 ∧ (0 ≤ p.pl ∧ p.pl < n ∧ p.tx.size ≤ 1024) ∨ putE n p = 1 ∧ (p.pl < 0 ∨ (n : Int) ≤ p.pl) ∨ putE n p = 2 ∧ (0 ≤ p.pl ∧ p.pl < n ∧ 1024 < p.tx.size) := by
  unfold putE
  split
  · exact .inr (.inl ⟨rfl, ‹_›⟩)
  · split
    · exact .inr (.inr ⟨rfl, by omega⟩)
    · exact .inl ⟨rfl, by omega⟩
theorem putE_zero {n : Nat} {p : Pt} (h : putE n p = 0) : 0 ≤ p.pl ∧ p.pl < n ∧ p.tx.size ≤ 1024 := by
  rcases putE_cases n p with ⟨_, h2⟩ | ⟨h1, _⟩ | ⟨h1, _⟩
  · exact h2
  · omega
  · omega
theorem celE_cases (C : List ByteArray) : celE C = 0 ∨ celE C = 2 := by
  induction C with
  | nil => exact .inl rfl
  | cons s r ih => unfold celE; split; exact .inr rfl; exact ih
theorem putsE_cases (n : Nat) (P : List Pt) : putsE n P = 0 ∨ putsE n P = 1 ∨ putsE n P = 2 := by
  induction P with
  | nil => exact .inl rfl
  | cons s r ih =>
    unfold putsE; split
    · exact ih
    · rcases putE_cases n s with ⟨h, _⟩ | ⟨h, _⟩ | ⟨h, _⟩ <;> omega
theorem chkD_range (C : List ByteArray) (P : List Pt) : 0 ≤ chkD C P ∧ chkD C P ≤ 2 := by
  unfold chkD
  have := celE_cases C
  have := putsE_cases C.length P
  split
  · omega
  · split
    · split
      · split <;> omega
      · omega
    · omega
theorem celE_all {C : List ByteArray} (h : celE C = 0) : ∀ s ∈ C, s.size ≤ 1024 := by
  induction C with
  | nil => intro s hs; simp at hs
  | cons x r ih =>
    unfold celE at h
    split at h
    · omega
    · intro s hs
      rcases List.mem_cons.1 hs with rfl | hs
      · omega
      · exact ih h s hs
theorem celE_of {C : List ByteArray} (h : ∀ s ∈ C, s.size ≤ 1024) : celE C = 0 := by
  induction C with
  | nil => rfl
  | cons x r ih =>
    unfold celE
    rw [if_neg (by have := h x (by simp); omega)]
    exact ih fun s hs => h s (by simp [hs])
theorem putsE_all {n : Nat} {P : List Pt} (h : putsE n P = 0) : ∀ p ∈ P, putE n p = 0 := by
  induction P with
  | nil => intro s hs; simp at hs
  | cons x r ih =>
    unfold putsE at h
    split at h
    · intro s hs
      rcases List.mem_cons.1 hs with rfl | hs
      · assumption
      · exact ih h s hs
    · exact absurd h ‹_›
theorem putsE_of {n : Nat} {P : List Pt} (h : ∀ p ∈ P, putE n p = 0) : putsE n P = 0 := by
  induction P with
  | nil => rfl
  | cons x r ih =>
    unfold putsE
    rw [if_pos (h x (by simp))]
    exact ih fun s hs => h s (by simp [hs])
/-- a right disk -/
structure OkD (C : List ByteArray) (P : List Pt) : Prop where
  n1 : 1 ≤ C.length
  n2 : C.length ≤ 128
  cs : ∀ s ∈ C, s.size ≤ 1024
  ps : ∀ p ∈ P, putE C.length p = 0
  m : P.length ≤ 400
theorem chkD_ok {C : List ByteArray} {P : List Pt} (h : chkD C P = 0) : OkD C P := by
  unfold chkD at h
  have h1 := celE_cases C
  have h2 := putsE_cases C.length P
  split at h
  · omega
  · split at h
    · split at h
      · split at h
        · omega
        · exact ⟨by omega, by omega, celE_all ‹_›, putsE_all ‹_›, by omega⟩
      · exact absurd h ‹_›
    · exact absurd h ‹_›
theorem ok_chkD {C : List ByteArray} {P : List Pt} (h : OkD C P) : chkD C P = 0 := by
  unfold chkD
  have := h.n1; have := h.n2; have := h.m
  rw [if_neg (by omega), if_pos (celE_of h.cs), if_pos (putsE_of h.ps), if_neg (by omega)]
theorem drop_at {α : Type} (l : List α) (k : Nat) (d : α) (h : k < l.length) : l.drop k = l.getD k d :: l.drop (k + 1) := by
  rw [List.drop_eq_getElem_cons h, List.getD_eq_getElem?_getD, List.getElem?_eq_getElem h]; rfl
theorem getD_mem {α : Type} (l : List α) (k : Nat) (d : α) (h : k < l.length) : l.getD k d ∈ l := by
  rw [List.getD_eq_getElem?_getD, List.getElem?_eq_getElem h]
  exact List.getElem_mem h

/-- the writes of which L says so land, the first being number i -/
def landL (L : Nat → Bool) : List Pt → Nat → List ByteArray → List ByteArray
  | [], _, C => C
  | p :: r, i, C => landL L r (i + 1) (if L i then C.set p.pl.toNat p.tx else C)
theorem landL_length (L : Nat → Bool) : ∀ (P : List Pt) (i : Nat) (C : List ByteArray), (landL L P i C).length = C.length := by
  intro P
  induction P with
  | nil => intro i C; rfl
  | cons p r ih => intro i C; rw [landL, ih]; split <;> simp
theorem landL_le (L : Nat → Bool) : ∀ (P : List Pt) (i : Nat) (C : List ByteArray), (∀ s ∈ C, s.size ≤ 1024) → (∀ p ∈ P, p.tx.size ≤ 1024) → ∀ s ∈ landL L P i C, s.size ≤ 1024 := by
  intro P
  induction P with
  | nil => intro i C h _; exact h
  | cons p r ih =>
    intro i C h hp
    rw [landL]
    refine ih _ _ ?_ fun q hq => hp q (by simp [hq])
    split
    · intro s hs
      rcases List.mem_or_eq_of_mem_set hs with h1 | rfl
      · exact h s h1
      · exact hp p (by simp)
    · exact h
theorem ok_land {C : List ByteArray} {P : List Pt} (h : OkD C P) (L : Nat → Bool) : OkD (landL L P 0 C) [] :=
  ⟨by rw [landL_length]; exact h.n1, by rw [landL_length]; exact h.n2, landL_le L P 0 C h.cs fun p hp => (putE_zero (h.ps p hp)).2.2, fun p hp => by simp at hp, by simp⟩
theorem ok_put {C : List ByteArray} {P : List Pt} (h : OkD C P) {p : Pt} (hp : putE C.length p = 0) (hm : P.length < 400) : OkD C (P ++ [p]) :=
  ⟨h.n1, h.n2, h.cs, fun q hq => by
    rcases List.mem_append.1 hq with hq | hq
    · exact h.ps q hq
    · rw [List.mem_singleton.1 hq]; exact hp, by rw [List.length_append, List.length_singleton]; omega⟩

/-- what is read of a cell, of the writes from number i on -/
def cellL (L : Nat → Bool) (at' : Int) : List Pt → Nat → ByteArray → ByteArray
  | [], _, s => s
  | p :: r, i, s => cellL L at' r (i + 1) (if p.pl = at' ∧ L i = true then p.tx else s)
theorem getD_set {α : Type} (C : List α) (i k : Nat) (x d : α) (hk : k < C.length) : (C.set i x).getD k d = if i = k then x else C.getD k d := by
  rw [List.getD_eq_getElem?_getD, List.getD_eq_getElem?_getD, List.getElem?_set]
  by_cases h : i = k
  · subst h
    rw [if_pos rfl, if_pos rfl, if_pos hk]; rfl
  · rw [if_neg h, if_neg h]
theorem land_cell (L : Nat → Bool) : ∀ (P : List Pt) (i : Nat) (C : List ByteArray) (k : Nat) (_ : k < C.length) (_ : ∀ p ∈ P, 0 ≤ p.pl), (landL L P i C).getD k ⟨#[]⟩ = cellL L k P i (C.getD k ⟨#[]⟩) := by
  intro P
  induction P with
  | nil => intro i C k _ _; rfl
  | cons p r ih =>
    intro i C k hk hp
    have h0 := hp p (by simp)
    rw [landL, cellL]
    have e : (if L i = true then C.set p.pl.toNat p.tx else C).getD k ⟨#[]⟩ = if p.pl = (k : Int) ∧ L i = true then p.tx else C.getD k ⟨#[]⟩ := by
      by_cases hl : L i = true
      · rw [if_pos hl, getD_set _ _ _ _ _ hk]
        by_cases he : p.pl = (k : Int)
        · rw [if_pos (by omega), if_pos ⟨he, hl⟩]
        · rw [if_neg (by omega), if_neg (fun h => he h.1)]
      · rw [if_neg hl, if_neg (fun h => hl h.2)]
    rw [ih _ _ _ (by split <;> simpa using hk) fun q hq => hp q (by simp [hq]), e]
theorem cellL_congr (L M : Nat → Bool) (at' : Int) : ∀ (P : List Pt) (i : Nat) (s : ByteArray), (∀ j, i ≤ j → j < i + P.length → L j = M j) → cellL L at' P i s = cellL M at' P i s := by
  intro P
  induction P with
  | nil => intro i s _; rfl
  | cons p r ih =>
    intro i s h
    rw [cellL, cellL, h i (Nat.le_refl _) (by simp)]
    exact ih _ _ fun j h1 h2 => h j (by omega) (by rw [List.length_cons]; omega)
theorem landL_congr (L M : Nat → Bool) : ∀ (P : List Pt) (i : Nat) (C : List ByteArray), (∀ j, i ≤ j → j < i + P.length → L j = M j) → landL L P i C = landL M P i C := by
  intro P
  induction P with
  | nil => intro i s _; rfl
  | cons p r ih =>
    intro i s h
    rw [landL, landL, h i (Nat.le_refl _) (by simp)]
    exact ih _ _ fun j h1 h2 => h j (by omega) (by rw [List.length_cons]; omega)
def allL : Nat → Bool := fun _ => true
def keepL (K : List Bool) : Nat → Bool := fun i => K.getD i false

/-- what is wrong with an op, where there are n cells and m writes wait -/
def opE (n m : Nat) (o : Opp) : Int :=
  if o.kd = 1 then (if putE n ⟨o.pl, o.tx⟩ = 0 then (if 400 ≤ m then 9 else 0) else putE n ⟨o.pl, o.tx⟩)
  else if o.kd = 2 ∧ o.pl = 0 ∧ o.tx.size = 0 then 0 else 4
/-- all ops, one by one: the error, and the disk behind them -/
def plays : List Opp → List ByteArray → List Pt → Int × List ByteArray × List Pt
  | [], C, P => (0, C, P)
  | o :: r, C, P => if opE C.length P.length o = 0 then (if o.kd = 1 then plays r C (P ++ [⟨o.pl, o.tx⟩]) else plays r (landL allL P 0 C) []) else (opE C.length P.length o, [], [])
theorem plays_write {o : Opp} (r : List Opp) {C : List ByteArray} {P : List Pt} (h1 : o.kd = 1) (h2 : putE C.length ⟨o.pl, o.tx⟩ = 0) (h3 : P.length < 400) : plays (o :: r) C P = plays r C (P ++ [⟨o.pl, o.tx⟩]) := by
  have e : opE C.length P.length o = 0 := by unfold opE; rw [if_pos h1, if_pos h2, if_neg (by omega)]
  rw [plays, if_pos e, if_pos h1]
theorem plays_sync {o : Opp} (r : List Opp) {C : List ByteArray} {P : List Pt} (h1 : o.kd = 2) (h2 : o.pl = 0) (h3 : o.tx.size = 0) : plays (o :: r) C P = plays r (landL allL P 0 C) [] := by
  have e : opE C.length P.length o = 0 := by unfold opE; rw [if_neg (by omega), if_pos ⟨h1, h2, h3⟩]
  rw [plays, if_pos e, if_neg (by omega)]
theorem plays_bad {o : Opp} (r : List Opp) {C : List ByteArray} {P : List Pt} {e : Int} (h : opE C.length P.length o = e) (he : e ≠ 0) : plays (o :: r) C P = (e, [], []) := by
  rw [plays, h, if_neg he]
theorem opE_range (n m : Nat) (o : Opp) : 0 ≤ opE n m o ∧ opE n m o ≤ 9 := by
  have hp := putE_cases n ⟨o.pl, o.tx⟩
  unfold opE
  by_cases h1 : o.kd = 1
  · rw [if_pos h1]
    by_cases h2 : putE n ⟨o.pl, o.tx⟩ = 0
    · rw [if_pos h2]
      by_cases h3 : 400 ≤ m
      · rw [if_pos h3]; omega
      · rw [if_neg h3]; omega
    · rw [if_neg h2]; omega
  · rw [if_neg h1]
    by_cases h2 : o.kd = 2 ∧ o.pl = 0 ∧ o.tx.size = 0
    · rw [if_pos h2]; omega
    · rw [if_neg h2]; omega
theorem plays_range : ∀ (l : List Opp) (C : List ByteArray) (P : List Pt), 0 ≤ (plays l C P).1 ∧ (plays l C P).1 ≤ 9 := by
  intro l
  induction l with
  | nil => intro C P; simp [plays]
  | cons o r ih =>
    intro C P
    rw [plays]
    split
    · split
      · exact ih _ _
      · exact ih _ _
    · exact opE_range _ _ _
theorem plays_zero : ∀ (l : List Opp) (C : List ByteArray) (P : List Pt), (plays l C P).1 ≠ 0 → (plays l C P).2.1 = [] ∧ (plays l C P).2.2 = [] := by
  intro l
  induction l with
  | nil => intro C P h; simp [plays] at h
  | cons o r ih =>
    intro C P
    rw [plays]
    split
    · split
      · exact ih _ _
      · exact ih _ _
    · intro _; exact ⟨rfl, rfl⟩
theorem plays_ok : ∀ (l : List Opp) (C : List ByteArray) (P : List Pt), OkD C P → (plays l C P).1 = 0 → OkD (plays l C P).2.1 (plays l C P).2.2 := by
  intro l
  induction l with
  | nil => intro C P h _; exact h
  | cons o r ih =>
    intro C P h
    rw [plays]
    split
    · rename_i h0
      split
      · rename_i h1
        unfold opE at h0
        rw [if_pos h1] at h0
        have hp : putE C.length ⟨o.pl, o.tx⟩ = 0 := by
          refine Classical.byContradiction fun hh => ?_
          rw [if_neg hh] at h0; exact hh h0
        rw [if_pos hp] at h0
        have hm : P.length < 400 := by
          refine Classical.byContradiction fun hh => ?_
          rw [if_pos (by omega)] at h0; omega
        exact ih _ _ (ok_put h hp hm)
      · exact ih _ _ (ok_land h _)
    · intro hh; exact absurd hh ‹_›
theorem plays_append : ∀ (l m : List Opp) (C : List ByteArray) (P : List Pt), plays (l ++ m) C P = if (plays l C P).1 = 0 then plays m (plays l C P).2.1 (plays l C P).2.2 else plays l C P := by
  intro l
  induction l with
  | nil => intro m C P; simp [plays]
  | cons o r ih =>
    intro m C P
    rw [List.cons_append, plays, plays]
    split
    · split
      · exact ih _ _ _
      · exact ih _ _ _
    · rfl
/-- Play -/
def playE (C : List ByteArray) (P : List Pt) (l : List Opp) : Int × List ByteArray × List Pt := if chkD C P = 0 then plays l C P else (chkD C P, [], [])
end Go.Proofs.Ytdhjadgmdmdnjaa
