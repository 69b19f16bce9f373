/- Texts of ours, one behind the other: Base MoreWalks DkMath SumWalks Byts UnfixWalks RFlipWalks RSumTurn RSumWalks OneText -/
import Derived.Test.YtbakgobgjfhhhaaDoorRows
import Derived.WalkKit
import Derived.WalkSpells
import Derived.WalkLawsBesides
import Derived.OpenShut
import Derived.Test.YtbakgobgjfhhhaaDoorPsab
import Derived.Laws.IdiomStrings
import Derived.Laws.Rows
import Derived.Laws.BytesArg

/- Small helpers for the walks of this seat. -/
namespace Go.Proofs.YtbakgobgjfhhhaaDoor
open Go.RowKit

theorem ret_int {k : IntKind} {a b : Int} (h : a = b) : Ending.returned (.int k a) = .returned (.int k b) := by rw [h]
theorem int_eq {k : IntKind} {a b : Int} (h : a = b) : Value.int k a = .int k b := by rw [h]
theorem Hid.mk' {p : Prop} (h : p) : Hid p := h
theorem u64_nat {x : Int} (h : (Lit.int .u64 x).wf = true) : ∃ n : Nat, x = n ∧ n < 18446744073709551616 := by
  have := bounds_u64 h
  exact ⟨x.toNat, by omega, by omega⟩
theorem u32_nat {x : Int} (h : (Lit.int .u32 x).wf = true) : ∃ n : Nat, x = n ∧ n < 4294967296 := by
  have := bounds_u32 h
  exact ⟨x.toNat, by omega, by omega⟩
theorem bytes_ext {s t : ByteArray} (h : s.data.toList = t.data.toList) : s = t := by
  cases s; cases t
  exact congrArg ByteArray.mk (Array.toList_inj.1 h)
end Go.Proofs.YtbakgobgjfhhhaaDoor

/- What sum.More answers, where the table holds what four steps make of each half byte. -/
namespace Go.Proofs.YtbakgobgjfhhhaaDoor
open Go.RowKit

theorem take_snoc (s : ByteArray) (k : Nat) (h : k < s.size) : s.data.toList.take (k + 1) = s.data.toList.take k ++ [s[k]] := by
  rw [List.take_succ_eq_append_getElem (by simpa using h)]; rfl

/-- the table lies where it was laid -/
def Tab (w : World) : Prop := ∀ i, i < 16 → w.cell? ⟨0, i, none⟩ = some (.int .u32 (B (fours i)))

set_option maxHeartbeats 400000 in
theorem more_any (c : BitVec 32) (s : ByteArray) (w : World) (hs : s.size ≤ maxLen) (hT : Tab w) :
    Calls Tryd.prog 75 #[.int .u32 (B c), .string s] w fun e w' => e = .returned (.int .u32 (B (moreC c s.data.toList))) ∧ w' = w := by
  unfold maxLen at hs
  have hsg : IntKind.u32.signed = false := rfl
  have hn := notB c
  go_enter Tryd.func75, Tryd.ntmps75
  go_wp2
  go_loop [0, 10] (fun x i => ∃ k : Nat, k ≤ s.size ∧ i = .int .i64 k ∧ x = .int .u32 (B (feed (~~~c) (s.data.toList.take k)))) (fun _ i => s.size - (intOf i).toNat)
  case atStart => exact ⟨0, Nat.zero_le _, rfl, rfl⟩
  case round =>
    obtain ⟨k, hk, rfl, rfl⟩ := hrel
    by_cases hlt : k < s.size
    · have hfin : Hid (feed (~~~c) (s.data.toList.take (k + 1)) = byte1 (feed (~~~c) (s.data.toList.take k)) s[k]) := by rw [take_snoc s k hlt, feed_snoc]; exact rfl
      generalize feed (~~~c) (s.data.toList.take k) = d at *
      have e1 := byteB d s[k]
      have hh := Hid.mk' (byte1_halves d s[k])
      generalize d ^^^ BitVec.ofNat 32 s[k].toNat = d1 at *
      have e2 := low15 d1
      have e3 := low15_lt d1
      have e4 := hT _ e3
      have e5 := halfB d1
      generalize (d1 &&& 15#32).toNat = j1 at *
      generalize stps 4 d1 = d2 at *
      have f2 := low15 d2
      have f3 := low15_lt d2
      have f4 := hT _ f3
      have f5 := halfB d2
      generalize (d2 &&& 15#32).toNat = j2 at *
      generalize stps 4 d2 = d3 at *
      go_wp2
      go_round
      case rel => exact ⟨k + 1, by omega, by go_num, by rw [hfin.out, ← hh.out]⟩
      case measure => simp [intOf]; omega
    · have hf := notB (feed (~~~c) (s.data.toList.take k))
      go_wp2
      go_ret
      refine ⟨ret_int ?_, rfl⟩
      rw [List.take_of_length_le (by simp; omega)]; rfl

end Go.Proofs.YtbakgobgjfhhhaaDoor

/- Disks and what is done to them, as lists. No Go in sight. -/
namespace Go.Proofs.YtbakgobgjfhhhaaDoor

/-- a write that waits -/
structure Pt where
  pl : Int
  tx : ByteArray
/-- something that is done to a disk -/
structure Opp where
  kd : Int
  pl : Int
  tx : ByteArray
def noPt : Pt := ⟨0, ⟨#[]⟩⟩
def noOp : Opp := ⟨0, 0, ⟨#[]⟩⟩

/-- what is wrong with a write to a disk of n cells -/
def putE (n : Nat) (p : Pt) : Int := if p.pl < 0 ∨ (n : Int) ≤ p.pl then 1 else if 1024 < p.tx.size then 2 else 0
def putsE (n : Nat) : List Pt → Int
  | [] => 0
  | p :: r => if putE n p = 0 then putsE n r else putE n p
def celE : List ByteArray → Int
  | [] => 0
  | s :: r => if 1024 < s.size then 2 else celE r
/-- what Check answers -/
def chkD (C : List ByteArray) (P : List Pt) : Int :=
  if C.length < 1 ∨ 128 < C.length then 1
  else if celE C = 0 then (if putsE C.length P = 0 then (if 400 < P.length then 2 else 0) else putsE C.length P) else celE C

theorem putE_cases (n : Nat) (p : Pt) : putE n p = 0 ∧ (0 ≤ p.pl ∧ p.pl < n ∧ p.tx.size ≤ 1024) ∨ putE n p = 1 ∧ (p.pl < 0 ∨ (n : Int) ≤ p.pl) ∨ putE n p = 2 ∧ (0 ≤ p.pl ∧ p.pl < n ∧ 1024 < p.tx.size) := by
  unfold putE
  split
  · exact .inr (.inl ⟨rfl, ‹_›⟩)
  · split
    · exact .inr (.inr ⟨rfl, by omega⟩)
    · exact .inl ⟨rfl, by omega⟩
theorem putE_zero {n : Nat} {p : Pt} (h : putE n p = 0) : 0 ≤ p.pl ∧ p.pl < n ∧ p.tx.size ≤ 1024 := by
  rcases putE_cases n p with ⟨_, h2⟩ | ⟨h1, _⟩ | ⟨h1, _⟩
  · exact h2
  · omega
  · omega
theorem celE_cases (C : List ByteArray) : celE C = 0 ∨ celE C = 2 := by
  induction C with
  | nil => exact .inl rfl
  | cons s r ih => unfold celE; split; exact .inr rfl; exact ih
theorem putsE_cases (n : Nat) (P : List Pt) : putsE n P = 0 ∨ putsE n P = 1 ∨ putsE n P = 2 := by
  induction P with
  | nil => exact .inl rfl
  | cons s r ih =>
    unfold putsE; split
    · exact ih
    · rcases putE_cases n s with ⟨h, _⟩ | ⟨h, _⟩ | ⟨h, _⟩ <;> omega
theorem chkD_range (C : List ByteArray) (P : List Pt) : 0 ≤ chkD C P ∧ chkD C P ≤ 2 := by
  unfold chkD
  have := celE_cases C
  have := putsE_cases C.length P
  split
  · omega
  · split
    · split
      · split <;> omega
      · omega
    · omega
theorem celE_all {C : List ByteArray} (h : celE C = 0) : ∀ s ∈ C, s.size ≤ 1024 := by
  induction C with
  | nil => intro s hs; simp at hs
  | cons x r ih =>
    unfold celE at h
    split at h
    · omega
    · intro s hs
      rcases List.mem_cons.1 hs with rfl | hs
      · omega
      · exact ih h s hs
theorem celE_of {C : List ByteArray} (h : ∀ s ∈ C, s.size ≤ 1024) : celE C = 0 := by
  induction C with
  | nil => rfl
  | cons x r ih =>
    unfold celE
    rw [if_neg (by have := h x (by simp); omega)]
    exact ih fun s hs => h s (by simp [hs])
theorem putsE_all {n : Nat} {P : List Pt} (h : putsE n P = 0) : ∀ p ∈ P, putE n p = 0 := by
  induction P with
  | nil => intro s hs; simp at hs
  | cons x r ih =>
    unfold putsE at h
    split at h
    · intro s hs
      rcases List.mem_cons.1 hs with rfl | hs
      · assumption
      · exact ih h s hs
    · exact absurd h ‹_›
theorem putsE_of {n : Nat} {P : List Pt} (h : ∀ p ∈ P, putE n p = 0) : putsE n P = 0 := by
  induction P with
  | nil => rfl
  | cons x r ih =>
    unfold putsE
    rw [if_pos (h x (by simp))]
    exact ih fun s hs => h s (by simp [hs])
/-- a right disk -/
structure OkD (C : List ByteArray) (P : List Pt) : Prop where
  n1 : 1 ≤ C.length
  n2 : C.length ≤ 128
  cs : ∀ s ∈ C, s.size ≤ 1024
  ps : ∀ p ∈ P, putE C.length p = 0
  m : P.length ≤ 400
theorem chkD_ok {C : List ByteArray} {P : List Pt} (h : chkD C P = 0) : OkD C P := by
  unfold chkD at h
  have h1 := celE_cases C
  have h2 := putsE_cases C.length P
  split at h
  · omega
  · split at h
    · split at h
      · split at h
        · omega
        · exact ⟨by omega, by omega, celE_all ‹_›, putsE_all ‹_›, by omega⟩
      · exact absurd h ‹_›
    · exact absurd h ‹_›
theorem ok_chkD {C : List ByteArray} {P : List Pt} (h : OkD C P) : chkD C P = 0 := by
  unfold chkD
  have := h.n1; have := h.n2; have := h.m
  rw [if_neg (by omega), if_pos (celE_of h.cs), if_pos (putsE_of h.ps), if_neg (by omega)]
theorem drop_at {α : Type} (l : List α) (k : Nat) (d : α) (h : k < l.length) : l.drop k = l.getD k d :: l.drop (k + 1) := by
  rw [List.drop_eq_getElem_cons h, List.getD_eq_getElem?_getD, List.getElem?_eq_getElem h]; rfl
theorem getD_mem {α : Type} (l : List α) (k : Nat) (d : α) (h : k < l.length) : l.getD k d ∈ l := by
  rw [List.getD_eq_getElem?_getD, List.getElem?_eq_getElem h]
  exact List.getElem_mem h

/-- the writes of which L says so land, the first being number i -/
def landL (L : Nat → Bool) : List Pt → Nat → List ByteArray → List ByteArray
  | [], _, C => C
  | p :: r, i, C => landL L r (i + 1) (if L i then C.set p.pl.toNat p.tx else C)
theorem landL_length (L : Nat → Bool) : ∀ (P : List Pt) (i : Nat) (C : List ByteArray), (landL L P i C).length = C.length := by
  intro P
  induction P with
  | nil => intro i C; rfl
  | cons p r ih => intro i C; rw [landL, ih]; split <;> simp
theorem landL_le (L : Nat → Bool) : ∀ (P : List Pt) (i : Nat) (C : List ByteArray), (∀ s ∈ C, s.size ≤ 1024) → (∀ p ∈ P, p.tx.size ≤ 1024) → ∀ s ∈ landL L P i C, s.size ≤ 1024 := by
  intro P
  induction P with
  | nil => intro i C h _; exact h
  | cons p r ih =>
    intro i C h hp
    rw [landL]
    refine ih _ _ ?_ fun q hq => hp q (by simp [hq])
    split
    · intro s hs
      rcases List.mem_or_eq_of_mem_set hs with h1 | rfl
      · exact h s h1
      · exact hp p (by simp)
    · exact h
theorem ok_land {C : List ByteArray} {P : List Pt} (h : OkD C P) (L : Nat → Bool) : OkD (landL L P 0 C) [] :=
  ⟨by rw [landL_length]; exact h.n1, by rw [landL_length]; exact h.n2, landL_le L P 0 C h.cs fun p hp => (putE_zero (h.ps p hp)).2.2, fun p hp => by simp at hp, by simp⟩
theorem ok_put {C : List ByteArray} {P : List Pt} (h : OkD C P) {p : Pt} (hp : putE C.length p = 0) (hm : P.length < 400) : OkD C (P ++ [p]) :=
  ⟨h.n1, h.n2, h.cs, fun q hq => by
    rcases List.mem_append.1 hq with hq | hq
    · exact h.ps q hq
    · rw [List.mem_singleton.1 hq]; exact hp, by rw [List.length_append, List.length_singleton]; omega⟩

/-- what is read of a cell, of the writes from number i on -/
def cellL (L : Nat → Bool) (at' : Int) : List Pt → Nat → ByteArray → ByteArray
  | [], _, s => s
  | p :: r, i, s => cellL L at' r (i + 1) (if p.pl = at' ∧ L i = true then p.tx else s)
theorem getD_set {α : Type} (C : List α) (i k : Nat) (x d : α) (hk : k < C.length) : (C.set i x).getD k d = if i = k then x else C.getD k d := by
  rw [List.getD_eq_getElem?_getD, List.getD_eq_getElem?_getD, List.getElem?_set]
  by_cases h : i = k
  · subst h
    rw [if_pos rfl, if_pos rfl, if_pos hk]; rfl
  · rw [if_neg h, if_neg h]
theorem land_cell (L : Nat → Bool) : ∀ (P : List Pt) (i : Nat) (C : List ByteArray) (k : Nat) (_ : k < C.length) (_ : ∀ p ∈ P, 0 ≤ p.pl), (landL L P i C).getD k ⟨#[]⟩ = cellL L k P i (C.getD k ⟨#[]⟩) := by
  intro P
  induction P with
  | nil => intro i C k _ _; rfl
  | cons p r ih =>
    intro i C k hk hp
    have h0 := hp p (by simp)
    rw [landL, cellL]
    have e : (if L i = true then C.set p.pl.toNat p.tx else C).getD k ⟨#[]⟩ = if p.pl = (k : Int) ∧ L i = true then p.tx else C.getD k ⟨#[]⟩ := by
      by_cases hl : L i = true
      · rw [if_pos hl, getD_set _ _ _ _ _ hk]
        by_cases he : p.pl = (k : Int)
        · rw [if_pos (by omega), if_pos ⟨he, hl⟩]
        · rw [if_neg (by omega), if_neg (fun h => he h.1)]
      · rw [if_neg hl, if_neg (fun h => hl h.2)]
    rw [ih _ _ _ (by split <;> simpa using hk) fun q hq => hp q (by simp [hq]), e]
theorem cellL_congr (L M : Nat → Bool) (at' : Int) : ∀ (P : List Pt) (i : Nat) (s : ByteArray), (∀ j, i ≤ j → j < i + P.length → L j = M j) → cellL L at' P i s = cellL M at' P i s := by
  intro P
  induction P with
  | nil => intro i s _; rfl
  | cons p r ih =>
    intro i s h
    rw [cellL, cellL, h i (Nat.le_refl _) (by simp)]
    exact ih _ _ fun j h1 h2 => h j (by omega) (by rw [List.length_cons]; omega)
theorem landL_congr (L M : Nat → Bool) : ∀ (P : List Pt) (i : Nat) (C : List ByteArray), (∀ j, i ≤ j → j < i + P.length → L j = M j) → landL L P i C = landL M P i C := by
  intro P
  induction P with
  | nil => intro i s _; rfl
  | cons p r ih =>
    intro i s h
    rw [landL, landL, h i (Nat.le_refl _) (by simp)]
    exact ih _ _ fun j h1 h2 => h j (by omega) (by rw [List.length_cons]; omega)
def allL : Nat → Bool := fun _ => true
def keepL (K : List Bool) : Nat → Bool := fun i => K.getD i false

/-- what is wrong with an op, where there are n cells and m writes wait -/
def opE (n m : Nat) (o : Opp) : Int :=
  if o.kd = 1 then (if putE n ⟨o.pl, o.tx⟩ = 0 then (if 400 ≤ m then 9 else 0) else putE n ⟨o.pl, o.tx⟩)
  else if o.kd = 2 ∧ o.pl = 0 ∧ o.tx.size = 0 then 0 else 4
/-- all ops, one by one: the error, and the disk behind them -/
def plays : List Opp → List ByteArray → List Pt → Int × List ByteArray × List Pt
  | [], C, P => (0, C, P)
  | o :: r, C, P => if opE C.length P.length o = 0 then (if o.kd = 1 then plays r C (P ++ [⟨o.pl, o.tx⟩]) else plays r (landL allL P 0 C) []) else (opE C.length P.length o, [], [])
theorem plays_write {o : Opp} (r : List Opp) {C : List ByteArray} {P : List Pt} (h1 : o.kd = 1) (h2 : putE C.length ⟨o.pl, o.tx⟩ = 0) (h3 : P.length < 400) : plays (o :: r) C P = plays r C (P ++ [⟨o.pl, o.tx⟩]) := by
  have e : opE C.length P.length o = 0 := by unfold opE; rw [if_pos h1, if_pos h2, if_neg (by omega)]
  rw [plays, if_pos e, if_pos h1]
theorem plays_sync {o : Opp} (r : List Opp) {C : List ByteArray} {P : List Pt} (h1 : o.kd = 2) (h2 : o.pl = 0) (h3 : o.tx.size = 0) : plays (o :: r) C P = plays r (landL allL P 0 C) [] := by
  have e : opE C.length P.length o = 0 := by unfold opE; rw [if_neg (by omega), if_pos ⟨h1, h2, h3⟩]
  rw [plays, if_pos e, if_neg (by omega)]
theorem plays_bad {o : Opp} (r : List Opp) {C : List ByteArray} {P : List Pt} {e : Int} (h : opE C.length P.length o = e) (he : e ≠ 0) : plays (o :: r) C P = (e, [], []) := by
  rw [plays, h, if_neg he]
theorem opE_range (n m : Nat) (o : Opp) : 0 ≤ opE n m o ∧ opE n m o ≤ 9 := by
  have hp := putE_cases n ⟨o.pl, o.tx⟩
  unfold opE
  by_cases h1 : o.kd = 1
  · rw [if_pos h1]
    by_cases h2 : putE n ⟨o.pl, o.tx⟩ = 0
    · rw [if_pos h2]
      by_cases h3 : 400 ≤ m
      · rw [if_pos h3]; omega
      · rw [if_neg h3]; omega
    · rw [if_neg h2]; omega
  · rw [if_neg h1]
    by_cases h2 : o.kd = 2 ∧ o.pl = 0 ∧ o.tx.size = 0
    · rw [if_pos h2]; omega
    · rw [if_neg h2]; omega
theorem plays_range : ∀ (l : List Opp) (C : List ByteArray) (P : List Pt), 0 ≤ (plays l C P).1 ∧ (plays l C P).1 ≤ 9 := by
  intro l
  induction l with
  | nil => intro C P; simp [plays]
  | cons o r ih =>
    intro C P
    rw [plays]
    split
    · split
      · exact ih _ _
      · exact ih _ _
    · exact opE_range _ _ _
theorem plays_zero : ∀ (l : List Opp) (C : List ByteArray) (P : List Pt), (plays l C P).1 ≠ 0 → (plays l C P).2.1 = [] ∧ (plays l C P).2.2 = [] := by
  intro l
  induction l with
  | nil => intro C P h; simp [plays] at h
  | cons o r ih =>
    intro C P
    rw [plays]
    split
    · split
      · exact ih _ _
      · exact ih _ _
    · intro _; exact ⟨rfl, rfl⟩
theorem plays_ok : ∀ (l : List Opp) (C : List ByteArray) (P : List Pt), OkD C P → (plays l C P).1 = 0 → OkD (plays l C P).2.1 (plays l C P).2.2 := by
  intro l
  induction l with
  | nil => intro C P h _; exact h
  | cons o r ih =>
    intro C P h
    rw [plays]
    split
    · rename_i h0
      split
      · rename_i h1
        unfold opE at h0
        rw [if_pos h1] at h0
        have hp : putE C.length ⟨o.pl, o.tx⟩ = 0 := by
          refine Classical.byContradiction fun hh => ?_
          rw [if_neg hh] at h0; exact hh h0
        rw [if_pos hp] at h0
        have hm : P.length < 400 := by
          refine Classical.byContradiction fun hh => ?_
          rw [if_pos (by omega)] at h0; omega
        exact ih _ _ (ok_put h hp hm)
      · exact ih _ _ (ok_land h _)
    · intro hh; exact absurd hh ‹_›
theorem plays_append : ∀ (l m : List Opp) (C : List ByteArray) (P : List Pt), plays (l ++ m) C P = if (plays l C P).1 = 0 then plays m (plays l C P).2.1 (plays l C P).2.2 else plays l C P := by
  intro l
  induction l with
  | nil => intro m C P; simp [plays]
  | cons o r ih =>
    intro m C P
    rw [List.cons_append, plays, plays]
    split
    · split
      · exact ih _ _ _
      · exact ih _ _ _
    · rfl
/-- Play -/
def playE (C : List ByteArray) (P : List Pt) (l : List Opp) : Int × List ByteArray × List Pt := if chkD C P = 0 then plays l C P else (chkD C P, [], [])
end Go.Proofs.YtbakgobgjfhhhaaDoor

/- What sum.Sum answers. -/
namespace Go.Proofs.YtbakgobgjfhhhaaDoor
open Go.RowKit

set_option maxHeartbeats 400000 in
theorem sum_any (s : ByteArray) (w : World) (hs : s.size ≤ maxLen) (hT : Tab w) :
    Calls Tryd.prog 67 #[.string s] w fun e w' => e = .returned (.int .u32 (B (sumC s.data.toList))) ∧ w' = w := by
  have h := Hid.mk' (fun w' (h : Tab w') => more_any 0 s w' hs h)
  go_enter Tryd.func67, Tryd.ntmps67
  go_wp2_with fail
  refine (h.out _ hT).mono ?_
  rintro e w' ⟨rfl, rfl⟩
  go_wp2_with fail
  go_ret
  exact ⟨rfl, rfl⟩
end Go.Proofs.YtbakgobgjfhhhaaDoor

/- Bytes that lie in a block, written and read. -/
namespace Go.Proofs.YtbakgobgjfhhhaaDoor
open Go.RowKit

theorem set_getD (l : List UInt8) (n : Nat) (x : UInt8) (j : Nat) (hn : n < l.length) : (l.set n x).getD j 0 = if j = n then x else l.getD j 0 := by
  simp only [List.getD_eq_getElem?_getD, List.getElem?_set]
  by_cases h : j = n
  · subst h; simp [hn]
  · simp [h, show ¬ n = j by omega]

/-- the block g holds the bytes l, and may be written there -/
structure Byt (w : World) (g : Nat) (l : List UInt8) : Prop where
  cell : ∀ j, j < l.length → w.cell? ⟨g, j, none⟩ = some (.int .u8 ((l.getD j 0).toNat : Int))
  open' : ∀ j, j < l.length → w.frozen? ⟨g, j, none⟩ = false

theorem Byt.set {w : World} {g : Nat} {l : List UInt8} (h : Byt w g l) (n : Nat) (hn : n < l.length) (x : UInt8) : Byt (w.setCell ⟨g, n, none⟩ (.int .u8 (x.toNat : Int))).drew g (l.set n x) := by
  refine ⟨fun j hj => ?_, fun j hj => ?_⟩
  · simp only [List.length_set] at hj
    rw [set_getD l n x j hn]
    by_cases e : j = n
    · subst e
      simp only [if_true]
      exact World.cell?_setCell_same (w := w) (a := ⟨g, j, none⟩) _ (h.cell j hj)
    · rw [if_neg e]
      exact (World.cell?_setCell_other (w := w) (a := ⟨g, n, none⟩) (b := ⟨g, j, none⟩) _ (by intro h; cases h; exact e rfl)).trans (h.cell j hj)
  · simp only [List.length_set] at hj
    exact (World.frozen?_setCell _ _ _ _).trans (h.open' j hj)

theorem byt_start (w : World) (s : ByteArray) (cap : Nat) (t : TypeId) : Byt (w.alloc (.cells (bytesRow s cap) t ((bytesRow s cap).size, (bytesRow s cap).size + 1))).drew w.heap.size s.data.toList := by
  have hz : s.size ≤ (bytesRow s cap).size := by simp [bytesRow]
  refine ⟨fun j hj => ?_, fun j hj => ?_⟩
  · have hj' : j < s.size := by simpa using hj
    refine (World.cell?_alloc_mark w _ t _ j).trans ?_
    rw [bytesRow, Array.getElem?_append_left (by simpa using hj')]
    simp [hj']
  · have hj' : j < s.size := by simpa using hj
    show (w.alloc _).frozen? _ = false
    unfold World.frozen?
    rw [heap_alloc_new]
    simp only [decide_eq_false (show ¬ (bytesRow s cap).size ≤ j by omega), Bool.false_and]

theorem byt_string {w : World} {g : Nat} {l : List UInt8} (h : Byt w g l) (n cap : Nat) (hl : l.length = n) :
    (convert 88 9 (.slice (some ⟨g, 0, none⟩) n cap)).run Tryd.prog w = .ok (.string ⟨l.toArray⟩) w := by
  subst hl
  refine run_convert_bytes_back w 88 9 5 ⟨g, 0, none⟩ cap l Tryd.underlying88 Tryd.underlying5 Tryd.underlying9 fun j hj => ?_
  have := h.cell j hj
  rw [show (⟨g, 0, none⟩ : Addr).add j = ⟨g, j, none⟩ by unfold Addr.add; split <;> simp_all, this]
  simp [List.getD_eq_getElem?_getD, hj]
end Go.Proofs.YtbakgobgjfhhhaaDoor

/- What num.Unfix answers. -/
namespace Go.Proofs.YtbakgobgjfhhhaaDoor
open Go.RowKit

set_option maxHeartbeats 400000 in
theorem unfix_large (s : ByteArray) (w : World) (h : 8 < s.size) (_hs : s.size ≤ 140737488363520) :
    Calls Tryd.prog 29 #[.string s] w fun e w' => e = .returned (.tuple #[.int .u64 0, .int .i64 2]) ∧ w' = w := by
  go_enter Tryd.func29, Tryd.ntmps29
  go_wp2
  go_ret2
  exact ⟨rfl, rfl⟩
theorem unf_take_lt (s : ByteArray) (k : Nat) (hk : k < 8) : unfN (s.data.toList.take k) < 72057594037927936 := by
  have h1 := unfN_lt (s.data.toList.take k)
  have h2 : (s.data.toList.take k).length ≤ k := List.length_take_le _ _
  have h3 : 256 ^ (s.data.toList.take k).length ≤ 256 ^ 7 := Nat.pow_le_pow_right (by decide) (by omega)
  omega
set_option maxHeartbeats 400000 in
theorem unfix_in (s : ByteArray) (w : World) (h : s.size ≤ 8) :
    Calls Tryd.prog 29 #[.string s] w fun e w' => e = .returned (.tuple #[.int .u64 (unfN s.data.toList : Nat), .int .i64 0]) ∧ w' = w := by
  have t2 : decide ((8 : Int) < s.size) = false := decide_eq_false (by omega)
  go_enter Tryd.func29, Tryd.ntmps29
  go_wp2_with fail
  clear t2
  go_loop [4, 11] (fun t i => ∃ k : Nat, k ≤ s.size ∧ i = .int .i64 k ∧ t = .int .u64 (unfN (s.data.toList.take k) : Nat)) (fun _ i => s.size - (intOf i).toNat)
  case atStart => exact ⟨0, Nat.zero_le _, rfl, rfl⟩
  case round =>
    obtain ⟨k, hk, rfl, rfl⟩ := hrel
    by_cases hlt : k < s.size
    · have hst := Hid.mk' (unf_step s k hlt)
      have hor := Hid.mk' <| unf_or (unfN (s.data.toList.take k)) s[k].toNat (unf_take_lt s k (by omega)) s[k].toNat_lt
      generalize unfN (s.data.toList.take k) = m at *
      go_wp2_with fail
      go_round
      case rel => exact ⟨k + 1, by omega, by go_num, by rw [hst.out]; exact int_eq hor.out⟩
      case measure => simp [intOf]; omega
    · have hkm : Hid (s.data.toList.take k = s.data.toList) := by
        show _ = _
        rw [List.take_of_length_le (by rw [Array.length_toList]; show s.size ≤ k; omega)]
      go_wp2_with fail
      go_ret2
      refine ⟨?_, rfl⟩
      rw [hkm.out]
      rfl
end Go.Proofs.YtbakgobgjfhhhaaDoor

/- What linenref.Flip answers: the lowest bits in turned order. -/
namespace Go.Proofs.YtbakgobgjfhhhaaDoor
open Go.RowKit

set_option maxHeartbeats 400000 in
theorem rflip_lo (n : Nat) (v : Int) (w : World) (_h1 : -9223372036854775808 ≤ v) (hv : v < 0) :
    Calls Tryd.prog 76 #[.int .u64 n, .int .i64 v] w fun e w' => e = .returned (.int .u64 0) ∧ w' = w := by
  go_enter Tryd.func76, Tryd.ntmps76
  go_wp2
  go_loop [5, 12] (fun t i => i = .int .i64 0 ∧ t = .int .u64 0) (fun _ _ => 0)
  case atStart => exact ⟨rfl, rfl⟩
  case round =>
    obtain ⟨rfl, rfl⟩ := hrel
    go_wp2
    go_ret
    exact ⟨rfl, rfl⟩

set_option maxHeartbeats 400000 in
theorem rflip_hi (n : Nat) (v : Int) (w : World) (hn : n < 18446744073709551616) (_h2 : v < 9223372036854775808) (hv : 64 < v) :
    Calls Tryd.prog 76 #[.int .u64 n, .int .i64 v] w fun e w' => e = .returned (.int .u64 (rv n 64 : Nat)) ∧ w' = w := by
  go_enter Tryd.func76, Tryd.ntmps76
  go_wp2
  go_loop [5, 12] (fun t i => ∃ k : Nat, k ≤ 64 ∧ i = .int .i64 k ∧ t = .int .u64 (ru n 64 k : Nat)) (fun _ i => 64 - (intOf i).toNat)
  case atStart => exact ⟨0, Nat.zero_le _, rfl, by rw [ru_zero]; rfl⟩
  case round =>
    obtain ⟨k, hk, rfl, rfl⟩ := hrel
    by_cases hlt : k < 64
    · rcases Nat.mod_two_eq_zero_or_one (n / 2 ^ k) with hb | hb
      · have ht := bit_no n k hn hb
        have hs := Hid.mk' (ru_skip n 64 k hlt hb)
        clear hb
        go_wp2
        go_round
        case rel => exact ⟨k + 1, by omega, by go_num, by rw [hs.out]⟩
        case measure => simp [intOf]; omega
      · have ht := bit_yes n k hn hb
        have hs := Hid.mk' (rflip_round n 64 k hlt (by omega) hb)
        clear hb
        go_wp2
        go_round
        case rel => exact ⟨k + 1, by omega, by go_num, int_eq hs.out⟩
        case measure => simp [intOf]; omega
    · go_wp2
      go_ret
      exact ⟨ret_int (by rw [show k = 64 by omega, ru_end]), rfl⟩

set_option maxHeartbeats 400000 in
theorem rflip_in (n m : Nat) (w : World) (hn : n < 18446744073709551616) (hm : m ≤ 64) :
    Calls Tryd.prog 76 #[.int .u64 n, .int .i64 m] w fun e w' => e = .returned (.int .u64 (rv n m : Nat)) ∧ w' = w := by
  have t1 : decide ((m : Int) < 0) = false := by simp
  have t2 : decide ((64 : Int) < m) = false := by simp; omega
  go_enter Tryd.func76, Tryd.ntmps76
  go_wp2
  go_loop [5, 12] (fun t i => ∃ k : Nat, k ≤ m ∧ i = .int .i64 k ∧ t = .int .u64 (ru n m k : Nat)) (fun _ i => m - (intOf i).toNat)
  case atStart => exact ⟨0, Nat.zero_le _, rfl, by rw [ru_zero]; rfl⟩
  case round =>
    obtain ⟨k, hk, rfl, rfl⟩ := hrel
    by_cases hlt : k < m
    · rcases Nat.mod_two_eq_zero_or_one (n / 2 ^ k) with hb | hb
      · have ht := bit_no n k hn hb
        have hs := Hid.mk' (ru_skip n m k hlt hb)
        clear hb
        go_wp2
        go_round
        case rel => exact ⟨k + 1, by omega, by go_num, by rw [hs.out]⟩
        case measure => simp [intOf]; omega
      · have ht := bit_yes n k hn hb
        have hs := Hid.mk' (rflip_round n m k hlt hm hb)
        clear hb
        go_wp2
        go_round
        case rel => exact ⟨k + 1, by omega, by go_num, int_eq hs.out⟩
        case measure => simp [intOf]; omega
    · go_wp2
      go_ret
      exact ⟨ret_int (by rw [show k = m by omega, ru_end]), rfl⟩

end Go.Proofs.YtbakgobgjfhhhaaDoor

/- What linenref's times and turn answer. -/
namespace Go.Proofs.YtbakgobgjfhhhaaDoor
open Go.RowKit

set_option maxHeartbeats 400000 in
theorem times_any (c : BitVec 32) (w : World) :
    Calls Tryd.prog 70 #[.int .u32 (B c)] w fun e w' => e = .returned (.int .u32 (B (tms c))) ∧ w' = w := by
  have h2 := B_lt c
  rcases (by omega : 2147483648 ≤ B c ∨ B c < 2147483648) with h | h
  · go_enter Tryd.func70, Tryd.ntmps70
    go_wp2
    go_ret
    exact ⟨ret_int (tms_hi c h), rfl⟩
  · have hd : decide ((2147483648 : Int) ≤ B c) = false := decide_eq_false (by omega)
    go_enter Tryd.func70, Tryd.ntmps70
    go_wp2
    go_ret
    exact ⟨ret_int (tms_lo c h), rfl⟩

set_option maxHeartbeats 400000 in
theorem turn_any (c : BitVec 32) (w : World) :
    Calls Tryd.prog 69 #[.int .u32 (B c)] w fun e w' => e = .returned (.int .u32 (B (revB c))) ∧ w' = w := by
  have e1 : IntKind.u64.wrap (B c) = (c.toNat : Int) := wrap_u64_of _ (B_nonneg c) (by have := B_lt c; omega)
  have e2 : IntKind.u32.wrap (rv c.toNat 32 : Int) = B (revB c) := wrapB _
  have hc := c.isLt
  go_enter Tryd.func69, Tryd.ntmps69
  go_wp2_with fail
  refine (rflip_in c.toNat 32 _ (by omega) (by decide)).mono ?_
  rintro e w' ⟨rfl, rfl⟩
  go_wp2_with fail
  go_ret
  exact ⟨rfl, rfl⟩

end Go.Proofs.YtbakgobgjfhhhaaDoor

/- What linenref.Sum answers. -/
namespace Go.Proofs.YtbakgobgjfhhhaaDoor
open Go.RowKit

theorem take_snoc' (s : ByteArray) (k : Nat) (h : k < s.size) : s.data.toList.take (k + 1) = s.data.toList.take k ++ [s[k]] := by
  rw [List.take_succ_eq_append_getElem (by simpa using h)]; rfl

set_option maxHeartbeats 400000 in
theorem rsum_any (c : BitVec 32) (s : ByteArray) (w : World) (hs : s.size ≤ maxLen) :
    Calls Tryd.prog 56 #[.int .u32 (B c), .string s] w fun e w' => e = .returned (.int .u32 (B (moreC c s.data.toList))) ∧ w' = w := by
  unfold maxLen at hs
  have hsg : IntKind.u32.signed = false := rfl
  have hn := notB c
  go_enter Tryd.func56, Tryd.ntmps56
  go_wp2_with fail
  refine (turn_any _ _).mono ?_
  rintro e w' ⟨rfl, rfl⟩
  go_wp2_with fail
  go_loop [5, 13] (fun x i => ∃ k : Nat, k ≤ s.size ∧ i = .int .i64 k ∧ x = .int .u32 (B (revB (feed (~~~c) (s.data.toList.take k))))) (fun _ i => s.size - (intOf i).toNat)
  case atStart => exact ⟨0, Nat.zero_le _, rfl, rfl⟩
  case round =>
    obtain ⟨k, hk, rfl, rfl⟩ := hrel
    by_cases hlt : k < s.size
    · have hfin : Hid (feed (~~~c) (s.data.toList.take (k + 1)) = byte1 (feed (~~~c) (s.data.toList.take k)) s[k]) := by rw [take_snoc' s k hlt, feed_snoc]; exact rfl
      generalize feed (~~~c) (s.data.toList.take k) = d at *
      go_wp2_with fail
      go_loop [5, 16] (fun x i => ∃ j : Nat, j ≤ 8 ∧ i = .int .i64 j ∧ x = .int .u32 (B (revB (inner d s[k].toNat j)))) (fun _ i => 8 - (intOf i).toNat)
      case atStart => exact ⟨0, Nat.zero_le _, rfl, rfl⟩
      case round =>
        obtain ⟨j, hj, rfl, rfl⟩ := hrel
        by_cases hlt2 : j < 8
        · have e1 := topB (revB (inner d s[k].toNat j)) s[k] j
          have e2 := Hid.mk' (inner_rev d s[k].toNat j)
          go_wp2_with fail
          refine (times_any _ _).mono ?_
          rintro e w2 ⟨rfl, rfl⟩
          go_wp2_with fail
          go_round
          case rel => exact ⟨j + 1, by omega, by go_num, by rw [← e2.out]⟩
          case measure => simp [intOf]; omega
        · have e2 := Hid.mk' (inner_byte d s[k])
          have hj8 := Hid.mk' (show j = 8 by omega)
          go_wp2_with fail
          go_round
          case rel => exact ⟨k + 1, by omega, by go_num, by rw [hfin.out, ← e2.out, hj8.out]⟩
          case measure => simp [intOf]; omega
    · have hf := notB (feed (~~~c) (s.data.toList.take k))
      go_wp2_with fail
      refine (turn_any _ _).mono ?_
      rintro e w2 ⟨rfl, rfl⟩
      rw [revB_revB]
      go_wp2_with fail
      go_ret
      refine ⟨ret_int ?_, rfl⟩
      rw [List.take_of_length_le (by simp; omega)]; rfl
end Go.Proofs.YtbakgobgjfhhhaaDoor

/- A text of one byte, made of a slice. -/
namespace Go.Proofs.YtbakgobgjfhhhaaDoor
open Go.RowKit

theorem one_string (w : World) (x : Int) :
    (convert 88 9 (.slice (some ⟨w.heap.size, 0, none⟩) 1 1)).run Tryd.prog (w.alloc (.cells #[.int .u8 x] 5)) =
      .ok (.string (strOfNums [x])) (w.alloc (.cells #[.int .u8 x] 5)) :=
  run_convert_bytes_arg (P := Tryd.prog) _ 88 5 Tryd.underlying88 Tryd.underlying5 w.heap.size 0 1 1 [x] rfl
    (fun i hi => by
      obtain rfl : i = 0 := by omega
      simp) 9 Tryd.underlying9
theorem one_string_at (x : Int) (w : World) (b : Nat) (h : w.cell? ⟨b, 0, none⟩ = some (.int .u8 x)) :
    (convert 88 9 (.slice (some ⟨b, 0, none⟩) 1 1)).run Tryd.prog w = .ok (.string (strOfNums [x])) w :=
  run_convert_bytes_arg (P := Tryd.prog) w 88 5 Tryd.underlying88 Tryd.underlying5 b 0 1 1 [x] rfl
    (fun i hi => by
      obtain rfl : i = 0 := by omega
      simpa using h) 9 Tryd.underlying9
theorem one_size (x : Int) : (strOfNums [x]).size = 1 := rfl
/-- one byte ahead of a text -/
theorem one_cat (q : Nat) (l : List UInt8) : strOfNums [(q : Int) % 256] ++ ⟨l.toArray⟩ = ⟨(UInt8.ofNat q :: l).toArray⟩ := by
  apply bytes_ext
  have e : (strOfNums [(q : Int) % 256]).data.toList = [UInt8.ofNat q] := by
    show [UInt8.ofNat ((q : Int) % 256).toNat] = _
    congr 1
    apply UInt8.toNat_inj.1
    rw [UInt8.toNat_ofNat', UInt8.toNat_ofNat']
    omega
  rw [ByteArray.data_append, Array.toList_append, e]
  rfl
end Go.Proofs.YtbakgobgjfhhhaaDoor
