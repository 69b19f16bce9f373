/- Blobs, as lists. No Go in sight. -/
import Derived.Test.YtjfmpnphlpeikaaNumOneMath
import Derived.Test.YtjfmpnphlpeikaaNumBackMath
namespace Go.Proofs.Ytjfmpnphlpeikaa

/-- a blob -/
structure Blb where
  kd : Int
  io : Int
  nt : Int
  tx : ByteArray
def noBl : Blb := ⟨0, 0, 0, ⟨#[]⟩⟩
/-- how many numbers a kind has -/
def numK (k : Int) : Int := if k = 1 then 8 else if k = 2 ∨ k = 3 then 1 else 0
def ArgB (b : Blb) : Prop := b.io < 0 ∨ 48 ≤ b.io ∨ b.nt < 0 ∨ numK b.kd ≤ b.nt ∨ (b.kd = 3 ∧ b.tx.size ≠ 0)
/-- what Check answers -/
def chkB (b : Blb) : Int := if b.io < 0 ∨ 48 ≤ b.io ∨ b.nt < 0 ∨ numK b.kd ≤ b.nt ∨ (b.kd = 3 ∧ b.tx.size ≠ 0) then 1 else if 600 < b.tx.size then 2 else 0
theorem chkB_arg {b : Blb} (h : ArgB b) : chkB b = 1 := by unfold chkB; exact if_pos h
theorem chkB_large {b : Blb} (h : ¬ ArgB b) (hz : 600 < b.tx.size) : chkB b = 2 := by unfold chkB; exact (if_neg h).trans (if_pos hz)
theorem chkB_right {b : Blb} (h : ¬ ArgB b) (hz : b.tx.size ≤ 600) : chkB b = 0 := by unfold chkB; exact (if_neg h).trans (if_neg (by omega))
theorem chkB_cases (b : Blb) : chkB b = 0 ∨ chkB b = 1 ∨ chkB b = 2 := by unfold chkB; split; exact .inr (.inl rfl); split; exact .inr (.inr rfl); exact .inl rfl
/-- a right blob -/
structure OkB (b : Blb) : Prop where
  k1 : 1 ≤ b.kd
  k3 : b.kd ≤ 3
  i0 : 0 ≤ b.io
  i1 : b.io ≤ 47
  n0 : 0 ≤ b.nt
  n1 : b.nt ≤ 7
  tz : b.tx.size ≤ 600
theorem numK_cases (k : Int) : (k = 1 ∧ numK k = 8) ∨ ((k = 2 ∨ k = 3) ∧ numK k = 1) ∨ ((k < 1 ∨ 3 < k) ∧ numK k = 0) := by
  unfold numK
  split
  · exact .inl ⟨‹_›, rfl⟩
  · split
    · exact .inr (.inl ⟨‹_›, rfl⟩)
    · exact .inr (.inr ⟨by omega, rfl⟩)
theorem chkB_ok {b : Blb} (h : chkB b = 0) : OkB b := by
  unfold chkB at h
  split at h
  · omega
  · split at h
    · omega
    · rename_i ha hz
      have := numK_cases b.kd
      exact ⟨by omega, by omega, by omega, by omega, by omega, by omega, by omega⟩
/-- the error of the first that is wrong -/
def chkL : List Blb → Int
  | [] => 0
  | b :: r => if chkB b = 0 then chkL r else chkB b
theorem chkL_cases (l : List Blb) : chkL l = 0 ∨ chkL l = 1 ∨ chkL l = 2 := by
  induction l with
  | nil => exact .inl rfl
  | cons b r ih => unfold chkL; split; exact ih; exact chkB_cases b
theorem chkL_all {l : List Blb} (h : chkL l = 0) : ∀ b ∈ l, chkB b = 0 := by
  induction l with
  | nil => intro b hb; simp at hb
  | cons x r ih =>
    unfold chkL at h
    split at h
    · intro b hb
      rcases List.mem_cons.1 hb with rfl | hb
      · assumption
      · exact ih h b hb
    · exact absurd h ‹_›
theorem chkL_of {l : List Blb} (h : ∀ b ∈ l, chkB b = 0) : chkL l = 0 := by
  induction l with
  | nil => rfl
  | cons x r ih => unfold chkL; rw [if_pos (h x (by simp))]; exact ih fun b hb => h b (by simp [hb])
theorem chkL_drop {l : List Blb} (h : chkL l = 0) (n : Nat) : chkL (l.drop n) = 0 := chkL_of fun b hb => chkL_all h b (List.mem_of_mem_drop hb)
theorem chkL_take {l : List Blb} (h : chkL l = 0) (n : Nat) : chkL (l.take n) = 0 := chkL_of fun b hb => chkL_all h b (List.mem_of_mem_take hb)
/-- what stands ahead of a blob's text -/
def hedL (b : Blb) : List UInt8 := UInt8.ofNat b.kd.toNat :: UInt8.ofNat b.io.toNat :: UInt8.ofNat b.nt.toNat :: putB b.tx.size
def oneL (b : Blb) : List UInt8 := hedL b ++ b.tx.data.toList
def bodL (l : List Blb) : List UInt8 := l.flatMap oneL
theorem bodL_cons (b : Blb) (l : List Blb) : bodL (b :: l) = oneL b ++ bodL l := by simp [bodL]
theorem bodL_snoc (b : Blb) (l : List Blb) : bodL (l ++ [b]) = bodL l ++ oneL b := by simp [bodL]
theorem bodL_app (a l : List Blb) : bodL (a ++ l) = bodL a ++ bodL l := by simp [bodL]
theorem put_600 (n : Nat) (h : n ≤ 600) : (putB n).length ≤ 2 := by
  by_cases h1 : n < 128
  · rw [putB_lo n h1]; simp
  · rw [putB_hi n (by omega), putB_lo _ (by omega)]; simp
theorem put_pos (n : Nat) : 1 ≤ (putB n).length := by
  by_cases h1 : n < 128
  · rw [putB_lo n h1]; simp
  · rw [putB_hi n (by omega)]; simp
theorem oneL_len (b : Blb) : (oneL b).length = (hedL b).length + b.tx.size := by unfold oneL; rw [List.length_append, Array.length_toList]; rfl
theorem hedL_len {b : Blb} (h : b.tx.size ≤ 600) : 4 ≤ (hedL b).length ∧ (hedL b).length ≤ 5 := by
  unfold hedL
  have := put_600 b.tx.size h
  have := put_pos b.tx.size
  simp only [List.length_cons]; omega
theorem oneL_le {b : Blb} (h : chkB b = 0) : 4 ≤ (oneL b).length ∧ (oneL b).length ≤ 605 := by
  have ho := (chkB_ok h).tz
  have := hedL_len ho
  rw [oneL_len]; omega
/-- how many have room, from the first one on -/
def fitN : Nat → Nat → List Blb → Nat
  | _, i, [] => i
  | z, i, b :: r => if 1000 < z + (oneL b).length ∨ i = 40 then i else fitN (z + (oneL b).length) (i + 1) r
theorem fitN_ge (l : List Blb) : ∀ z i, i ≤ fitN z i l := by
  induction l with
  | nil => intro z i; exact Nat.le_refl _
  | cons b r ih =>
    intro z i
    unfold fitN
    split
    · exact Nat.le_refl _
    · exact Nat.le_trans (Nat.le_succ i) (ih _ _)
theorem fitN_le (l : List Blb) : ∀ z i, fitN z i l ≤ i + l.length := by
  induction l with
  | nil => intro z i; exact Nat.le_refl _
  | cons b r ih =>
    intro z i
    unfold fitN
    split
    · omega
    · have := ih (z + (oneL b).length) (i + 1)
      simp only [List.length_cons]; omega
theorem fitN_40 (l : List Blb) : ∀ z i, i ≤ 40 → fitN z i l ≤ 40 := by
  induction l with
  | nil => intro z i h; exact h
  | cons b r ih =>
    intro z i h
    unfold fitN
    split
    · exact h
    · exact ih _ _ (by omega)
/-- what fits takes no more than 1000 bytes -/
theorem fitN_sum (l : List Blb) : ∀ z i, z ≤ 1000 → z + (bodL (l.take (fitN z i l - i))).length ≤ 1000 := by
  induction l with
  | nil => intro z i h; simpa [bodL] using h
  | cons b r ih =>
    intro z i h
    unfold fitN
    split
    · simpa [bodL] using h
    · have := ih (z + (oneL b).length) (i + 1) (by omega)
      have hg := fitN_ge r (z + (oneL b).length) (i + 1)
      rw [show fitN (z + (oneL b).length) (i + 1) r - i = (fitN (z + (oneL b).length) (i + 1) r - (i + 1)) + 1 by omega, List.take_succ_cons, bodL_cons, List.length_append]
      omega
/-- and one more would not -/
theorem fitN_more (l : List Blb) : ∀ z i, i ≤ 40 → fitN z i l < i + l.length → fitN z i l = 40 ∨ 1000 < z + (bodL (l.take (fitN z i l - i + 1))).length := by
  induction l with
  | nil => intro z i _ h; simp [fitN] at h
  | cons b r ih =>
    intro z i hi h
    unfold fitN at h ⊢
    split
    · rename_i hc
      rw [Nat.sub_self, List.take_succ_cons, List.take_zero, bodL_cons, List.length_append]
      rcases hc with hc | hc
      · exact .inr (by simp [bodL]; omega)
      · exact .inl hc
    · rename_i hc
      rw [if_neg hc] at h
      have hg := fitN_ge r (z + (oneL b).length) (i + 1)
      simp only [List.length_cons] at h
      rcases ih (z + (oneL b).length) (i + 1) (by omega) (by omega) with h1 | h1
      · exact .inl h1
      · refine .inr ?_
        rw [show fitN (z + (oneL b).length) (i + 1) r - i + 1 = (fitN (z + (oneL b).length) (i + 1) r - (i + 1) + 1) + 1 by omega, List.take_succ_cons, bodL_cons, List.length_append]
        omega
theorem bodL_mono (l : List Blb) {m n : Nat} (h : m ≤ n) : (bodL (l.take m)).length ≤ (bodL (l.take n)).length := by
  have e : l.take n = l.take m ++ (l.take n).drop m := by
    have := (List.take_append_drop m (l.take n)).symm
    rwa [List.take_take, Nat.min_eq_left h] at this
  rw [e, bodL_app, List.length_append]; omega
/-- all have room just where they are no more than 40, and no more than 998 bytes -/
theorem fit_all (l : List Blb) : fitN 2 0 l = l.length ↔ l.length ≤ 40 ∧ (bodL l).length ≤ 998 := by
  constructor
  · intro h
    have h1 := fitN_40 l 2 0 (by omega)
    have h2 := fitN_sum l 2 0 (by omega)
    rw [h, Nat.sub_zero, List.take_length] at h2
    exact ⟨by omega, by omega⟩
  · rintro ⟨h1, h2⟩
    have hle := fitN_le l 2 0
    refine Classical.byContradiction fun hn => ?_
    rcases fitN_more l 2 0 (by omega) (by omega) with h3 | h3
    · omega
    · have := bodL_mono l (m := fitN 2 0 l - 0 + 1) (n := l.length) (by omega)
      rw [List.take_length] at this
      omega
theorem fit_pos {b : Blb} {r : List Blb} (h : chkB b = 0) : 1 ≤ fitN 2 0 (b :: r) := by
  unfold fitN
  have := oneL_le h
  rw [if_neg (by omega)]
  exact fitN_ge r _ 1
/-- n blobs from the first on have room just where n is no more than what fits -/
theorem fit_iff (l : List Blb) (n : Nat) (hn : n ≤ l.length) : n ≤ fitN 2 0 l ↔ n ≤ 40 ∧ (bodL (l.take n)).length ≤ 998 := by
  have h1 := fitN_40 l 2 0 (by omega)
  have h2 := fitN_sum l 2 0 (by omega)
  constructor
  · intro h
    have := bodL_mono l h
    rw [Nat.sub_zero] at h2
    exact ⟨by omega, by omega⟩
  · rintro ⟨h3, h4⟩
    refine Classical.byContradiction fun hc => ?_
    rcases fitN_more l 2 0 (by omega) (by omega) with h5 | h5
    · omega
    · have := bodL_mono l (m := fitN 2 0 l - 0 + 1) (n := n) (by omega)
      omega
/-- what Write answers -/
def wrB (l : List Blb) : Int := if 40 < l.length then 2 else if chkL l = 0 then (if 998 < (bodL l).length then 2 else 0) else chkL l
def txB (l : List Blb) (last : Bool) : List UInt8 := (if last then 1 else 0) :: UInt8.ofNat l.length :: bodL l
theorem wrB_ok {l : List Blb} (h : wrB l = 0) : l.length ≤ 40 ∧ chkL l = 0 ∧ (bodL l).length ≤ 998 := by
  unfold wrB at h
  split at h
  · omega
  · split at h
    · split at h
      · omega
      · exact ⟨by omega, ‹_›, by omega⟩
    · exact absurd h ‹_›
theorem wrB_of {l : List Blb} (h1 : l.length ≤ 40) (h2 : chkL l = 0) (h3 : (bodL l).length ≤ 998) : wrB l = 0 := by
  unfold wrB
  rw [if_neg (by omega), if_pos h2, if_neg (by omega)]
/-- what Split answers -/
def splF : Nat → List Blb → List Nat
  | 0, _ => []
  | _ + 1, [] => []
  | f + 1, b :: r => fitN 2 0 (b :: r) :: splF f ((b :: r).drop (fitN 2 0 (b :: r)))
theorem splF_nil (f : Nat) : splF f [] = [] := by cases f <;> rfl
theorem splF_eq (f : Nat) : ∀ g l, chkL l = 0 → l.length ≤ f → l.length ≤ g → splF f l = splF g l := by
  induction f with
  | zero =>
    intro g l _ h _
    have : l = [] := List.length_eq_zero_iff.1 (by omega)
    subst this
    rw [splF_nil, splF_nil]
  | succ f ih =>
    intro g l hc h1 h2
    cases l with
    | nil => rw [splF_nil, splF_nil]
    | cons b r =>
      cases g with
      | zero => simp at h2
      | succ g =>
        have hb : chkB b = 0 := chkL_all hc b (by simp)
        have hp := fit_pos (r := r) hb
        have hd := chkL_drop hc (fitN 2 0 (b :: r))
        rw [splF, splF, ih g _ hd (by rw [List.length_drop]; omega) (by rw [List.length_drop]; omega)]
def splN (l : List Blb) : List Nat := splF l.length l
theorem splN_nil : splN [] = [] := rfl
theorem splN_cons {b : Blb} {r : List Blb} (h : chkL (b :: r) = 0) : splN (b :: r) = fitN 2 0 (b :: r) :: splN ((b :: r).drop (fitN 2 0 (b :: r))) := by
  have hp := fit_pos (r := r) (chkL_all h b (by simp))
  rw [splN, List.length_cons, splF, splN]
  rw [splF_eq r.length _ _ (chkL_drop h _) (by rw [List.length_drop, List.length_cons]; omega) (Nat.le_refl _)]
end Go.Proofs.Ytjfmpnphlpeikaa
