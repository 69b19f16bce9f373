/- Lean ops play as all of them do. -/
import Derived.Test.YtdolbgbgnplfhaaLeanMath
namespace Go.Proofs.Ytdolbgbgnplfhaa

theorem cellL_last (at' : Int) (w : Pt) : ∀ (P : List Pt) (i : Nat) (s : ByteArray), cellL allL at' (P ++ [w]) i s = if w.pl = at' then w.tx else cellL allL at' P i s := by
  intro P
  induction P with
  | nil => intro i s; show (if w.pl = at' ∧ allL i = true then w.tx else s) = _; simp [allL, cellL]
  | cons p r ih => intro i s; rw [List.cons_append, cellL, ih, cellL]
/-- two lists of writes that wait say the same of each cell that what follows does not write -/
def Agree (l : List Opp) (C : List ByteArray) (P Q : List Pt) : Prop := ∀ p : Nat, p < C.length → metT (p : Int) l = false → cellL allL p P 0 (C.getD p ⟨#[]⟩) = cellL allL p Q 0 (C.getD p ⟨#[]⟩)
theorem land_ext {C : List ByteArray} {P Q : List Pt} (hP : ∀ p ∈ P, 0 ≤ p.pl) (hQ : ∀ p ∈ Q, 0 ≤ p.pl) (h : ∀ p : Nat, p < C.length → cellL allL p P 0 (C.getD p ⟨#[]⟩) = cellL allL p Q 0 (C.getD p ⟨#[]⟩)) : landL allL P 0 C = landL allL Q 0 C := by
  apply List.ext_getElem
  · rw [landL_length, landL_length]
  · intro k h1 h2
    have hk : k < C.length := by rwa [landL_length] at h1
    have e1 := land_cell allL P 0 C k hk hP
    have e2 := land_cell allL Q 0 C k hk hQ
    rw [List.getD_eq_getElem?_getD, List.getElem?_eq_getElem h1] at e1
    rw [List.getD_eq_getElem?_getD, List.getElem?_eq_getElem h2] at e2
    exact e1.trans ((h k hk).trans e2.symm)
theorem plays_lean : ∀ (l : List Opp) (C : List ByteArray) (P Q : List Pt), (∀ p ∈ P, 0 ≤ p.pl) → (∀ p ∈ Q, 0 ≤ p.pl) → Q.length ≤ P.length → Agree l C P Q → (plays l C P).1 = 0 →
    (plays (leanL l) C Q).1 = 0 ∧ (plays (leanL l) C Q).2.1 = (plays l C P).2.1 ∧ landL allL (plays (leanL l) C Q).2.2 0 (plays l C P).2.1 = landL allL (plays l C P).2.2 0 (plays l C P).2.1 := by
  intro l
  induction l with
  | nil =>
    intro C P Q hP hQ _ hA _
    exact ⟨rfl, rfl, (land_ext hP hQ fun p hp => hA p hp rfl).symm⟩
  | cons o t ih =>
    intro C P Q hP hQ hl hA h0
    by_cases hE : opE C.length P.length o = 0
    · by_cases h1 : o.kd = 1
      · have hput : putE C.length ⟨o.pl, o.tx⟩ = 0 := by
          unfold opE at hE
          rw [if_pos h1] at hE
          by_cases hp : putE C.length ⟨o.pl, o.tx⟩ = 0
          · exact hp
          · rw [if_neg hp] at hE; exact hE
        have hlt : P.length < 400 := by
          unfold opE at hE
          rw [if_pos h1, if_pos hput] at hE
          by_cases hp : 400 ≤ P.length
          · rw [if_pos hp] at hE; exact absurd hE (by decide)
          · omega
        have hpos := (putE_zero hput).1
        have hP2 : ∀ p ∈ P ++ [⟨o.pl, o.tx⟩], 0 ≤ p.pl := fun p hp => by
          rcases List.mem_append.1 hp with hp | hp
          · exact hP p hp
          · rw [List.mem_singleton.1 hp]; exact hpos
        rw [plays_write t h1 hput hlt] at h0 ⊢
        by_cases hm : metT o.pl t = true
        · have e : leanL (o :: t) = leanL t := by rw [leanL_cons, if_pos ⟨h1, hm⟩]
          rw [e]
          refine ih C _ Q hP2 hQ (by rw [List.length_append]; omega) (fun p hp hf => ?_) h0
          have hne : ¬ o.pl = (p : Int) := fun e => by rw [e, hf] at hm; cases hm
          rw [cellL_last, if_neg hne]
          exact hA p hp (by rw [metT_on _ o t h1 hne]; exact hf)
        · have e : leanL (o :: t) = o :: leanL t := by rw [leanL_cons, if_neg (fun h => hm h.2)]
          have hQ2 : ∀ p ∈ Q ++ [⟨o.pl, o.tx⟩], 0 ≤ p.pl := fun p hp => by
            rcases List.mem_append.1 hp with hp | hp
            · exact hQ p hp
            · rw [List.mem_singleton.1 hp]; exact hpos
          rw [e, plays_write (leanL t) h1 hput (by omega)]
          refine ih C _ _ hP2 hQ2 (by rw [List.length_append, List.length_append]; exact Nat.add_le_add_right hl _) (fun p hp hf => ?_) h0
          rw [cellL_last, cellL_last]
          by_cases hne : o.pl = (p : Int)
          · rw [if_pos hne, if_pos hne]
          · rw [if_neg hne, if_neg hne]
            exact hA p hp (by rw [metT_on _ o t h1 hne]; exact hf)
      · have hsy : o.kd = 2 ∧ o.pl = 0 ∧ o.tx.size = 0 := by
          unfold opE at hE
          rw [if_neg h1] at hE
          by_cases hp : o.kd = 2 ∧ o.pl = 0 ∧ o.tx.size = 0
          · exact hp
          · rw [if_neg hp] at hE; exact absurd hE (by decide)
        have e : leanL (o :: t) = o :: leanL t := by rw [leanL_cons, if_neg (fun h => h1 h.1)]
        have hland : landL allL P 0 C = landL allL Q 0 C := land_ext hP hQ fun p hp => hA p hp (metT_end _ o t h1)
        rw [plays_sync t hsy.1 hsy.2.1 hsy.2.2] at h0 ⊢
        rw [e, plays_sync (leanL t) hsy.1 hsy.2.1 hsy.2.2, ← hland]
        exact ih _ [] [] (fun p hp => absurd hp (by simp)) (fun p hp => absurd hp (by simp)) (Nat.le_refl _) (fun _ _ _ => rfl) h0
    · rw [plays_bad t rfl hE] at h0
      exact absurd h0 hE
end Go.Proofs.Ytdolbgbgnplfhaa
