/- No fewer cells than one goes by. No Go in sight. -/
import Derived.Test.YtjfmpnphlpeikaaBlMath
namespace Go.Proofs.Ytjfmpnphlpeikaa

/-- how many cells the first i blobs take -/
def lev : List Nat → Nat → Nat
  | [], _ => 0
  | f :: r, i => if i = 0 then 0 else lev r (i - f) + 1
theorem lev_zero (L : List Nat) : lev L 0 = 0 := by cases L <;> rfl
theorem lev_le (L : List Nat) : ∀ i, lev L i ≤ L.length := by
  induction L with
  | nil => intro i; exact Nat.le_refl _
  | cons f r ih =>
    intro i
    unfold lev
    split
    · exact Nat.zero_le _
    · have := ih (i - f); simp only [List.length_cons]; omega
/-- blobs k to i have room in one cell -/
def seg (l : List Blb) (k i : Nat) : List Blb := (l.drop k).take (i - k)
def SegOk (l : List Blb) (k i : Nat) : Prop := i - k ≤ 40 ∧ (bodL (seg l k i)).length ≤ 998
theorem seg_drop (l : List Blb) (f k i : Nat) (h : f ≤ k) : seg (l.drop f) (k - f) (i - f) = seg l k i := by
  unfold seg
  rw [List.drop_drop, show f + (k - f) = k by omega, show i - f - (k - f) = i - k by omega]
theorem segOk_drop (l : List Blb) (f k i : Nat) (h : f ≤ k) : SegOk (l.drop f) (k - f) (i - f) ↔ SegOk l k i := by
  unfold SegOk
  rw [seg_drop l f k i h, show i - f - (k - f) = i - k by omega]
/-- what stands behind the first of a cell has room too -/
theorem segOk_tail (l : List Blb) (k f i : Nat) (h : SegOk l k i) (h1 : k ≤ f) : SegOk l f i := by
  refine ⟨by have := h.1; omega, ?_⟩
  by_cases hi : f ≤ i
  · have e : seg l k i = (l.drop k).take (f - k) ++ seg l f i := by
      unfold seg
      have h2 : (l.drop k).take (i - k) = (l.drop k).take (f - k) ++ ((l.drop k).drop (f - k)).take (i - f) := by
        have e2 := List.take_add (l := l.drop k) (i := f - k) (j := i - f)
        rwa [show f - k + (i - f) = i - k by omega] at e2
      rw [h2, List.drop_drop, show k + (f - k) = f by omega]
    have := h.2
    rw [e, bodL_app, List.length_append] at this
    omega
  · have e : seg l f i = [] := by unfold seg; rw [show i - f = 0 by omega]; rfl
    rw [e]; simp [bodL]
theorem segOk_zero (l : List Blb) (i : Nat) (hi : i ≤ l.length) : SegOk l 0 i ↔ i ≤ fitN 2 0 l := by
  rw [fit_iff l i hi]
  unfold SegOk seg
  rw [List.drop_zero, Nat.sub_zero]
/-- the first i take no more cells than the first k and one -/
theorem lev_step (N : Nat) : ∀ l : List Blb, l.length ≤ N → chkL l = 0 → ∀ k i, k < i → i ≤ l.length → SegOk l k i → lev (splN l) i ≤ lev (splN l) k + 1 := by
  induction N with
  | zero => intro l hl _ k i hki hi _; omega
  | succ N ih =>
    intro l hl hc k i hki hi hs
    cases l with
    | nil => simp at hi; omega
    | cons b r =>
      have hp := fit_pos (r := r) (chkL_all hc b (by simp))
      have hc' := chkL_drop hc (fitN 2 0 (b :: r))
      have hle := fitN_le (b :: r) 2 0
      rw [splN_cons hc]
      have hz := segOk_zero (b :: r)
      generalize fitN 2 0 (b :: r) = f at *
      have hl' : ((b :: r).drop f).length = (b :: r).length - f := List.length_drop
      have e1 : lev (f :: splN ((b :: r).drop f)) i = lev (splN ((b :: r).drop f)) (i - f) + 1 := by show (if i = 0 then _ else _) = _; rw [if_neg (by omega)]
      rw [e1]
      by_cases hif : i ≤ f
      · rw [show i - f = 0 by omega, lev_zero]; omega
      · by_cases hkf : f ≤ k
        · have h := ih ((b :: r).drop f) (by rw [hl']; omega) hc' (k - f) (i - f) (by omega) (by rw [hl']; omega) ((segOk_drop (b :: r) f k i hkf).2 hs)
          have e2 : lev (f :: splN ((b :: r).drop f)) k = lev (splN ((b :: r).drop f)) (k - f) + 1 := by show (if k = 0 then _ else _) = _; rw [if_neg (by omega)]
          rw [e2]; omega
        · by_cases hk0 : k = 0
          · subst hk0
            exact absurd ((hz i hi).1 hs) hif
          · have e2 : lev (f :: splN ((b :: r).drop f)) k = lev (splN ((b :: r).drop f)) (k - f) + 1 := by show (if k = 0 then _ else _) = _; rw [if_neg hk0]
            rw [e2, show k - f = 0 by omega, lev_zero]
            have hs2 := segOk_tail (b :: r) k f i hs (by omega)
            have hs3 : SegOk ((b :: r).drop f) 0 (i - f) := by
              have := (segOk_drop (b :: r) f f i (Nat.le_refl _)).2 hs2
              rwa [Nat.sub_self] at this
            have hfit := (segOk_zero ((b :: r).drop f) (i - f) (by rw [hl']; omega)).1 hs3
            cases hd : (b :: r).drop f with
            | nil => rw [hd] at hl'; simp at hl'; simp at hi; omega
            | cons b2 r2 =>
              rw [hd] at hfit hc'
              rw [splN_cons hc']
              have e3 : lev (fitN 2 0 (b2 :: r2) :: splN ((b2 :: r2).drop (fitN 2 0 (b2 :: r2)))) (i - f) = lev (splN ((b2 :: r2).drop (fitN 2 0 (b2 :: r2)))) (i - f - fitN 2 0 (b2 :: r2)) + 1 := by show (if i - f = 0 then _ else _) = _; rw [if_neg (by omega)]
              rw [e3, show i - f - fitN 2 0 (b2 :: r2) = 0 by omega, lev_zero]; omega
/-- and some k gives just so many -/
theorem lev_some (N : Nat) : ∀ l : List Blb, l.length ≤ N → chkL l = 0 → ∀ i, 0 < i → i ≤ l.length → ∃ k, k < i ∧ SegOk l k i ∧ lev (splN l) i = lev (splN l) k + 1 := by
  induction N with
  | zero => intro l hl _ i h0 hi; omega
  | succ N ih =>
    intro l hl hc i h0 hi
    cases l with
    | nil => simp at hi; omega
    | cons b r =>
      have hp := fit_pos (r := r) (chkL_all hc b (by simp))
      have hc' := chkL_drop hc (fitN 2 0 (b :: r))
      rw [splN_cons hc]
      have hz := segOk_zero (b :: r)
      generalize fitN 2 0 (b :: r) = f at *
      have hl' : ((b :: r).drop f).length = (b :: r).length - f := List.length_drop
      have e1 : lev (f :: splN ((b :: r).drop f)) i = lev (splN ((b :: r).drop f)) (i - f) + 1 := by show (if i = 0 then _ else _) = _; rw [if_neg (by omega)]
      by_cases hif : i ≤ f
      · refine ⟨0, h0, (hz i hi).2 hif, ?_⟩
        rw [e1, show i - f = 0 by omega, lev_zero, lev_zero]
      · obtain ⟨k, h1, h2, h3⟩ := ih ((b :: r).drop f) (by rw [hl']; omega) hc' (i - f) (by omega) (by rw [hl']; omega)
        refine ⟨k + f, by omega, ?_, ?_⟩
        · have h := (segOk_drop (b :: r) f (k + f) i (by omega)).1 (by rw [Nat.add_sub_cancel]; exact h2)
          exact h
        · have e2 : lev (f :: splN ((b :: r).drop f)) (k + f) = lev (splN ((b :: r).drop f)) (k + f - f) + 1 := by show (if k + f = 0 then _ else _) = _; rw [if_neg (by omega)]
          rw [e1, e2, h3, Nat.add_sub_cancel]
/-- all take as many cells as there are -/
theorem lev_all (N : Nat) : ∀ l : List Blb, l.length ≤ N → chkL l = 0 → lev (splN l) l.length = (splN l).length := by
  induction N with
  | zero =>
    intro l hl _
    have : l = [] := List.length_eq_zero_iff.1 (by omega)
    subst this; rfl
  | succ N ih =>
    intro l hl hc
    cases l with
    | nil => rfl
    | cons b r =>
      have hp := fit_pos (r := r) (chkL_all hc b (by simp))
      have hc' := chkL_drop hc (fitN 2 0 (b :: r))
      have hle := fitN_le (b :: r) 2 0
      rw [splN_cons hc]
      generalize fitN 2 0 (b :: r) = f at *
      have hl' : ((b :: r).drop f).length = (b :: r).length - f := List.length_drop
      have e1 : lev (f :: splN ((b :: r).drop f)) (b :: r).length = lev (splN ((b :: r).drop f)) ((b :: r).length - f) + 1 := by show (if _ = 0 then _ else _) = _; rw [if_neg (by simp)]
      rw [e1, ← hl', ih _ (by rw [hl']; omega) hc', List.length_cons]
end Go.Proofs.Ytjfmpnphlpeikaa
