/- Plain facts: what is got is put as just those bytes; a beginning ends too early. No Go in sight. -/
import Derived.Test.YtbakgobgjfhhhaaDoorNumBackMath
namespace Go.Proofs.YtbakgobgjfhhhaaDoor

theorem lead_spec (l : List UInt8) (f : Nat) : lead l f ≤ f ∧ lead l f ≤ l.length ∧ (∀ i, i < lead l f → 128 ≤ (l.getD i 0).toNat) ∧ (lead l f = l.length ∨ lead l f = f ∨ (l.getD (lead l f) 0).toNat < 128) := by
  induction l generalizing f with
  | nil => cases f <;> simp [lead]
  | cons b l ih =>
    cases f with
    | zero => simp [lead]
    | succ f =>
      by_cases hb : b.toNat < 128
      · rw [lead, if_pos hb]
        exact ⟨by omega, by omega, fun i hi => by omega, .inr (.inr (by simpa using hb))⟩
      · rw [lead, if_neg hb]
        obtain ⟨h1, h2, h3, h4⟩ := ih f
        refine ⟨by omega, by simp; omega, fun i hi => ?_, ?_⟩
        · cases i with
          | zero => simp; omega
          | succ i => rw [List.getD_cons_succ]; exact h3 i (by omega)
        · rw [List.getD_cons_succ]
          rcases h4 with h4 | h4 | h4
          · exact .inl (by simp [h4])
          · exact .inr (.inl (by omega))
          · exact .inr (.inr h4)
theorem v7_last (l : List UInt8) (b : UInt8) (hb : b.toNat < 128) (h0 : 0 < b.toNat) : 0 < v7 (l ++ [b]) := by
  rw [v7_snoc, Nat.mod_eq_of_lt hb]
  have : 0 < b.toNat * 128 ^ l.length := Nat.mul_pos h0 (Nat.pow_pos (by decide))
  omega
theorem put_v7 (l : List UInt8) (b : UInt8) (h : ∀ i, i < l.length → 128 ≤ (l.getD i 0).toNat) (hb : b.toNat < 128) (h0 : 0 < l.length → 0 < b.toNat) : putB (v7 (l ++ [b])) = l ++ [b] := by
  induction l with
  | nil =>
    have e : v7 ([] ++ [b]) = b.toNat := by simp [v7]; omega
    rw [e, putB_lo _ hb]
    simp
  | cons c l ih =>
    have hc := h 0 (by simp)
    rw [List.getD_cons_zero] at hc
    have hc2 := c.toNat_lt
    have hp := v7_last l b hb (h0 (by simp))
    have ih' := ih (fun i hi => by have := h (i + 1) (by simpa using hi); rwa [List.getD_cons_succ] at this) (fun _ => h0 (by simp))
    rw [List.cons_append, v7, putB_hi _ (by omega), show (c.toNat % 128 + 128 * v7 (l ++ [b])) / 128 = v7 (l ++ [b]) by omega, ih', show (c.toNat % 128 + 128 * v7 (l ++ [b])) % 128 + 128 = c.toNat by omega]
    simp
/-- what is got is put as just those bytes -/
theorem put_get (l : List UInt8) (h : getE l = 0) : 1 ≤ getK l ∧ getK l ≤ l.length ∧ getA l < 18446744073709551616 ∧ putB (getA l) = l.take (getK l) := by
  obtain ⟨h1, h2, h3, h4⟩ := lead_spec l 9
  have hne : lead l 9 ≠ l.length := by intro e; have := (get_short l e).1; omega
  have hlt : lead l 9 < l.length := by omega
  have hf : ¬ ((lead l 9 = 9 ∧ 1 < (l.getD (lead l 9) 0).toNat) ∨ (0 < lead l 9 ∧ (l.getD (lead l 9) 0).toNat = 0)) := by
    intro e; have := (get_form l _ rfl hlt e).1; omega
  obtain ⟨_, g2, g3⟩ := get_ok l _ rfl hlt hf
  rw [g2, g3]
  have hb : (l.getD (lead l 9) 0).toNat < 128 := by omega
  refine ⟨by omega, by omega, v7_ok_lt l _ h1 hlt (fun e => by omega), ?_⟩
  rw [List.take_succ_eq_append_getElem hlt]
  have hg : l.getD (lead l 9) 0 = l[lead l 9] := by rw [List.getD_eq_getElem?_getD, List.getElem?_eq_getElem hlt]; rfl
  rw [hg] at hb hf
  have hlen : (l.take (lead l 9)).length = lead l 9 := by rw [List.length_take]; omega
  refine put_v7 _ _ (fun i hi => ?_) hb (fun _ => by omega)
  rw [hlen] at hi
  have := h3 i hi
  rw [List.getD_eq_getElem?_getD, List.getElem?_take, if_pos hi, ← List.getD_eq_getElem?_getD]
  exact this
theorem get_err (l : List UInt8) (h : getE l ≠ 0) : getA l = 0 ∧ getK l = 0 := ⟨by unfold getA; rw [if_neg h], by unfold getK; rw [if_neg h]⟩
/-- a beginning of what was put ends too early -/
theorem get_cut (n m : Nat) (hn : n < 18446744073709551616) (hm : m < (putB n).length) : getE ((putB n).take m) = 3 := by
  obtain ⟨l, b, h1, h2, h3, h4, h5, h6⟩ := putB_parts n
  have hl9 : l.length ≤ 9 := by
    rcases Nat.lt_or_ge 9 l.length with h | h
    · have h7 := h5 (by omega)
      have h8 : 128 ^ 10 ≤ 128 ^ l.length := Nat.pow_le_pow_right (by decide) h
      have : n / 128 ^ l.length = 0 := Nat.div_eq_of_lt (by omega)
      omega
    · exact h
  rw [h1] at hm ⊢
  simp at hm
  rw [List.take_append_of_le_length (by omega)]
  have hlen : (l.take m).length = m := by rw [List.length_take]; omega
  refine (get_short _ ?_).1
  rw [hlen]
  refine lead_eq _ 9 m (by omega) (by omega) (fun i hi => ?_) (.inl hlen.symm)
  rw [List.getD_eq_getElem?_getD, List.getElem?_take, if_pos hi, ← List.getD_eq_getElem?_getD]
  exact h2 i (by omega)
end Go.Proofs.YtbakgobgjfhhhaaDoor
