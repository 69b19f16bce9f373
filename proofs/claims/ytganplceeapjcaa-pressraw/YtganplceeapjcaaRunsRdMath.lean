/- Plain facts on the reading of runs, byte by byte. No Go in sight. -/
import Derived.Test.YtganplceeapjcaaRunsMath
namespace Go.Proofs.Ytganplceeapjcaa

structure RdSt (s : List UInt8) (c k p m : Nat) (acc : List Nat) (pv : Option UInt8) : Prop where
  e : rrE c (s.drop k) 0 none = rrE c (s.drop p) m pv
  l : rrL c (s.drop k) 0 none = acc ++ rrL c (s.drop p) m pv
  n : k + rrN c (s.drop k) 0 none = p + rrN c (s.drop p) m pv
  len : acc.length = m
  le : m ≤ c
  kp : k ≤ p
  ps : p ≤ s.length
  no : p = k → pv = none ∧ m = 0
  so : k < p → pv = some (s.getD (p - 1) 0) ∧ 0 < m ∧ acc.getD (m - 1) 0 = (s.getD (p - 1) 0).toNat / 16
theorem rdst_start (s : List UInt8) (c k : Nat) (h : k ≤ s.length) : RdSt s c k k 0 [] none :=
  ⟨rfl, rfl, rfl, rfl, Nat.zero_le _, Nat.le_refl _, h, fun _ => ⟨rfl, rfl⟩, fun h => by omega⟩
theorem drop_at (s : List UInt8) (p : Nat) (h : p < s.length) : s.drop p = s.getD p 0 :: s.drop (p + 1) := by
  rw [List.drop_eq_getElem_cons h, List.getD_eq_getElem?_getD, List.getElem?_eq_getElem h]; rfl
theorem RdSt.done {s : List UInt8} {c k p : Nat} {acc : List Nat} {pv : Option UInt8} (h : RdSt s c k p c acc pv) : rrE c (s.drop k) 0 none = 0 ∧ rrL c (s.drop k) 0 none = acc ∧ k + rrN c (s.drop k) 0 none = p := by
  have hd := rr_done c (s.drop p) pv
  refine ⟨h.e.trans hd.1, ?_, ?_⟩
  · rw [h.l, hd.2.1, List.append_nil]
  · rw [h.n, hd.2.2, Nat.add_zero]
theorem RdSt.short {s : List UInt8} {c k p m : Nat} {acc : List Nat} {pv : Option UInt8} (h : RdSt s c k p m acc pv) (hp : p = s.length) (hm : m ≠ c) : rrE c (s.drop k) 0 none = 3 := by
  rw [h.e, hp, List.drop_length, rrE, if_neg hm]
theorem RdSt.form {s : List UInt8} {c k p m : Nat} {acc : List Nat} {pv : Option UInt8} (h : RdSt s c k p m acc pv) (hp : p < s.length) (hm : m ≠ c) (hb : badR pv (s.getD p 0) = true ∨ c < m + ((s.getD p 0).toNat % 16 + 1)) : rrE c (s.drop k) 0 none = 4 := by
  rw [h.e, drop_at s p hp, rrE, if_neg hm, if_pos hb]
theorem RdSt.step {s : List UInt8} {c k p m : Nat} {acc : List Nat} {pv : Option UInt8} (h : RdSt s c k p m acc pv) (hp : p < s.length) (hm : m ≠ c) (hb : ¬ (badR pv (s.getD p 0) = true ∨ c < m + ((s.getD p 0).toNat % 16 + 1))) :
    RdSt s c k (p + 1) (m + ((s.getD p 0).toNat % 16 + 1)) (acc ++ List.replicate ((s.getD p 0).toNat % 16 + 1) ((s.getD p 0).toNat / 16)) (some (s.getD p 0)) := by
  have hkp := h.kp
  refine ⟨?_, ?_, ?_, by rw [List.length_append, List.length_replicate, h.len], by omega, by omega, hp, fun he => by omega, fun _ => ⟨by rw [show p + 1 - 1 = p by omega], by omega, ?_⟩⟩
  · rw [h.e, drop_at s p hp, rrE, if_neg hm, if_neg hb]
  · rw [h.l, drop_at s p hp, rrL, if_neg hm, if_neg hb, List.append_assoc]
  · rw [h.n, drop_at s p hp, rrN, if_neg hm, if_neg hb]; omega
  · rw [List.getD_eq_getElem?_getD, List.getElem?_append_right (by rw [h.len]; omega), h.len]
    rw [show m + ((s.getD p 0).toNat % 16 + 1) - 1 - m = (s.getD p 0).toNat % 16 by omega, show p + 1 - 1 = p by omega]
    rw [List.getElem?_replicate, if_pos (by omega)]
    rfl
/-- what a run ahead forbids -/
theorem RdSt.bad {s : List UInt8} {c k p m : Nat} {acc : List Nat} {pv : Option UInt8} (h : RdSt s c k p m acc pv) : badR pv (s.getD p 0) = true ↔ (k < p ∧ (s.getD (p - 1) 0).toNat / 16 = (s.getD p 0).toNat / 16 ∧ (s.getD (p - 1) 0).toNat % 16 < 15) := by
  by_cases hk : k < p
  · obtain ⟨h1, _⟩ := h.so hk
    rw [h1, badR, Bool.and_eq_true, decide_eq_true_eq, decide_eq_true_eq]
    exact ⟨fun h => ⟨hk, h⟩, fun h => h.2⟩
  · have := h.kp
    rw [(h.no (by omega)).1]
    exact ⟨fun h => by simp [badR] at h, fun h => absurd h.1 hk⟩
theorem rdL_len (s : List UInt8) : (rdRL s).length ≤ 320 := by
  by_cases h : rdRE s = 0
  · rw [(rdR_ok s h).1]
    have hg : getE s = 0 := by
      refine Classical.byContradiction fun hn => ?_
      have := (rdR_get s hn).1
      rw [h] at this
      exact hn this.symm
    have hl : ¬ 320 < getA s := fun hl => by
      rw [(rdR_large s hg hl).1] at h
      exact absurd h (by decide)
    rw [rdR_run s hg hl] at h
    have := rrL_len _ _ _ _ h
    omega
  · rw [(rdR_bad s _ rfl h).1]; simp
end Go.Proofs.Ytganplceeapjcaa
