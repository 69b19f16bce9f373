/- Plain facts on numbers as bytes, seven bits each. No Go in sight. -/
import Derived.Test.YtbakgobgjfhhhaaDoorFlipMath
namespace Go.Proofs.YtbakgobgjfhhhaaDoor

/-- a number as bytes, in f bytes at most -/
def putF : Nat → Nat → List UInt8
  | 0, _ => []
  | f + 1, n => if n < 128 then [UInt8.ofNat n] else UInt8.ofNat (n % 128 + 128) :: putF f (n / 128)
theorem putF_eq (f : Nat) : ∀ g n, n < f → n < g → putF f n = putF g n := by
  induction f with
  | zero => intro g n h _; omega
  | succ f ih =>
    intro g n h1 h2
    cases g with
    | zero => omega
    | succ g =>
      rw [putF, putF]
      by_cases h : n < 128
      · rw [if_pos h, if_pos h]
      · rw [if_neg h, if_neg h, ih g (n / 128) (by omega) (by omega)]
/-- a number as bytes -/
def putB (n : Nat) : List UInt8 := putF (n + 1) n
theorem putB_lo (n : Nat) (h : n < 128) : putB n = [UInt8.ofNat n] := by rw [putB, putF, if_pos h]
theorem putB_hi (n : Nat) (h : 128 ≤ n) : putB n = UInt8.ofNat (n % 128 + 128) :: putB (n / 128) := by
  rw [putB, putF, if_neg (by omega), putB, putF_eq n (n / 128 + 1) (n / 128) (by omega) (by omega)]
/-- seven bits of each byte, the lowest first -/
def v7 : List UInt8 → Nat
  | [] => 0
  | b :: l => b.toNat % 128 + 128 * v7 l
theorem v7_snoc (l : List UInt8) (b : UInt8) : v7 (l ++ [b]) = v7 l + b.toNat % 128 * 128 ^ l.length := by
  induction l with
  | nil => simp [v7]
  | cons c l ih =>
    simp only [List.cons_append, v7, ih, List.length_cons, Nat.pow_succ, Nat.mul_add]
    have key : 128 * (b.toNat % 128 * 128 ^ l.length) = b.toNat % 128 * (128 ^ l.length * 128) := by rw [Nat.mul_comm (128 ^ l.length), Nat.mul_left_comm]
    omega
theorem v7_lt (l : List UInt8) : v7 l < 128 ^ l.length := by
  induction l with
  | nil => simp [v7]
  | cons b l ih => simp only [v7, List.length_cons, Nat.pow_succ]; omega
/-- how many bytes ahead have more behind them: at most f are looked at -/
def lead : List UInt8 → Nat → Nat
  | [], _ => 0
  | _, 0 => 0
  | b :: l, f + 1 => if b.toNat < 128 then 0 else lead l f + 1
theorem lead_eq (l : List UInt8) (f k : Nat) (hk : k ≤ f) (hl : k ≤ l.length) (h1 : ∀ i, i < k → 128 ≤ (l.getD i 0).toNat)
    (h2 : k = l.length ∨ k = f ∨ (l.getD k 0).toNat < 128) : lead l f = k := by
  induction l generalizing f k with
  | nil => simp at hl; subst hl; rfl
  | cons b l ih =>
    cases f with
    | zero => simp [lead]; omega
    | succ f =>
      cases k with
      | zero =>
        have hb : b.toNat < 128 := by simpa using h2
        rw [lead, if_pos hb]
      | succ k =>
        have h0 := h1 0 (by omega)
        simp at h0
        rw [lead, if_neg (by omega), ih f k (by omega) (by simp at hl; omega) (fun i hi => by have := h1 (i + 1) (by omega); simpa using this) ?_]
        rcases h2 with h2 | h2 | h2
        · simp at h2; exact .inl h2
        · exact .inr (.inl (by omega))
        · exact .inr (.inr (by simpa using h2))
def getE (l : List UInt8) : Int :=
  if lead l 9 = l.length then 3 else if (lead l 9 = 9 ∧ 1 < (l.getD (lead l 9) 0).toNat) ∨ (0 < lead l 9 ∧ (l.getD (lead l 9) 0).toNat = 0) then 4 else 0
def getA (l : List UInt8) : Nat := if getE l = 0 then v7 (l.take (lead l 9 + 1)) else 0
def getK (l : List UInt8) : Nat := if getE l = 0 then lead l 9 + 1 else 0
theorem get_short (l : List UInt8) (h : lead l 9 = l.length) : getE l = 3 ∧ getA l = 0 ∧ getK l = 0 := by
  have e : getE l = 3 := by unfold getE; rw [if_pos h]
  exact ⟨e, by unfold getA; rw [e]; rfl, by unfold getK; rw [e]; rfl⟩
theorem get_form (l : List UInt8) (k : Nat) (hk : lead l 9 = k) (h : k < l.length) (hf : (k = 9 ∧ 1 < (l.getD k 0).toNat) ∨ (0 < k ∧ (l.getD k 0).toNat = 0)) : getE l = 4 ∧ getA l = 0 ∧ getK l = 0 := by
  subst hk
  have e : getE l = 4 := by unfold getE; rw [if_neg (by omega), if_pos hf]
  exact ⟨e, by unfold getA; rw [e]; rfl, by unfold getK; rw [e]; rfl⟩
theorem get_ok (l : List UInt8) (k : Nat) (hk : lead l 9 = k) (h : k < l.length) (hf : ¬ ((k = 9 ∧ 1 < (l.getD k 0).toNat) ∨ (0 < k ∧ (l.getD k 0).toNat = 0))) : getE l = 0 ∧ getA l = v7 (l.take (k + 1)) ∧ getK l = k + 1 := by
  subst hk
  have e : getE l = 0 := by unfold getE; rw [if_neg (by omega), if_neg hf]
  exact ⟨e, by unfold getA; rw [e]; rfl, by unfold getK; rw [e]; rfl⟩
theorem pow128 (k : Nat) : 2 ^ (7 * k) = 128 ^ k := by rw [Nat.pow_mul]
theorem pow128_le (k : Nat) (h : k ≤ 9) : 128 ^ k ≤ 9223372036854775808 := by
  have : 128 ^ k ≤ 128 ^ 9 := Nat.pow_le_pow_right (by decide) h
  omega
theorem v7_take_lt (l : List UInt8) (k : Nat) : v7 (l.take k) < 128 ^ k :=
  Nat.lt_of_lt_of_le (v7_lt _) (Nat.pow_le_pow_right (by decide) (List.length_take_le _ _))
theorem getD_byte (s : ByteArray) (k : Nat) (h : k < s.size) : s.data.toList.getD k 0 = s[k] := by
  rw [List.getD_eq_getElem?_getD, List.getElem?_eq_getElem (by simpa using h)]; rfl
theorem getD_byteN (s : ByteArray) (k : Nat) (h : k < s.size) : (s.data.toList.getD k 0).toNat = s[k].toNat := by rw [getD_byte s k h]
theorem v7_step (s : ByteArray) (k : Nat) (h : k < s.size) : v7 (s.data.toList.take (k + 1)) = v7 (s.data.toList.take k) + s[k].toNat % 128 * 128 ^ k := by
  rw [List.take_succ_eq_append_getElem (by simpa using h), v7_snoc, List.length_take]
  rw [Nat.min_eq_left (by rw [Array.length_toList]; show k ≤ s.size; omega)]
  rfl
/-- a round of num.Get -/
theorem get_or (m b k : Nat) (hm : m < 128 ^ k) (hk : k ≤ 9) (hb : b < 128) (hb2 : k = 9 → b ≤ 1) : bits .or .u64 (m : Int) (IntKind.u64.wrap ((b : Int) * 2 ^ (7 * k))) = ((m + b * 128 ^ k : Nat) : Int) := by
  have hp := pow128_le k hk
  have hbl : b * 128 ^ k < 18446744073709551616 := by
    by_cases e : k = 9
    · have := hb2 e
      have : b * 128 ^ k ≤ 1 * 128 ^ k := Nat.mul_le_mul_right _ this
      omega
    · have h1 : 128 ^ k ≤ 128 ^ 8 := Nat.pow_le_pow_right (by decide) (by omega)
      have : b * 128 ^ k ≤ 127 * 128 ^ k := Nat.mul_le_mul_right _ (by omega)
      omega
  rw [show (b : Int) * 2 ^ (7 * k) = ((b * 128 ^ k : Nat) : Int) by rw [← pow128]; simp, wrap_u64_of _ (by omega) (by omega), u64_or_nat _ _ (by omega) hbl, Nat.or_comm, ← pow128, nat_join (7 * k) _ _ (Nat.mul_mod_left _ _) (by rw [pow128]; exact hm), Nat.add_comm]
theorem v7_ok_lt (l : List UInt8) (k : Nat) (hk : k ≤ 9) (h : k < l.length) (h9 : k = 9 → (l.getD k 0).toNat ≤ 1) : v7 (l.take (k + 1)) < 18446744073709551616 := by
  by_cases e : k = 9
  · have h1 := h9 e
    subst e
    rw [List.take_succ_eq_append_getElem h, v7_snoc]
    rw [List.getD_eq_getElem?_getD, List.getElem?_eq_getElem h] at h1
    simp at h1
    have h2 := v7_take_lt l 9
    have h3 : (l.take 9).length = 9 := by rw [List.length_take]; omega
    rw [h3]
    have : l[9].toNat % 128 * 128 ^ 9 ≤ 1 * 128 ^ 9 := Nat.mul_le_mul_right _ (by omega)
    omega
  · have h1 := v7_take_lt l (k + 1)
    have h2 := pow128_le (k + 1) (by omega)
    omega
theorem v7_drop_le (l : List UInt8) (j : Nat) : v7 (l.drop j) ≤ v7 l := by
  induction l generalizing j with
  | nil => simp
  | cons b l ih =>
    cases j with
    | zero => exact Nat.le_refl _
    | succ j =>
      have := ih j
      simp only [List.drop_succ_cons, v7]; omega
theorem v7_back (s : ByteArray) (k j : Nat) (hk : k < s.size) (hj : j ≤ k) : v7 ((s.data.toList.take (k + 1)).drop j) = s[j].toNat % 128 + 128 * v7 ((s.data.toList.take (k + 1)).drop (j + 1)) := by
  have hl : j < (s.data.toList.take (k + 1)).length := by
    rw [List.length_take, Array.length_toList]; show j < min (k + 1) s.size; omega
  rw [List.drop_eq_getElem_cons hl, v7, List.getElem_take]
  rfl
end Go.Proofs.YtbakgobgjfhhhaaDoor
