/- Words of a code, held against bits. No Go in sight. -/
import Derived.Test.YtnoegodimiehhaaRdMath
namespace Go.Proofs.Ytnoegodimiehhaa

theorem rv_same (X Z n : Nat) : (∀ j, j < n → X / 2 ^ j % 2 = Z / 2 ^ j % 2) ↔ rv X n = rv Z n := by
  induction n with
  | zero => exact ⟨fun _ => rfl, fun _ j hj => by omega⟩
  | succ n ih =>
    rw [rv, rv]
    constructor
    · intro h
      rw [ih.1 fun j hj => h j (by omega), h n (by omega)]
    · intro h j hj
      have h1 := Nat.mod_lt (X / 2 ^ n) (show 0 < 2 by decide)
      have h2 := Nat.mod_lt (Z / 2 ^ n) (show 0 < 2 by decide)
      by_cases e : j = n
      · rw [e]; omega
      · exact ih.2 (by omega) j (by omega)
/-- do the first m bits of X, of which there are k, stand so in Z? -/
def begB (X k Z m : Nat) : Bool := decide (m ≤ k) && (List.range m).all fun j => X / 2 ^ j % 2 == Z / 2 ^ j % 2
theorem begB_long (X k Z m : Nat) (h : k < m) : begB X k Z m = false := by unfold begB; rw [decide_eq_false (by omega)]; rfl
theorem begB_is (X k Z m : Nat) (h : m ≤ k) : begB X k Z m = decide (rv X m = rv Z m) := by
  unfold begB
  rw [decide_eq_true h, Bool.true_and]
  by_cases e : rv X m = rv Z m
  · rw [decide_eq_true e]
    exact List.all_eq_true.2 fun j hj => by simp only [beq_iff_eq]; exact (rv_same X Z m).2 e j (by simpa using hj)
  · rw [decide_eq_false e]
    cases ha : (List.range m).all fun j => X / 2 ^ j % 2 == Z / 2 ^ j % 2 with
    | false => rfl
    | true => exact absurd ((rv_same X Z m).1 fun j hj => by have := List.all_eq_true.1 ha j (by simpa using hj); simpa using this) e
theorem code_lt2 {L : Nat → Int} {len : Nat} (hF : fillN L len ≤ 32768) (i y : Nat) (hi : i < len) (hy : L i = (y : Int)) (h0 : 0 < y) (h15 : y ≤ 15) : codeN L len i < 2 ^ y := by
  have h1 := ahead_fill L len i hi (by omega)
  rw [ahead_code' L len i y hi hy h0 h15, tk_pos _ (by omega), hy, Int.toNat_natCast, ← Nat.succ_mul] at h1
  have h2 : (codeN L len i + 1) * 2 ^ (15 - y) ≤ 2 ^ y * 2 ^ (15 - y) := by
    rw [← Nat.pow_add, show y + (15 - y) = 15 by omega]; exact Nat.le_trans h1 hF
  exact Nat.le_of_mul_le_mul_right h2 (Nat.pow_pos (by decide))
theorem word_hit (X c y : Nat) (hc : c < 2 ^ y) (k : Nat) (hk : y ≤ k) : begB X k (rv c y) y = decide (c = rv X y) := by
  rw [begB_is _ _ _ _ hk, rv_rv, Nat.mod_eq_of_lt hc]
  by_cases h : c = rv X y
  · rw [decide_eq_true h, decide_eq_true h.symm]
  · rw [decide_eq_false h, decide_eq_false (fun e => h e.symm)]
theorem word_more (X c y n : Nat) (hc : c < 2 ^ y) (hn : n < y) : begB (rv c y) y X n = decide (c / 2 ^ (y - n) = rv X n) := by
  rw [begB_is _ _ _ _ (by omega)]
  have := rv_front (rv c y) n (y - n)
  rw [show n + (y - n) = y by omega, rv_rv, Nat.mod_eq_of_lt hc] at this
  rw [this]
/-- does one of the first i codes go on from v? -/
def somS (W : Nat → Int) (len n v i : Nat) : Bool := (List.range i).any fun j => decide ((n : Int) < W j ∧ codeN W len j / 2 ^ ((W j).toNat - n) = v)
theorem somS_all (W : Nat → Int) (len n v : Nat) : somS W len n v len = moreS W len n v := rfl
theorem somS_succ (W : Nat → Int) (len n v i : Nat) : somS W len n v (i + 1) = (somS W len n v i || decide ((n : Int) < W i ∧ codeN W len i / 2 ^ ((W i).toNat - n) = v)) := by
  unfold somS; rw [List.range_succ, List.any_append]; simp
theorem hit_first {W : Nat → Int} {len n v i : Nat} (hi : i < len) (h : 0 < n ∧ W i = (n : Int) ∧ codeN W len i = v) (hno : ∀ j, j < i → ¬ (0 < n ∧ W j = (n : Int) ∧ codeN W len j = v)) : hitS W len n v = some i := by
  unfold hitS
  rw [List.find?_range_eq_some]
  refine ⟨by simpa using h, by simpa using hi, fun j hj => ?_⟩
  have := hno j hj
  simp only [Bool.not_eq_true', decide_eq_false_iff_not]
  exact this
theorem hit_nowhere {W : Nat → Int} {len n v : Nat} (hno : ∀ j, j < len → ¬ (0 < n ∧ W j = (n : Int) ∧ codeN W len j = v)) : hitS W len n v = none := by
  unfold hitS
  rw [List.find?_eq_none]
  intro j hj
  have := hno j (by simpa using hj)
  simpa using this
end Go.Proofs.Ytnoegodimiehhaa
