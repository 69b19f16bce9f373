/- Where three bytes came last, as a map tells it. -/
import Derived.Test.YtpkidjledgcemaaKeys3
import Derived.Test.YtpkidjledgcemaaLongMath
namespace Go.Proofs.Ytpkidjledgcemaa
open Go.RowKit Go.WideMaps Go.Maps

def tri (s : List UInt8) (p : Nat) (a b c : UInt8) : Prop := s.getD p 0 = a ∧ s.getD (p + 1) 0 = b ∧ s.getD (p + 2) 0 = c
theorem tri_same {s : List UInt8} {p i : Nat} : tri s p (s.getD i 0) (s.getD (i + 1) 0) (s.getD (i + 2) 0) ↔ sameAt s p i 3 := by
  constructor
  · rintro ⟨h0, h1, h2⟩ j hj
    match j, hj with
    | 0, _ => exact h0
    | 1, _ => exact h1
    | 2, _ => exact h2
  · intro h
    exact ⟨h 0 (by omega), h 1 (by omega), h 2 (by omega)⟩
structure LastM (s : List UInt8) (k : Nat) (D : DataW Unit) : Prop where
  m : IsMap D
  no : ∀ a b c, (∀ p, p < k → ¬ tri s p a b c) → Maps.has D (k3 a b c) = false
  yes : ∀ a b c p, p < k → tri s p a b c → (∀ r, p < r → r < k → ¬ tri s r a b c) → Maps.has D (k3 a b c) = true ∧ ∀ z, D.atKey (k3 a b c) z = .lit (.int .i64 (p : Int))
theorem last_start (s : List UInt8) : LastM s 0 (.map []) := ⟨isMap_empty, fun a b c _ => rfl, fun a b c p hp => by omega⟩
theorem last_step {s : List UInt8} {k : Nat} {D : DataW Unit} (h : LastM s k D) : LastM s (k + 1) (D.put (k3 (s.getD k 0) (s.getD (k + 1) 0) (s.getD (k + 2) 0)) (.lit (.int .i64 (k : Int)))) := by
  refine ⟨h.m.put _ _, fun a b c hn => ?_, fun a b c p hp ht hr => ?_⟩
  · have hne : k3 a b c ≠ k3 (s.getD k 0) (s.getD (k + 1) 0) (s.getD (k + 2) 0) := fun e => by
      obtain ⟨rfl, rfl, rfl⟩ := k3_inj e
      exact hn k (by omega) ⟨rfl, rfl, rfl⟩
    rw [has_put_other hne]
    exact h.no a b c fun p hp => hn p (by omega)
  · by_cases e : p = k
    · subst e
      obtain ⟨rfl, rfl, rfl⟩ := ht
      exact ⟨has_put_same h.m (k3_key _ _ _) _, fun z => atKey_put_same h.m (k3_key _ _ _) _ z⟩
    · have hne : k3 a b c ≠ k3 (s.getD k 0) (s.getD (k + 1) 0) (s.getD (k + 2) 0) := fun e' => by
        obtain ⟨rfl, rfl, rfl⟩ := k3_inj e'
        exact hr k (by omega) (by omega) ⟨rfl, rfl, rfl⟩
      rw [has_put_other hne]
      have := h.yes a b c p (by omega) ht fun r h1 h2 => hr r h1 (by omega)
      exact ⟨this.1, fun z => by rw [atKey_put_other hne]; exact this.2 z⟩
theorem last_is (q : Nat → Prop) (k : Nat) : (∀ p, p < k → ¬ q p) ∨ ∃ p, p < k ∧ q p ∧ ∀ r, p < r → r < k → ¬ q r := by
  induction k with
  | zero => exact .inl fun p hp => by omega
  | succ k ih =>
    by_cases hk : q k
    · exact .inr ⟨k, by omega, hk, fun r h1 h2 => by omega⟩
    · rcases ih with h | ⟨p, h1, h2, h3⟩
      · refine .inl fun p hp => ?_
        by_cases e : p = k
        · subst e; exact hk
        · exact h p (by omega)
      · refine .inr ⟨p, by omega, h2, fun r h4 h5 => ?_⟩
        by_cases e : r = k
        · subst e; exact hk
        · exact h3 r h4 (by omega)
/-- what the map says of the three bytes at k -/
theorem last_chain {s : List UInt8} {k : Nat} {D : DataW Unit} (h : LastM s k D) (A : Nat → Int) :
    (Maps.has D (k3 (s.getD k 0) (s.getD (k + 1) 0) (s.getD (k + 2) 0)) = false ∧ Chain s (fun i => if i = k then -1 else A i) k) ∨
    ∃ p : Nat, p < k ∧ Maps.has D (k3 (s.getD k 0) (s.getD (k + 1) 0) (s.getD (k + 2) 0)) = true ∧ (∀ z, D.atKey (k3 (s.getD k 0) (s.getD (k + 1) 0) (s.getD (k + 2) 0)) z = .lit (.int .i64 (p : Int))) ∧ Chain s (fun i => if i = k then (p : Int) else A i) k := by
  rcases last_is (fun p => tri s p (s.getD k 0) (s.getD (k + 1) 0) (s.getD (k + 2) 0)) k with hn | ⟨p, hp, ht, hr⟩
  · refine .inl ⟨h.no _ _ _ hn, ?_, ?_, ?_⟩
    · rw [if_pos rfl]; omega
    · intro p hp _ hs
      exact hn p hp (tri_same.2 hs)
    · intro p he
      rw [if_pos rfl] at he; omega
  · obtain ⟨h1, h2⟩ := h.yes _ _ _ p hp ht hr
    refine .inr ⟨p, hp, h1, h2, ?_, ?_, ?_⟩
    · rw [if_pos rfl]; omega
    · intro r hrk he hs
      rw [if_pos rfl] at he
      exact hr r (by omega) hrk (tri_same.2 hs)
    · intro r he
      rw [if_pos rfl] at he
      obtain rfl : p = r := by omega
      exact tri_same.1 ht
theorem chain_congr {s : List UInt8} {A B : Nat → Int} {i : Nat} (h : Chain s A i) (he : A i = B i) : Chain s B i :=
  ⟨by rw [← he]; exact h.ge, by rw [← he]; exact h.no, by rw [← he]; exact h.yes⟩
end Go.Proofs.Ytpkidjledgcemaa
