/- Texts of ours, one behind the other: Keys3 LastMath -/
import Derived.Test.YtcalbicfnhoklaaDoorMsac
import Derived.WideKeyArr2
import Derived.Maps.OwnSet
import Derived.Maps.Views
import Derived.Test.YtcalbicfnhoklaaDoorMsad

/- Maps whose keys are three bytes. -/
namespace Go.Proofs.YtcalbicfnhoklaaDoor
open Go.RowKit Go.WideMaps Go.Maps

theorem arr3 : ArrKey Tryd.prog 88 5 3 := ⟨Tryd.underlying88, by kernel_rfl, by kernel_rfl, by kernel_rfl⟩
theorem law3 : Keyed Tryd.prog 88 := Keyed.of_law arr3.law
def v3 (a b c : UInt8) : Value := .agg #[.int .u8 (a.toNat : Int), .int .u8 (b.toNat : Int), .int .u8 (c.toNat : Int)]
def k3 (a b c : UInt8) : Lit := .string (keyBytes [.int .u8 (a.toNat : Int), .int .u8 (b.toNat : Int), .int .u8 (c.toNat : Int)])
theorem types_succ : ∃ m, Tryd.prog.types.size = m + 1 := ⟨Tryd.prog.types.size - 1, by
  have : 0 < Tryd.prog.types.size := of_decide_eq_true (by kernel_rfl)
  omega⟩
theorem wf_byte (a : UInt8) : (Lit.int .u8 (a.toNat : Int)).wf = true := by
  have := a.toNat_lt
  exact WalkArith.wf_u8 (by omega)
theorem key3 (a b c : UInt8) : keyOf Tryd.prog 88 (v3 a b c) = some (k3 a b c) := by
  have hkt := arr3.keyType types_succ
  obtain ⟨m, hm⟩ := types_succ
  unfold keyOf
  simp only [Tryd.underlying88]
  rw [if_pos (by simp [hkt, v3, Value.formed, Tryd.underlying88, arr3.size]), hm]
  unfold Program.keyLits
  simp only [Tryd.underlying88, v3, Value.cells]
  rw [if_pos (by rw [arr3.size]; rfl)]
  have e : ∀ x : UInt8, Tryd.prog.keyLits (m + 1) 5 [.int .u8 (x.toNat : Int)] = some [.int .u8 (x.toNat : Int)] := fun x => by
    unfold Program.keyLits
    simp [Tryd.underlying5, wf_byte x]
  rw [arr3.one, show List.range 3 = [0, 1, 2] from rfl]
  simp [List.mapM_cons, e, k3]
theorem k3_inj {a b c a' b' c' : UInt8} (h : k3 a b c = k3 a' b' c') : a = a' ∧ b = b' ∧ c = c' := by
  have := law3.inj (key3 a b c) (by rw [h]; exact key3 a' b' c')
  simp only [v3, Value.agg.injEq, Array.mk.injEq, List.cons.injEq, Value.int.injEq, true_and, and_true] at this
  obtain ⟨h1, h2, h3⟩ := this
  exact ⟨UInt8.toNat_inj.1 (by omega), UInt8.toNat_inj.1 (by omega), UInt8.toNat_inj.1 (by omega)⟩
theorem k3_key (a b c : UInt8) : WideAt.IsKeyLit (k3 a b c) := law3.key (key3 a b c)
end Go.Proofs.YtcalbicfnhoklaaDoor

/- Where three bytes came last, as a map tells it. -/
namespace Go.Proofs.YtcalbicfnhoklaaDoor
open Go.RowKit Go.WideMaps Go.Maps

def tri (s : List UInt8) (p : Nat) (a b c : UInt8) : Prop := s.getD p 0 = a ∧ s.getD (p + 1) 0 = b ∧ s.getD (p + 2) 0 = c
theorem tri_same {s : List UInt8} {p i : Nat} : tri s p (s.getD i 0) (s.getD (i + 1) 0) (s.getD (i + 2) 0) ↔ sameAt s p i 3 := by
  constructor
  · rintro ⟨h0, h1, h2⟩ j hj
    match j, hj with
    | 0, _ => exact h0
    | 1, _ => exact h1
    | 2, _ => exact h2
  · intro h
    exact ⟨h 0 (by omega), h 1 (by omega), h 2 (by omega)⟩
structure LastM (s : List UInt8) (k : Nat) (D : DataW Unit) : Prop where
  m : IsMap D
  no : ∀ a b c, (∀ p, p < k → ¬ tri s p a b c) → Maps.has D (k3 a b c) = false
  yes : ∀ a b c p, p < k → tri s p a b c → (∀ r, p < r → r < k → ¬ tri s r a b c) → Maps.has D (k3 a b c) = true ∧ ∀ z, D.atKey (k3 a b c) z = .lit (.int .i64 (p : Int))
theorem last_start (s : List UInt8) : LastM s 0 (.map []) := ⟨isMap_empty, fun a b c _ => rfl, fun a b c p hp => by omega⟩
theorem last_step {s : List UInt8} {k : Nat} {D : DataW Unit} (h : LastM s k D) : LastM s (k + 1) (D.put (k3 (s.getD k 0) (s.getD (k + 1) 0) (s.getD (k + 2) 0)) (.lit (.int .i64 (k : Int)))) := by
  refine ⟨h.m.put _ _, fun a b c hn => ?_, fun a b c p hp ht hr => ?_⟩
  · have hne : k3 a b c ≠ k3 (s.getD k 0) (s.getD (k + 1) 0) (s.getD (k + 2) 0) := fun e => by
      obtain ⟨rfl, rfl, rfl⟩ := k3_inj e
      exact hn k (by omega) ⟨rfl, rfl, rfl⟩
    rw [has_put_other hne]
    exact h.no a b c fun p hp => hn p (by omega)
  · by_cases e : p = k
    · subst e
      obtain ⟨rfl, rfl, rfl⟩ := ht
      exact ⟨has_put_same h.m (k3_key _ _ _) _, fun z => atKey_put_same h.m (k3_key _ _ _) _ z⟩
    · have hne : k3 a b c ≠ k3 (s.getD k 0) (s.getD (k + 1) 0) (s.getD (k + 2) 0) := fun e' => by
        obtain ⟨rfl, rfl, rfl⟩ := k3_inj e'
        exact hr k (by omega) (by omega) ⟨rfl, rfl, rfl⟩
      rw [has_put_other hne]
      have := h.yes a b c p (by omega) ht fun r h1 h2 => hr r h1 (by omega)
      exact ⟨this.1, fun z => by rw [atKey_put_other hne]; exact this.2 z⟩
theorem last_is (q : Nat → Prop) (k : Nat) : (∀ p, p < k → ¬ q p) ∨ ∃ p, p < k ∧ q p ∧ ∀ r, p < r → r < k → ¬ q r := by
  induction k with
  | zero => exact .inl fun p hp => by omega
  | succ k ih =>
    by_cases hk : q k
    · exact .inr ⟨k, by omega, hk, fun r h1 h2 => by omega⟩
    · rcases ih with h | ⟨p, h1, h2, h3⟩
      · refine .inl fun p hp => ?_
        by_cases e : p = k
        · subst e; exact hk
        · exact h p (by omega)
      · refine .inr ⟨p, by omega, h2, fun r h4 h5 => ?_⟩
        by_cases e : r = k
        · subst e; exact hk
        · exact h3 r h4 (by omega)
/-- what the map says of the three bytes at k -/
theorem last_chain {s : List UInt8} {k : Nat} {D : DataW Unit} (h : LastM s k D) (A : Nat → Int) :
    (Maps.has D (k3 (s.getD k 0) (s.getD (k + 1) 0) (s.getD (k + 2) 0)) = false ∧ Chain s (fun i => if i = k then -1 else A i) k) ∨
    ∃ p : Nat, p < k ∧ Maps.has D (k3 (s.getD k 0) (s.getD (k + 1) 0) (s.getD (k + 2) 0)) = true ∧ (∀ z, D.atKey (k3 (s.getD k 0) (s.getD (k + 1) 0) (s.getD (k + 2) 0)) z = .lit (.int .i64 (p : Int))) ∧ Chain s (fun i => if i = k then (p : Int) else A i) k := by
  rcases last_is (fun p => tri s p (s.getD k 0) (s.getD (k + 1) 0) (s.getD (k + 2) 0)) k with hn | ⟨p, hp, ht, hr⟩
  · refine .inl ⟨h.no _ _ _ hn, ?_, ?_, ?_⟩
    · rw [if_pos rfl]; omega
    · intro p hp _ hs
      exact hn p hp (tri_same.2 hs)
    · intro p he
      rw [if_pos rfl] at he; omega
  · obtain ⟨h1, h2⟩ := h.yes _ _ _ p hp ht hr
    refine .inr ⟨p, hp, h1, h2, ?_, ?_, ?_⟩
    · rw [if_pos rfl]; omega
    · intro r hrk he hs
      rw [if_pos rfl] at he
      exact hr r (by omega) hrk (tri_same.2 hs)
    · intro r he
      rw [if_pos rfl] at he
      obtain rfl : p = r := by omega
      exact tri_same.1 ht
theorem chain_congr {s : List UInt8} {A B : Nat → Int} {i : Nat} (h : Chain s A i) (he : A i = B i) : Chain s B i :=
  ⟨by rw [← he]; exact h.ge, by rw [← he]; exact h.no, by rw [← he]; exact h.yes⟩
end Go.Proofs.YtcalbicfnhoklaaDoor
