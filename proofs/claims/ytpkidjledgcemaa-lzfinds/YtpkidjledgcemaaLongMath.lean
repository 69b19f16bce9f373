/- Plain facts on the longest copy that may begin at a place. No Go in sight. -/
import Derived.Test.YtpkidjledgcemaaSizesMath
namespace Go.Proofs.Ytpkidjledgcemaa

theorem sameAt_le {s : List UInt8} {k i n m : Nat} (h : sameAt s k i n) (hm : m ≤ n) : sameAt s k i m := fun j hj => h j (by omega)
theorem sameAt_trans {s : List UInt8} {a b c n : Nat} (h1 : sameAt s a b n) (h2 : sameAt s b c n) : sameAt s a c n := fun j hj => (h1 j hj).trans (h2 j hj)
theorem sameAt_symm {s : List UInt8} {a b n : Nat} (h : sameAt s a b n) : sameAt s b a n := fun j hj => (h j hj).symm
theorem sameAt_snoc {s : List UInt8} {a b n : Nat} (h : sameAt s a b n) (he : s.getD (a + n) 0 = s.getD (b + n) 0) : sameAt s a b (n + 1) := fun j hj => by
  by_cases e : j = n
  · subst e; exact he
  · exact h j (by omega)
/-- where the three bytes of i came last ahead of it -/
structure Chain (s : List UInt8) (A : Nat → Int) (i : Nat) : Prop where
  ge : -1 ≤ A i ∧ A i < i
  no : ∀ p, p < i → A i < p → ¬ sameAt s p i 3
  yes : ∀ p : Nat, A i = p → sameAt s p i 3
structure LgSt (s : List UInt8) (at' most : Nat) (f : Int) (bl bd : Nat) : Prop where
  b : (bl = 0 ∧ bd = 0) ∨ (3 ≤ bl ∧ bl ≤ most ∧ 1 ≤ bd ∧ bd ≤ at' ∧ sameAt s (at' - bd) at' bl)
  v : ∀ k, k < at' → f < k → ∀ n, 3 ≤ n → n ≤ most → sameAt s k at' n → n ≤ bl
  f : -1 ≤ f ∧ f < at' ∧ ∀ p : Nat, f = p → sameAt s p at' 3
theorem lg_start {s : List UInt8} {A : Nat → Int} {i most : Nat} (h : Chain s A i) : LgSt s i most (A i) 0 0 :=
  ⟨.inl ⟨rfl, rfl⟩, fun k hk hf _ h3 _ hs => absurd (sameAt_le hs h3) (h.no k hk hf), h.ge.1, h.ge.2, h.yes⟩
theorem lg_next {s : List UInt8} {A : Nat → Int} {i most p bl bd : Nat} (h : LgSt s i most (p : Int) bl bd) (hc : Chain s A p) (hv : ∀ n, 3 ≤ n → n ≤ most → sameAt s p i n → n ≤ bl) : LgSt s i most (A p) bl bd := by
  have hp := h.f.2.2 p rfl
  have hpi : (p : Int) < i := h.f.2.1
  refine ⟨h.b, fun k hk hf n h3 hm hs => ?_, hc.ge.1, by have := hc.ge.2; omega, fun r hr => ?_⟩
  · by_cases e : p < k
    · exact h.v k hk (by omega) n h3 hm hs
    · by_cases e2 : k = p
      · subst e2; exact hv n h3 hm hs
      · exact absurd (sameAt_trans (sameAt_le hs h3) (sameAt_symm hp)) (hc.no k (by omega) hf)
  · exact sameAt_trans (hc.yes r hr) hp
/-- what is told of the longest copy -/
structure LgOk (s : List UInt8) (i most bl bd : Nat) : Prop where
  b : (bl = 0 ∧ bd = 0) ∨ (3 ≤ bl ∧ bl ≤ most ∧ 1 ≤ bd ∧ bd ≤ i ∧ sameAt s (i - bd) i bl)
  v : ∀ k, k < i → ∀ n, 3 ≤ n → n ≤ most → sameAt s k i n → n ≤ bl
theorem lg_end {s : List UInt8} {i most bl bd : Nat} {f : Int} (h : LgSt s i most f bl bd) (he : f < 0 ∨ most ≤ bl) : LgOk s i most bl bd :=
  ⟨h.b, fun k hk n h3 hm hs => by
    rcases he with he | he
    · exact h.v k hk (by have := h.f.1; omega) n h3 hm hs
    · omega⟩
/-- within a place p, n bytes looked at -/
structure LgIn (s : List UInt8) (i most p n bl bd : Nat) : Prop where
  st : LgSt s i most (p : Int) bl bd
  n3 : 3 ≤ n
  nm : n ≤ most + 1 ∨ n = 3
  s : sameAt s p i (n - 1)
  l : 4 ≤ n → n - 1 ≤ bl
theorem lgin_start {s : List UInt8} {i most p bl bd : Nat} (h : LgSt s i most (p : Int) bl bd) : LgIn s i most p 3 bl bd :=
  ⟨h, Nat.le_refl _, .inr rfl, sameAt_le (h.f.2.2 p rfl) (by omega), fun h => by omega⟩
theorem LgIn.out {s : List UInt8} {i most p n bl bd : Nat} (h : LgIn s i most p n bl bd) (he : most < n ∨ s.getD (p + n - 1) 0 ≠ s.getD (i + n - 1) 0) : ∀ m, 3 ≤ m → m ≤ most → sameAt s p i m → m ≤ bl := by
  intro m h3 hm hs
  have hn3 := h.n3
  by_cases e : m < n
  · have := h.l (by omega); omega
  · rcases he with he | he
    · omega
    · exfalso
      have := hs (n - 1) (by omega)
      rw [show p + (n - 1) = p + n - 1 by omega, show i + (n - 1) = i + n - 1 by omega] at this
      exact he this
theorem LgIn.keep {s : List UInt8} {i most p n bl bd : Nat} (h : LgIn s i most p n bl bd) (hn : n ≤ most) (he : s.getD (p + n - 1) 0 = s.getD (i + n - 1) 0) (hb : n ≤ bl) : LgIn s i most p (n + 1) bl bd := by
  have hn3 := h.n3
  refine ⟨h.st, by omega, .inl (by omega), ?_, fun _ => by omega⟩
  have := sameAt_snoc h.s (by rw [show p + (n - 1) = p + n - 1 by omega, show i + (n - 1) = i + n - 1 by omega]; exact he)
  rw [show n - 1 + 1 = n + 1 - 1 by omega] at this
  exact this
theorem LgIn.take {s : List UInt8} {i most p n bl bd : Nat} (h : LgIn s i most p n bl bd) (hn : n ≤ most) (he : s.getD (p + n - 1) 0 = s.getD (i + n - 1) 0) (hb : bl < n) : LgIn s i most p (n + 1) n (i - p) := by
  have hn3 := h.n3
  have hpi : (p : Int) < i := h.st.f.2.1
  have hs := sameAt_snoc h.s (by rw [show p + (n - 1) = p + n - 1 by omega, show i + (n - 1) = i + n - 1 by omega]; exact he)
  rw [show n - 1 + 1 = n by omega] at hs
  refine ⟨⟨.inr ⟨by omega, hn, by omega, by omega, by rw [show i - (i - p) = p by omega]; exact hs⟩, fun k hk hf m h3 hm hsm => ?_, h.st.f⟩, by omega, .inl (by omega), by rw [show n + 1 - 1 = n by omega]; exact hs, fun _ => by omega⟩
  have := h.st.v k hk hf m h3 hm hsm
  omega
/-- a copy as it is told for the i-th byte -/
structure CopOk (s : List UInt8) (i l d : Nat) : Prop where
  b : (l = 0 ∧ d = 0) ∨ (3 ≤ l ∧ l ≤ 66 ∧ i + l ≤ s.length ∧ 1 ≤ d ∧ d ≤ i ∧ sameAt s (i - d) i l)
  v : ∀ k, k < i → ∀ n, 3 ≤ n → n ≤ 66 → i + n ≤ s.length → sameAt s k i n → n ≤ l
theorem cop_of {s : List UInt8} {i l d : Nat} (hi : i ≤ s.length) (h : LgOk s i (min (s.length - i) 66) l d) : CopOk s i l d := by
  refine ⟨?_, fun k hk n h3 h6 hn hs => h.v k hk n h3 (by omega) hs⟩
  rcases h.b with h | ⟨h1, h2, h3, h4, h5⟩
  · exact .inl h
  · exact .inr ⟨h1, by omega, by omega, h3, h4, h5⟩
theorem cop_none {s : List UInt8} {i : Nat} (hi : s.length < i + 3) : CopOk s i 0 0 :=
  ⟨.inl ⟨rfl, rfl⟩, fun k _ n h3 _ hn _ => by omega⟩
theorem edge_ok {s : List UInt8} {i l d n : Nat} (h : CopOk s i l d) : (edgeL s i n ∧ i + n ≤ s.length) → okZ l n := by
  rintro ⟨h1 | ⟨h3, h6, k, hk, hs⟩, hl⟩
  · exact .inl h1
  · exact .inr ⟨h3, h.v k hk n h3 h6 hl hs⟩
theorem ok_edge {s : List UInt8} {i l d n : Nat} (h : CopOk s i l d) (hn : okZ l n) : edgeL s i n := by
  rcases hn with h1 | ⟨h3, hl⟩
  · exact .inl h1
  · rcases h.b with ⟨h0, _⟩ | ⟨h1, h2, h4, h5, h6, h7⟩
    · omega
    · exact .inr ⟨h3, by omega, i - d, by omega, sameAt_le h7 hl⟩
theorem few_sizes {s : List UInt8} {L D Z M : Nat → Nat} (hc : ∀ i, i < s.length → CopOk s i (L i) (D i)) (h : SzSt L s.length 0 Z M) : FewIs s (M 0) := by
  refine few_back M Z h.e (fun i hi => ?_) (fun i n hi he hl => ?_)
  · obtain ⟨h1, h2, h3⟩ := h.z i (Nat.zero_le _) hi
    exact ⟨ok_edge (hc i hi) h1, h2, h3⟩
  · exact h.r i n (Nat.zero_le _) hi (edge_ok (hc i hi) ⟨he, hl⟩)
end Go.Proofs.Ytpkidjledgcemaa
