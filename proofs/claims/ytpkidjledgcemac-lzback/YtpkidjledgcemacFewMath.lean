/- Plain facts on the fewest marks that make a text. No Go in sight. -/
import Derived.Test.YtpkidjledgcemacMarkMath
namespace Go.Proofs.Ytpkidjledgcemac

/-- n bytes from i on stand further ahead too, from k on -/
def sameAt (s : List UInt8) (k i n : Nat) : Prop := ∀ j, j < n → s.getD (k + j) 0 = s.getD (i + j) 0
def edgeL (s : List UInt8) (i n : Nat) : Prop := n = 1 ∨ (3 ≤ n ∧ n ≤ 66 ∧ ∃ k, k < i ∧ sameAt s k i n)
/-- so many marks lead from one place to another -/
def Way (s : List UInt8) : Nat → Nat → Nat → Prop
  | 0, i, j => i = j
  | k + 1, i, j => ∃ n, edgeL s i n ∧ i + n ≤ s.length ∧ Way s k (i + n) j
theorem way_nil (s : List UInt8) (i : Nat) : Way s 0 i i := rfl
theorem way_cons {s : List UInt8} {k i n j : Nat} (h : edgeL s i n) (hl : i + n ≤ s.length) (t : Way s k (i + n) j) : Way s (k + 1) i j := ⟨n, h, hl, t⟩
theorem way_snoc {s : List UInt8} {j n : Nat} (he : edgeL s j n) (hl : j + n ≤ s.length) : ∀ k i, Way s k i j → Way s (k + 1) i (j + n) := by
  intro k
  induction k with
  | zero =>
    intro i h
    have e : i = j := h
    subst e
    exact way_cons he hl (way_nil _ _)
  | succ k ih =>
    intro i h
    obtain ⟨m, h1, h2, h3⟩ := h
    exact way_cons h1 h2 (ih _ h3)
def FewIs (s : List UInt8) (v : Nat) : Prop := Way s v 0 s.length ∧ ∀ k, Way s k 0 s.length → v ≤ k
theorem FewIs.one {s : List UInt8} {u v : Nat} (h1 : FewIs s u) (h2 : FewIs s v) : u = v := Nat.le_antisymm (h1.2 _ h2.1) (h2.2 _ h1.1)
theorem way_ones (s : List UInt8) (d : Nat) : ∀ i, i + d = s.length → Way s d i s.length := by
  induction d with
  | zero => intro i h; rw [← h]; exact way_nil _ _
  | succ d ih => intro i h; exact way_cons (n := 1) (.inl rfl) (by omega) (ih (i + 1) (by omega))
/-- from the front on -/
theorem few_front {s : List UInt8} (B : Nat → Nat) (h0 : B 0 = 0) (hr : ∀ i n, edgeL s i n → i + n ≤ s.length → B (i + n) ≤ B i + 1) (hw : ∀ j, j ≤ s.length → B j < 1073741824 → Way s (B j) 0 j) (hs : s.length ≤ 512) : FewIs s (B s.length) := by
  have key : ∀ k i j, Way s k i j → B j ≤ B i + k := by
    intro k
    induction k with
    | zero =>
      intro i j h
      have e : i = j := h
      subst e; omega
    | succ k ih =>
      intro i j h
      obtain ⟨n, h1, h2, h3⟩ := h
      have a := hr _ _ h1 h2
      have b := ih _ _ h3
      omega
  have h1 := key _ _ _ (way_ones s s.length 0 (by omega))
  refine ⟨hw _ (Nat.le_refl _) (by omega), fun k hk => ?_⟩
  have := key _ _ _ hk
  omega
/-- from the end on -/
theorem few_back {s : List UInt8} (M Z : Nat → Nat) (h0 : M s.length = 0) (hz : ∀ i, i < s.length → edgeL s i (Z i) ∧ i + Z i ≤ s.length ∧ M i = M (i + Z i) + 1) (hr : ∀ i n, i < s.length → edgeL s i n → i + n ≤ s.length → M (i + Z i) ≤ M (i + n)) : FewIs s (M 0) := by
  have key : ∀ k i j, Way s k i j → i ≤ s.length → M i ≤ M j + k := by
    intro k
    induction k with
    | zero =>
      intro i j h _
      have e : i = j := h
      subst e; omega
    | succ k ih =>
      intro i j h hi
      obtain ⟨n, h1, h2, h3⟩ := h
      have hn : 0 < n := by rcases h1 with h1 | h1 <;> omega
      have a := hz i (by omega)
      have b := hr i n (by omega) h1 h2
      have c := ih _ _ h3 h2
      omega
  have way : ∀ d i, i + d = s.length → Way s (M i) i s.length := by
    intro d
    induction d using Nat.strongRecOn with
    | _ d ih =>
      intro i hi
      by_cases hd : d = 0
      · rw [show i = s.length by omega, h0]; exact way_nil _ _
      · obtain ⟨a, b, c⟩ := hz i (by omega)
        have hn : 0 < Z i := by rcases a with a | a <;> omega
        rw [c]
        exact way_cons a b (ih (d - Z i) (by omega) (i + Z i) (by omega))
  refine ⟨way s.length 0 (by omega), fun k hk => ?_⟩
  have := key _ _ _ hk (Nat.zero_le _)
  omega
/-- what is copied from where it stands ahead -/
theorem take_snoc (s : List UInt8) (p : Nat) (h : p < s.length) : s.take p ++ [s.getD p 0] = s.take (p + 1) := by
  rw [List.take_succ_eq_append_getElem h, List.getD_eq_getElem?_getD, List.getElem?_eq_getElem h]; rfl
theorem getD_take (s : List UInt8) (p j : Nat) (h : j < p) : (s.take p).getD j 0 = s.getD j 0 := by
  rw [List.getD_eq_getElem?_getD, List.getD_eq_getElem?_getD, List.getElem?_take, if_pos h]
theorem cpy_take (s : List UInt8) (d : Nat) (hd : 1 ≤ d) (n : Nat) : ∀ p, d ≤ p → p + n ≤ s.length → sameAt s (p - d) p n → cpy d n (s.take p) = s.take (p + n) := by
  induction n with
  | zero => intro p _ _ _; rfl
  | succ n ih =>
    intro p h1 h2 h3
    have hl : (s.take p).length = p := by rw [List.length_take]; omega
    have h0 := h3 0 (by omega)
    simp only [Nat.add_zero] at h0
    rw [cpy, hl, getD_take s p _ (by omega), h0, take_snoc s p (by omega), ih (p + 1) (by omega) (by omega), show p + 1 + n = p + (n + 1) by omega]
    intro j hj
    have := h3 (j + 1) (by omega)
    rw [show p + 1 - d + j = p - d + (j + 1) by omega, show p + 1 + j = p + (j + 1) by omega]; exact this
theorem getD_pre (a b : List UInt8) (j : Nat) (h : j < a.length) : (a ++ b).getD j 0 = a.getD j 0 := by
  rw [List.getD_eq_getElem?_getD, List.getD_eq_getElem?_getD, List.getElem?_append_left h]
/-- marks are a way -/
theorem way_marks (l : List Mk) : ∀ out, exE l out = 0 → Way (exT l out) l.length out.length (exT l out).length := by
  induction l with
  | nil => intro out _; exact way_nil _ _
  | cons m t ih =>
    intro out h
    cases hm : okM m with
    | false => rw [exE_form _ _ _ hm] at h; exact absurd h (by decide)
    | true =>
      by_cases hd : (out.length : Int) < m.ds
      · rw [exE_dist _ _ _ hm hd] at h; exact absurd h (by decide)
      · by_cases hl : 512 < out.length + szM m
        · rw [exE_large _ _ _ hm hd hl] at h; exact absurd h (by decide)
        · rw [exE_step _ _ _ hm hd hl] at h
          have hi := ih _ h
          rw [exT, List.length_cons]
          obtain ⟨more, hmore⟩ := exT_pre t (addM out m)
          have hal := addM_len out m
          rw [hal] at hi
          refine way_cons ?_ (by rw [hmore, List.length_append, hal]; omega) hi
          rcases okM_of hm with ⟨h1, h2⟩ | ⟨h1, h2, h3, h4⟩
          · left; unfold szM; rw [if_pos h1]
          · right
            have hsz : szM m = m.ln.toNat := by unfold szM; rw [if_neg (by omega)]
            refine ⟨by omega, by omega, out.length - m.ds.toNat, by omega, fun j hj => ?_⟩
            have had : addM out m = cpy m.ds.toNat m.ln.toNat out := by unfold addM; rw [if_neg (by omega)]
            have hg := cpy_get m.ds.toNat (by omega) m.ln.toNat out out.length (by omega) (by omega) rfl j (by omega)
            rw [hmore, getD_pre _ _ _ (by omega), getD_pre _ _ _ (by omega), had, hg, show out.length + j - m.ds.toNat = out.length - m.ds.toNat + j by omega]
end Go.Proofs.Ytpkidjledgcemac
