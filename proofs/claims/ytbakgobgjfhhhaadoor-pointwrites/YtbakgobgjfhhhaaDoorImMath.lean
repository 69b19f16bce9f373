/- Maps of inodes, as lists. No Go in sight. -/
import Derived.Test.YtbakgobgjfhhhaaDoorPlMath
namespace Go.Proofs.YtbakgobgjfhhhaaDoor

/-- a generation that may be -/
def gnB (g : Int) : Bool := decide (0 ≤ g ∧ g ≤ 2147483647)
theorem gnB_is {g : Int} (h : gnB g = true) : 0 ≤ g ∧ g ≤ 2147483647 := of_decide_eq_true h
theorem gnB_lo {g : Int} (h : g < 0) : gnB g = false := decide_eq_false (by omega)
theorem gnB_hi {g : Int} (h : 2147483647 < g) : gnB g = false := decide_eq_false (by omega)
theorem gnB_in {g : Int} (h : ¬ g < 0) (h2 : ¬ 2147483647 < g) : gnB g = true := decide_eq_true (by omega)
/-- is each pair right? -/
def rowM : List Pla → List Int → Bool
  | p :: ps, g :: gs => rtB p && gnB g && rowM ps gs
  | _, _ => true
theorem rowM_nil (G : List Int) : rowM [] G = true := by simp [rowM]
theorem rowM_cons (p : Pla) (ps : List Pla) (g : Int) (gs : List Int) : rowM (p :: ps) (g :: gs) = (rtB p && gnB g && rowM ps gs) := by simp [rowM]
theorem drop_atM {α : Type} (l : List α) (k : Nat) (d : α) (h : k < l.length) : l.drop k = l.getD k d :: l.drop (k + 1) := by
  rw [List.drop_eq_getElem_cons h, List.getD_eq_getElem?_getD, List.getElem?_eq_getElem h]; rfl
theorem rowM_drop {P : List Pla} {G : List Int} {k : Nat} (h1 : k < P.length) (h2 : k < G.length) : rowM (P.drop k) (G.drop k) = (rtB (P.getD k noPl) && gnB (G.getD k 0) && rowM (P.drop (k + 1)) (G.drop (k + 1))) := by
  rw [drop_atM P k noPl h1, drop_atM G k 0 h2, rowM_cons]
theorem rowM_all : ∀ {P : List Pla} {G : List Int}, P.length = G.length → (rowM P G = true ↔ ∀ k, k < P.length → rtB (P.getD k noPl) = true ∧ gnB (G.getD k 0) = true) := by
  intro P
  induction P with
  | nil => intro G h; exact ⟨fun _ k hk => by simp at hk, fun _ => rowM_nil G⟩
  | cons p ps ih =>
    intro G h
    match G, h with
    | g :: gs, h =>
      rw [rowM_cons]
      have hi := ih (G := gs) (by simpa using h)
      constructor
      · intro hh k hk
        simp only [Bool.and_eq_true] at hh
        cases k with
        | zero => exact ⟨hh.1.1, hh.1.2⟩
        | succ k => exact hi.1 hh.2 k (by simpa using hk)
      · intro hh
        simp only [Bool.and_eq_true]
        have h0 := hh 0 (by simp)
        exact ⟨⟨h0.1, h0.2⟩, hi.2 fun k hk => hh (k + 1) (by simpa using hk)⟩
/-- what Check answers -/
def chkM (P : List Pla) (G : List Int) : Int := if P.length = 48 ∧ G.length = 48 then (if rowM P G then 0 else 4) else 4
theorem chkM_len {P : List Pla} {G : List Int} (h : ¬ (P.length = 48 ∧ G.length = 48)) : chkM P G = 4 := if_neg h
theorem chkM_row {P : List Pla} {G : List Int} (h1 : P.length = 48) (h2 : G.length = 48) : chkM P G = if rowM P G then 0 else 4 := if_pos ⟨h1, h2⟩
structure OkM (P : List Pla) (G : List Int) : Prop where
  p : P.length = 48
  g : G.length = 48
  r : ∀ k, k < 48 → rtB (P.getD k noPl) = true
  n : ∀ k, k < 48 → 0 ≤ G.getD k 0 ∧ G.getD k 0 ≤ 2147483647
theorem chkM_ok {P : List Pla} {G : List Int} (h : chkM P G = 0) : OkM P G := by
  unfold chkM at h
  split at h
  · next hh =>
    split at h
    · next hr =>
      have := (rowM_all (by rw [hh.1, hh.2])).1 hr
      exact ⟨hh.1, hh.2, fun k hk => (this k (by rw [hh.1]; exact hk)).1, fun k hk => gnB_is (this k (by rw [hh.1]; exact hk)).2⟩
    · simp at h
  · simp at h
theorem chkM_yes {P : List Pla} {G : List Int} (h : OkM P G) : chkM P G = 0 := by
  rw [chkM_row h.p h.g, if_pos]
  exact (rowM_all (by rw [h.p, h.g])).2 fun k hk => ⟨h.r k (by rw [h.p] at hk; exact hk), decide_eq_true (h.n k (by rw [h.p] at hk; exact hk))⟩
theorem chkM_cases (P : List Pla) (G : List Int) : chkM P G = 0 ∨ chkM P G = 4 := by
  unfold chkM
  split
  · split <;> simp
  · simp
/-- the fresh one -/
def frA : List Pla := List.replicate 48 noPl
def frG : List Int := List.replicate 48 0
theorem getD_rep {α : Type} (n : Nat) (x d : α) (k : Nat) (h : k < n) : (List.replicate n x).getD k d = x := by
  rw [List.getD_eq_getElem?_getD, List.getElem?_replicate, if_pos h]; rfl
theorem fresh_ok : OkM frA frG := by
  refine ⟨List.length_replicate .., List.length_replicate .., fun k hk => ?_, fun k hk => ?_⟩
  · rw [frA, getD_rep 48 _ _ k hk]; decide
  · rw [frG, getD_rep 48 _ _ k hk]; decide
end Go.Proofs.YtbakgobgjfhhhaaDoor
