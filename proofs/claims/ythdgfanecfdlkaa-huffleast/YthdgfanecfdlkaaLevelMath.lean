/- Plain facts: a row of coins that was sorted is a level. No Go in sight. -/
import Derived.Test.YthdgfanecfdlkaaCoinRow
import Derived.Test.YthdgfanecfdlkaaSortMath
namespace Go.Proofs.Ythdgfanecfdlkaa

theorem range_perm (N : Nat) (s t : Nat → Nat) (h1 : ∀ x, t (s x) = x) (h2 : ∀ x, s (t x) = x) (h3 : ∀ x, x < 0 ∨ N ≤ x → s x = x) : ((List.range N).map s).Perm (List.range N) := by
  have lt : ∀ x, x < N → s x < N := fun x hx => Nat.lt_of_not_le fun hl => by
    have h := h3 (s x) (.inr hl)
    have h4 := congrArg t h
    rw [h1, h1] at h4
    omega
  have lt' : ∀ x, x < N → t x < N := fun x hx => Nat.lt_of_not_le fun hl => by
    have h := h3 (t x) (.inr hl)
    rw [h2] at h
    omega
  have nd : ((List.range N).map s).Nodup := List.pairwise_map.2 ((List.nodup_range (n := N)).imp fun {a b} hab he => hab (by rw [← h1 a, he, h1]))
  rw [List.perm_iff_count]
  intro a
  by_cases ha : a < N
  · rw [count_once nd (List.mem_map.2 ⟨t a, List.mem_range.2 (lt' a ha), h2 a⟩), count_once List.nodup_range (List.mem_range.2 ha)]
  · rw [List.count_eq_zero_of_not_mem (by
      intro h
      obtain ⟨x, hx, he⟩ := List.mem_map.1 h
      have := lt x (List.mem_range.1 hx)
      omega), List.count_eq_zero_of_not_mem (by rw [List.mem_range]; exact ha)]
theorem PermF.list {α : Type} {N : Nat} {f g : Nat → α} (h : PermF 0 N f g) : ((List.range N).map g).Perm ((List.range N).map f) := by
  obtain ⟨s, t, k1, k2, k3, k4⟩ := h
  have e : g = fun x => f (s x) := funext k4
  have h := (range_perm N s t k1 k2 k3).map f
  rw [List.map_map] at h
  rw [e]; exact h
/-- a row of coins as a list -/
def lsC (s : Nat → Int × Bool) (N : Nat) : List (Nat × Bool) := (List.range N).map fun i => ((s i).1.toNat, (s i).2)
theorem lsC_length (s : Nat → Int × Bool) (N : Nat) : (lsC s N).length = N := by simp [lsC]
theorem lsC_at (s : Nat → Int × Bool) (N i : Nat) (h : i < (lsC s N).length) : (lsC s N)[i] = ((s i).1.toNat, (s i).2) := by simp [lsC]
theorem lsC_row (l : List (Nat × Bool)) : lsC (rowC l) l.length = l := by
  apply List.ext_getElem
  · rw [lsC_length]
  · intro i h1 h2
    rw [lsC_at, rowC_at l i h2]; simp
theorem lsC_perm {l : List (Nat × Bool)} {s : Nat → Int × Bool} (h : PermF 0 l.length (rowC l) s) : (lsC s l.length).Perm l := by
  have h1 := h.list.map (fun c : Int × Bool => (c.1.toNat, c.2))
  rw [List.map_map, List.map_map] at h1
  have h2 : (lsC s l.length).Perm (lsC (rowC l) l.length) := h1
  rwa [lsC_row] at h2
theorem lsC_is {l : List (Nat × Bool)} {s : Nat → Int × Bool} (h : PermF 0 l.length (rowC l) s) (i : Nat) (hi : i < l.length) : s i = rowC (lsC s l.length) i := by
  rw [rowC_at _ i (by rw [lsC_length]; exact hi), lsC_at]
  obtain ⟨y, _, hy, he⟩ := h.mem i (Nat.zero_le _) hi
  have h0 : 0 ≤ (s i).1 := by rw [he, rowC_at l y hy]; simp
  refine Prod.ext ?_ rfl
  show (s i).1 = ((s i).1.toNat : Int)
  omega
theorem lsC_up {s : Nat → Int × Bool} {N : Nat} (h : SortF Prod.fst s 0 N) : (lsC s N).Pairwise (fun a b => a.1 ≤ b.1) := by
  rw [List.pairwise_iff_getElem]
  intro i j hi hj hij
  rw [lsC_at, lsC_at]
  rw [lsC_length] at hj
  have := h i j (Nat.zero_le _) (by omega) hj
  simp only
  omega
/-- the singles of k signs -/
def sgl (wt : Nat → Nat) (k : Nat) : List (Nat × Bool) := (List.range k).map fun j => (wt j, false)
theorem sgl_snoc (wt : Nat → Nat) (k : Nat) : sgl wt (k + 1) = sgl wt k ++ [(wt k, false)] := by simp [sgl, List.range_succ]
theorem sgl_length (wt : Nat → Nat) (k : Nat) : (sgl wt k).length = k := by simp [sgl]
theorem sgl_is (wt : Nat → Nat) (n : Nat) : sgl wt n = ((List.range n).map wt).map fun c => (c, false) := by simp [sgl]
/-- a level as it is laid, ahead of the sort -/
def lvl (wt : Nat → Nat) (n : Nat) (B : List (Nat × Bool)) : List (Nat × Bool) := ((prs (B.map Prod.fst)).map fun c => (c, true)) ++ sgl wt n
theorem lvl_length (wt : Nat → Nat) (n : Nat) (B : List (Nat × Bool)) : (lvl wt n B).length = B.length / 2 + n := by
  unfold lvl; rw [List.length_append, List.length_map, prs_length, List.length_map, sgl_length]
theorem lvl_lvc (wt : Nat → Nat) (n : Nat) (B : List (Nat × Bool)) {s : Nat → Int × Bool} (hp : PermF 0 (lvl wt n B).length (rowC (lvl wt n B)) s) (hs : SortF Prod.fst s 0 (lvl wt n B).length) : LvC ((List.range n).map wt) B (lsC s (lvl wt n B).length) :=
  ⟨lsC_up hs, by have h := lsC_perm hp; unfold lvl at h ⊢; rwa [sgl_is] at h ⊢⟩
theorem lvl_high (wt : Nat → Nat) (n T : Nat) (B : List (Nat × Bool)) (hB : ∀ c ∈ B, c.1 ≤ T) (hw : ∀ j, j < n → wt j ≤ T) : ∀ c ∈ lvl wt n B, c.1 ≤ 2 * T := by
  intro c hc
  unfold lvl at hc
  rcases List.mem_append.1 hc with h | h
  · obtain ⟨x, hx, rfl⟩ := List.mem_map.1 h
    refine prs_high T _ (fun y hy => ?_) x hx
    obtain ⟨b, hb, rfl⟩ := List.mem_map.1 hy
    exact hB b hb
  · obtain ⟨j, hj, rfl⟩ := List.mem_map.1 h
    have := hw j (List.mem_range.1 hj)
    show wt j ≤ 2 * T
    omega
end Go.Proofs.Ythdgfanecfdlkaa
