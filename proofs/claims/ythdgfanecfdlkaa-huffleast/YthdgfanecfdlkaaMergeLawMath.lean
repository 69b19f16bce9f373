/- Plain facts for the laws HuffMerges and HuffLeast. No Go in sight. -/
import Derived.Test.YthdgfanecfdlkaaComesMath
import Derived.Test.YthdgfanecfdlkaaHuffMerge
namespace Go.Proofs.Ythdgfanecfdlkaa

theorem three_low {P : List (Nat × Nat)} (hl : P.length = 3) (ok : OkP 15 P) : ∃ p q r, P = [p, q, r] ∧ 3 ≤ p.2 + q.2 ∧ 3 ≤ p.2 + r.2 ∧ 3 ≤ q.2 + r.2 := by
  match P, hl with
  | [p, q, r], _ =>
    have a := ok.lo p (by simp)
    have b := ok.lo q (by simp)
    have c := ok.lo r (by simp)
    have hk : 2 ^ (15 - p.2) + (2 ^ (15 - q.2) + (2 ^ (15 - r.2) + 0)) ≤ 32768 := ok.room
    have pa := Nat.two_pow_pos (15 - p.2)
    have pb := Nat.two_pow_pos (15 - q.2)
    have pc := Nat.two_pow_pos (15 - r.2)
    refine ⟨p, q, r, rfl, ?_, ?_, ?_⟩
    · refine Classical.byContradiction fun h => ?_
      have e1 : p.2 = 1 := by omega
      have e2 : q.2 = 1 := by omega
      rw [e1, e2] at hk
      omega
    · refine Classical.byContradiction fun h => ?_
      have e1 : p.2 = 1 := by omega
      have e2 : r.2 = 1 := by omega
      rw [e1, e2] at hk
      omega
    · refine Classical.byContradiction fun h => ?_
      have e1 : q.2 = 1 := by omega
      have e2 : r.2 = 1 := by omega
      rw [e1, e2] at hk
      omega
theorem opt_555 : Opt [5, 5, 5] 15 25 := by
  refine ⟨⟨[(5, 1), (5, 2), (5, 2)], List.Perm.refl _, ⟨fun p hp => by simp at hp; rcases hp with rfl | rfl <;> decide, fun p hp => by simp at hp; rcases hp with rfl | rfl <;> decide, by decide⟩, rfl⟩, fun P hp ok => ?_⟩
  obtain ⟨p, q, r, rfl, h1, h2, h3⟩ := three_low (by simpa using hp.length_eq) ok
  have e1 : p.1 = 5 := by simpa using (hp.mem_iff (a := p.1)).1 (by simp)
  have e2 : q.1 = 5 := by simpa using (hp.mem_iff (a := q.1)).1 (by simp)
  have e3 : r.1 = 5 := by simpa using (hp.mem_iff (a := r.1)).1 (by simp)
  show 25 ≤ p.1 * p.2 + (q.1 * q.2 + (r.1 * r.2 + 0))
  rw [e1, e2, e3]; omega
theorem opt_112 : Opt [1, 1, 2] 15 6 := by
  refine ⟨⟨[(1, 2), (1, 2), (2, 1)], List.Perm.refl _, ⟨fun p hp => by simp at hp; rcases hp with rfl | rfl <;> decide, fun p hp => by simp at hp; rcases hp with rfl | rfl <;> decide, by decide⟩, rfl⟩, fun P hp ok => ?_⟩
  obtain ⟨p, q, r, rfl, h1, h2, h3⟩ := three_low (by simpa using hp.length_eq) ok
  have e1 : p.1 = 1 ∨ p.1 = 2 := by simpa using (hp.mem_iff (a := p.1)).1 (by simp)
  have e2 : q.1 = 1 ∨ q.1 = 2 := by simpa using (hp.mem_iff (a := q.1)).1 (by simp)
  have e3 : r.1 = 1 ∨ r.1 = 2 := by simpa using (hp.mem_iff (a := r.1)).1 (by simp)
  have e4 : p.1 + (q.1 + (r.1 + 0)) = 1 + (1 + (2 + 0)) := sm_perm (fun f => f) hp
  show 6 ≤ p.1 * p.2 + (q.1 * q.2 + (r.1 * r.2 + 0))
  rcases e1 with e1 | e1 <;> rcases e2 with e2 | e2 <;> rcases e3 with e3 | e3 <;> rw [e1, e2, e3] at e4 ⊢ <;> omega
theorem split_two (L : List Nat) (c : Nat) (hc : L.length = c + 2) : ∃ ws y x, L = ws ++ [y, x] ∧ ws.length = c := by
  refine ⟨L.take c, L[c]'(by omega), L[c + 1]'(by omega), ?_, by simp; omega⟩
  have h1 := List.take_append_drop c L
  rw [List.drop_eq_getElem_cons (by omega), List.drop_eq_getElem_cons (by omega), List.drop_of_length_le (by omega)] at h1
  exact h1.symm
theorem ws_all (l : List Nat) (h : ∀ v ∈ l, 0 < v) : wsL (fun i => (l.getD i 0 : Int)) l.length = l := by
  unfold wsL cmL
  rw [List.filter_eq_self.2]
  · apply List.ext_getElem
    · simp
    · intro i h1 h2
      simp [List.getD_eq_getElem?_getD, h2]
  · intro i hi
    rw [List.mem_range] at hi
    refine decide_eq_true ?_
    have := h (l[i]) (List.getElem_mem hi)
    show (0 : Int) < ((l.getD i 0 : Nat) : Int)
    rw [List.getD_eq_getElem?_getD, List.getElem?_eq_getElem hi, Option.getD_some]
    omega
/-- what the law asks: the two rarest made one -/
theorem merged {F : Nat → Int} {len : Nat} {ws : List Nat} {y x n n2 : Nat} (hF : ∀ i, i < len → 0 ≤ F i ∧ F i ≤ 1048576) (hL : comL F len = ws ++ [y, x]) (h1 : 1 ≤ ws.length) (h14 : ws.length ≤ 14)
    (ho : Opt (wsL F len) 15 n) (ho2 : Opt (ws ++ [x + y]) 15 n2) : n = n2 + x + y := by
  have hd := com_down F len
  have hp := com_perm F len (fun i hi => (hF i hi).1)
  have hx := com_pos F len hF
  rw [hL] at hd hp hx
  have hy : ∀ v ∈ ws, y ≤ v := fun v hv => (List.pairwise_append.1 hd).2.2 v hv y (by simp)
  have hxy : x ≤ y := by
    have := (List.pairwise_append.1 hd).2.1
    rw [List.pairwise_cons] at this
    exact this.1 x (by simp)
  refine opt_merge x y ws n n2 hy hxy (hx x (by simp)).1 h1 h14 (ho.perm (hp.symm.trans ?_)) (ho2.perm ?_)
  · exact List.perm_append_comm.trans (List.Perm.swap x y ws)
  · exact List.perm_append_comm
theorem getD_lo (a b : List Nat) (i : Nat) (h : i < a.length) : (a ++ b).getD i 0 = a.getD i 0 := by
  rw [List.getD_eq_getElem?_getD, List.getD_eq_getElem?_getD, List.getElem?_append_left h]
theorem getD_hi (a b : List Nat) (j : Nat) : (a ++ b).getD (a.length + j) 0 = b.getD j 0 := by
  rw [List.getD_eq_getElem?_getD, List.getD_eq_getElem?_getD, List.getElem?_append_right (by omega), Nat.add_sub_cancel_left]
end Go.Proofs.Ythdgfanecfdlkaa
