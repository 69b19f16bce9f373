/- Plain facts: the packets' way gives a code of the least cost. No Go in sight. -/
import Derived.Test.YthdgfanecfdlkaaHuffMade
namespace Go.Proofs.Ythdgfanecfdlkaa

theorem coins_fst (wt : Nat → Nat) (ids : List Nat) : (coins wt ids).map Prod.fst = ids.map wt := by simp [coins, List.map_map, Function.comp_def]
/-- lengths by packets -/
def lensP (wt : Nat → Nat) (ids : List Nat) (T : List (Nat × List Nat)) : List (Nat × Nat) := ids.map fun i => (wt i, (flatP T).count i)
theorem lensP_fst (wt : Nat → Nat) (ids : List Nat) (T : List (Nat × List Nat)) : (lensP wt ids T).map Prod.fst = ids.map wt := by simp [lensP, List.map_map, Function.comp_def]
theorem sum_counts (wt : Nat → Nat) (ids : List Nat) (hn : ids.Nodup) (l : List Nat) (h : ∀ i ∈ l, i ∈ ids) : sm (fun i => wt i * l.count i) ids = sm wt l := by
  induction l with
  | nil => rw [sm_const (fun i => wt i * List.count i []) 0 ids (fun i _ => by simp)]; simp [sm]
  | cons j l ih =>
    have i1 := ih fun i hi => h i (by simp [hi])
    have : ∀ m : List Nat, sm (fun i => wt i * (j :: l).count i) m = sm (fun i => wt i * l.count i) m + wt j * m.count j := by
      intro m
      induction m with
      | nil => rfl
      | cons k m ihm =>
        rw [sm, sm, ihm]
        by_cases e : k = j
        · rw [e, List.count_cons_self, List.count_cons_self, Nat.mul_add, Nat.mul_add]; omega
        · rw [List.count_cons_of_ne (fun h => e h.symm), List.count_cons_of_ne e]; omega
    rw [this ids, i1, count_once hn (h j (by simp)), sm]
    omega
theorem sum_flat (wt : Nat → Nat) (ids : List Nat) (T : List (Nat × List Nat)) (h : ∀ q ∈ T, Inv wt ids q) : sm wt (flatP T) = sm Prod.fst T := by
  induction T with
  | nil => rfl
  | cons q T ih =>
    have h1 := ih fun x hx => h x (by simp [hx])
    have h2 := (h q (by simp)).sum
    simp only [flatP, List.flatMap_cons, sm_append, sm] at h1 ⊢
    omega
/-- the packets' way gives a code of the least cost -/
theorem packets_best (wt : Nat → Nat) (ids : List Nat) (hn : ids.Nodup) (hw : ∀ i ∈ ids, 0 < wt i) (m : Nat) (hm0 : 1 ≤ m) (hm : m ≤ 15) (h2 : 2 ≤ ids.length) (hroom : ids.length ≤ 2 ^ m)
    (Q : List (Nat × List Nat)) (hQ : LvP (coins wt ids) m Q) : BestP m (lensP wt ids (Q.take (2 * ids.length - 2))) := by
  have hlv := hQ.lv
  rw [coins_fst] at hlv
  have hflat := packets_le (ids.map wt) (Q.map Prod.fst) m hm0 hm hlv ((ids.map wt).map fun f => (f, m)) (by simp [List.map_map, Function.comp_def]) (flat_ok _ m m hm0 (Nat.le_refl _) hm (by rw [List.length_map]; exact hroom))
  rw [List.length_map, List.length_map] at hflat
  have hQl := hflat.1
  generalize hT : Q.take (2 * ids.length - 2) = T
  have hTl : T.length = 2 * ids.length - 2 := by rw [← hT, List.length_take]; omega
  have hinv := inv_lv wt ids hw hQ
  have hTQ : ∀ t ∈ T, t ∈ Q := fun t ht => by rw [← hT] at ht; exact List.mem_of_mem_take ht
  have hdown : ∀ t ∈ T, ∀ r ∈ Q.drop (2 * ids.length - 2), t.1 ≤ r.1 := by
    have hs := hQ.sorted
    rw [← List.take_append_drop (2 * ids.length - 2) Q] at hs
    rw [← hT]
    exact (List.pairwise_append.1 hs).2.2
  obtain ⟨c1, c2⟩ := made wt ids hn hw hQ T (Q.drop (2 * ids.length - 2)) (by rw [← hT, List.take_append_drop]) hdown
  have hk : sm (fun i => 2 ^ (m - (flatP T).count i)) ids = 2 ^ m := by
    rw [hTl] at c2
    obtain ⟨n, e⟩ : ∃ n, ids.length = n + 1 := ⟨ids.length - 1, by omega⟩
    rw [e, show 2 * (n + 1) - 2 = 2 * n by omega, Nat.mul_add, Nat.add_mul] at c2
    omega
  have hge : ∀ i ∈ ids, 1 ≤ (flatP T).count i := by
    intro i hi
    refine Nat.le_of_not_lt fun h0 => ?_
    have e0 : (flatP T).count i = 0 := by omega
    have hE := List.perm_cons_erase hi
    rw [sm_perm _ hE, sm, e0, Nat.sub_zero] at hk
    have hne : ids.erase i ≠ [] := by
      intro e
      have := hE.length_eq
      rw [e] at this
      simp at this
      omega
    obtain ⟨y, hy⟩ := List.exists_mem_of_ne_nil _ hne
    have h1 := sm_mem (fun i => 2 ^ (m - (flatP T).count i)) _ y hy
    have h3 : 0 < 2 ^ (m - (flatP T).count y) := Nat.two_pow_pos _
    omega
  have hok : OkP m (lensP wt ids T) := by
    refine ⟨fun p hp => ?_, fun p hp => ?_, ?_⟩
    · obtain ⟨i, hi, rfl⟩ := List.mem_map.1 hp; exact hge i hi
    · obtain ⟨i, hi, rfl⟩ := List.mem_map.1 hp; exact c1 i hi
    · unfold krf lensP
      rw [sm_map]
      have hs : ∀ l : List Nat, (∀ i ∈ l, (flatP T).count i ≤ m) → sm (fun i => 2 ^ (15 - (flatP T).count i)) l = 2 ^ (15 - m) * sm (fun i => 2 ^ (m - (flatP T).count i)) l := by
        intro l
        induction l with
        | nil => intro _; rfl
        | cons i l ih =>
          intro hl
          have h1 := ih fun j hj => hl j (by simp [hj])
          have h3 := hl i (by simp)
          rw [sm, sm, h1, Nat.mul_add, ← Nat.pow_add, show 15 - m + (m - (flatP T).count i) = 15 - (flatP T).count i by omega]
      have h4 := hs ids c1
      rw [hk, ← Nat.pow_add, show 15 - m + m = 15 by omega] at h4
      show sm (fun i => 2 ^ (15 - (flatP T).count i)) ids ≤ 32768
      omega
  have hcost : costP (lensP wt ids T) = fstS (Q.map Prod.fst) (2 * ids.length - 2) := by
    unfold costP lensP
    rw [sm_map]
    have hsub : ∀ i ∈ flatP T, i ∈ ids := fun i hi => by
      obtain ⟨q, hq, hiq⟩ := List.mem_flatMap.1 hi
      exact (hinv q (hTQ q hq)).sub i hiq
    have h1 := sum_counts wt ids hn (flatP T) hsub
    have h3 := sum_flat wt ids T (fun q hq => hinv q (hTQ q hq))
    unfold fstS
    rw [← List.map_take, sm_map, hT]
    show sm (fun i => wt i * (flatP T).count i) ids = _
    rw [h1, h3]
  refine ⟨hok, fun R hR ho => ?_⟩
  rw [lensP_fst] at hR
  rw [hcost]
  have := (packets_le (ids.map wt) (Q.map Prod.fst) m hm0 hm hlv R hR ho).2
  rwa [List.length_map] at this
end Go.Proofs.Ythdgfanecfdlkaa
