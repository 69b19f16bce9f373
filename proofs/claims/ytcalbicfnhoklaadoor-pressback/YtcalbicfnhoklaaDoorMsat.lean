/- Texts of ours, one behind the other: LensOkMath LnFacts -/
import Derived.Test.YtcalbicfnhoklaaDoorMsah
import Derived.Test.YtcalbicfnhoklaaDoorComingWalks
import Derived.Test.YtcalbicfnhoklaaDoorMsad

/- Plain facts: what huff.Lens owes. No Go in sight. -/
namespace Go.Proofs.YtcalbicfnhoklaaDoor

/-- what Lens refuses -/
def lensE (F : Nat → Int) (len : Nat) (most : Int) : Int :=
  if freqE F len ≠ 0 then freqE F len else if most < 1 ∨ 15 < most then 1 else if 2 ^ most.toNat < (cmL F len).length then 6 else 0
/-- what it answers -/
structure LnOk (F : Nat → Int) (len m : Nat) (T : Nat → Nat) : Prop where
  out : ∀ i, i < len → F i ≤ 0 → T i = 0
  best : BestP m ((cmL F len).map fun i => ((F i).toNat, T i))
theorem cmL_nodup (F : Nat → Int) (k : Nat) : (cmL F k).Nodup := List.nodup_range.filter _
theorem cmL_has (F : Nat → Int) (k i : Nat) (hi : i < k) (h : 0 < F i) : i ∈ cmL F k := List.mem_filter.2 ⟨List.mem_range.2 hi, decide_eq_true h⟩
theorem getD_list (l : List Nat) : (List.range l.length).map (fun i => l.getD i 0) = l := by
  apply List.ext_getElem
  · simp
  · intro i h1 h2
    simp [List.getD_eq_getElem?_getD, h2]
theorem ids_perm {l : List Nat} {s : Nat → Nat} (h : PermF 0 l.length (fun i => l.getD i 0) s) : ((List.range l.length).map s).Perm l := by
  have := h.list
  rwa [getD_list] at this
theorem ids_up {F : Nat → Int} {s : Nat → Nat} {n : Nat} (h : SortF F s 0 n) : ((List.range n).map fun j => (F (s j)).toNat).Pairwise (· ≤ ·) := by
  rw [List.pairwise_iff_getElem]
  intro i j hi hj hij
  simp only [List.getElem_map, List.getElem_range]
  simp only [List.length_map, List.length_range] at hj
  have := h i j (Nat.zero_le _) (by omega) hj
  omega
theorem ln_none {F : Nat → Int} {len m : Nat} (h : (cmL F len).length = 0) : LnOk F len m (fun _ => 0) := by
  refine ⟨fun _ _ _ => rfl, ?_⟩
  rw [List.eq_nil_of_length_eq_zero h]
  exact ⟨⟨fun p hp => by simp at hp, fun p hp => by simp at hp, by simp [krf, sm]⟩, fun Q hQ _ => by simp [costP, sm]⟩
theorem ln_one {F : Nat → Int} {len m i : Nat} (hm : 1 ≤ m) (h : cmL F len = [i]) : LnOk F len m (fun x => if x = i then 1 else 0) := by
  have hi := cmL_mem F len i (by rw [h]; simp)
  refine ⟨fun x _ h0 => if_neg (by intro e; rw [e] at h0; omega), ?_⟩
  rw [h]
  refine ⟨⟨fun p hp => by simp at hp; rw [hp]; exact Nat.le_refl _, fun p hp => by simp at hp; rw [hp]; exact hm, by simp [krf, sm]⟩, fun Q hQ ho => ?_⟩
  have hl := hQ.length_eq
  simp only [List.length_map, List.map_cons, List.map_nil, List.length_cons, List.length_nil] at hl
  match Q, hl with
  | [q], _ =>
    have h1 : q.1 = (F i).toNat := by simpa using (hQ.mem_iff (a := q.1)).1 (by simp)
    have h2 := ho.lo q (by simp)
    simp only [costP, sm, List.map_cons, List.map_nil, if_pos]
    rw [h1]
    have := Nat.le_mul_of_pos_right (F i).toNat h2
    omega
theorem ln_many {F : Nat → Int} {len m : Nat} {s : Nat → Nat} {L : Nat → List (Nat × Bool)} (hm0 : 1 ≤ m) (hm : m ≤ 15) (h2 : 2 ≤ (cmL F len).length) (hroom : (cmL F len).length ≤ 2 ^ m)
    (hp : PermF 0 (cmL F len).length (fun i => (cmL F len).getD i 0) s) (hs : SortF F s 0 (cmL F len).length) (h0 : L 0 = []) (hL : ∀ d, d < m → LvC ((List.range (cmL F len).length).map fun j => (F (s j)).toNat) (L d) (L (d + 1))) :
    2 * (cmL F len).length - 2 ≤ (L m).length ∧ LnOk F len m (fun x => spC L ((List.range (cmL F len).length).map s) m (2 * (cmL F len).length - 2) x) := by
  have hper := ids_perm hp
  have hup := ids_up hs
  generalize hids : (List.range (cmL F len).length).map s = ids at hper ⊢
  have hlen : ids.length = (cmL F len).length := hper.length_eq
  have hS : (List.range (cmL F len).length).map (fun j => (F (s j)).toNat) = ids.map fun i => (F i).toNat := by rw [← hids, List.map_map]; rfl
  rw [hS] at hL hup
  rw [← hlen] at h2 hroom ⊢
  have hn : ids.Nodup := (List.Perm.nodup_iff hper).2 (cmL_nodup F len)
  have hw : ∀ i ∈ ids, 0 < (F i).toNat := fun i hi => by
    have := (cmL_mem F len i (hper.mem_iff.1 hi)).2
    omega
  refine ⟨spent_room h0 hL hup hm0 hm hroom, fun i hi h0' => spC_out (fun h => ?_) _ _, ?_⟩
  · have := (cmL_mem F len i (hper.mem_iff.1 h)).2
    omega
  · exact (spent_best h0 hL hup hn hw hm0 hm h2 hroom).perm (hper.map _)
end Go.Proofs.YtcalbicfnhoklaaDoor

/- Plain facts of lengths of the least cost: no Go in sight. -/
namespace Go.Proofs.YtcalbicfnhoklaaDoor

/-- how often the signs that come do so -/
def wsL (F : Nat → Int) (k : Nat) : List Nat := (cmL F k).map fun i => (F i).toNat
theorem lensE_zero {F : Nat → Int} {len : Nat} {most : Int} (h : lensE F len most = 0) : freqE F len = 0 ∧ 1 ≤ most ∧ most ≤ 15 ∧ (cmL F len).length ≤ 2 ^ most.toNat := by
  unfold lensE at h
  by_cases h1 : freqE F len = 0
  · rw [if_neg (by simp [h1])] at h
    by_cases h2 : most < 1 ∨ 15 < most
    · rw [if_pos h2] at h; omega
    · rw [if_neg h2] at h
      by_cases h3 : 2 ^ most.toNat < (cmL F len).length
      · rw [if_pos h3] at h; omega
      · exact ⟨h1, by omega, by omega, by omega⟩
  · rw [if_pos h1] at h; exact absurd h h1
theorem lensE_is (F : Nat → Int) (len : Nat) (most : Int) : 0 ≤ lensE F len most ∧ lensE F len most ≤ 6 := by
  have h1 := freqE_is F len
  unfold lensE
  split
  · omega
  · split
    · omega
    · split <;> omega
theorem LnOk.lo {F : Nat → Int} {len m : Nat} {T : Nat → Nat} (h : LnOk F len m T) (i : Nat) (hi : i < len) (hp : 0 < F i) : 1 ≤ T i ∧ T i ≤ m := by
  have hm : ((F i).toNat, T i) ∈ (cmL F len).map fun i => ((F i).toNat, T i) := List.mem_map.2 ⟨i, cmL_has F len i hi hp, rfl⟩
  exact ⟨h.best.1.lo _ hm, h.best.1.hi _ hm⟩
theorem LnOk.le {F : Nat → Int} {len m : Nat} {T : Nat → Nat} (h : LnOk F len m T) (hm : m ≤ 15) (i : Nat) (hi : i < len) : T i ≤ 15 := by
  by_cases hp : 0 < F i
  · have := h.lo i hi hp; omega
  · rw [h.out i hi (by omega)]; omega
theorem LnOk.order {F : Nat → Int} {len m : Nat} {T : Nat → Nat} (h : LnOk F len m T) (i k : Nat) (hi : i < len) (hk : k < len) (hp : 0 < F k) (hf : F k < F i) : T i ≤ T k := by
  have h1 : ((F i).toNat, T i) ∈ (cmL F len).map fun i => ((F i).toNat, T i) := List.mem_map.2 ⟨i, cmL_has F len i hi (by omega), rfl⟩
  have h2 : ((F k).toNat, T k) ∈ (cmL F len).map fun i => ((F i).toNat, T i) := List.mem_map.2 ⟨k, cmL_has F len k hk hp, rfl⟩
  exact best_orders h.best _ _ h1 h2 (by show (F k).toNat < (F i).toNat; omega)
theorem cost_map {F : Nat → Int} {T : Nat → Nat} (k : Nat) (h : ∀ i, i < k → F i ≤ 0 → T i = 0) : costN F (fun i => (T i : Int)) k = costP ((cmL F k).map fun i => ((F i).toNat, T i)) := by
  induction k with
  | zero => rfl
  | succ k ih =>
    have e : costN F (fun i => (T i : Int)) (k + 1) = costN F (fun i => (T i : Int)) k + (F k).toNat * ((T k : Nat) : Int).toNat := rfl
    rw [e, ih (fun i hi => h i (by omega)), Int.toNat_natCast]
    by_cases hp : 0 < F k
    · rw [cmL_yes F k hp, List.map_append]
      unfold costP
      rw [sm_append]; rfl
    · rw [cmL_no F k hp, h k (by omega) (by omega)]; rfl
theorem fill_map {F : Nat → Int} {T : Nat → Nat} (k : Nat) (h : ∀ i, i < k → F i ≤ 0 → T i = 0) (h1 : ∀ i, i < k → 0 < F i → 1 ≤ T i) : fillN (fun i => (T i : Int)) k = krf ((cmL F k).map fun i => ((F i).toNat, T i)) := by
  induction k with
  | zero => rfl
  | succ k ih =>
    rw [fillN_succ, ih (fun i hi => h i (by omega)) (fun i hi => h1 i (by omega))]
    by_cases hp : 0 < F k
    · have := h1 k (by omega) hp
      rw [cmL_yes F k hp, List.map_append]
      unfold krf
      rw [sm_append, tk_pos _ (by omega), Int.toNat_natCast]; rfl
    · rw [cmL_no F k hp, h k (by omega) (by omega)]
      show _ + tk 0 = _
      rw [tk_zero, Nat.add_zero]
theorem LnOk.opt {F : Nat → Int} {len m : Nat} {T : Nat → Nat} (h : LnOk F len m T) : Opt (wsL F len) m (costN F (fun i => (T i : Int)) len) := by
  rw [cost_map len h.out]
  have := h.best.opt
  rw [List.map_map] at this
  exact this
theorem LnOk.lens {F : Nat → Int} {len m : Nat} {T : Nat → Nat} (h : LnOk F len m T) (hm : m ≤ 15) (hl : len ≤ 320) : fillE (fun i => (T i : Int)) len = 0 ∧ fillA (fun i => (T i : Int)) len ≤ 32768 := by
  have hb : allB (fun i => (T i : Int)) len = true := all_mk fun i hi => decide_eq_true (by have := h.le hm i hi; omega)
  obtain ⟨e1, e2⟩ := fill_ok (fun i => (T i : Int)) len (by omega) hb
  refine ⟨e1, ?_⟩
  rw [e2, fill_map len h.out (fun i hi hp => (h.lo i hi hp).1)]
  exact h.best.1.room
theorem LnOk.cost {F : Nat → Int} {len : Nat} {most : Int} {T : Nat → Nat} (h : LnOk F len most.toNat T) (h0 : lensE F len most = 0) :
    costE F len (fun i => (T i : Int)) len = 0 ∧ costA F len (fun i => (T i : Int)) len = costN F (fun i => (T i : Int)) len ∧ costN F (fun i => (T i : Int)) len ≤ 5033164800 := by
  obtain ⟨h1, h2, h3, _⟩ := lensE_zero h0
  obtain ⟨h4, h5⟩ := freqE_zero h1
  have h6 := (h.lens (by omega) h4).1
  obtain ⟨e1, e2⟩ := cost_ok h1 h6
  refine ⟨e1, e2, ?_⟩
  have := costN_le F (fun i => (T i : Int)) len h5 (fillE_all h6).2
  omega
end Go.Proofs.YtcalbicfnhoklaaDoor
