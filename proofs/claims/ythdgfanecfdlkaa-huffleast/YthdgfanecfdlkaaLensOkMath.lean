/- Plain facts: what huff.Lens owes. No Go in sight. -/
import Derived.Test.YthdgfanecfdlkaaLevelMath
import Derived.Test.YthdgfanecfdlkaaComingWalks
import Derived.Test.YthdgfanecfdlkaaFreqMath
namespace Go.Proofs.Ythdgfanecfdlkaa

/-- what Lens refuses -/
def lensE (F : Nat → Int) (len : Nat) (most : Int) : Int :=
  if freqE F len ≠ 0 then freqE F len else if most < 1 ∨ 15 < most then 1 else if 2 ^ most.toNat < (cmL F len).length then 6 else 0
/-- what it answers -/
structure LnOk (F : Nat → Int) (len m : Nat) (T : Nat → Nat) : Prop where
  out : ∀ i, i < len → F i ≤ 0 → T i = 0
  best : BestP m ((cmL F len).map fun i => ((F i).toNat, T i))
theorem cmL_nodup (F : Nat → Int) (k : Nat) : (cmL F k).Nodup := List.nodup_range.filter _
theorem cmL_has (F : Nat → Int) (k i : Nat) (hi : i < k) (h : 0 < F i) : i ∈ cmL F k := List.mem_filter.2 ⟨List.mem_range.2 hi, decide_eq_true h⟩
theorem getD_list (l : List Nat) : (List.range l.length).map (fun i => l.getD i 0) = l := by
  apply List.ext_getElem
  · simp
  · intro i h1 h2
    simp [List.getD_eq_getElem?_getD, h2]
theorem ids_perm {l : List Nat} {s : Nat → Nat} (h : PermF 0 l.length (fun i => l.getD i 0) s) : ((List.range l.length).map s).Perm l := by
  have := h.list
  rwa [getD_list] at this
theorem ids_up {F : Nat → Int} {s : Nat → Nat} {n : Nat} (h : SortF F s 0 n) : ((List.range n).map fun j => (F (s j)).toNat).Pairwise (· ≤ ·) := by
  rw [List.pairwise_iff_getElem]
  intro i j hi hj hij
  simp only [List.getElem_map, List.getElem_range]
  simp only [List.length_map, List.length_range] at hj
  have := h i j (Nat.zero_le _) (by omega) hj
  omega
theorem ln_none {F : Nat → Int} {len m : Nat} (h : (cmL F len).length = 0) : LnOk F len m (fun _ => 0) := by
  refine ⟨fun _ _ _ => rfl, ?_⟩
  rw [List.eq_nil_of_length_eq_zero h]
  exact ⟨⟨fun p hp => by simp at hp, fun p hp => by simp at hp, by simp [krf, sm]⟩, fun Q hQ _ => by simp [costP, sm]⟩
theorem ln_one {F : Nat → Int} {len m i : Nat} (hm : 1 ≤ m) (h : cmL F len = [i]) : LnOk F len m (fun x => if x = i then 1 else 0) := by
  have hi := cmL_mem F len i (by rw [h]; simp)
  refine ⟨fun x _ h0 => if_neg (by intro e; rw [e] at h0; omega), ?_⟩
  rw [h]
  refine ⟨⟨fun p hp => by simp at hp; rw [hp]; exact Nat.le_refl _, fun p hp => by simp at hp; rw [hp]; exact hm, by simp [krf, sm]⟩, fun Q hQ ho => ?_⟩
  have hl := hQ.length_eq
  simp only [List.length_map, List.map_cons, List.map_nil, List.length_cons, List.length_nil] at hl
  match Q, hl with
  | [q], _ =>
    have h1 : q.1 = (F i).toNat := by simpa using (hQ.mem_iff (a := q.1)).1 (by simp)
    have h2 := ho.lo q (by simp)
    simp only [costP, sm, List.map_cons, List.map_nil, if_pos]
    rw [h1]
    have := Nat.le_mul_of_pos_right (F i).toNat h2
    omega
theorem ln_many {F : Nat → Int} {len m : Nat} {s : Nat → Nat} {L : Nat → List (Nat × Bool)} (hm0 : 1 ≤ m) (hm : m ≤ 15) (h2 : 2 ≤ (cmL F len).length) (hroom : (cmL F len).length ≤ 2 ^ m)
    (hp : PermF 0 (cmL F len).length (fun i => (cmL F len).getD i 0) s) (hs : SortF F s 0 (cmL F len).length) (h0 : L 0 = []) (hL : ∀ d, d < m → LvC ((List.range (cmL F len).length).map fun j => (F (s j)).toNat) (L d) (L (d + 1))) :
    2 * (cmL F len).length - 2 ≤ (L m).length ∧ LnOk F len m (fun x => spC L ((List.range (cmL F len).length).map s) m (2 * (cmL F len).length - 2) x) := by
  have hper := ids_perm hp
  have hup := ids_up hs
  generalize hids : (List.range (cmL F len).length).map s = ids at hper ⊢
  have hlen : ids.length = (cmL F len).length := hper.length_eq
  have hS : (List.range (cmL F len).length).map (fun j => (F (s j)).toNat) = ids.map fun i => (F i).toNat := by rw [← hids, List.map_map]; rfl
  rw [hS] at hL hup
  rw [← hlen] at h2 hroom ⊢
  have hn : ids.Nodup := (List.Perm.nodup_iff hper).2 (cmL_nodup F len)
  have hw : ∀ i ∈ ids, 0 < (F i).toNat := fun i hi => by
    have := (cmL_mem F len i (hper.mem_iff.1 hi)).2
    omega
  refine ⟨spent_room h0 hL hup hm0 hm hroom, fun i hi h0' => spC_out (fun h => ?_) _ _, ?_⟩
  · have := (cmL_mem F len i (hper.mem_iff.1 h)).2
    omega
  · exact (spent_best h0 hL hup hn hw hm0 hm h2 hroom).perm (hper.map _)
end Go.Proofs.Ythdgfanecfdlkaa
