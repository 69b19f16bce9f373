/- Plain facts of lengths of the least cost: no Go in sight. -/
import Derived.Test.YthdgfanecfdlkaaLensOkMath
import Derived.Test.YthdgfanecfdlkaaHuffOpt
import Derived.Test.YthdgfanecfdlkaaFreqMath
namespace Go.Proofs.Ythdgfanecfdlkaa

/-- how often the signs that come do so -/
def wsL (F : Nat → Int) (k : Nat) : List Nat := (cmL F k).map fun i => (F i).toNat
theorem lensE_zero {F : Nat → Int} {len : Nat} {most : Int} (h : lensE F len most = 0) : freqE F len = 0 ∧ 1 ≤ most ∧ most ≤ 15 ∧ (cmL F len).length ≤ 2 ^ most.toNat := by
  unfold lensE at h
  by_cases h1 : freqE F len = 0
  · rw [if_neg (by simp [h1])] at h
    by_cases h2 : most < 1 ∨ 15 < most
    · rw [if_pos h2] at h; omega
    · rw [if_neg h2] at h
      by_cases h3 : 2 ^ most.toNat < (cmL F len).length
      · rw [if_pos h3] at h; omega
      · exact ⟨h1, by omega, by omega, by omega⟩
  · rw [if_pos h1] at h; exact absurd h h1
theorem lensE_is (F : Nat → Int) (len : Nat) (most : Int) : 0 ≤ lensE F len most ∧ lensE F len most ≤ 6 := by
  have h1 := freqE_is F len
  unfold lensE
  split
  · omega
  · split
    · omega
    · split <;> omega
theorem LnOk.lo {F : Nat → Int} {len m : Nat} {T : Nat → Nat} (h : LnOk F len m T) (i : Nat) (hi : i < len) (hp : 0 < F i) : 1 ≤ T i ∧ T i ≤ m := by
  have hm : ((F i).toNat, T i) ∈ (cmL F len).map fun i => ((F i).toNat, T i) := List.mem_map.2 ⟨i, cmL_has F len i hi hp, rfl⟩
  exact ⟨h.best.1.lo _ hm, h.best.1.hi _ hm⟩
theorem LnOk.le {F : Nat → Int} {len m : Nat} {T : Nat → Nat} (h : LnOk F len m T) (hm : m ≤ 15) (i : Nat) (hi : i < len) : T i ≤ 15 := by
  by_cases hp : 0 < F i
  · have := h.lo i hi hp; omega
  · rw [h.out i hi (by omega)]; omega
theorem LnOk.order {F : Nat → Int} {len m : Nat} {T : Nat → Nat} (h : LnOk F len m T) (i k : Nat) (hi : i < len) (hk : k < len) (hp : 0 < F k) (hf : F k < F i) : T i ≤ T k := by
  have h1 : ((F i).toNat, T i) ∈ (cmL F len).map fun i => ((F i).toNat, T i) := List.mem_map.2 ⟨i, cmL_has F len i hi (by omega), rfl⟩
  have h2 : ((F k).toNat, T k) ∈ (cmL F len).map fun i => ((F i).toNat, T i) := List.mem_map.2 ⟨k, cmL_has F len k hk hp, rfl⟩
  exact best_orders h.best _ _ h1 h2 (by show (F k).toNat < (F i).toNat; omega)
theorem cost_map {F : Nat → Int} {T : Nat → Nat} (k : Nat) (h : ∀ i, i < k → F i ≤ 0 → T i = 0) : costN F (fun i => (T i : Int)) k = costP ((cmL F k).map fun i => ((F i).toNat, T i)) := by
  induction k with
  | zero => rfl
  | succ k ih =>
    have e : costN F (fun i => (T i : Int)) (k + 1) = costN F (fun i => (T i : Int)) k + (F k).toNat * ((T k : Nat) : Int).toNat := rfl
    rw [e, ih (fun i hi => h i (by omega)), Int.toNat_natCast]
    by_cases hp : 0 < F k
    · rw [cmL_yes F k hp, List.map_append]
      unfold costP
      rw [sm_append]; rfl
    · rw [cmL_no F k hp, h k (by omega) (by omega)]; rfl
theorem fill_map {F : Nat → Int} {T : Nat → Nat} (k : Nat) (h : ∀ i, i < k → F i ≤ 0 → T i = 0) (h1 : ∀ i, i < k → 0 < F i → 1 ≤ T i) : fillN (fun i => (T i : Int)) k = krf ((cmL F k).map fun i => ((F i).toNat, T i)) := by
  induction k with
  | zero => rfl
  | succ k ih =>
    rw [fillN_succ, ih (fun i hi => h i (by omega)) (fun i hi => h1 i (by omega))]
    by_cases hp : 0 < F k
    · have := h1 k (by omega) hp
      rw [cmL_yes F k hp, List.map_append]
      unfold krf
      rw [sm_append, tk_pos _ (by omega), Int.toNat_natCast]; rfl
    · rw [cmL_no F k hp, h k (by omega) (by omega)]
      show _ + tk 0 = _
      rw [tk_zero, Nat.add_zero]
theorem LnOk.opt {F : Nat → Int} {len m : Nat} {T : Nat → Nat} (h : LnOk F len m T) : Opt (wsL F len) m (costN F (fun i => (T i : Int)) len) := by
  rw [cost_map len h.out]
  have := h.best.opt
  rw [List.map_map] at this
  exact this
theorem LnOk.lens {F : Nat → Int} {len m : Nat} {T : Nat → Nat} (h : LnOk F len m T) (hm : m ≤ 15) (hl : len ≤ 320) : fillE (fun i => (T i : Int)) len = 0 ∧ fillA (fun i => (T i : Int)) len ≤ 32768 := by
  have hb : allB (fun i => (T i : Int)) len = true := all_mk fun i hi => decide_eq_true (by have := h.le hm i hi; omega)
  obtain ⟨e1, e2⟩ := fill_ok (fun i => (T i : Int)) len (by omega) hb
  refine ⟨e1, ?_⟩
  rw [e2, fill_map len h.out (fun i hi hp => (h.lo i hi hp).1)]
  exact h.best.1.room
theorem LnOk.cost {F : Nat → Int} {len : Nat} {most : Int} {T : Nat → Nat} (h : LnOk F len most.toNat T) (h0 : lensE F len most = 0) :
    costE F len (fun i => (T i : Int)) len = 0 ∧ costA F len (fun i => (T i : Int)) len = costN F (fun i => (T i : Int)) len ∧ costN F (fun i => (T i : Int)) len ≤ 5033164800 := by
  obtain ⟨h1, h2, h3, _⟩ := lensE_zero h0
  obtain ⟨h4, h5⟩ := freqE_zero h1
  have h6 := (h.lens (by omega) h4).1
  obtain ⟨e1, e2⟩ := cost_ok h1 h6
  refine ⟨e1, e2, ?_⟩
  have := costN_le F (fun i => (T i : Int)) len h5 (fillE_all h6).2
  omega
end Go.Proofs.Ythdgfanecfdlkaa
