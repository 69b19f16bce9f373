/- Plain facts for the law HuffFlat. No Go in sight. -/
import Derived.Test.YtalapgppgelidaaLnFacts
namespace Go.Proofs.Ytalapgppgelidaa

theorem lensE_next {F : Nat → Int} {len : Nat} {most : Int} (h : lensE F len most = 0) (h2 : most < 15) : lensE F len (most + 1) = 0 := by
  obtain ⟨h1, h3, h4, h5⟩ := lensE_zero h
  unfold lensE
  rw [if_neg (by simp [h1]), if_neg (by omega), if_neg]
  have : 2 ^ most.toNat ≤ 2 ^ (most + 1).toNat := Nat.pow_le_pow_right (by decide) (by omega)
  omega
/-- all that comes, one with another -/
def totF (F : Nat → Int) : Nat → Nat
  | 0 => 0
  | k + 1 => totF F k + (F k).toNat
theorem tot_sm (F : Nat → Int) (k : Nat) : totF F k = sm (fun f => f) (wsL F k) := by
  induction k with
  | zero => rfl
  | succ k ih =>
    rw [totF, ih]
    unfold wsL
    by_cases hp : 0 < F k
    · rw [cmL_yes F k hp, List.map_append, sm_append]; rfl
    · rw [cmL_no F k hp, show (F k).toNat = 0 by omega]; rfl
theorem tot_le (F : Nat → Int) (k : Nat) (h : ∀ i, i < k → F i ≤ 1048576) : totF F k ≤ 1048576 * k := by
  induction k with
  | zero => simp [totF]
  | succ k ih =>
    have h1 := ih (fun i hi => h i (by omega))
    have h2 := h k (by omega)
    rw [totF]; omega
theorem ws_len (F : Nat → Int) (k : Nat) : (wsL F k).length = (cmL F k).length := by simp [wsL]
theorem flat_is {F : Nat → Int} {len : Nat} {m c s : Nat} (ho : Opt (wsL F len) m c) (hm : m ≤ 15) (h1 : 1 ≤ s) (h2 : s ≤ m) (h3 : (cmL F len).length ≤ 2 ^ s) : c ≤ totF F len * s := by
  rw [tot_sm]
  exact flat_le ho s h1 h2 hm (by rw [ws_len]; exact h3)
theorem cm_all (f : Int) (hf : 0 < f) (n : Nat) : cmL (fun _ => f) n = List.range n := by
  unfold cmL
  rw [List.filter_eq_self.2]
  intro a _
  exact decide_eq_true hf
theorem even_lens (f : Nat) (hf : 0 < f) (hf2 : f ≤ 1048576) (k : Nat) (hk : k ≤ 8) : lensE (fun _ => (f : Int)) (2 ^ k) 15 = 0 := by
  have hp : 2 ^ k ≤ 2 ^ 8 := Nat.pow_le_pow_right (by decide) hk
  unfold lensE
  rw [if_neg (by rw [freqE_mk (by omega) (fun i _ => by omega)]; simp), if_neg (by omega), if_neg]
  rw [cm_all _ (by omega), List.length_range]
  show ¬ 2 ^ 15 < 2 ^ k
  omega
theorem even_same (f : Nat) (hf : 0 < f) (k : Nat) (h1 : 1 ≤ k) (hk : k ≤ 8) {T : Nat → Nat} (h : LnOk (fun _ => (f : Int)) (2 ^ k) 15 T) : ∀ i, i < 2 ^ k → T i = k := by
  intro i hi
  have := best_even k f h1 (by omega) hf _ h.best (by rw [List.length_map, cm_all _ (by omega), List.length_range]) (fun p hp => by
    obtain ⟨j, _, rfl⟩ := List.mem_map.1 hp
    show ((f : Int)).toNat = f
    omega) ((f : Int).toNat, T i) (List.mem_map.2 ⟨i, by rw [cm_all _ (by omega)]; exact List.mem_range.2 hi, rfl⟩)
  exact this
theorem opt_more {F : Nat → Int} {len : Nat} {most : Int} {c d : Nat} (h : Opt (wsL F len) most.toNat c) (h' : Opt (wsL F len) (most + 1).toNat d) : d ≤ c := opt_mono h h' (by omega)
end Go.Proofs.Ytalapgppgelidaa
