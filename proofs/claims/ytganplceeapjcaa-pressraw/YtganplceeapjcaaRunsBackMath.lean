/- Plain facts: runs that are written are read, and the other way. No Go in sight. -/
import Derived.Test.YtganplceeapjcaaRunsRdMath
import Derived.Test.YtganplceeapjcaaNumOneMath
namespace Go.Proofs.Ytganplceeapjcaa

theorem fill_good {W : Nat → Int} {len : Nat} (h : fillE W len = 0) : len ≤ 320 ∧ ∀ i, i < len → lenB (W i) = true := by
  by_cases hl : 320 < len
  · rw [(fill_large W len hl).1] at h; exact absurd h (by decide)
  · refine ⟨by omega, ?_⟩
    cases hb : allB W len with
    | false => rw [(fill_bad W len hl hb).1] at h; exact absurd h (by decide)
    | true => exact fun i hi => all_of hb i hi
theorem lsF_get (W : Nat → Int) (len i : Nat) (hi : i < len) : (lsF W 0 len).getD i 0 = (W i).toNat := by
  unfold lsF
  rw [List.getD_eq_getElem?_getD, List.getElem?_map, List.getElem?_range (by omega)]
  simp
theorem lsF_mem (W : Nat → Int) (len : Nat) (h : ∀ i, i < len → lenB (W i) = true) : ∀ y ∈ lsF W 0 len, y ≤ 15 := by
  intro y hy
  unfold lsF at hy
  obtain ⟨i, hi, rfl⟩ := List.mem_map.1 hy
  have := len_of (h (0 + i) (by simpa using hi))
  omega
theorem runs_back {W : Nat → Int} {len : Nat} (h : fillE W len = 0) (more : List UInt8) :
    rdRE (rwB W len ++ more) = 0 ∧ rdRL (rwB W len ++ more) = lsF W 0 len ∧ rdRN (rwB W len ++ more) = (rwB W len).length := by
  obtain ⟨hl, hg⟩ := fill_good h
  have e : rwB W len = putB len ++ rnB (lsF W 0 len) := by unfold rwB; rw [if_pos h]
  obtain ⟨g1, g2, g3⟩ := get_put len (by omega) (rnB (lsF W 0 len) ++ more)
  rw [e, List.append_assoc]
  have hd : (putB len ++ (rnB (lsF W 0 len) ++ more)).drop (putB len).length = rnB (lsF W 0 len) ++ more := by simp
  have key : rrE len (rnB (lsF W 0 len) ++ more) 0 none = 0 ∧ rrL len (rnB (lsF W 0 len) ++ more) 0 none = lsF W 0 len ∧ rrN len (rnB (lsF W 0 len) ++ more) 0 none = (rnB (lsF W 0 len)).length := by
    by_cases h0 : len = 0
    · subst h0
      rw [lsF_end]
      have := rr_done 0 ([] ++ more) none
      simpa [rnB] using this
    · have hm := lsF_mem W len hg
      rw [lsF_cons W 0 len (by omega)] at hm ⊢
      have := rr_back len more (lsF W 1 len) (W 0).toNat 1 0 none (hm _ (by simp)) (by omega) (by omega) (fun y hy => hm y (by simp [hy])) (by rw [lsF_length]; omega) (fun a ha => by cases ha)
      simpa [rnB] using this
  have hE : rdRE (putB len ++ (rnB (lsF W 0 len) ++ more)) = 0 := by
    rw [rdR_run _ g1 (by rw [g2]; omega), g2, g3, hd]; exact key.1
  have ho := rdR_ok _ hE
  rw [g2, g3, hd, key.2.1, key.2.2] at ho
  exact ⟨hE, ho.1, by rw [ho.2, List.length_append]⟩
/-- a list as a row -/
def rowL (l : List Nat) (i : Nat) : Int := (l.getD i 0 : Nat)
theorem lsF_row (l : List Nat) : lsF (rowL l) 0 l.length = l := by
  apply List.ext_getElem
  · rw [lsF_length]; omega
  · intro i h1 h2
    have : (lsF (rowL l) 0 l.length).getD i 0 = l.getD i 0 := by rw [lsF_get _ _ _ h2]; unfold rowL; omega
    rw [List.getD_eq_getElem?_getD, List.getElem?_eq_getElem h1, List.getD_eq_getElem?_getD, List.getElem?_eq_getElem h2] at this
    exact this
theorem runs_one {s : List UInt8} (h : rdRE s = 0) : fillE (rowL (rdRL s)) (rdRL s).length = 0 ∧ rdRN s ≤ s.length ∧ rwB (rowL (rdRL s)) (rdRL s).length = s.take (rdRN s) := by
  have hg : getE s = 0 := by
    refine Classical.byContradiction fun hn => ?_
    have := (rdR_get s hn).1
    rw [h] at this
    exact hn this.symm
  have hl : ¬ 320 < getA s := fun hl => by
    rw [(rdR_large s hg hl).1] at h
    exact absurd h (by decide)
  have ho := rdR_ok s h
  have hr := h
  rw [rdR_run s hg hl] at hr
  obtain ⟨o1, o2, o3, o4⟩ := rr_one _ _ _ _ hr
  have hlen := rrL_len _ _ _ _ hr
  rw [← ho.1] at o1 o3 hlen
  obtain ⟨p1, p2, p3, p4⟩ := put_get s hg
  rw [List.length_drop] at o4
  have hf : fillE (rowL (rdRL s)) (rdRL s).length = 0 := by
    refine (fill_ok _ _ (by omega) (all_mk fun i hi => ?_)).1
    unfold lenB rowL
    have : (rdRL s).getD i 0 ≤ 15 := by
      rw [List.getD_eq_getElem?_getD, List.getElem?_eq_getElem hi]
      exact o3 _ (List.getElem_mem hi)
    exact decide_eq_true (by omega)
  refine ⟨hf, by omega, ?_⟩
  unfold rwB
  rw [if_pos hf, lsF_row, o1, show (rdRL s).length = getA s by omega, p4, ho.2, List.take_add]
/-- how often a row turns -/
def trnF (W : Nat → Int) : Nat → Nat
  | 0 => 0
  | k + 1 => trnF W k + if k = 0 ∨ W k ≠ W (k - 1) then 1 else 0
theorem trnF_le (W : Nat → Int) (k : Nat) : trnF W k ≤ k := by
  induction k with
  | zero => exact Nat.le_refl _
  | succ k ih => rw [trnF]; split <;> omega
theorem trn_front (W : Nat → Int) (len : Nat) (hg : ∀ i, i < len → lenB (W i) = true) : ∀ d k, k + 1 + d = len → trnF W (k + 1) + trnC (W k).toNat (lsF W (k + 1) len) = trnF W len := by
  intro d
  induction d with
  | zero => intro k hk; rw [← hk, Nat.add_zero, lsF_end, trnC, Nat.add_zero]
  | succ d ih =>
    intro k hk
    rw [lsF_cons W (k + 1) len (by omega), trnC, ← ih (k + 1) (by omega), show trnF W (k + 1 + 1) = trnF W (k + 1) + if k + 1 = 0 ∨ W (k + 1) ≠ W (k + 1 - 1) then 1 else 0 from rfl]
    have a := len_of (hg k (by omega))
    have b := len_of (hg (k + 1) (by omega))
    rw [show k + 1 - 1 = k by omega]
    by_cases he : W (k + 1) = W k
    · have e1 : (W k).toNat = (W (k + 1)).toNat := by omega
      have e2 : ¬ (k + 1 = 0 ∨ W (k + 1) ≠ W k) := by omega
      rw [if_pos e1, if_neg e2]; omega
    · have e1 : ¬ (W k).toNat = (W (k + 1)).toNat := by omega
      have e2 : k + 1 = 0 ∨ W (k + 1) ≠ W k := .inr he
      rw [if_neg e1, if_pos e2]; omega
theorem runs_short {W : Nat → Int} {len : Nat} (h : fillE W len = 0) : (rwB W len).length ≤ 2 + trnF W len + len / 16 ∧ (rwB W len).length ≤ 2 + len := by
  obtain ⟨hl, hg⟩ := fill_good h
  have e : rwB W len = putB len ++ rnB (lsF W 0 len) := by unfold rwB; rw [if_pos h]
  have hp : (putB len).length ≤ 2 := by
    by_cases h1 : len < 128
    · rw [putB_lo len h1]; simp
    · rw [putB_hi len (by omega), putB_lo (len / 128) (by omega)]; simp
  have hn := rnB_len (lsF W 0 len)
  rw [lsF_length] at hn
  rw [e, List.length_append]
  refine ⟨?_, by omega⟩
  by_cases h0 : len = 0
  · subst h0; rw [lsF_end]; simp [rnB]; omega
  · rw [lsF_cons W 0 len (by omega), rnB]
    have a := rnC_trn (lsF W 1 len) (W 0).toNat 1 (by omega) (by omega)
    rw [lsF_length] at a
    have b := trn_front W len hg (len - 1) 0 (by omega)
    rw [Nat.zero_add] at b
    have c : trnF W 1 = 1 := by rw [trnF, if_pos (.inl rfl)]; rfl
    rw [show 1 + (len - 1) = len by omega] at a
    rw [show 0 + 1 = 1 from rfl]
    omega
end Go.Proofs.Ytganplceeapjcaa
