/- What is read behind a write. No Go in sight. -/
import Derived.Test.YtlcfccnkplmpgaaDiskOpsWalks
import Derived.Test.YtlcfccnkplmpgaaDiskReadWalks
namespace Go.Proofs.Ytlcfccnkplmpgaa

theorem ok_wrD {C : List ByteArray} {P : List Pt} {p : Pt} (h : wrD C P p = 0) : OkD C (P ++ [p]) := by
  unfold wrD at h
  by_cases h0 : chkD C P = 0
  · rw [if_pos h0] at h
    have hok := chkD_ok h0
    unfold wrtE at h
    by_cases h1 : putE C.length p = 0
    · rw [if_pos h1] at h
      by_cases h2 : 400 ≤ P.length
      · rw [if_pos h2] at h; omega
      · exact ok_put hok h1 (by omega)
    · rw [if_neg h1] at h; exact absurd h h1
  · rw [if_neg h0] at h; exact absurd h h0
theorem wrD_ok {C : List ByteArray} {P : List Pt} {p : Pt} (h : wrD C P p = 0) : OkD C P ∧ putE C.length p = 0 := by
  unfold wrD at h
  by_cases h0 : chkD C P = 0
  · rw [if_pos h0] at h
    have hok := chkD_ok h0
    unfold wrtE at h
    by_cases h1 : putE C.length p = 0
    · exact ⟨hok, h1⟩
    · rw [if_neg h1] at h; exact absurd h h1
  · rw [if_neg h0] at h; exact absurd h h0
theorem cellL_snoc (L : Nat → Bool) (a : Int) (p : Pt) : ∀ (P : List Pt) (i : Nat) (s : ByteArray), cellL L a (P ++ [p]) i s = if p.pl = a ∧ L (i + P.length) = true then p.tx else cellL L a P i s := by
  intro P
  induction P with
  | nil => intro i s; rfl
  | cons x r ih =>
    intro i s
    rw [List.cons_append, cellL, ih, cellL, List.length_cons, show i + 1 + r.length = i + (r.length + 1) by omega]
theorem read_own {C : List ByteArray} {P : List Pt} {x : Int} {s : ByteArray} (h : wrD C P ⟨x, s⟩ = 0) : rdD C (P ++ [⟨x, s⟩]) x = 0 ∧ cellL allL x (P ++ [⟨x, s⟩]) 0 (C.getD x.toNat ⟨#[]⟩) = s := by
  obtain ⟨hok, hp⟩ := wrD_ok h
  have hp0 := putE_zero hp
  have hhas : hasB C.length x = true := decide_eq_true ⟨hp0.1, hp0.2.1⟩
  refine ⟨?_, ?_⟩
  · unfold rdD
    rw [if_pos (ok_chkD (ok_wrD h)), if_pos hhas]
  · rw [cellL_snoc]; exact if_pos ⟨rfl, rfl⟩
theorem read_other {C : List ByteArray} {P : List Pt} {x : Int} {s : ByteArray} (h : wrD C P ⟨x, s⟩ = 0) (z : Int) : rdD C (P ++ [⟨x, s⟩]) z = rdD C P z ∧ (z ≠ x → cellL allL z (P ++ [⟨x, s⟩]) 0 (C.getD z.toNat ⟨#[]⟩) = cellL allL z P 0 (C.getD z.toNat ⟨#[]⟩)) := by
  obtain ⟨hok, _⟩ := wrD_ok h
  refine ⟨?_, fun hne => ?_⟩
  · unfold rdD
    rw [if_pos (ok_chkD (ok_wrD h)), if_pos (ok_chkD hok)]
  · rw [cellL_snoc]; exact if_neg (fun hh => hne hh.1.symm)
end Go.Proofs.Ytlcfccnkplmpgaa
