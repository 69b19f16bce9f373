/- What Split answers, as one value. -/
import Derived.Test.YtjfmpnphlpeikaaBlSplitWalks
import Derived.Test.YtjfmpnphlpeikaaEqualInts
namespace Go.Proofs.Ytjfmpnphlpeikaa
open Go.RowKit

theorem splF_len (f : Nat) : ∀ l, chkL l = 0 → (splF f l).length ≤ l.length := by
  induction f with
  | zero => intro l _; exact Nat.zero_le _
  | succ f ih =>
    intro l h
    cases l with
    | nil => exact Nat.le_refl _
    | cons b r =>
      have hp := fit_pos (r := r) (chkL_all h b (by simp))
      have := ih _ (chkL_drop h (fitN 2 0 (b :: r)))
      rw [List.length_drop] at this
      rw [splF, List.length_cons]
      simp only [List.length_cons] at this ⊢
      omega
theorem i64s_own {w : World} {N : Nat} {v : Value} {L : List Nat} (h : w.ownsRow N 3 1 v L.length (natC L)) : I64s w v L.length (fun i => (L.getD i 0 : Int)) := by
  obtain ⟨ao, cap, hv, _, _, _, hr⟩ := Rd.of_own h
  refine ⟨ao, cap, hv, fun hp => ?_⟩
  obtain ⟨b, off, h1, h2, h3⟩ := hr.at' hp
  refine ⟨b, off, h1, h2, fun i hi => h3 i _ ?_⟩
  unfold natC
  rw [List.getElem?_map, List.getElem?_eq_getElem hi, List.getD_eq_getElem?_getD, List.getElem?_eq_getElem hi]; rfl
theorem eqI_self (n : Nat) (f : Nat → Int) : eqI n n f f = true := by
  unfold eqI
  rw [sameI_of f f n (fun i _ => rfl)]; simp
/-- what Split answers, as one value -/
theorem sp_ans {w' : World} {N : Nat} {e : Ending} {l : List Blb} (h : SpAns w' N e l) : ∃ v L, e = .returned (.tuple #[v, .int .i64 (chkL l)]) ∧ I64s w' v L.length (fun i => (L.getD i 0 : Int)) ∧ L = (if chkL l = 0 then splN l else []) ∧ L.length ≤ l.length := by
  rcases h with ⟨h, v, rfl, hown⟩ | ⟨q, hq, h, rfl⟩
  · exact ⟨v, splN l, by rw [h], i64s_own hown, by rw [if_pos h], splF_len _ _ h⟩
  · exact ⟨_, [], by rw [h], i64s_nil _ _, by rw [h, if_neg hq], Nat.zero_le _⟩
end Go.Proofs.Ytjfmpnphlpeikaa
