/- The law BlobSplits, walked. -/
import Derived.Test.YtjfmpnphlpeikaaRSplitWalks
import Derived.Test.YtjfmpnphlpeikaaEqualInts
namespace Go.Proofs.Ytjfmpnphlpeikaa
open Go.RowKit

theorem splF_len (f : Nat) : ∀ l, chkL l = 0 → (splF f l).length ≤ l.length := by
  induction f with
  | zero => intro l _; exact Nat.zero_le _
  | succ f ih =>
    intro l h
    cases l with
    | nil => exact Nat.le_refl _
    | cons b r =>
      have hp := fit_pos (r := r) (chkL_all h b (by simp))
      have := ih _ (chkL_drop h (fitN 2 0 (b :: r)))
      rw [List.length_drop] at this
      rw [splF, List.length_cons]
      simp only [List.length_cons] at this ⊢
      omega
theorem i64s_own {w : World} {N : Nat} {v : Value} {L : List Nat} (h : w.ownsRow N 3 1 v L.length (natC L)) : I64s w v L.length (fun i => (L.getD i 0 : Int)) := by
  obtain ⟨ao, cap, hv, _, _, _, hr⟩ := Rd.of_own h
  refine ⟨ao, cap, hv, fun hp => ?_⟩
  obtain ⟨b, off, h1, h2, h3⟩ := hr.at' hp
  refine ⟨b, off, h1, h2, fun i hi => h3 i _ ?_⟩
  unfold natC
  rw [List.getElem?_map, List.getElem?_eq_getElem hi, List.getD_eq_getElem?_getD, List.getElem?_eq_getElem hi]; rfl
theorem eqI_self (n : Nat) (f : Nat → Int) : eqI n n f f = true := by
  unfold eqI
  rw [sameI_of f f n (fun i _ => rfl)]; simp
/-- what Split answers, as one value -/
theorem sp_ans {w' : World} {N : Nat} {e : Ending} {l : List Blb} (h : SpAns w' N e l) : ∃ v L, e = .returned (.tuple #[v, .int .i64 (chkL l)]) ∧ I64s w' v L.length (fun i => (L.getD i 0 : Int)) ∧ L = (if chkL l = 0 then splN l else []) ∧ L.length ≤ l.length := by
  rcases h with ⟨h, v, rfl, hown⟩ | ⟨q, hq, h, rfl⟩
  · exact ⟨v, splN l, by rw [h], i64s_own hown, by rw [if_pos h], splF_len _ _ h⟩
  · exact ⟨_, [], by rw [h], i64s_nil _ _, by rw [h, if_neg hq], Nat.zero_le _⟩
set_option maxRecDepth 20000 in
set_option maxHeartbeats 1600000 in
theorem blobSplits_walk (a0 : Option Addr) (len0 cap0 : Nat) (l : List Blb) (w : World) (h : Bls w a0 len0 cap0 l) :
    Calls Try.prog 5 #[.slice a0 len0 cap0] w fun e w' => e = .returned (.bool true) ∧ Below w.heap.size w w' := by
  have HL := Hid.mk' h
  have hnB := h.nB
  have hnL := h.nL
  clear h
  go_enter Try.func5, Try.ntmps5
  go_wp2_with fail
  refine (bsplit_any a0 len0 cap0 l w HL.out).mono ?_
  rintro e w1 ⟨he, hb1⟩
  obtain ⟨v1, L1, rfl, h1, e1, b1⟩ := sp_ans he
  have HI1 := Hid.mk' h1
  have HB1 := Hid.mk' hb1
  have HL1 := Hid.mk' (HL.out.below hb1)
  clear hb1 he h1
  obtain ⟨q, hq⟩ : ∃ q, Hid (chkL l = q) := ⟨_, Hid.mk' rfl⟩
  rw [hq.out]
  go_wp2_with fail
  refine (rsplit_any a0 len0 cap0 l w1 HL1.out).mono ?_
  rintro e w2 ⟨he, hb2⟩
  obtain ⟨v2, L2, rfl, h2, e2, b2⟩ := sp_ans he
  have HI2 := Hid.mk' h2
  have HB2 := Hid.mk' (HB1.out.trans (hb2.mono HB1.out.size))
  have HI3 := Hid.mk' (i64s_below HI1.out hb2)
  obtain rfl : L2 = L1 := e2.trans e1.symm
  clear hb2 he h2 e1 e2
  rw [hq.out]
  go_wp2_with fail
  refine (equalI_any v1 v2 L2.length L2.length _ _ w2 (by omega) (by omega) HI3.out HI2.out).mono ?_
  rintro e w3 ⟨rfl, r, rfl⟩
  rw [eqI_self]
  go_wp2_with fail
  go_ret
  exact ⟨rfl, below_drewN HB2.out r⟩
end Go.Proofs.Ytjfmpnphlpeikaa
