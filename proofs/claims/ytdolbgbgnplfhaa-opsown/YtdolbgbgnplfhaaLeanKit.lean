/- What ops.Lean keeps in memory while it goes from the last op to the first. -/
import Derived.Test.YtdolbgbgnplfhaaBackwardWalks
import Derived.Test.YtdolbgbgnplfhaaLeanMath
import Derived.Maps.OwnIn
import Derived.Maps.Views
namespace Go.Proofs.Ytdolbgbgnplfhaa
open Go.RowKit Go.Shelf Go.WideMaps Go.Maps

/-- what the map says when the ops from k on are behind -/
structure NxtD (L : List Opp) (k : Nat) (D : DataW Unit) : Prop where
  no : ∀ p, nxtM p k (L.drop k) = none → Maps.has D (.int .i64 p) = false
  yes : ∀ p j, nxtM p k (L.drop k) = some j → Maps.has D (.int .i64 p) = true ∧ ∀ z, D.atKey (.int .i64 p) z = .lit (.int .i64 (j : Int))
theorem nxtD_start (L : List Opp) : NxtD L L.length (.map []) := by
  refine ⟨fun p _ => rfl, fun p j h => ?_⟩
  rw [List.drop_length] at h
  exact absurd h (by simp [nxtM])
theorem nxtD_other {L : List Opp} {k : Nat} {D : DataW Unit} (h : NxtD L (k + 1) D) (hk : k < L.length) (hn : ¬ (L.getD k noOp).kd = 1) : NxtD L k D := by
  have e : ∀ p, nxtM p k (L.drop k) = nxtM p (k + 1) (L.drop (k + 1)) := fun p => by rw [drop_cons_op L k hk, nxtM_cons, if_neg (fun h => hn h.1)]
  exact ⟨fun p hp => h.no p (by rw [← e]; exact hp), fun p j hp => h.yes p j (by rw [← e]; exact hp)⟩
theorem nxtD_write {L : List Opp} {k : Nat} {D : DataW Unit} (h : NxtD L (k + 1) D) (hm : IsMap D) (hkey : WideAt.IsKeyLit (.int .i64 (L.getD k noOp).pl)) (hk : k < L.length) (hy : (L.getD k noOp).kd = 1) : NxtD L k (D.put (.int .i64 (L.getD k noOp).pl) (.lit (.int .i64 (k : Int)))) := by
  refine ⟨fun p hp => ?_, fun p j hp => ?_⟩
  · rw [drop_cons_op L k hk, nxtM_cons] at hp
    by_cases e : (L.getD k noOp).pl = p
    · rw [if_pos ⟨hy, e⟩] at hp; cases hp
    · rw [if_neg (fun h => e h.2)] at hp
      rw [has_put_other (by intro e'; injection e' with _ e2; exact e e2.symm)]
      exact h.no p hp
  · rw [drop_cons_op L k hk, nxtM_cons] at hp
    by_cases e : (L.getD k noOp).pl = p
    · rw [if_pos ⟨hy, e⟩] at hp
      obtain rfl := Option.some.inj hp
      subst e
      exact ⟨has_put_same hm hkey _, fun z => atKey_put_same hm hkey _ z⟩
    · rw [if_neg (fun h => e h.2)] at hp
      rw [has_put_other (by intro e'; injection e' with _ e2; exact e e2.symm)]
      exact ⟨(h.yes p j hp).1, fun z => by rw [atKey_put_other (by intro e'; injection e' with _ e2; exact e e2.symm)]; exact (h.yes p j hp).2 z⟩
/-- the test of ops.Lean, in the map's words -/
theorem nxtD_test {L : List Opp} {k : Nat} {D : DataW Unit} (h : NxtD L k D) (p c z : Int) (hat : D.atKey (.int .i64 p) (.lit (.int .i64 z)) = .lit (.int .i64 c)) :
    metT p (L.drop k) = true ↔ Maps.has D (.int .i64 p) = true ∧ c < (endM k (L.drop k) : Int) := by
  rw [met_next p (L.drop k) k]
  constructor
  · rintro ⟨j, hj, hlt⟩
    obtain ⟨h1, h2⟩ := h.yes p j hj
    refine ⟨h1, ?_⟩
    rw [h2] at hat
    injection hat with hat
    injection hat with _ hat
    omega
  · rintro ⟨h1, h2⟩
    cases hj : nxtM p k (L.drop k) with
    | none => rw [h.no p hj] at h1; cases h1
    | some j =>
      refine ⟨j, rfl, ?_⟩
      rw [(h.yes p j hj).2] at hat
      injection hat with hat
      injection hat with _ hat
      omega
/-- what is known when the rounds of pre are over -/
structure LeanS (n : Nat) (L : List Opp) (pre : List (Plc n)) (e : Nat) (D : DataW Unit) (Rs : List Opp) : Prop where
  im : IsMap D
  rl : Rs.length ≤ pre.length
  eb : e ≤ n
  rb : ∀ o ∈ Rs, o ∈ L
  is : ∀ k, k ≤ n → pre.map Subtype.val = dn n k → e = endM k (L.drop k) ∧ NxtD L k D ∧ Rs.reverse = leanL (L.drop k)
theorem dn_inj {n j k : Nat} (hj : j ≤ n) (hk : k ≤ n) (h : dn n j = dn n k) : j = k := by
  have := congrArg List.length h
  rw [dn_len, dn_len] at this
  omega
theorem dn_snoc {n k : Nat} {pre : List (Plc n)} {x : Plc n} (hk : k ≤ n) (h : (pre ++ [x]).map Subtype.val = dn n k) : k = x.1 ∧ pre.map Subtype.val = dn n (x.1 + 1) := by
  have hkn : k < n := by
    have := congrArg List.length h
    rw [dn_len] at this
    simp at this
    omega
  rw [dn_step n k hkn, List.map_append] at h
  obtain ⟨h1, h2⟩ := List.append_inj' h rfl
  have : x.1 = k := by simpa using h2
  subst this
  exact ⟨rfl, h1⟩
theorem LeanS.start (n : Nat) (L : List Opp) (hL : L.length = n) : LeanS n L [] n (.map []) [] := by
  refine ⟨isMap_empty, Nat.le_refl _, Nat.le_refl _, fun o ho => absurd ho (by simp), fun k hk h => ?_⟩
  obtain rfl : k = n := dn_inj hk (Nat.le_refl _) (by rw [← h, dn_top]; rfl)
  subst hL
  rw [List.drop_length]
  exact ⟨rfl, nxtD_start L, rfl⟩
theorem mem_getD {L : List Opp} {k : Nat} (h : k < L.length) : L.getD k noOp ∈ L := by
  rw [List.getD_eq_getElem?_getD, List.getElem?_eq_getElem h]; exact List.getElem_mem h
theorem LeanS.other {n : Nat} {L : List Opp} {pre : List (Plc n)} {e : Nat} {D : DataW Unit} {Rs : List Opp} (h : LeanS n L pre e D Rs) (hL : L.length = n) (x : Plc n) (hk : ¬ (L.getD x.1 noOp).kd = 1) : LeanS n L (pre ++ [x]) x.1 D (Rs ++ [L.getD x.1 noOp]) := by
  have hx := x.2
  refine ⟨h.im, by simp; exact h.rl, by omega, fun o ho => ?_, fun k hkn hd => ?_⟩
  · rcases List.mem_append.1 ho with ho | ho
    · exact h.rb o ho
    · rw [List.mem_singleton.1 ho]; exact mem_getD (by omega)
  · obtain ⟨rfl, hp⟩ := dn_snoc hkn hd
    obtain ⟨_, h2, h3⟩ := h.is _ (by omega) hp
    refine ⟨?_, nxtD_other h2 (by omega) hk, ?_⟩
    · rw [drop_cons_op L _ (by omega), endM_cons, if_neg hk]
    · rw [List.reverse_append, h3, drop_cons_op L x.1 (by omega), leanL_cons, if_neg (fun h => hk h.1)]; rfl
theorem LeanS.keep {n : Nat} {L : List Opp} {pre : List (Plc n)} {e : Nat} {D : DataW Unit} {Rs : List Opp} (h : LeanS n L pre e D Rs) (hL : L.length = n) (x : Plc n) (hk : (L.getD x.1 noOp).kd = 1) (hkey : WideAt.IsKeyLit (.int .i64 (L.getD x.1 noOp).pl))
    {c z : Int} (hat : D.atKey (.int .i64 (L.getD x.1 noOp).pl) (.lit (.int .i64 z)) = .lit (.int .i64 c)) (ht : ¬ (Maps.has D (.int .i64 (L.getD x.1 noOp).pl) = true ∧ c < (e : Int))) :
    LeanS n L (pre ++ [x]) e (D.put (.int .i64 (L.getD x.1 noOp).pl) (.lit (.int .i64 (x.1 : Int)))) (Rs ++ [L.getD x.1 noOp]) := by
  have hx := x.2
  refine ⟨h.im.put _ _, by simp; exact h.rl, h.eb, fun o ho => ?_, fun k hkn hd => ?_⟩
  · rcases List.mem_append.1 ho with ho | ho
    · exact h.rb o ho
    · rw [List.mem_singleton.1 ho]; exact mem_getD (by omega)
  · obtain ⟨rfl, hp⟩ := dn_snoc hkn hd
    obtain ⟨h1, h2, h3⟩ := h.is _ (by omega) hp
    have hmt := nxtD_test h2 _ c z hat
    rw [← h1] at hmt
    refine ⟨?_, nxtD_write h2 h.im hkey (by omega) hk, ?_⟩
    · rw [drop_cons_op L _ (by omega), endM_cons, if_pos hk]; exact h1
    · rw [List.reverse_append, h3, drop_cons_op L x.1 (by omega), leanL_cons, if_neg (fun h => ht (hmt.1 h.2))]; rfl
theorem LeanS.skip {n : Nat} {L : List Opp} {pre : List (Plc n)} {e : Nat} {D : DataW Unit} {Rs : List Opp} (h : LeanS n L pre e D Rs) (hL : L.length = n) (x : Plc n) (hk : (L.getD x.1 noOp).kd = 1) (hkey : WideAt.IsKeyLit (.int .i64 (L.getD x.1 noOp).pl))
    {c z : Int} (hat : D.atKey (.int .i64 (L.getD x.1 noOp).pl) (.lit (.int .i64 z)) = .lit (.int .i64 c)) (ht : Maps.has D (.int .i64 (L.getD x.1 noOp).pl) = true ∧ c < (e : Int)) :
    LeanS n L (pre ++ [x]) e (D.put (.int .i64 (L.getD x.1 noOp).pl) (.lit (.int .i64 (x.1 : Int)))) Rs := by
  have hx := x.2
  refine ⟨h.im.put _ _, by simp; have := h.rl; omega, h.eb, h.rb, fun k hkn hd => ?_⟩
  obtain ⟨rfl, hp⟩ := dn_snoc hkn hd
  obtain ⟨h1, h2, h3⟩ := h.is _ (by omega) hp
  have hmt := nxtD_test h2 _ c z hat
  rw [← h1] at hmt
  refine ⟨?_, nxtD_write h2 h.im hkey (by omega) hk, ?_⟩
  · rw [drop_cons_op L _ (by omega), endM_cons, if_pos hk]; exact h1
  · rw [h3, drop_cons_op L x.1 (by omega), leanL_cons, if_pos ⟨hk, hmt.2 ht⟩]
theorem LeanS.all {n : Nat} {L : List Opp} {pre : List (Plc n)} {e : Nat} {D : DataW Unit} {Rs : List Opp} (h : LeanS n L pre e D Rs) (hd : pre.map Subtype.val = dn n 0) : Rs.reverse = leanL L :=
  (h.is 0 (Nat.zero_le _) hd).2.2
end Go.Proofs.Ytdolbgbgnplfhaa
