/- Plain facts: levels of coins (what each costs, and whether it is a pair) stand for packets, and what is spent on them is how often each sign is in the packets. No Go in sight. -/
import Derived.Test.YthdgfanecfdlkaaHuffBest
namespace Go.Proofs.Ythdgfanecfdlkaa

theorem up_one : ∀ a b : List Nat, a.Pairwise (· ≤ ·) → b.Pairwise (· ≤ ·) → a.Perm b → a = b := by
  intro a
  induction a with
  | nil => intro b _ _ h; exact h.symm.eq_nil.symm
  | cons x a ih =>
    intro b ha hb h
    cases b with
    | nil => exact absurd h.eq_nil (by simp)
    | cons y b =>
      obtain ⟨ha1, ha2⟩ := List.pairwise_cons.1 ha
      obtain ⟨hb1, hb2⟩ := List.pairwise_cons.1 hb
      have hx : x = y := by
        have h1 : x ∈ y :: b := h.mem_iff.1 (by simp)
        have h2 : y ∈ x :: a := h.mem_iff.2 (by simp)
        rcases List.mem_cons.1 h1 with h1 | h1
        · exact h1
        · rcases List.mem_cons.1 h2 with h2 | h2
          · exact h2.symm
          · have := hb1 x h1; have := ha1 y h2; omega
      subst hx
      rw [ih b ha2 hb2 ((List.perm_cons x).1 h)]

/-- two rows in one, by a list of kinds -/
def weave {α : Type} : List Bool → List α → List α → List α
  | false :: ks, a :: as, bs => a :: weave ks as bs
  | true :: ks, as, b :: bs => b :: weave ks as bs
  | _, _, _ => []
def nF (ks : List Bool) : Nat := ks.countP (fun k => !k)
def nT (ks : List Bool) : Nat := ks.countP (fun k => k)
theorem nF_nT (ks : List Bool) : nF ks + nT ks = ks.length := by
  induction ks with
  | nil => rfl
  | cons k ks ih => cases k <;> simp [nF, nT] at ih ⊢ <;> omega
theorem weave_perm {α : Type} : ∀ (ks : List Bool) (as bs : List α), nF ks ≤ as.length → nT ks ≤ bs.length → (weave ks as bs).Perm (as.take (nF ks) ++ bs.take (nT ks)) := by
  intro ks
  induction ks with
  | nil => intro as bs _ _; simp [weave, nF, nT]
  | cons k ks ih =>
    intro as bs h1 h2
    cases k with
    | false =>
      have e1 : nF (false :: ks) = nF ks + 1 := by simp [nF]
      have e2 : nT (false :: ks) = nT ks := by simp [nT]
      rw [e1] at h1 ⊢; rw [e2] at h2 ⊢
      cases as with
      | nil => simp at h1
      | cons a as => simp only [weave, List.take_succ_cons, List.cons_append]; exact (ih as bs (by simpa using h1) h2).cons a
    | true =>
      have e1 : nF (true :: ks) = nF ks := by simp [nF]
      have e2 : nT (true :: ks) = nT ks + 1 := by simp [nT]
      rw [e1] at h1 ⊢; rw [e2] at h2 ⊢
      cases bs with
      | nil => simp at h2
      | cons b bs =>
        simp only [weave, List.take_succ_cons]
        exact ((ih as bs h1 (by simpa using h2)).cons b).trans List.perm_middle.symm
theorem weave_take {α : Type} : ∀ (ks : List Bool) (as bs : List α) (k : Nat), (weave ks as bs).take k = weave (ks.take k) as bs := by
  intro ks
  induction ks with
  | nil => intro as bs k; simp [weave]
  | cons c ks ih =>
    intro as bs k
    cases k with
    | zero => simp [weave]
    | succ k =>
      cases c with
      | false => cases as with
        | nil => simp [weave]
        | cons a as => simp [weave, ih]
      | true => cases bs with
        | nil => simp [weave]
        | cons b bs => simp [weave, ih]
/-- what the singles of a level cost, and what its pairs cost -/
def fsF (L : List (Nat × Bool)) : List Nat := (L.filter (fun c => !c.2)).map Prod.fst
def fsT (L : List (Nat × Bool)) : List Nat := (L.filter (fun c => c.2)).map Prod.fst
theorem weave_fst : ∀ (L : List (Nat × Bool)) (as bs : List (Nat × List Nat)), fsF L = as.map Prod.fst → fsT L = bs.map Prod.fst → (weave (L.map Prod.snd) as bs).map Prod.fst = L.map Prod.fst := by
  intro L
  induction L with
  | nil => intro as bs _ _; simp [weave]
  | cons c L ih =>
    intro as bs h1 h2
    obtain ⟨c, k⟩ := c
    cases k with
    | false =>
      have e1 : fsF ((c, false) :: L) = c :: fsF L := by simp [fsF]
      have e2 : fsT ((c, false) :: L) = fsT L := by simp [fsT]
      rw [e1] at h1; rw [e2] at h2
      cases as with
      | nil => simp at h1
      | cons a as =>
        simp only [List.map_cons, List.cons.injEq] at h1
        simp only [List.map_cons, weave, h1.1, ih as bs h1.2 h2]
    | true =>
      have e1 : fsF ((c, true) :: L) = fsF L := by simp [fsF]
      have e2 : fsT ((c, true) :: L) = c :: fsT L := by simp [fsT]
      rw [e1] at h1; rw [e2] at h2
      cases bs with
      | nil => simp at h2
      | cons b bs =>
        simp only [List.map_cons, List.cons.injEq] at h2
        simp only [List.map_cons, weave, h2.1, ih as bs h1 h2.2]
theorem nF_fs (L : List (Nat × Bool)) : nF (L.map Prod.snd) = (fsF L).length := by
  rw [nF, fsF, List.countP_map, List.countP_eq_length_filter, List.length_map]; rfl
theorem nT_fs (L : List (Nat × Bool)) : nT (L.map Prod.snd) = (fsT L).length := by
  rw [nT, fsT, List.countP_map, List.countP_eq_length_filter, List.length_map]; rfl
theorem fsF_up {L : List (Nat × Bool)} (h : L.Pairwise (fun a b => a.1 ≤ b.1)) : (fsF L).Pairwise (· ≤ ·) := List.pairwise_map.2 (h.filter _)
theorem fsT_up {L : List (Nat × Bool)} (h : L.Pairwise (fun a b => a.1 ≤ b.1)) : (fsT L).Pairwise (· ≤ ·) := List.pairwise_map.2 (h.filter _)
theorem prs_low (t u : Nat) : ∀ l : List Nat, (∀ y ∈ l, t ≤ y ∧ u ≤ y) → ∀ x ∈ prs l, t + u ≤ x
  | [], _, x, hx => by simp [prs] at hx
  | [_], _, x, hx => by simp [prs] at hx
  | c :: d :: l, h, x, hx => by
    simp only [prs, List.mem_cons] at hx
    rcases hx with rfl | hx
    · have := h c (by simp); have := h d (by simp); omega
    · exact prs_low t u l (fun y hy => h y (by simp [hy])) x hx
theorem prs_up : ∀ l : List Nat, l.Pairwise (· ≤ ·) → (prs l).Pairwise (· ≤ ·)
  | [], _ => by simp [prs]
  | [_], _ => by simp [prs]
  | a :: b :: l, h => by
    simp only [prs]
    obtain ⟨h1, h2⟩ := List.pairwise_cons.1 h
    obtain ⟨h3, h4⟩ := List.pairwise_cons.1 h2
    exact List.pairwise_cons.2 ⟨prs_low a b l fun y hy => ⟨h1 y (by simp [hy]), h3 y hy⟩, prs_up l h4⟩
theorem prsP_take : ∀ (k : Nat) (l : List (Nat × List Nat)), 2 * k ≤ l.length → flatP ((prsP l).take k) = flatP (l.take (2 * k))
  | 0, l, _ => by simp
  | k + 1, [], h => by simp at h
  | k + 1, [_], h => by simp at h; omega
  | k + 1, a :: b :: l, h => by
    have ih := prsP_take k l (by simp at h; omega)
    rw [show 2 * (k + 1) = 2 * k + 1 + 1 by omega]
    simp only [prsP, List.take_succ_cons, flatP, List.flatMap_cons] at ih ⊢
    rw [ih, List.append_assoc]

/-- one level out of the one below: it goes up, and is of the pairs and the singles -/
structure LvC (S : List Nat) (B L : List (Nat × Bool)) : Prop where
  up : L.Pairwise (fun a b => a.1 ≤ b.1)
  per : L.Perm ((prs (B.map Prod.fst)).map (fun c => (c, true)) ++ S.map (fun c => (c, false)))
theorem LvC.singles {S : List Nat} {B L : List (Nat × Bool)} (h : LvC S B L) (hS : S.Pairwise (· ≤ ·)) : fsF L = S := by
  refine up_one _ _ (fsF_up h.up) hS ?_
  have h1 := (h.per.filter (fun c => !c.2)).map Prod.fst
  have h2 : ∀ l : List Nat, ((l.map (fun c => (c, true))).filter (fun c => !c.2)).map Prod.fst = [] := by intro l; induction l <;> simp_all
  have h3 : ∀ l : List Nat, ((l.map (fun c => (c, false))).filter (fun c => !c.2)).map Prod.fst = l := by intro l; induction l <;> simp_all
  rw [List.filter_append, List.map_append, h2, h3, List.nil_append] at h1
  exact h1
theorem LvC.pairs {S : List Nat} {B L : List (Nat × Bool)} (h : LvC S B L) (hB : B.Pairwise (fun a b => a.1 ≤ b.1)) : fsT L = prs (B.map Prod.fst) := by
  refine up_one _ _ (fsT_up h.up) (prs_up _ (List.pairwise_map.2 hB)) ?_
  have h1 := (h.per.filter (fun c => c.2)).map Prod.fst
  have h2 : ∀ l : List Nat, ((l.map (fun c => (c, true))).filter (fun c => c.2)).map Prod.fst = l := by intro l; induction l <;> simp_all
  have h3 : ∀ l : List Nat, ((l.map (fun c => (c, false))).filter (fun c => c.2)).map Prod.fst = [] := by intro l; induction l <;> simp_all
  rw [List.filter_append, List.map_append, h2, h3, List.append_nil] at h1
  exact h1
/-- the packets that the levels stand for -/
def pk (L : Nat → List (Nat × Bool)) (C : List (Nat × List Nat)) : Nat → List (Nat × List Nat)
  | 0 => []
  | d + 1 => weave ((L (d + 1)).map Prod.snd) C (prsP (pk L C d))
theorem lv_up {S : List Nat} {L : Nat → List (Nat × Bool)} {m : Nat} (h0 : L 0 = []) (h : ∀ d, d < m → LvC S (L d) (L (d + 1))) : ∀ d, d ≤ m → (L d).Pairwise (fun a b => a.1 ≤ b.1)
  | 0, _ => by rw [h0]; exact List.Pairwise.nil
  | d + 1, hd => (h d (by omega)).up
theorem pk_ok {S : List Nat} {L : Nat → List (Nat × Bool)} {C : List (Nat × List Nat)} {m : Nat} (h0 : L 0 = []) (h : ∀ d, d < m → LvC S (L d) (L (d + 1))) (hC : C.map Prod.fst = S) (hS : S.Pairwise (· ≤ ·)) :
    ∀ d, d ≤ m → LvP C d (pk L C d) ∧ (pk L C d).map Prod.fst = (L d).map Prod.fst := by
  intro d
  induction d with
  | zero => intro _; exact ⟨LvP.zero, by rw [h0]; rfl⟩
  | succ d ih =>
    intro hd
    obtain ⟨i1, i2⟩ := ih (by omega)
    have hl := h d (by omega)
    have e1 := hl.singles hS
    have e2 := hl.pairs (lv_up h0 h d (by omega))
    have hf : (pk L C (d + 1)).map Prod.fst = (L (d + 1)).map Prod.fst := by
      rw [pk]; exact weave_fst _ _ _ (by rw [e1, hC]) (by rw [e2, prsP_fst, i2])
    refine ⟨LvP.succ i1 ?_ ?_, hf⟩
    · refine List.pairwise_map.1 (?_ : ((pk L C (d + 1)).map Prod.fst).Pairwise (· ≤ ·))
      rw [hf]; exact List.pairwise_map.2 hl.up
    · have n1 : nF ((L (d + 1)).map Prod.snd) = C.length := by rw [nF_fs, e1, ← hC, List.length_map]
      have n2 : nT ((L (d + 1)).map Prod.snd) = (prsP (pk L C d)).length := by
        rw [nT_fs, e2, ← i2, ← prsP_fst, List.length_map]
      have := weave_perm ((L (d + 1)).map Prod.snd) C (prsP (pk L C d)) (by omega) (by omega)
      rw [n1, n2, List.take_length, List.take_length] at this
      exact this
/-- what is spent on the d lowest levels, b coins on the highest of them: how often sign i is met -/
def spC (L : Nat → List (Nat × Bool)) (ids : List Nat) : Nat → Nat → Nat → Nat
  | 0, _, _ => 0
  | d + 1, b, i => (ids.take (nF (((L (d + 1)).take b).map Prod.snd))).count i + spC L ids d (2 * (b - nF (((L (d + 1)).take b).map Prod.snd))) i
/-- the coins that are bought of a level are there, and so are those of the level below -/
theorem LvC.below {S : List Nat} {B L : List (Nat × Bool)} (h : LvC S B L) (hS : S.Pairwise (· ≤ ·)) (hB : B.Pairwise (fun a b => a.1 ≤ b.1)) {b : Nat} (hb : b ≤ L.length) :
    nF ((L.take b).map Prod.snd) ≤ S.length ∧ nT ((L.take b).map Prod.snd) = b - nF ((L.take b).map Prod.snd) ∧ 2 * (b - nF ((L.take b).map Prod.snd)) ≤ B.length := by
  have h1 := nF_nT ((L.take b).map Prod.snd)
  rw [List.length_map, List.length_take] at h1
  have f : ∀ p : Bool → Bool, ((L.take b).map Prod.snd).countP p ≤ (L.map Prod.snd).countP p := fun p => (List.Sublist.map _ (List.take_sublist b L)).countP_le
  have h2 : nF ((L.take b).map Prod.snd) ≤ nF (L.map Prod.snd) := f _
  have h3 : nT ((L.take b).map Prod.snd) ≤ nT (L.map Prod.snd) := f _
  rw [nF_fs L, h.singles hS] at h2
  rw [nT_fs L, h.pairs hB, prs_length, List.length_map] at h3
  omega
theorem spC_ok {wt : Nat → Nat} {ids : List Nat} {L : Nat → List (Nat × Bool)} {m : Nat} (h0 : L 0 = []) (h : ∀ d, d < m → LvC (ids.map wt) (L d) (L (d + 1))) (hS : (ids.map wt).Pairwise (· ≤ ·)) (i : Nat) :
    ∀ d b, d ≤ m → b ≤ (L d).length → (flatP ((pk L (coins wt ids) d).take b)).count i = spC L ids d b i := by
  intro d
  induction d with
  | zero => intro b _ _; simp [pk, spC, flatP]
  | succ d ih =>
    intro b hd hb
    have hl := h d (by omega)
    obtain ⟨k1, k2, k3⟩ := hl.below hS (lv_up h0 h d (by omega)) hb
    rw [List.length_map] at k1
    have hp := (pk_ok h0 h (coins_fst wt ids) hS d (by omega)).2
    have hlen : (pk L (coins wt ids) d).length = (L d).length := by
      have := congrArg List.length hp; rwa [List.length_map, List.length_map] at this
    rw [pk, weave_take, ← List.map_take, spC]
    have hw := weave_perm (((L (d + 1)).take b).map Prod.snd) (coins wt ids) (prsP (pk L (coins wt ids) d)) (by rw [coins, List.length_map]; exact k1) (by
      have := congrArg List.length (prsP_fst (pk L (coins wt ids) d))
      rw [List.length_map, prs_length, List.length_map] at this
      omega)
    rw [(flatP_perm hw).count_eq, flatP_append, List.count_append, k2, prsP_take _ _ (by omega), ih _ (by omega) k3]
    congr 1
    rw [coins, ← List.map_take]
    exact congrArg (List.count i) (flatP_coins wt _)
theorem spC_out {L : Nat → List (Nat × Bool)} {ids : List Nat} {i : Nat} (hi : ¬ i ∈ ids) : ∀ d b, spC L ids d b i = 0
  | 0, _ => rfl
  | d + 1, b => by rw [spC, spC_out hi d, List.count_eq_zero_of_not_mem fun h => hi (List.mem_of_mem_take h)]
/-- the highest level has the coins that are bought of it -/
theorem spent_room {wt : Nat → Nat} {ids : List Nat} {L : Nat → List (Nat × Bool)} {m : Nat} (h0 : L 0 = []) (h : ∀ d, d < m → LvC (ids.map wt) (L d) (L (d + 1))) (hS : (ids.map wt).Pairwise (· ≤ ·))
    (hm0 : 1 ≤ m) (hm : m ≤ 15) (hroom : ids.length ≤ 2 ^ m) : 2 * ids.length - 2 ≤ (L m).length := by
  obtain ⟨h1, h2⟩ := pk_ok h0 h (coins_fst wt ids) hS m (Nat.le_refl _)
  have hlv := h1.lv
  rw [coins_fst, h2] at hlv
  have hflat := packets_le (ids.map wt) _ m hm0 hm hlv ((ids.map wt).map fun f => (f, m)) (by simp [List.map_map, Function.comp_def]) (flat_ok _ m m hm0 (Nat.le_refl _) hm (by rw [List.length_map]; exact hroom))
  rw [List.length_map, List.length_map] at hflat
  have := hflat.1
  omega
/-- what is spent on the levels are the lengths of a code of the least cost -/
theorem spent_best {wt : Nat → Nat} {ids : List Nat} {L : Nat → List (Nat × Bool)} {m : Nat} (h0 : L 0 = []) (h : ∀ d, d < m → LvC (ids.map wt) (L d) (L (d + 1))) (hS : (ids.map wt).Pairwise (· ≤ ·))
    (hn : ids.Nodup) (hw : ∀ i ∈ ids, 0 < wt i) (hm0 : 1 ≤ m) (hm : m ≤ 15) (h2 : 2 ≤ ids.length) (hroom : ids.length ≤ 2 ^ m) : BestP m (ids.map fun i => (wt i, spC L ids m (2 * ids.length - 2) i)) := by
  have hb := packets_best wt ids hn hw m hm0 hm h2 hroom _ (pk_ok h0 h (coins_fst wt ids) hS m (Nat.le_refl _)).1
  have he : lensP wt ids ((pk L (coins wt ids) m).take (2 * ids.length - 2)) = ids.map fun i => (wt i, spC L ids m (2 * ids.length - 2) i) := by
    rw [lensP]
    exact List.map_congr_left fun i _ => by rw [spC_ok h0 h hS i m _ (Nat.le_refl _) (spent_room h0 h hS hm0 hm hroom)]
  rwa [he] at hb
end Go.Proofs.Ythdgfanecfdlkaa
