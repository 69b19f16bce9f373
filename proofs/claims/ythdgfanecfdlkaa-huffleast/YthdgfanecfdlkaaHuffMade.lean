/- Plain facts: how often each sign is in the first 2n-2 packets are lengths of a code. No Go in sight. -/
import Derived.Test.YthdgfanecfdlkaaHuffPackets
namespace Go.Proofs.Ythdgfanecfdlkaa

theorem count_once {l : List Nat} (h : l.Nodup) {i : Nat} (hi : i ∈ l) : l.count i = 1 := by
  induction l with
  | nil => cases hi
  | cons a l ih =>
    obtain ⟨h1, h2⟩ := List.nodup_cons.1 h
    rcases List.mem_cons.1 hi with rfl | hi
    · rw [List.count_cons_self, List.count_eq_zero_of_not_mem h1]
    · rw [List.count_cons_of_ne (by intro e; rw [e] at h1; exact h1 hi)]
      exact ih h2 hi
/-- packets: what they weigh, and whose coins they are made of -/
def flatP (T : List (Nat × List Nat)) : List Nat := T.flatMap Prod.snd
def coins (wt : Nat → Nat) (ids : List Nat) : List (Nat × List Nat) := ids.map fun i => (wt i, [i])
def prsP : List (Nat × List Nat) → List (Nat × List Nat)
  | a :: b :: l => (a.1 + b.1, a.2 ++ b.2) :: prsP l
  | _ => []
def LvP (C : List (Nat × List Nat)) : Nat → List (Nat × List Nat) → Prop
  | 0, Q => Q = []
  | d + 1, Q => ∃ Q', LvP C d Q' ∧ Q.Pairwise (fun a b => a.1 ≤ b.1) ∧ Q.Perm (C ++ prsP Q')
theorem LvP.zero {C : List (Nat × List Nat)} : LvP C 0 [] := rfl
theorem LvP.succ {C : List (Nat × List Nat)} {d : Nat} {Q Q' : List (Nat × List Nat)} (h : LvP C d Q') (hs : Q.Pairwise (fun a b => a.1 ≤ b.1)) (hp : Q.Perm (C ++ prsP Q')) : LvP C (d + 1) Q := ⟨Q', h, hs, hp⟩
theorem LvP.ind {C : List (Nat × List Nat)} {motive : (d : Nat) → (Q : List (Nat × List Nat)) → LvP C d Q → Prop} (zero : motive 0 [] LvP.zero)
    (succ : ∀ {d : Nat} {Q Q' : List (Nat × List Nat)} (h : LvP C d Q') (hs : Q.Pairwise (fun a b => a.1 ≤ b.1)) (hp : Q.Perm (C ++ prsP Q')), motive d Q' h → motive (d + 1) Q (LvP.succ h hs hp)) {d : Nat} {Q : List (Nat × List Nat)} (h : LvP C d Q) : motive d Q h := by
  induction d generalizing Q with
  | zero => cases (show Q = [] from h); exact zero
  | succ d ih =>
    obtain ⟨Q', h1, h2, h3⟩ := h
    exact succ h1 h2 h3 (ih h1)
theorem prsP_fst (l : List (Nat × List Nat)) : (prsP l).map Prod.fst = prs (l.map Prod.fst) := by
  match l with
  | [] => rfl
  | [_] => simp [prsP, prs]
  | a :: b :: l => simp only [prsP, List.map_cons, prs, prsP_fst l]
theorem LvP.lv {C : List (Nat × List Nat)} {d : Nat} {Q : List (Nat × List Nat)} (h : LvP C d Q) : Lv (C.map Prod.fst) d (Q.map Prod.fst) := by
  induction h using LvP.ind with
  | zero => exact Lv.zero
  | succ h hs hp ih =>
    refine Lv.succ ih (List.pairwise_map.2 hs) ?_
    have := hp.map Prod.fst
    rwa [List.map_append, prsP_fst] at this
theorem flatP_append (S T : List (Nat × List Nat)) : flatP (S ++ T) = flatP S ++ flatP T := by simp [flatP]
theorem flatP_perm {S T : List (Nat × List Nat)} (h : S.Perm T) : (flatP S).Perm (flatP T) := by
  unfold flatP
  induction h with
  | nil => exact List.Perm.refl _
  | cons a _ ih => simp only [List.flatMap_cons]; exact ih.append_left _
  | swap a b l =>
    simp only [List.flatMap_cons]
    rw [← List.append_assoc, ← List.append_assoc]
    exact List.perm_append_comm.append_right _
  | trans _ _ h1 h2 => exact h1.trans h2
theorem flatP_coins (wt : Nat → Nat) (ids : List Nat) : flatP (coins wt ids) = ids := by
  induction ids with
  | nil => rfl
  | cons i ids ih => simp only [coins, flatP, List.map_cons, List.flatMap_cons] at ih ⊢; rw [ih]; rfl
/-- what is parted in two ways is parted in four -/
theorem part4 {α : Type} [DecidableEq α] (C : List α) : ∀ T R X : List α, (T ++ R).Perm (C ++ X) → ∃ TC TX RC RX, T.Perm (TC ++ TX) ∧ R.Perm (RC ++ RX) ∧ C.Perm (TC ++ RC) ∧ X.Perm (TX ++ RX) := by
  induction C with
  | nil => intro T R X h; exact ⟨[], T, [], R, List.Perm.refl _, List.Perm.refl _, List.Perm.refl _, h.symm⟩
  | cons c C ih =>
    intro T R X h
    have hc : c ∈ T ++ R := h.mem_iff.2 (by simp)
    rcases List.mem_append.1 hc with hc | hc
    · have hp := List.perm_cons_erase hc
      generalize T.erase c = T' at hp
      have h2 : (T' ++ R).Perm (C ++ X) := (List.perm_cons c).1 ((hp.append_right R).symm.trans h)
      obtain ⟨TC, TX, RC, RX, a1, a2, a3, a4⟩ := ih T' R X h2
      exact ⟨c :: TC, TX, RC, RX, hp.trans (a1.cons c), a2, a3.cons c, a4⟩
    · have hp := List.perm_cons_erase hc
      generalize R.erase c = R' at hp
      have h2 : (T ++ R').Perm (C ++ X) := by
        have h3 : (T ++ R).Perm (c :: (T ++ R')) := (hp.append_left T).trans List.perm_middle
        exact (List.perm_cons c).1 (h3.symm.trans h)
      obtain ⟨TC, TX, RC, RX, a1, a2, a3, a4⟩ := ih T R' X h2
      exact ⟨TC, TX, c :: RC, RX, a1, hp.trans (a2.cons c), (a3.cons c).trans List.perm_middle.symm, a4⟩
/-- whose pairs are taken are taken themselves, and are no heavier than the others -/
theorem unpair (Q : List (Nat × List Nat)) : ∀ TX RX : List (Nat × List Nat), Q.Pairwise (fun a b => a.1 ≤ b.1) → (TX ++ RX).Perm (prsP Q) → (∀ t ∈ TX, ∀ r ∈ RX, t.1 ≤ r.1) →
    ∃ T R, (T ++ R).Perm Q ∧ (flatP T).Perm (flatP TX) ∧ T.length = 2 * TX.length ∧ (∀ t ∈ T, ∀ r ∈ R, t.1 ≤ r.1) ∧ (∀ t ∈ T, ∃ x ∈ TX, ∃ u ∈ Q, x.1 = t.1 + u.1) := by
  intro TX RX hs hp hd
  match Q with
  | [] =>
    have h1 : TX = [] := by
      have := hp.length_eq
      rw [prsP, List.length_append, List.length_nil] at this
      exact List.length_eq_zero_iff.1 (by omega)
      all_goals simp
    rw [h1]
    exact ⟨[], [], List.Perm.refl _, List.Perm.refl _, rfl, fun t ht => (by simp at ht), fun t ht => (by simp at ht)⟩
  | [q] =>
    have h1 : TX = [] := by
      have := hp.length_eq
      rw [show prsP [q] = [] by simp [prsP], List.length_append, List.length_nil] at this
      exact List.length_eq_zero_iff.1 (by omega)
    rw [h1]
    exact ⟨[], [q], List.Perm.refl _, List.Perm.refl _, rfl, fun t ht => (by simp at ht), fun t ht => (by simp at ht)⟩
  | a :: b :: Q1 =>
    obtain ⟨ha, hs1⟩ := List.pairwise_cons.1 hs
    obtain ⟨hb, hs2⟩ := List.pairwise_cons.1 hs1
    have hab := ha b (by simp)
    have hmem : (a.1 + b.1, a.2 ++ b.2) ∈ TX ++ RX := hp.mem_iff.2 (by simp [prsP])
    rcases List.mem_append.1 hmem with hm | hm
    · have hE := List.perm_cons_erase hm
      generalize TX.erase (a.1 + b.1, a.2 ++ b.2) = TX' at hE
      have h2 : (TX' ++ RX).Perm (prsP Q1) := (List.perm_cons _).1 ((hE.append_right RX).symm.trans hp)
      obtain ⟨T, R, p1, p2, p3, p4, p5⟩ := unpair Q1 TX' RX hs2 h2 (fun t ht r hr => hd t (hE.mem_iff.2 (by simp [ht])) r hr)
      refine ⟨a :: b :: T, R, (p1.cons b).cons a, ?_, ?_, ?_, ?_⟩
      · refine List.Perm.trans ?_ (flatP_perm hE).symm
        simp only [flatP, List.flatMap_cons, List.append_assoc] at p2 ⊢
        exact (p2.append_left _).append_left _
      · have := hE.length_eq
        simp only [List.length_cons] at this ⊢
        omega
      · intro t ht r hr
        have hrQ : r ∈ Q1 := p1.mem_iff.1 (List.mem_append.2 (.inr hr))
        rcases List.mem_cons.1 ht with rfl | ht
        · exact ha r (by simp [hrQ])
        · rcases List.mem_cons.1 ht with rfl | ht
          · exact hb r hrQ
          · exact p4 t ht r hr
      · intro t ht
        rcases List.mem_cons.1 ht with rfl | ht
        · exact ⟨_, hm, b, by simp, rfl⟩
        · rcases List.mem_cons.1 ht with rfl | ht
          · exact ⟨_, hm, a, by simp, by show a.1 + t.1 = t.1 + a.1; omega⟩
          · obtain ⟨x, hx, u, hu, e⟩ := p5 t ht
            exact ⟨x, hE.mem_iff.2 (by simp [hx]), u, by simp [hu], e⟩
    · have hE := List.perm_cons_erase hm
      have hd' := hd
      generalize RX.erase (a.1 + b.1, a.2 ++ b.2) = RX' at hE
      have h2 : (TX ++ RX').Perm (prsP Q1) := by
        have h3 : (TX ++ RX).Perm ((a.1 + b.1, a.2 ++ b.2) :: (TX ++ RX')) := (hE.append_left TX).trans List.perm_middle
        exact (List.perm_cons _).1 (h3.symm.trans hp)
      obtain ⟨T, R, p1, p2, p3, p4, p5⟩ := unpair Q1 TX RX' hs2 h2 (fun t ht r hr => hd t ht r (hE.mem_iff.2 (by simp [hr])))
      refine ⟨T, a :: b :: R, ?_, p2, p3, ?_, ?_⟩
      · exact (List.perm_middle.trans (List.perm_middle.cons a)).trans ((p1.cons b).cons a)
      · intro t ht r hr
        have htQ : t ∈ Q1 := p1.mem_iff.1 (List.mem_append.2 (.inl ht))
        obtain ⟨x, hx, u, hu, e⟩ := p5 t ht
        have h3 := hd x hx _ hm
        have h4 := hb u hu
        simp only at h3
        rcases List.mem_cons.1 hr with rfl | hr
        · omega
        · rcases List.mem_cons.1 hr with rfl | hr
          · omega
          · exact p4 t ht r hr
      · intro t ht
        obtain ⟨x, hx, u, hu, e⟩ := p5 t ht
        exact ⟨x, hx, u, by simp [hu], e⟩
/-- a packet weighs what its signs do -/
structure Inv (wt : Nat → Nat) (ids : List Nat) (q : Nat × List Nat) : Prop where
  sum : q.1 = sm wt q.2
  sub : ∀ i ∈ q.2, i ∈ ids
  pos : 0 < q.1
theorem inv_pairs (wt : Nat → Nat) (ids : List Nat) (Q : List (Nat × List Nat)) (h : ∀ q ∈ Q, Inv wt ids q) : ∀ q ∈ prsP Q, Inv wt ids q ∧ ∀ i ∈ q.2, wt i < q.1 := by
  match Q with
  | [] => intro q hq; simp [prsP] at hq
  | [_] => intro q hq; simp [prsP] at hq
  | a :: b :: Q1 =>
    intro q hq
    have ha := h a (by simp)
    have hb := h b (by simp)
    rw [prsP] at hq
    rcases List.mem_cons.1 hq with rfl | hq
    · refine ⟨⟨?_, fun i hi => ?_, ?_⟩, fun i hi => ?_⟩
      · show a.1 + b.1 = sm wt (a.2 ++ b.2)
        rw [sm_append, ← ha.sum, ← hb.sum]
      · rcases List.mem_append.1 hi with hi | hi
        · exact ha.sub i hi
        · exact hb.sub i hi
      · show 0 < a.1 + b.1
        have := ha.pos
        omega
      · show wt i < a.1 + b.1
        have h1 := ha.pos
        have h2 := hb.pos
        rcases List.mem_append.1 hi with hi | hi
        · have h3 := sm_mem wt a.2 i hi
          rw [← ha.sum] at h3
          omega
        · have h3 := sm_mem wt b.2 i hi
          rw [← hb.sum] at h3
          omega
    · exact inv_pairs wt ids Q1 (fun q hq => h q (by simp [hq])) q hq
theorem inv_lv (wt : Nat → Nat) (ids : List Nat) (hw : ∀ i ∈ ids, 0 < wt i) {d : Nat} {Q : List (Nat × List Nat)} (h : LvP (coins wt ids) d Q) : ∀ q ∈ Q, Inv wt ids q := by
  induction h using LvP.ind with
  | zero => intro q hq; simp at hq
  | succ h hs hp ih =>
    intro q hq
    rcases List.mem_append.1 (hp.mem_iff.1 hq) with hq | hq
    · obtain ⟨i, hi, rfl⟩ := List.mem_map.1 hq
      exact ⟨by simp [sm], fun j hj => by simp at hj; rw [hj]; exact hi, hw i hi⟩
    · exact (inv_pairs wt ids _ ih q hq).1
theorem LvP.sorted {C : List (Nat × List Nat)} {d : Nat} {Q : List (Nat × List Nat)} (h : LvP C d Q) : Q.Pairwise (fun a b => a.1 ≤ b.1) := by
  induction h using LvP.ind with
  | zero => exact List.Pairwise.nil
  | succ _ hs _ _ => exact hs
/-- of the lightest packets each sign is in as many as its length may be, and the room is met -/
theorem made (wt : Nat → Nat) (ids : List Nat) (hn : ids.Nodup) (hw : ∀ i ∈ ids, 0 < wt i) {d : Nat} {Q : List (Nat × List Nat)} (h : LvP (coins wt ids) d Q) :
    ∀ T R, (T ++ R).Perm Q → (∀ t ∈ T, ∀ r ∈ R, t.1 ≤ r.1) → (∀ i ∈ ids, (flatP T).count i ≤ d) ∧ 2 * sm (fun i => 2 ^ (d - (flatP T).count i)) ids + T.length * 2 ^ d = 2 * ids.length * 2 ^ d := by
  induction h using LvP.ind with
  | zero =>
    intro T R hp _
    have : T = [] := by
      have := hp.length_eq
      rw [List.length_append, List.length_nil] at this
      exact List.length_eq_zero_iff.1 (by omega)
    subst this
    refine ⟨fun i _ => by simp [flatP], ?_⟩
    rw [sm_const _ 1 ids (fun i _ => by simp [flatP])]
    simp
  | @succ d Q Q' h hs hp ih =>
    intro T R hTR hd
    have hinv' := inv_lv wt ids hw h
    obtain ⟨TC, TX, RC, RX, a1, a2, a3, a4⟩ := part4 (coins wt ids) T R (prsP Q') (hTR.trans hp)
    obtain ⟨T', R', b1, b2, b3, b4, _⟩ := unpair Q' TX RX h.sorted a4.symm (fun t ht r hr => hd t (a1.mem_iff.2 (by simp [ht])) r (a2.mem_iff.2 (by simp [hr])))
    obtain ⟨i1, i2⟩ := ih T' R' b1 b4
    -- coins that are taken, coins that are not
    have hids : ids.Perm (flatP TC ++ flatP RC) := by
      have := flatP_perm a3
      rw [flatP_coins, flatP_append] at this
      exact this
    have hcnt : ∀ i, (flatP T).count i = (flatP TC).count i + (flatP T').count i := by
      intro i
      rw [(flatP_perm a1).count_eq, flatP_append, List.count_append, b2.count_eq]
    have hone : ∀ i ∈ ids, (flatP TC).count i + (flatP RC).count i = 1 := by
      intro i hi
      rw [← List.count_append, ← hids.count_eq]
      exact count_once hn hi
    have hup : ∀ i ∈ ids, 0 < (flatP T').count i → (flatP TC).count i = 1 := by
      intro i hi hc
      rw [b2.count_eq] at hc
      have hm : i ∈ flatP TX := List.count_pos_iff.1 hc
      obtain ⟨x, hx, hix⟩ := List.mem_flatMap.1 hm
      have hlt := (inv_pairs wt ids Q' hinv' x (a4.mem_iff.2 (by simp [hx]))).2 i hix
      have h1 := hone i hi
      refine Classical.byContradiction fun hno => ?_
      have hr : 0 < (flatP RC).count i := by omega
      obtain ⟨r, hr, hir⟩ := List.mem_flatMap.1 (List.count_pos_iff.1 hr)
      have hrc : r ∈ coins wt ids := a3.mem_iff.2 (by simp [hr])
      obtain ⟨j, hj, rfl⟩ := List.mem_map.1 hrc
      simp at hir
      subst hir
      have := hd x (a1.mem_iff.2 (by simp [hx])) (wt i, [i]) (a2.mem_iff.2 (by simp [hr]))
      simp only at this
      omega
    refine ⟨fun i hi => ?_, ?_⟩
    · have h1 := i1 i hi
      have h2 := hone i hi
      rw [hcnt]; omega
    · have key : sm (fun i => 2 ^ (d + 1 - (flatP T).count i)) ids + (flatP TC).length * 2 ^ d = sm (fun i => 2 ^ (d - (flatP T').count i)) ids + ids.length * 2 ^ d := by
        have h3 : sm (fun i => 2 ^ (d + 1 - (flatP T).count i)) ids + sm (fun i => (flatP TC).count i * 2 ^ d) ids = sm (fun i => 2 ^ (d - (flatP T').count i)) ids + sm (fun _ => 2 ^ d) ids := by
          have : ∀ l : List Nat, (∀ i ∈ l, i ∈ ids) → sm (fun i => 2 ^ (d + 1 - (flatP T).count i)) l + sm (fun i => (flatP TC).count i * 2 ^ d) l = sm (fun i => 2 ^ (d - (flatP T').count i)) l + sm (fun _ => 2 ^ d) l := by
            intro l
            induction l with
            | nil => intro _; rfl
            | cons i l ihl =>
              intro hl
              have h4 := ihl fun j hj => hl j (by simp [hj])
              have hi := hl i (by simp)
              have h5 := hone i hi
              have h6 := hup i hi
              have h7 := hcnt i
              have h8 : 2 ^ (d + 1 - (flatP T).count i) + (flatP TC).count i * 2 ^ d = 2 ^ (d - (flatP T').count i) + 2 ^ d := by
                rcases (by omega : (flatP TC).count i = 1 ∨ (flatP TC).count i = 0) with e | e
                · rw [h7, e, Nat.one_mul, show d + 1 - (1 + (flatP T').count i) = d - (flatP T').count i by omega]
                · have e2 : (flatP T').count i = 0 := by
                    refine Nat.eq_zero_of_not_pos fun hpos => ?_
                    have := h6 hpos
                    omega
                  rw [h7, e, e2, Nat.zero_mul, Nat.sub_zero, Nat.sub_zero, Nat.pow_succ]
                  omega
              simp only [sm]
              omega
          exact this ids fun i hi => hi
        have h9 : sm (fun i => (flatP TC).count i * 2 ^ d) ids = (flatP TC).length * 2 ^ d := by
          have hcount : ∀ l : List Nat, sm (fun i => l.count i) ids = (l.filter fun j => decide (j ∈ ids)).length := by
            intro l
            induction l with
            | nil => rw [sm_const (fun i => List.count i []) 0 ids (fun i _ => by simp)]; simp
            | cons j l ihl =>
              have h10 : sm (fun i => (j :: l).count i) ids = sm (fun i => l.count i) ids + ids.count j := by
                have : ∀ m : List Nat, sm (fun i => (j :: l).count i) m = sm (fun i => l.count i) m + m.count j := by
                  intro m
                  induction m with
                  | nil => rfl
                  | cons k m ihm =>
                    rw [sm, sm, ihm]
                    by_cases e : k = j
                    · rw [e, List.count_cons_self, List.count_cons_self]; omega
                    · rw [List.count_cons_of_ne (fun h => e h.symm), List.count_cons_of_ne e]; omega
                exact this ids
              rw [h10, ihl]
              by_cases hj : j ∈ ids
              · rw [count_once hn hj]; simp [hj]
              · rw [List.count_eq_zero_of_not_mem hj]; simp [hj]
          have hall : (flatP TC).filter (fun j => decide (j ∈ ids)) = flatP TC := by
            refine List.filter_eq_self.2 fun j hj => decide_eq_true ?_
            exact hids.mem_iff.2 (by simp [hj])
          have hmul : ∀ m : List Nat, sm (fun i => (flatP TC).count i * 2 ^ d) m = sm (fun i => (flatP TC).count i) m * 2 ^ d := by
            intro m
            induction m with
            | nil => simp [sm]
            | cons k m ihm => simp only [sm, ihm, Nat.add_mul]
          rw [hmul, hcount, hall]
        rw [sm_const (fun _ => 2 ^ d) (2 ^ d) ids (fun _ _ => rfl), Nat.mul_comm (2 ^ d)] at h3
        omega
      have hTC : (flatP TC).length = TC.length := by
        have hsub : ∀ c ∈ TC, c.2.length = 1 := fun c hc => by
          have : c ∈ coins wt ids := a3.mem_iff.2 (by simp [hc])
          obtain ⟨i, _, rfl⟩ := List.mem_map.1 this
          rfl
        clear hone hup hcnt hids key a1 a3
        induction TC with
        | nil => rfl
        | cons c TC ihc =>
          have h1 := ihc fun x hx => hsub x (by simp [hx])
          have h2 := hsub c (by simp)
          simp only [flatP, List.flatMap_cons, List.length_append, List.length_cons] at h1 ⊢
          omega
      have hlenT := a1.length_eq
      rw [List.length_append] at hlenT
      rw [hTC] at key
      rw [b3] at i2
      have hp2 : 2 ^ (d + 1) = 2 * 2 ^ d := by rw [Nat.pow_succ, Nat.mul_comm]
      rw [hp2, hlenT]
      generalize sm (fun i => 2 ^ (d + 1 - (flatP T).count i)) ids = A at *
      generalize sm (fun i => 2 ^ (d - (flatP T').count i)) ids = B at *
      generalize 2 ^ d = z at *
      have e1 : (TC.length + TX.length) * (2 * z) = 2 * (TC.length * z) + 2 * (TX.length * z) := by
        rw [Nat.add_mul, Nat.mul_left_comm, Nat.mul_left_comm TX.length]
      have e2 : 2 * ids.length * (2 * z) = 4 * (ids.length * z) := by
        rw [Nat.mul_assoc, Nat.mul_left_comm ids.length 2 z]; omega
      have e3 : 2 * TX.length * z = 2 * (TX.length * z) := Nat.mul_assoc _ _ _
      have e4 : 2 * ids.length * z = 2 * (ids.length * z) := Nat.mul_assoc _ _ _
      rw [e1, e2]
      rw [e3, e4] at i2
      omega
end Go.Proofs.Ythdgfanecfdlkaa
