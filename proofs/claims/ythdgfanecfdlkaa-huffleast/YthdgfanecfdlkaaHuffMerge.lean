/- Plain facts: of codes of the least cost the two rarest may be made one. No Go in sight. -/
import Derived.Test.YthdgfanecfdlkaaHuffOpt
namespace Go.Proofs.Ythdgfanecfdlkaa

theorem has_max (P : List (Nat × Nat)) (h : P ≠ []) : ∃ p ∈ P, ∀ q ∈ P, q.2 ≤ p.2 := by
  induction P with
  | nil => exact absurd rfl h
  | cons a P ih =>
    by_cases e : P = []
    · subst e; exact ⟨a, by simp, fun q hq => by simp at hq; rw [hq]; exact Nat.le_refl _⟩
    · obtain ⟨p, h1, h2⟩ := ih e
      by_cases hle : p.2 ≤ a.2
      · refine ⟨a, by simp, fun q hq => ?_⟩
        rcases List.mem_cons.1 hq with rfl | hq
        · exact Nat.le_refl _
        · exact Nat.le_trans (h2 q hq) hle
      · refine ⟨p, by simp [h1], fun q hq => ?_⟩
        rcases List.mem_cons.1 hq with rfl | hq
        · omega
        · exact h2 q hq
theorem krf_mul (P : List (Nat × Nat)) (L : Nat) (hL : L ≤ 15) (h : ∀ q ∈ P, q.2 ≤ L) : ∃ K, krf P = 2 ^ (15 - L) * K := by
  induction P with
  | nil => exact ⟨0, rfl⟩
  | cons p P ih =>
    obtain ⟨K, hK⟩ := ih fun q hq => h q (by simp [hq])
    have hp := h p (by simp)
    refine ⟨2 ^ (L - p.2) + K, ?_⟩
    simp only [krf, sm] at hK ⊢
    rw [hK, Nat.mul_add, ← Nat.pow_add, show 15 - L + (L - p.2) = 15 - p.2 by omega]
theorem pow_next (L : Nat) (h1 : 1 ≤ L) (h2 : L ≤ 15) : 2 ^ (15 - (L - 1)) = 2 * 2 ^ (15 - L) := by
  rw [show 15 - (L - 1) = 15 - L + 1 by omega, Nat.pow_succ, Nat.mul_comm]
theorem pow_full (L : Nat) (h2 : L ≤ 15) : 2 ^ (15 - L) * 2 ^ L = 32768 := by rw [← Nat.pow_add, show 15 - L + L = 15 by omega]
theorem krf_perm {P Q : List (Nat × Nat)} (h : P.Perm Q) : krf P = krf Q := sm_perm _ h
theorem costP_perm {P Q : List (Nat × Nat)} (h : P.Perm Q) : costP P = costP Q := sm_perm _ h

/-- what is of the least cost leaves no room -/
theorem best_full {most : Nat} (hm : most ≤ 15) {P : List (Nat × Nat)} (hb : BestP most P) (hpos : ∀ p ∈ P, 0 < p.1) (hn : 2 ≤ P.length) : krf P = 32768 := by
  refine Nat.le_antisymm hb.1.room (Nat.le_of_not_lt fun hlt => ?_)
  obtain ⟨p, hp, hmax⟩ := has_max P (by intro e; rw [e] at hn; simp at hn)
  have hl1 := hb.1.lo p hp
  have hl2 := hb.1.hi p hp
  have hR := List.perm_cons_erase hp
  generalize P.erase p = R at hR
  by_cases h1 : p.2 = 1
  · have hall : ∀ q ∈ P, 2 ^ (15 - q.2) = 16384 := fun q hq => by
      have a := hmax q hq
      have b := hb.1.lo q hq
      rw [show q.2 = 1 by omega]
    have : krf P = 16384 * P.length := sm_const _ _ P hall
    omega
  · obtain ⟨K, hK⟩ := krf_mul P p.2 (by omega) hmax
    have hfull := pow_full p.2 (by omega)
    have hKlt : K < 2 ^ p.2 := by
      refine Nat.lt_of_not_le fun hge => ?_
      have : 2 ^ (15 - p.2) * 2 ^ p.2 ≤ 2 ^ (15 - p.2) * K := Nat.mul_le_mul_left _ hge
      omega
    have hstep : krf P + 2 ^ (15 - p.2) ≤ 32768 := by
      have : 2 ^ (15 - p.2) * (K + 1) ≤ 2 ^ (15 - p.2) * 2 ^ p.2 := Nat.mul_le_mul_left _ hKlt
      rw [Nat.mul_add, Nat.mul_one] at this
      omega
    have hB := hb.perm hR
    have hpn := pow_next p.2 hl1 (by omega)
    have hle := hB.2 ((p.1, p.2 - 1) :: R) (by simp) ?_
    · simp only [costP, sm] at hle
      have hp0 := hpos p hp
      have : p.1 * (p.2 - 1) < p.1 * p.2 := Nat.mul_lt_mul_of_pos_left (by omega) hp0
      omega
    · refine ⟨fun x hx => ?_, fun x hx => ?_, ?_⟩
      · rcases List.mem_cons.1 hx with rfl | hx
        · show 1 ≤ p.2 - 1; omega
        · exact hB.1.lo x (by simp [hx])
      · rcases List.mem_cons.1 hx with rfl | hx
        · show p.2 - 1 ≤ most; omega
        · exact hB.1.hi x (by simp [hx])
      · rw [krf_perm hR] at hstep
        simp only [krf, sm] at hstep ⊢
        rw [hpn]
        omega
/-- the longest is not alone -/
theorem full_two {P : List (Nat × Nat)} (hf : krf P = 32768) (h15 : ∀ q ∈ P, q.2 ≤ 15) {p : Nat × Nat} {R : List (Nat × Nat)} (hR : P.Perm (p :: R)) (h1 : 1 ≤ p.2) (hmax : ∀ q ∈ P, q.2 ≤ p.2) : ∃ q ∈ R, q.2 = p.2 := by
  refine Classical.byContradiction fun hno => ?_
  have hp15 := h15 p (hR.mem_iff.2 (by simp))
  have hlt : ∀ q ∈ R, q.2 ≤ p.2 - 1 := fun q hq => by
    have a := hmax q (hR.mem_iff.2 (by simp [hq]))
    have : q.2 ≠ p.2 := fun e => hno ⟨q, hq, e⟩
    omega
  obtain ⟨K, hK⟩ := krf_mul R (p.2 - 1) (by omega) hlt
  have hfull := pow_full p.2 hp15
  rw [krf_perm hR] at hf
  have e : krf (p :: R) = 2 ^ (15 - p.2) + krf R := rfl
  rw [e, hK, pow_next p.2 h1 hp15] at hf
  have hpow : 2 ^ p.2 = 2 * 2 ^ (p.2 - 1) := by rw [show p.2 = p.2 - 1 + 1 by omega, Nat.pow_succ, Nat.add_sub_cancel]; omega
  have hz : 0 < 2 ^ (15 - p.2) := Nat.two_pow_pos _
  have h3 : 2 ^ (15 - p.2) * (1 + 2 * K) = 2 ^ (15 - p.2) * (2 * 2 ^ (p.2 - 1)) := by
    rw [← hpow, hfull, ← hf, Nat.mul_add, Nat.mul_one]
    congr 1
    rw [Nat.mul_comm 2 (2 ^ (15 - p.2)), Nat.mul_assoc]
  have := Nat.eq_of_mul_eq_mul_left hz h3
  omega
/-- a code without room has no length above the number of signs less one -/
theorem full_short (n : Nat) : ∀ P : List (Nat × Nat), P.length = n → 2 ≤ n → krf P = 32768 → (∀ q ∈ P, 1 ≤ q.2 ∧ q.2 ≤ 15) → ∀ q ∈ P, q.2 ≤ n - 1 := by
  induction n with
  | zero => intro P _ h; omega
  | succ n ih =>
    intro P hP hn hf hb
    obtain ⟨p, hp, hmax⟩ := has_max P (by intro e; rw [e] at hP; simp at hP)
    have hR := List.perm_cons_erase hp
    generalize P.erase p = R at hR
    obtain ⟨q, hq, hq2⟩ := full_two hf (fun x hx => (hb x hx).2) hR (hb p hp).1 hmax
    have hS := List.perm_cons_erase hq
    generalize R.erase q = S at hS
    have hPS : P.Perm (p :: q :: S) := hR.trans (hS.cons p)
    have hlen := hPS.length_eq
    simp only [List.length_cons] at hlen
    suffices hpp : p.2 ≤ n by
      intro x hx; have := hmax x hx; omega
    by_cases h1 : p.2 = 1
    · omega
    · have hbp := hb p hp
      by_cases h2 : n = 1
      · have hS0 : S = [] := List.length_eq_zero_iff.1 (by omega)
        subst hS0
        rw [krf_perm hPS] at hf
        have e : krf [p, q] = 2 ^ (15 - p.2) + (2 ^ (15 - q.2) + 0) := rfl
        rw [e, hq2] at hf
        have : 2 ^ (15 - p.2) ≤ 2 ^ 13 := Nat.pow_le_pow_right (by decide) (by omega)
        omega
      · have := ih ((0, p.2 - 1) :: S) (by simp; omega) (by omega) ?_ ?_ (0, p.2 - 1) (by simp)
        · simp at this; omega
        · rw [krf_perm hPS] at hf
          simp only [krf, sm] at hf ⊢
          rw [hq2] at hf
          rw [pow_next p.2 hbp.1 hbp.2]
          omega
        · intro x hx
          rcases List.mem_cons.1 hx with rfl | hx
          · exact ⟨by show 1 ≤ p.2 - 1; omega, by show p.2 - 1 ≤ 15; omega⟩
          · exact hb x (hPS.mem_iff.2 (by simp [hx]))

/-- a pair with a given first, put ahead -/
theorem first_ahead {P : List (Nat × Nat)} {a : Nat} {ws : List Nat} (h : (P.map Prod.fst).Perm (a :: ws)) : ∃ l R, P.Perm ((a, l) :: R) ∧ (R.map Prod.fst).Perm ws := by
  have ha : a ∈ P.map Prod.fst := h.mem_iff.2 (by simp)
  obtain ⟨p, hp, hpa⟩ := List.mem_map.1 ha
  refine ⟨p.2, P.erase p, ?_, ?_⟩
  · have := List.perm_cons_erase hp
    rw [← hpa]; exact this
  · have h1 := (List.perm_cons_erase hp).map Prod.fst
    have h2 : (a :: ws).Perm (a :: (P.erase p).map Prod.fst) := by
      have := h.symm.trans h1
      simp only [List.map_cons, hpa] at this
      exact this
    exact ((List.perm_cons a).1 h2).symm
/-- the rarest may have the longest -/
theorem rare_long (P : List (Nat × Nat)) (x L : Nat) (ws ls : List Nat) (h1 : (P.map Prod.fst).Perm (x :: ws)) (h2 : (P.map Prod.snd).Perm (L :: ls)) (hx : ∀ v ∈ ws, x ≤ v) (hL : ∀ v ∈ ls, v ≤ L) :
    ∃ R, (R.map Prod.fst).Perm ws ∧ (R.map Prod.snd).Perm ls ∧ x * L + costP R ≤ costP P := by
  obtain ⟨lx, Q, hQ, hQw⟩ := first_ahead h1
  have hs := hQ.map Prod.snd
  simp only [List.map_cons] at hs
  have h3 : (lx :: Q.map Prod.snd).Perm (L :: ls) := hs.symm.trans h2
  by_cases e : lx = L
  · subst e
    refine ⟨Q, hQw, (List.perm_cons _).1 h3, ?_⟩
    rw [costP_perm hQ]; simp [costP, sm]
  · have hLm : L ∈ Q.map Prod.snd := by
      have := h3.mem_iff.2 (show L ∈ L :: ls by simp)
      rcases List.mem_cons.1 this with h | h
      · exact absurd h.symm e
      · exact h
    obtain ⟨q, hq, hqL⟩ := List.mem_map.1 hLm
    have hS := List.perm_cons_erase hq
    generalize Q.erase q = S at hS
    have hSw := hS.map Prod.fst
    have hSs := hS.map Prod.snd
    simp only [List.map_cons] at hSw hSs
    have hxq : x ≤ q.1 := hx q.1 ((hQw.symm.trans hSw).mem_iff.2 (by simp))
    have hll : lx ≤ L := by
      have := h3.mem_iff.1 (show lx ∈ lx :: Q.map Prod.snd by simp)
      rcases List.mem_cons.1 this with h | h
      · omega
      · exact hL lx h
    refine ⟨(q.1, lx) :: S, ?_, ?_, ?_⟩
    · simp only [List.map_cons]
      exact (hQw.symm.trans hSw).symm
    · simp only [List.map_cons]
      have h4 : (lx :: L :: S.map Prod.snd).Perm (L :: ls) := by
        have := (hSs.cons lx).symm.trans h3
        rw [hqL] at this
        exact this
      have h5 : (L :: lx :: S.map Prod.snd).Perm (L :: ls) := (List.Perm.swap lx L _).trans h4
      exact (List.perm_cons L).1 h5
    · rw [costP_perm (hQ.trans (hS.cons _))]
      simp only [costP, sm]
      rw [hqL]
      have := swap_le q.1 x L lx hxq hll
      omega
theorem krf_snd (P : List (Nat × Nat)) : krf P = sm (fun l => 2 ^ (15 - l)) (P.map Prod.snd) := by rw [sm_map]; rfl

/-- the two rarest may be made one -/
theorem opt_merge (a b : Nat) (ws : List Nat) (c c' : Nat) (hb : ∀ v ∈ ws, b ≤ v) (hab : a ≤ b) (ha : 0 < a) (hn1 : 1 ≤ ws.length) (hn2 : ws.length ≤ 14)
    (h : Opt (a :: b :: ws) 15 c) (h' : Opt ((a + b) :: ws) 15 c') : c = c' + a + b := by
  have hpos : ∀ v ∈ ws, 0 < v := fun v hv => by have := hb v hv; omega
  apply Nat.le_antisymm
  · obtain ⟨P, p1, p2, p3⟩ := h'.best
    have hlen := p1.length_eq
    simp only [List.length_map, List.length_cons] at hlen
    have hfull := best_full (Nat.le_refl _) p2 (fun p hp => by
      have := p1.mem_iff.1 (List.mem_map.2 ⟨p, hp, rfl⟩)
      rcases List.mem_cons.1 this with e | e
      · rw [e]; omega
      · exact hpos _ e) (by omega)
    have hshort := full_short P.length P rfl (by omega) hfull (fun q hq => ⟨p2.1.lo q hq, p2.1.hi q hq⟩)
    obtain ⟨l, R, hR, hRw⟩ := first_ahead p1
    have hl := hshort (a + b, l) (hR.mem_iff.2 (by simp))
    have hl1 := p2.1.lo (a + b, l) (hR.mem_iff.2 (by simp))
    simp only at hl hl1
    have hle := h.least ((a, l + 1) :: (b, l + 1) :: R) (by simp only [List.map_cons]; exact (hRw.cons b).cons a) ?_
    · rw [costP_perm hR] at p3
      simp only [costP, sm, Nat.mul_add, Nat.add_mul] at hle p3
      omega
    · refine ⟨fun x hx => ?_, fun x hx => ?_, ?_⟩
      · rcases List.mem_cons.1 hx with rfl | hx
        · show 1 ≤ l + 1; omega
        · rcases List.mem_cons.1 hx with rfl | hx
          · show 1 ≤ l + 1; omega
          · exact p2.1.lo x (hR.mem_iff.2 (by simp [hx]))
      · rcases List.mem_cons.1 hx with rfl | hx
        · show l + 1 ≤ 15; omega
        · rcases List.mem_cons.1 hx with rfl | hx
          · show l + 1 ≤ 15; omega
          · exact p2.1.hi x (hR.mem_iff.2 (by simp [hx]))
      · rw [krf_perm hR] at hfull
        have hp := pow_next (l + 1) (by omega) (by omega)
        rw [Nat.add_sub_cancel] at hp
        simp only [krf, sm] at hfull ⊢
        omega
  · obtain ⟨P, p1, p2, p3⟩ := h.best
    have hlen := p1.length_eq
    simp only [List.length_map, List.length_cons] at hlen
    have hfull := best_full (Nat.le_refl _) p2 (fun p hp => by
      have := p1.mem_iff.1 (List.mem_map.2 ⟨p, hp, rfl⟩)
      rcases List.mem_cons.1 this with e | e
      · rw [e]; exact ha
      · rcases List.mem_cons.1 e with e | e
        · rw [e]; omega
        · exact hpos _ e) (by omega)
    obtain ⟨p, hp, hmax⟩ := has_max P (by intro e; rw [e] at hlen; simp at hlen)
    have hpl := p2.1.lo p hp
    have hph := p2.1.hi p hp
    have hR := List.perm_cons_erase hp
    generalize P.erase p = R at hR
    obtain ⟨q, hq, hq2⟩ := full_two hfull (fun x hx => p2.1.hi x hx) hR hpl hmax
    have hS := List.perm_cons_erase hq
    generalize R.erase q = S at hS
    have hsnd : (P.map Prod.snd).Perm (p.2 :: p.2 :: S.map Prod.snd) := by
      have := (hR.trans (hS.cons p)).map Prod.snd
      simp only [List.map_cons, hq2] at this
      exact this
    have hmx : ∀ v ∈ p.2 :: S.map Prod.snd, v ≤ p.2 := fun v hv => by
      have hv' : v ∈ P.map Prod.snd := hsnd.mem_iff.2 (List.mem_cons_of_mem _ hv)
      obtain ⟨x, hx, rfl⟩ := List.mem_map.1 hv'
      exact hmax x hx
    obtain ⟨R1, r1, r2, r3⟩ := rare_long P a p.2 (b :: ws) (p.2 :: S.map Prod.snd) p1 hsnd (fun v hv => by
      rcases List.mem_cons.1 hv with rfl | hv
      · exact hab
      · have := hb v hv; omega) hmx
    obtain ⟨R2, s1, s2, s3⟩ := rare_long R1 b p.2 ws (S.map Prod.snd) r1 r2 hb (fun v hv => hmx v (List.mem_cons_of_mem _ hv))
    have hkr : krf P = 2 ^ (15 - p.2) + (2 ^ (15 - p.2) + krf R2) := by
      rw [krf_snd, sm_perm _ hsnd, krf_snd R2, sm_perm _ s2]; rfl
    have hL2 : 2 ≤ p.2 := by
      refine Nat.le_of_not_lt fun hlt => ?_
      have hall : ∀ x ∈ P, 2 ^ (15 - x.2) = 16384 := fun x hx => by
        have u := hmax x hx
        have v := p2.1.lo x hx
        rw [show x.2 = 1 by omega]
      have : krf P = 16384 * P.length := sm_const _ _ P hall
      omega
    have hle := h'.least ((a + b, p.2 - 1) :: R2) (by simp only [List.map_cons]; exact s1.cons _) ?_
    · simp only [costP, sm] at hle r3 s3 p3
      have e1 : (a + b) * (p.2 - 1) + (a + b) = (a + b) * p.2 := by
        obtain ⟨t, ht⟩ : ∃ t, p.2 = t + 1 := ⟨p.2 - 1, by omega⟩
        rw [ht, Nat.add_sub_cancel, Nat.mul_add, Nat.mul_one]
      rw [Nat.add_mul a b p.2] at e1
      omega
    · have hsub : ∀ x ∈ R2, ∃ y ∈ P, y.2 = x.2 := fun x hx => by
        have h1 : x.2 ∈ S.map Prod.snd := s2.mem_iff.1 (List.mem_map.2 ⟨x, hx, rfl⟩)
        have h2 : x.2 ∈ P.map Prod.snd := hsnd.mem_iff.2 (List.mem_cons_of_mem _ (List.mem_cons_of_mem _ h1))
        obtain ⟨y, hy, hyx⟩ := List.mem_map.1 h2
        exact ⟨y, hy, hyx⟩
      refine ⟨fun x hx => ?_, fun x hx => ?_, ?_⟩
      · rcases List.mem_cons.1 hx with rfl | hx
        · show 1 ≤ p.2 - 1; omega
        · obtain ⟨y, hy, hyx⟩ := hsub x hx
          rw [← hyx]; exact p2.1.lo y hy
      · rcases List.mem_cons.1 hx with rfl | hx
        · show p.2 - 1 ≤ 15; omega
        · obtain ⟨y, hy, hyx⟩ := hsub x hx
          rw [← hyx]; exact p2.1.hi y hy
      · have hp := pow_next p.2 hpl hph
        have e : krf ((a + b, p.2 - 1) :: R2) = 2 ^ (15 - (p.2 - 1)) + krf R2 := rfl
        rw [e, hp]
        omega
end Go.Proofs.Ythdgfanecfdlkaa
