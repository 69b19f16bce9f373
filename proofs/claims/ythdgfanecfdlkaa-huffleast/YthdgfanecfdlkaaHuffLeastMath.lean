/- Plain facts: level by level, as linenref.Least goes, the least cost is found. No Go in sight. -/
import Derived.Test.YthdgfanecfdlkaaHuffMerge
namespace Go.Proofs.Ythdgfanecfdlkaa

def nv : Nat := 1152921504606846976
/-- what signs from k on come together -/
def leftW (w : List Nat) (k : Nat) : Nat := sm (fun f => f) (w.drop k)
/-- the least of the first m of g, and never -/
def mF (g : Nat → Nat) : Nat → Nat
  | 0 => nv
  | m + 1 => min (mF g m) (g m)
theorem mF_le (g : Nat → Nat) (m t : Nat) (h : t < m) : mF g m ≤ g t := by
  induction m with
  | zero => omega
  | succ m ih =>
    simp only [mF]
    by_cases e : t = m
    · subst e; exact Nat.min_le_right _ _
    · exact Nat.le_trans (Nat.min_le_left _ _) (ih (by omega))
theorem mF_nv (g : Nat → Nat) (m : Nat) : mF g m ≤ nv := by
  induction m with
  | zero => exact Nat.le_refl _
  | succ m ih => exact Nat.le_trans (Nat.min_le_left _ _) ih
theorem mF_at (g : Nat → Nat) (m : Nat) (h : mF g m < nv) : ∃ t, t < m ∧ g t = mF g m := by
  induction m with
  | zero => simp [mF] at h
  | succ m ih =>
    simp only [mF] at h ⊢
    by_cases e : mF g m ≤ g m
    · rw [Nat.min_eq_left e] at h ⊢
      obtain ⟨t, h1, h2⟩ := ih h
      exact ⟨t, by omega, h2⟩
    · rw [Nat.min_eq_right (by omega)]
      exact ⟨m, by omega, rfl⟩
/-- one choice: t of e ends become signs from k on -/
def pickW (w : List Nat) (B : Nat → Nat → Nat) (e k t : Nat) : Nat :=
  if B (min w.length (2 * (e - t))) (k + t) < nv then B (min w.length (2 * (e - t))) (k + t) + leftW w (k + t) else nv
/-- what signs from k on cost from a level on, with e open ends, and j levels to come -/
def bestW (w : List Nat) : Nat → Nat → Nat → Nat
  | 0, _, k => if k < w.length then nv else 0
  | j + 1, e, k => if k < w.length then mF (pickW w (bestW w j) e k) (min e (w.length - k) + 1) else 0
/-- signs and depths, one by one -/
def cw : List Nat → List Nat → Nat
  | a :: l, d :: ds => a * d + cw l ds
  | _, _ => 0
/-- depths that go up, each below j -/
structure Plan (j e m : Nat) (ds : List Nat) : Prop where
  len : ds.length = m
  lt : ∀ d ∈ ds, d < j
  up : ds.Pairwise (· ≤ ·)
  room : sm (fun d => 2 ^ (j - d)) ds ≤ e * 2 ^ j
theorem cw_nil (l : List Nat) : cw l [] = 0 := by cases l <;> rfl
theorem cw_zeros (l : List Nat) (t : Nat) (ds : List Nat) : cw l (List.replicate t 0 ++ ds) = cw (l.drop t) ds := by
  induction t generalizing l with
  | zero => simp
  | succ t ih =>
    cases l with
    | nil =>
      have : ∀ ds, cw [] ds = 0 := fun ds => by cases ds <;> rfl
      rw [this, List.drop_nil, this]
    | cons a l => simp [List.replicate_succ, cw, ih]
theorem cw_up (l ds : List Nat) (h : ds.length = l.length) : cw l (ds.map (· + 1)) = cw l ds + sm (fun f => f) l := by
  induction l generalizing ds with
  | nil =>
    have : ds = [] := List.length_eq_zero_iff.1 h
    subst this; rfl
  | cons a l ih =>
    cases ds with
    | nil => simp at h
    | cons d ds =>
      have := ih ds (by simpa using h)
      simp only [List.map_cons, cw, sm, this, Nat.mul_add]
      omega
theorem cw_le (l ds : List Nat) (m : Nat) (h : ∀ d ∈ ds, d ≤ m) : cw l ds ≤ m * sm (fun f => f) l := by
  induction l generalizing ds with
  | nil => cases ds <;> simp [cw]
  | cons a l ih =>
    cases ds with
    | nil => simp [cw]
    | cons d ds =>
      have h1 := ih ds fun x hx => h x (by simp [hx])
      have h2 : a * d ≤ a * m := Nat.mul_le_mul_left _ (h d (by simp))
      simp only [cw, sm, Nat.mul_add]
      rw [Nat.mul_comm m a]
      omega
/-- depths that go up: noughts first -/
theorem up_split (ds : List Nat) (h : ds.Pairwise (· ≤ ·)) : ∃ (t : Nat) (es : List Nat), ds = List.replicate t 0 ++ es.map (· + 1) ∧ es.Pairwise (· ≤ ·) := by
  induction ds with
  | nil => exact ⟨0, [], rfl, List.Pairwise.nil⟩
  | cons d ds ih =>
    obtain ⟨h1, h2⟩ := List.pairwise_cons.1 h
    obtain ⟨t, es, he, hu⟩ := ih h2
    cases d with
    | zero => exact ⟨t + 1, es, by rw [he]; rfl, hu⟩
    | succ d =>
      have ht : t = 0 := by
        cases t with
        | zero => rfl
        | succ t =>
          have := h1 0 (by rw [he]; simp [List.replicate_succ])
          omega
      subst ht
      refine ⟨0, d :: es, by rw [he]; rfl, List.pairwise_cons.2 ⟨fun x hx => ?_, hu⟩⟩
      have := h1 (x + 1) (by rw [he]; simp; exact hx)
      omega
theorem sm_zeros (j t : Nat) : sm (fun d => 2 ^ (j - d)) (List.replicate t 0) = t * 2 ^ j := by
  rw [sm_const _ (2 ^ j) _ (fun a ha => by rw [(List.mem_replicate.1 ha).2]; rfl), List.length_replicate, Nat.mul_comm]
theorem sm_up (j : Nat) (es : List Nat) : sm (fun d => 2 ^ (j + 1 - d)) (es.map (· + 1)) = sm (fun d => 2 ^ (j - d)) es := by
  rw [sm_map]
  refine sm_congr _ _ es fun a _ => ?_
  show 2 ^ (j + 1 - (a + 1)) = _
  rw [show j + 1 - (a + 1) = j - a by omega]
theorem sm_top (j : Nat) (es : List Nat) : sm (fun d => 2 ^ (j - d)) es ≤ es.length * 2 ^ j := by
  have := sm_le (fun d => 2 ^ (j - d)) (fun _ => 2 ^ j) es (fun a _ => Nat.pow_le_pow_right (by decide) (by omega))
  rw [sm_const (fun _ => 2 ^ j) (2 ^ j) es (fun _ _ => rfl), Nat.mul_comm] at this
  exact this
/-- no plan costs less -/
theorem best_le (w : List Nat) (j : Nat) : ∀ e k ds, k ≤ w.length → Plan j e (w.length - k) ds → j * leftW w 0 < nv → bestW w j e k ≤ cw (w.drop k) ds := by
  induction j with
  | zero =>
    intro e k ds hk hp _
    have : ds = [] := by
      cases ds with
      | nil => rfl
      | cons d ds => have := hp.lt d (by simp); omega
    subst this
    have := hp.len
    simp only [List.length_nil] at this
    simp only [bestW]
    rw [if_neg (by omega)]
    exact Nat.zero_le _
  | succ j ih =>
    intro e k ds hk hp hnv
    simp only [bestW]
    by_cases hkn : k < w.length
    · rw [if_pos hkn]
      obtain ⟨t, es, rfl, hu⟩ := up_split ds hp.up
      have hlen := hp.len
      simp only [List.length_append, List.length_replicate, List.length_map] at hlen
      have hroom := hp.room
      rw [sm_append, sm_zeros, sm_up] at hroom
      have hz : 0 < 2 ^ (j + 1) := Nat.two_pow_pos _
      have hte : t ≤ e := by
        refine Nat.le_of_mul_le_mul_right ?_ hz
        omega
      have hpow : 2 ^ (j + 1) = 2 * 2 ^ j := by rw [Nat.pow_succ, Nat.mul_comm]
      have hroom2 : sm (fun d => 2 ^ (j - d)) es ≤ 2 * (e - t) * 2 ^ j := by
        have h1 : (e - t) * 2 ^ (j + 1) = e * 2 ^ (j + 1) - t * 2 ^ (j + 1) := Nat.sub_mul _ _ _
        have h2 : 2 * (e - t) * 2 ^ j = (e - t) * 2 ^ (j + 1) := by rw [hpow, Nat.mul_comm 2 (e - t), Nat.mul_assoc]
        omega
      have hplan : Plan j (min w.length (2 * (e - t))) (w.length - (k + t)) es := by
        refine ⟨by omega, fun d hd => ?_, hu, ?_⟩
        · have := hp.lt (d + 1) (by simp; exact hd)
          omega
        · rcases Nat.le_total w.length (2 * (e - t)) with h | h
          · rw [Nat.min_eq_left h]
            have h1 := sm_top j es
            have h2 : es.length * 2 ^ j ≤ w.length * 2 ^ j := Nat.mul_le_mul_right _ (by omega)
            omega
          · rw [Nat.min_eq_right h]; exact hroom2
      have hl0 : leftW w (k + t) ≤ leftW w 0 := by
        unfold leftW
        have h1 := sm_append (fun f => f) (w.take (k + t)) (w.drop (k + t))
        rw [List.take_append_drop] at h1
        simp only [List.drop_zero]
        omega
      have hjj : j * leftW w 0 ≤ (j + 1) * leftW w 0 := Nat.mul_le_mul_right _ (by omega)
      have hih := ih (min w.length (2 * (e - t))) (k + t) es (by omega) hplan (by omega)
      have hcl := cw_le (w.drop (k + t)) es j (fun d hd => by have := hplan.lt d hd; omega)
      have hlt : bestW w j (min w.length (2 * (e - t))) (k + t) < nv := by
        have h1 : j * leftW w (k + t) ≤ j * leftW w 0 := Nat.mul_le_mul_left _ hl0
        unfold leftW at h1 hnv hjj
        omega
      refine Nat.le_trans (mF_le _ _ t (by omega)) ?_
      unfold pickW
      rw [if_pos hlt, cw_zeros, cw_up _ _ (by simp; omega), List.drop_drop]
      unfold leftW
      omega
    · rw [if_neg hkn]; exact Nat.zero_le _
/-- some plan costs just that -/
theorem best_has (w : List Nat) (j : Nat) : ∀ e k, k ≤ w.length → bestW w j e k < nv → ∃ ds, Plan j e (w.length - k) ds ∧ cw (w.drop k) ds = bestW w j e k := by
  induction j with
  | zero =>
    intro e k hk h
    simp only [bestW] at h ⊢
    by_cases hkn : k < w.length
    · rw [if_pos hkn] at h; omega
    · rw [if_neg hkn]
      exact ⟨[], ⟨by simp; omega, fun d hd => (by simp at hd), List.Pairwise.nil, by simp [sm]⟩, cw_nil _⟩
  | succ j ih =>
    intro e k hk h
    simp only [bestW] at h ⊢
    by_cases hkn : k < w.length
    · rw [if_pos hkn] at h ⊢
      obtain ⟨t, ht, hg⟩ := mF_at _ _ h
      rw [← hg] at h ⊢
      unfold pickW at h ⊢
      by_cases hb : bestW w j (min w.length (2 * (e - t))) (k + t) < nv
      · rw [if_pos hb]
        obtain ⟨es, hp, hc⟩ := ih (min w.length (2 * (e - t))) (k + t) (by omega) hb
        refine ⟨List.replicate t 0 ++ es.map (· + 1), ⟨?_, fun d hd => ?_, ?_, ?_⟩, ?_⟩
        · have := hp.len
          simp; omega
        · rcases List.mem_append.1 hd with hd | hd
          · rw [(List.mem_replicate.1 hd).2]; omega
          · obtain ⟨x, hx, rfl⟩ := List.mem_map.1 hd
            have := hp.lt x hx
            omega
        · refine List.pairwise_append.2 ⟨?_, ?_, fun a ha b _ => ?_⟩
          · exact List.pairwise_replicate.2 (.inr (Nat.le_refl _))
          · exact List.pairwise_map.2 (hp.up.imp fun h => by omega)
          · rw [(List.mem_replicate.1 ha).2]; exact Nat.zero_le _
        · rw [sm_append, sm_zeros, sm_up]
          have h1 := hp.room
          have h2 : min w.length (2 * (e - t)) * 2 ^ j ≤ 2 * (e - t) * 2 ^ j := Nat.mul_le_mul_right _ (Nat.min_le_right _ _)
          have hpow : 2 ^ (j + 1) = 2 * 2 ^ j := by rw [Nat.pow_succ, Nat.mul_comm]
          have h3 : 2 * (e - t) * 2 ^ j = (e - t) * 2 ^ (j + 1) := by rw [hpow, Nat.mul_comm 2 (e - t), Nat.mul_assoc]
          have h4 : (e - t) * 2 ^ (j + 1) + t * 2 ^ (j + 1) = e * 2 ^ (j + 1) := by rw [← Nat.add_mul, show e - t + t = e by omega]
          omega
        · have hl := hp.len
          rw [cw_zeros, cw_up _ _ (by simp; omega), List.drop_drop, hc]
          rfl
      · rw [if_neg hb] at h; omega
    · rw [if_neg hkn]
      exact ⟨[], ⟨by simp; omega, fun d hd => (by simp at hd), List.Pairwise.nil, by simp [sm]⟩, cw_nil _⟩

/-- the most common may have the shortest -/
theorem common_short (P : List (Nat × Nat)) (x L : Nat) (ws ls : List Nat) (h1 : (P.map Prod.fst).Perm (x :: ws)) (h2 : (P.map Prod.snd).Perm (L :: ls)) (hx : ∀ v ∈ ws, v ≤ x) (hL : ∀ v ∈ ls, L ≤ v) :
    ∃ R, (R.map Prod.fst).Perm ws ∧ (R.map Prod.snd).Perm ls ∧ x * L + costP R ≤ costP P := by
  obtain ⟨lx, Q, hQ, hQw⟩ := first_ahead h1
  have hs := hQ.map Prod.snd
  simp only [List.map_cons] at hs
  have h3 : (lx :: Q.map Prod.snd).Perm (L :: ls) := hs.symm.trans h2
  by_cases e : lx = L
  · subst e
    refine ⟨Q, hQw, (List.perm_cons _).1 h3, ?_⟩
    rw [costP_perm hQ]; simp [costP, sm]
  · have hLm : L ∈ Q.map Prod.snd := by
      have := h3.mem_iff.2 (show L ∈ L :: ls by simp)
      rcases List.mem_cons.1 this with h | h
      · exact absurd h.symm e
      · exact h
    obtain ⟨q, hq, hqL⟩ := List.mem_map.1 hLm
    have hS := List.perm_cons_erase hq
    generalize Q.erase q = S at hS
    have hSw := hS.map Prod.fst
    have hSs := hS.map Prod.snd
    simp only [List.map_cons] at hSw hSs
    have hxq : q.1 ≤ x := hx q.1 ((hQw.symm.trans hSw).mem_iff.2 (by simp))
    have hll : L ≤ lx := by
      have := h3.mem_iff.1 (show lx ∈ lx :: Q.map Prod.snd by simp)
      rcases List.mem_cons.1 this with h | h
      · omega
      · exact hL lx h
    refine ⟨(q.1, lx) :: S, ?_, ?_, ?_⟩
    · simp only [List.map_cons]
      exact (hQw.symm.trans hSw).symm
    · simp only [List.map_cons]
      have h4 : (lx :: L :: S.map Prod.snd).Perm (L :: ls) := by
        have := (hSs.cons lx).symm.trans h3
        rw [hqL] at this
        exact this
      have h5 : (L :: lx :: S.map Prod.snd).Perm (L :: ls) := (List.Perm.swap lx L _).trans h4
      exact (List.perm_cons L).1 h5
    · rw [costP_perm (hQ.trans (hS.cons _))]
      simp only [costP, sm]
      rw [hqL]
      have := swap_le x q.1 lx L hxq hll
      omega
theorem has_min (l : List Nat) (h : l ≠ []) : ∃ m ls, l.Perm (m :: ls) ∧ ∀ v ∈ ls, m ≤ v := by
  induction l with
  | nil => exact absurd rfl h
  | cons a l ih =>
    by_cases e : l = []
    · subst e; exact ⟨a, [], List.Perm.refl _, fun v hv => by simp at hv⟩
    · obtain ⟨m, ls, h1, h2⟩ := ih e
      by_cases hle : a ≤ m
      · refine ⟨a, l, List.Perm.refl _, fun v hv => ?_⟩
        rcases List.mem_cons.1 (h1.mem_iff.1 hv) with rfl | hv
        · exact hle
        · exact Nat.le_trans hle (h2 v hv)
      · refine ⟨m, a :: ls, (h1.cons a).trans (List.Perm.swap m a ls), fun v hv => ?_⟩
        rcases List.mem_cons.1 hv with rfl | hv
        · omega
        · exact h2 v hv
/-- lengths that go up where signs come ever more rarely cost no more -/
theorem to_plan (ws : List Nat) (hs : ws.Pairwise (· ≥ ·)) : ∀ P : List (Nat × Nat), (P.map Prod.fst).Perm ws → ∃ ds, ds.Perm (P.map Prod.snd) ∧ ds.Pairwise (· ≤ ·) ∧ cw ws ds ≤ costP P := by
  induction ws with
  | nil =>
    intro P h
    have : P = [] := by simpa using h.length_eq
    subst this
    exact ⟨[], List.Perm.refl _, List.Pairwise.nil, by simp [cw]⟩
  | cons x ws ih =>
    intro P h
    obtain ⟨h1, h2⟩ := List.pairwise_cons.1 hs
    obtain ⟨m, ls, hm, hmin⟩ := has_min (P.map Prod.snd) (by
      intro e
      have h3 := h.length_eq
      have h4 := congrArg List.length e
      simp only [List.length_map, List.length_cons, List.length_nil] at h3 h4
      omega)
    obtain ⟨R, r1, r2, r3⟩ := common_short P x m ws ls h hm (fun v hv => h1 v hv) hmin
    obtain ⟨ds, d1, d2, d3⟩ := ih h2 R r1
    have hdl : ds.Perm ls := d1.trans r2
    refine ⟨m :: ds, (hdl.cons m).trans hm.symm, List.pairwise_cons.2 ⟨fun v hv => hmin v (hdl.mem_iff.1 hv), d2⟩, ?_⟩
    simp only [cw]
    omega
theorem cw_zip (ws ds : List Nat) : cw ws ds = costP (ws.zip ds) := by
  induction ws generalizing ds with
  | nil => cases ds <;> rfl
  | cons a ws ih =>
    cases ds with
    | nil => rfl
    | cons d ds => simp only [cw, List.zip_cons_cons, costP, sm]; rw [ih ds]; rfl
/-- level by level the least cost is found -/
theorem least_opt (ws : List Nat) (hs : ws.Pairwise (· ≥ ·)) (most : Nat) (hm : most ≤ 15) (hn : 2 ≤ ws.length) (hnv : (most + 1) * leftW ws 0 < nv) (P0 : List (Nat × Nat)) (hP0 : (P0.map Prod.fst).Perm ws) (hok : OkP most P0) :
    Opt ws most (bestW ws (most + 1) 1 0) := by
  have lower : ∀ P : List (Nat × Nat), (P.map Prod.fst).Perm ws → OkP most P → bestW ws (most + 1) 1 0 ≤ costP P ∧ bestW ws (most + 1) 1 0 < nv := by
    intro P hp ho
    obtain ⟨ds, d1, d2, d3⟩ := to_plan ws hs P hp
    have hlen : ds.length = ws.length := by
      have a := d1.length_eq
      have b := hp.length_eq
      simp only [List.length_map] at a b
      omega
    have hd : ∀ d ∈ ds, 1 ≤ d ∧ d ≤ most := fun d hd => by
      obtain ⟨p, hp, rfl⟩ := List.mem_map.1 (d1.mem_iff.1 hd)
      exact ⟨ho.lo p hp, ho.hi p hp⟩
    have hroom : sm (fun d => 2 ^ (most + 1 - d)) ds ≤ 1 * 2 ^ (most + 1) := by
      have h1 : sm (fun d => 2 ^ (15 - d)) ds ≤ 32768 := by
        rw [sm_perm _ d1, ← krf_snd]; exact ho.room
      have h2 : 2 ^ (15 - most) * sm (fun d => 2 ^ (most + 1 - d)) ds = 2 * sm (fun d => 2 ^ (15 - d)) ds := by
        have : ∀ l : List Nat, (∀ d ∈ l, d ≤ most) → 2 ^ (15 - most) * sm (fun d => 2 ^ (most + 1 - d)) l = 2 * sm (fun d => 2 ^ (15 - d)) l := by
          intro l
          induction l with
          | nil => intro _; rfl
          | cons d l ih =>
            intro h
            have h1 := ih fun x hx => h x (by simp [hx])
            have h2 := h d (by simp)
            have h3 : 2 ^ (15 - most) * 2 ^ (most + 1 - d) = 2 * 2 ^ (15 - d) := by
              rw [← Nat.pow_add, show 15 - most + (most + 1 - d) = 15 - d + 1 by omega, Nat.pow_succ, Nat.mul_comm]
            simp only [sm, Nat.mul_add]
            omega
        exact this ds fun d h => (hd d h).2
      have h3 : 2 ^ (15 - most) * 2 ^ (most + 1) = 65536 := by rw [← Nat.pow_add, show 15 - most + (most + 1) = 16 by omega]
      refine Nat.le_of_mul_le_mul_left ?_ (Nat.two_pow_pos (15 - most))
      rw [Nat.one_mul]
      omega
    have hplan : Plan (most + 1) 1 (ws.length - 0) ds := ⟨by omega, fun d h => by have := (hd d h).2; omega, d2, hroom⟩
    have hb := best_le ws (most + 1) 1 0 ds (by omega) hplan hnv
    rw [List.drop_zero] at hb
    refine ⟨by omega, ?_⟩
    have hc := cw_le ws ds (most + 1) (fun d h => by have := (hd d h).2; omega)
    unfold leftW at hnv
    rw [List.drop_zero] at hnv
    omega
  obtain ⟨_, hlt⟩ := lower P0 hP0 hok
  refine ⟨?_, fun P hp ho => (lower P hp ho).1⟩
  obtain ⟨ds, hp, hc⟩ := best_has ws (most + 1) 1 0 (by omega) hlt
  rw [List.drop_zero] at hc
  have hlen := hp.len
  rw [Nat.sub_zero] at hlen
  have hge : ∀ d ∈ ds, 1 ≤ d := fun d hd => by
    refine Nat.le_of_not_lt fun h0 => ?_
    have hd0 : d = 0 := by omega
    subst hd0
    have hE := List.perm_cons_erase hd
    have hr := hp.room
    rw [sm_perm _ hE] at hr
    simp only [sm, Nat.sub_zero, Nat.one_mul] at hr
    have hne : ds.erase 0 ≠ [] := by
      intro e
      have := hE.length_eq
      rw [e] at this
      simp at this
      omega
    obtain ⟨y, hy⟩ := List.exists_mem_of_ne_nil _ hne
    have h1 := sm_mem (fun d => 2 ^ (most + 1 - d)) _ y hy
    have h2 : 0 < 2 ^ (most + 1 - y) := Nat.two_pow_pos _
    omega
  have hfst : (ws.zip ds).map Prod.fst = ws := List.map_fst_zip (by omega)
  have hsnd : (ws.zip ds).map Prod.snd = ds := List.map_snd_zip (by omega)
  refine ⟨ws.zip ds, by rw [hfst], ⟨fun p hp' => ?_, fun p hp' => ?_, ?_⟩, by rw [← cw_zip]; exact hc⟩
  · exact hge p.2 (by rw [← hsnd]; exact List.mem_map.2 ⟨p, hp', rfl⟩)
  · have := hp.lt p.2 (by rw [← hsnd]; exact List.mem_map.2 ⟨p, hp', rfl⟩)
    omega
  · rw [krf_snd, hsnd]
    have hr := hp.room
    rw [Nat.one_mul] at hr
    have : ∀ l : List Nat, (∀ d ∈ l, d < most + 1) → 2 ^ (15 - most) * sm (fun d => 2 ^ (most + 1 - d)) l = 2 * sm (fun d => 2 ^ (15 - d)) l := by
      intro l
      induction l with
      | nil => intro _; rfl
      | cons d l ih =>
        intro h
        have h1 := ih fun x hx => h x (by simp [hx])
        have h2 := h d (by simp)
        have h3 : 2 ^ (15 - most) * 2 ^ (most + 1 - d) = 2 * 2 ^ (15 - d) := by
          rw [← Nat.pow_add, show 15 - most + (most + 1 - d) = 15 - d + 1 by omega, Nat.pow_succ, Nat.mul_comm]
        simp only [sm, Nat.mul_add]
        omega
    have h4 := this ds hp.lt
    have h5 : 2 ^ (15 - most) * sm (fun d => 2 ^ (most + 1 - d)) ds ≤ 2 ^ (15 - most) * 2 ^ (most + 1) := Nat.mul_le_mul_left _ hr
    rw [h4, ← Nat.pow_add, show 15 - most + (most + 1) = 16 by omega] at h5
    omega
end Go.Proofs.Ythdgfanecfdlkaa
