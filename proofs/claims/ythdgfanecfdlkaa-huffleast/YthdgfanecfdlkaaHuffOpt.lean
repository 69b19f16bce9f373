/- Plain facts on codes of the least cost: pairs of how often and how long. No Go in sight. -/
import Derived.Test.YthdgfanecfdlkaaFlipMath
namespace Go.Proofs.Ythdgfanecfdlkaa

def sm {α : Type} (f : α → Nat) : List α → Nat
  | [] => 0
  | a :: l => f a + sm f l
theorem sm_perm {α : Type} (f : α → Nat) {l l' : List α} (h : l.Perm l') : sm f l = sm f l' := by
  induction h with
  | nil => rfl
  | cons a _ ih => simp only [sm, ih]
  | swap a b l => simp only [sm]; omega
  | trans _ _ h1 h2 => rw [h1, h2]
theorem sm_append {α : Type} (f : α → Nat) (l m : List α) : sm f (l ++ m) = sm f l + sm f m := by
  induction l with
  | nil => simp [sm]
  | cons a l ih => simp only [List.cons_append, sm, ih]; omega
theorem sm_le {α : Type} (f g : α → Nat) (l : List α) (h : ∀ a ∈ l, f a ≤ g a) : sm f l ≤ sm g l := by
  induction l with
  | nil => exact Nat.le_refl _
  | cons a l ih =>
    have h1 := h a (by simp)
    have h2 := ih fun b hb => h b (by simp [hb])
    simp only [sm]; omega
theorem sm_mem {α : Type} (f : α → Nat) (l : List α) (a : α) (h : a ∈ l) : f a ≤ sm f l := by
  induction l with
  | nil => cases h
  | cons b l ih =>
    rcases List.mem_cons.1 h with rfl | h
    · simp only [sm]; omega
    · have := ih h; simp only [sm]; omega
theorem sm_const {α : Type} (f : α → Nat) (c : Nat) (l : List α) (h : ∀ a ∈ l, f a = c) : sm f l = c * l.length := by
  induction l with
  | nil => simp [sm]
  | cons a l ih =>
    rw [sm, h a (by simp), ih fun b hb => h b (by simp [hb]), List.length_cons, Nat.mul_add]; omega
theorem sm_map {α β : Type} (g : α → β) (f : β → Nat) (l : List α) : sm f (l.map g) = sm (fun a => f (g a)) l := by
  induction l with
  | nil => rfl
  | cons a l ih => simp only [List.map_cons, sm, ih]
theorem sm_congr {α : Type} (f g : α → Nat) (l : List α) (h : ∀ a ∈ l, f a = g a) : sm f l = sm g l := by
  induction l with
  | nil => rfl
  | cons a l ih => rw [sm, sm, h a (by simp), ih fun b hb => h b (by simp [hb])]

/-- what pairs of how often and how long cost, and the room they take -/
def costP (P : List (Nat × Nat)) : Nat := sm (fun p => p.1 * p.2) P
def krf (P : List (Nat × Nat)) : Nat := sm (fun p => 2 ^ (15 - p.2)) P
structure OkP (most : Nat) (P : List (Nat × Nat)) : Prop where
  lo : ∀ p ∈ P, 1 ≤ p.2
  hi : ∀ p ∈ P, p.2 ≤ most
  room : krf P ≤ 32768
/-- c is the least cost of codes for signs that come ws often, of most bits each -/
structure Opt (ws : List Nat) (most c : Nat) : Prop where
  has : ∃ P, (P.map Prod.fst).Perm ws ∧ OkP most P ∧ costP P = c
  least : ∀ P, (P.map Prod.fst).Perm ws → OkP most P → c ≤ costP P
theorem Opt.one {ws : List Nat} {most c d : Nat} (h1 : Opt ws most c) (h2 : Opt ws most d) : c = d := by
  obtain ⟨P, p1, p2, p3⟩ := h1.has
  obtain ⟨Q, q1, q2, q3⟩ := h2.has
  have a := h1.least Q q1 q2
  have b := h2.least P p1 p2
  omega
theorem Opt.perm {ws vs : List Nat} {most c : Nat} (h : Opt ws most c) (hp : ws.Perm vs) : Opt vs most c := by
  obtain ⟨P, p1, p2, p3⟩ := h.has
  exact ⟨⟨P, p1.trans hp, p2, p3⟩, fun Q q1 q2 => h.least Q (q1.trans hp.symm) q2⟩
theorem OkP.perm {most : Nat} {P Q : List (Nat × Nat)} (h : OkP most P) (hp : P.Perm Q) : OkP most Q :=
  ⟨fun p hq => h.lo p (hp.mem_iff.2 hq), fun p hq => h.hi p (hp.mem_iff.2 hq), by unfold krf; rw [← sm_perm _ hp]; exact h.room⟩
/-- pairs that are of the least cost among those with the same signs -/
def BestP (most : Nat) (P : List (Nat × Nat)) : Prop := OkP most P ∧ ∀ Q, (Q.map Prod.fst).Perm (P.map Prod.fst) → OkP most Q → costP P ≤ costP Q
theorem BestP.opt {most : Nat} {P : List (Nat × Nat)} (h : BestP most P) : Opt (P.map Prod.fst) most (costP P) :=
  ⟨⟨P, List.Perm.refl _, h.1, rfl⟩, h.2⟩
theorem Opt.best {ws : List Nat} {most c : Nat} (h : Opt ws most c) : ∃ P, (P.map Prod.fst).Perm ws ∧ BestP most P ∧ costP P = c := by
  obtain ⟨P, p1, p2, p3⟩ := h.has
  exact ⟨P, p1, ⟨p2, fun Q q1 q2 => by rw [p3]; exact h.least Q (q1.trans p1) q2⟩, p3⟩
theorem BestP.perm {most : Nat} {P Q : List (Nat × Nat)} (h : BestP most P) (hp : P.Perm Q) : BestP most Q := by
  refine ⟨h.1.perm hp, fun R r1 r2 => ?_⟩
  have e : costP Q = costP P := (sm_perm _ hp).symm
  rw [e]
  exact h.2 R (r1.trans (hp.map _).symm) r2

/-- two pairs of a list, put ahead -/
theorem two_ahead {P : List (Nat × Nat)} {p q : Nat × Nat} (hp : p ∈ P) (hq : q ∈ P) (hne : p ≠ q) : ∃ R, P.Perm (p :: q :: R) := by
  have h1 := List.perm_cons_erase hp
  have h2 : q ∈ P.erase p := (List.mem_erase_of_ne (Ne.symm hne)).2 hq
  exact ⟨(P.erase p).erase q, h1.trans ((List.perm_cons_erase h2).cons p)⟩
theorem swap_lt (a b x y : Nat) (h1 : b < a) (h2 : y < x) : a * y + b * x < a * x + b * y := by
  obtain ⟨u, rfl⟩ : ∃ u, a = b + 1 + u := ⟨a - (b + 1), by omega⟩
  obtain ⟨v, rfl⟩ : ∃ v, x = y + 1 + v := ⟨x - (y + 1), by omega⟩
  simp only [Nat.add_mul, Nat.mul_add]
  omega
theorem swap_le (a b x y : Nat) (h1 : b ≤ a) (h2 : y ≤ x) : a * y + b * x ≤ a * x + b * y := by
  obtain ⟨u, rfl⟩ : ∃ u, a = b + u := ⟨a - b, by omega⟩
  obtain ⟨v, rfl⟩ : ∃ v, x = y + v := ⟨x - y, by omega⟩
  simp only [Nat.add_mul, Nat.mul_add]
  have := Nat.zero_le (u * v)
  omega
/-- a sign that comes more often has no longer code -/
theorem best_orders {most : Nat} {P : List (Nat × Nat)} (h : BestP most P) (p q : Nat × Nat) (hp : p ∈ P) (hq : q ∈ P) (hf : q.1 < p.1) : p.2 ≤ q.2 := by
  refine Nat.le_of_not_lt fun hl => ?_
  obtain ⟨R, hR⟩ := two_ahead hp hq (by intro e; rw [e] at hf; omega)
  have hB := h.perm hR
  have hle := hB.2 ((p.1, q.2) :: (q.1, p.2) :: R) (by simp) ?_
  · simp only [costP, sm] at hle
    have := swap_lt p.1 q.1 p.2 q.2 hf hl
    omega
  · have ho := hB.1
    refine ⟨fun x hx => ?_, fun x hx => ?_, ?_⟩
    · rcases List.mem_cons.1 hx with rfl | hx
      · exact ho.lo q (by simp)
      · rcases List.mem_cons.1 hx with rfl | hx
        · exact ho.lo p (by simp)
        · exact ho.lo x (by simp [hx])
    · rcases List.mem_cons.1 hx with rfl | hx
      · exact ho.hi q (by simp)
      · rcases List.mem_cons.1 hx with rfl | hx
        · exact ho.hi p (by simp)
        · exact ho.hi x (by simp [hx])
    · have := ho.room
      simp only [krf, sm] at this ⊢
      omega
/-- more bits never cost more -/
theorem OkP.mono {m m' : Nat} {P : List (Nat × Nat)} (h : OkP m P) (hm : m ≤ m') : OkP m' P := ⟨h.lo, fun p hp => Nat.le_trans (h.hi p hp) hm, h.room⟩
theorem opt_mono {ws : List Nat} {m m' c c' : Nat} (h : Opt ws m c) (h' : Opt ws m' c') (hm : m ≤ m') : c' ≤ c := by
  obtain ⟨P, p1, p2, p3⟩ := h.has
  have := h'.least P p1 (p2.mono hm)
  omega
/-- codes of one length -/
theorem flat_ok (ws : List Nat) (s most : Nat) (h0 : 1 ≤ s) (hs : s ≤ most) (hm : most ≤ 15) (hn : ws.length ≤ 2 ^ s) : OkP most (ws.map fun f => (f, s)) := by
  refine ⟨fun p hp => ?_, fun p hp => ?_, ?_⟩
  · obtain ⟨f, _, rfl⟩ := List.mem_map.1 hp; exact h0
  · obtain ⟨f, _, rfl⟩ := List.mem_map.1 hp; exact hs
  · unfold krf
    rw [sm_map, sm_const _ (2 ^ (15 - s)) ws (fun _ _ => rfl)]
    have h1 : 2 ^ (15 - s) * ws.length ≤ 2 ^ (15 - s) * 2 ^ s := Nat.mul_le_mul_left _ hn
    rw [← Nat.pow_add, show 15 - s + s = 15 by omega] at h1
    exact h1
theorem flat_le {ws : List Nat} {most c : Nat} (h : Opt ws most c) (s : Nat) (h0 : 1 ≤ s) (hs : s ≤ most) (hm : most ≤ 15) (hn : ws.length ≤ 2 ^ s) : c ≤ sm (fun f => f) ws * s := by
  have := h.least (ws.map fun f => (f, s)) (by simp [List.map_map, Function.comp_def]) (flat_ok ws s most h0 hs hm hn)
  have e : costP (ws.map fun f => (f, s)) = sm (fun f => f) ws * s := by
    unfold costP
    rw [sm_map]
    clear this hn h
    induction ws with
    | nil => simp [sm]
    | cons a l ih => simp only [sm, Nat.add_mul] at ih ⊢; omega
  omega

/-- a tangent: 4 * 2 ^ (k - l) against 4 + 3 (k - l), with equality at l = k alone -/
theorem tangent (k l : Nat) (hk : k ≤ 15) (hl : l ≤ 15) : 4 * 2 ^ (15 - k) + 3 * 2 ^ (15 - k) * k ≤ 4 * 2 ^ (15 - l) + 3 * 2 ^ (15 - k) * l ∧ (4 * 2 ^ (15 - k) + 3 * 2 ^ (15 - k) * k = 4 * 2 ^ (15 - l) + 3 * 2 ^ (15 - k) * l → l = k) := by
  have key : ∀ k, k < 16 → ∀ l, l < 16 → 4 * 2 ^ (15 - k) + 3 * 2 ^ (15 - k) * k ≤ 4 * 2 ^ (15 - l) + 3 * 2 ^ (15 - k) * l ∧ (4 * 2 ^ (15 - k) + 3 * 2 ^ (15 - k) * k = 4 * 2 ^ (15 - l) + 3 * 2 ^ (15 - k) * l → l = k) := by decide +kernel
  exact key k (by omega) l (by omega)
theorem even_sum (k : Nat) (hk : k ≤ 15) (P : List (Nat × Nat)) (h : ∀ p ∈ P, p.2 ≤ 15) :
    (4 * 2 ^ (15 - k) + 3 * 2 ^ (15 - k) * k) * P.length ≤ 4 * krf P + 3 * 2 ^ (15 - k) * sm (fun p => p.2) P ∧
    ((4 * 2 ^ (15 - k) + 3 * 2 ^ (15 - k) * k) * P.length = 4 * krf P + 3 * 2 ^ (15 - k) * sm (fun p => p.2) P → ∀ p ∈ P, p.2 = k) := by
  induction P with
  | nil => simp [krf, sm]
  | cons p P ih =>
    obtain ⟨i1, i2⟩ := ih fun q hq => h q (by simp [hq])
    obtain ⟨t1, t2⟩ := tangent k p.2 hk (h p (by simp))
    simp only [krf, sm, List.length_cons, Nat.mul_add, Nat.mul_one] at i1 i2 ⊢
    generalize 2 ^ (15 - k) = z at *
    refine ⟨by omega, fun he q hq => ?_⟩
    have e1 : 4 * z + 3 * z * k = 4 * 2 ^ (15 - p.2) + 3 * z * p.2 := by omega
    rcases List.mem_cons.1 hq with rfl | hq
    · exact t2 e1
    · exact i2 (by omega) q hq
/-- signs that come all equally often, 2 ^ k of them, have k bits each -/
theorem best_even (k f : Nat) (hk0 : 1 ≤ k) (hk : k ≤ 15) (hf : 0 < f) (P : List (Nat × Nat)) (hb : BestP 15 P) (hn : P.length = 2 ^ k) (hP : ∀ p ∈ P, p.1 = f) : ∀ p ∈ P, p.2 = k := by
  have hc : costP P = f * sm (fun p => p.2) P := by
    unfold costP
    clear hb hn
    induction P with
    | nil => simp [sm]
    | cons p P ih =>
      have h1 := ih fun q hq => hP q (by simp [hq])
      simp only [sm, Nat.mul_add]
      rw [h1, hP p (by simp)]
  have hflat := flat_le hb.opt k hk0 hk (Nat.le_refl _) (by rw [List.length_map, hn]; exact Nat.le_refl _)
  have hs : sm (fun f => f) (P.map Prod.fst) = f * P.length := by rw [sm_map]; exact sm_const _ f P hP
  rw [hc, hs, Nat.mul_assoc] at hflat
  have hle : sm (fun p => p.2) P ≤ P.length * k := Nat.le_of_mul_le_mul_left hflat hf
  obtain ⟨e1, e2⟩ := even_sum k hk P hb.1.hi
  refine e2 (Nat.le_antisymm e1 ?_)
  have hr := hb.1.room
  have hz : 2 ^ (15 - k) * P.length = 32768 := by
    rw [hn, ← Nat.pow_add, show 15 - k + k = 15 by omega]
  have h3 : 3 * 2 ^ (15 - k) * sm (fun p => p.2) P ≤ 3 * 2 ^ (15 - k) * (P.length * k) := Nat.mul_le_mul_left _ hle
  have h4 : (4 * 2 ^ (15 - k) + 3 * 2 ^ (15 - k) * k) * P.length = 4 * (2 ^ (15 - k) * P.length) + 3 * 2 ^ (15 - k) * (P.length * k) := by
    rw [Nat.add_mul, Nat.mul_assoc 4, Nat.mul_assoc (3 * 2 ^ (15 - k)) k, Nat.mul_comm k]
  rw [h4, hz]
  omega
end Go.Proofs.Ythdgfanecfdlkaa
