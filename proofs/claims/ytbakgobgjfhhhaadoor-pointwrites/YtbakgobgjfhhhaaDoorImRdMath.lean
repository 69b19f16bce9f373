/- Reading a map of inodes. No Go in sight. -/
import Derived.Test.YtbakgobgjfhhhaaDoorImTxMath
namespace Go.Proofs.YtbakgobgjfhhhaaDoor

/-- one number's place and generation, and what is behind them -/
def oneR (s : List UInt8) : Option (Pla × Int × List UInt8) :=
  if getE s = 0 ∧ getA s ≤ 2147483647 then (match s.drop (getK s) with
    | x :: y :: r => some (rpl x y, (getA s : Int), r)
    | _ => none) else none
theorem oneR_bad {s : List UInt8} (h : ¬ (getE s = 0 ∧ getA s ≤ 2147483647)) : oneR s = none := if_neg h
theorem oneR_some {s : List UInt8} (h : getE s = 0 ∧ getA s ≤ 2147483647) {x y : UInt8} {r : List UInt8} (hd : s.drop (getK s) = x :: y :: r) : oneR s = some (rpl x y, (getA s : Int), r) := by
  unfold oneR; rw [if_pos h, hd]
theorem oneR_short {s : List UInt8} (h : (s.drop (getK s)).length < 2) : oneR s = none := by
  unfold oneR
  split
  · match hd : s.drop (getK s), h with
    | [], _ => rfl
    | [x], _ => rfl
  · rfl
theorem oneR_nil : oneR [] = none := oneR_bad (by decide)
theorem oneR_len {s : List UInt8} {p : Pla} {g : Int} {r : List UInt8} (h : oneR s = some (p, g, r)) : r.length < s.length := by
  unfold oneR at h
  split at h
  · split at h
    · next x y t hd =>
      simp only [Option.some.injEq, Prod.mk.injEq] at h
      obtain ⟨_, _, rfl⟩ := h
      have := congrArg List.length hd
      rw [List.length_drop] at this
      simp only [List.length_cons] at this
      omega
    · cases h
  · cases h
/-- n of them, and nothing behind -/
def rawM : Nat → List UInt8 → Option (List Pla × List Int)
  | 0, s => match s with
    | [] => some ([], [])
    | _ :: _ => none
  | n + 1, s => match oneR s with
    | none => none
    | some (p, g, r) => match rawM n r with
      | none => none
      | some (P, G) => some (p :: P, g :: G)
theorem rawM_zero_nil : rawM 0 [] = some ([], []) := by simp [rawM]
theorem rawM_zero_cons (x : UInt8) (t : List UInt8) : rawM 0 (x :: t) = none := by simp [rawM]
theorem rawM_none {n : Nat} {s : List UInt8} (h : oneR s = none) : rawM (n + 1) s = none := by rw [rawM, h]
theorem rawM_some {n : Nat} {s : List UInt8} {p : Pla} {g : Int} {r : List UInt8} (h : oneR s = some (p, g, r)) : rawM (n + 1) s = match rawM n r with
      | none => none
      | some (P, G) => some (p :: P, g :: G) := by rw [rawM, h]
theorem rawM_len : ∀ {n : Nat} {s : List UInt8} {P : List Pla} {G : List Int}, rawM n s = some (P, G) → P.length = n ∧ G.length = n := by
  intro n
  induction n with
  | zero =>
    intro s P G h
    cases s with
    | nil => rw [rawM_zero_nil] at h; simp at h; obtain ⟨rfl, rfl⟩ := h; exact ⟨rfl, rfl⟩
    | cons x t => rw [rawM_zero_cons] at h; cases h
  | succ n ih =>
    intro s P G h
    cases ho : oneR s with
    | none => rw [rawM_none ho] at h; cases h
    | some v =>
      obtain ⟨p, g, r⟩ := v
      rw [rawM_some ho] at h
      cases hr : rawM n r with
      | none => rw [hr] at h; cases h
      | some v2 =>
        obtain ⟨P2, G2⟩ := v2
        rw [hr] at h
        simp only [Option.some.injEq, Prod.mk.injEq] at h
        obtain ⟨rfl, rfl⟩ := h
        have := ih hr
        exact ⟨by rw [List.length_cons, this.1], by rw [List.length_cons, this.2]⟩
/-- what is answered, where A and B have been read, and n more are to come -/
def contM (A : List Pla) (B : List Int) (n : Nat) (t : List UInt8) : Option (List Pla × List Int) := match rawM n t with
  | none => none
  | some (P, G) => if chkM (A ++ P) (B ++ G) = 0 then some (A ++ P, B ++ G) else none
def readM (s : List UInt8) : Option (List Pla × List Int) := contM [] [] 48 s
theorem contM_none {A : List Pla} {B : List Int} {n : Nat} {t : List UInt8} (h : oneR t = none) : contM A B (n + 1) t = none := by unfold contM; rw [rawM_none h]
theorem contM_step {A : List Pla} {B : List Int} {n : Nat} {t : List UInt8} {p : Pla} {g : Int} {r : List UInt8} (h : oneR t = some (p, g, r)) : contM A B (n + 1) t = contM (A ++ [p]) (B ++ [g]) n r := by
  unfold contM
  rw [rawM_some h]
  cases rawM n r with
  | none => rfl
  | some v => obtain ⟨P, G⟩ := v; simp
theorem contM_wrong {A : List Pla} {B : List Int} {n : Nat} {t : List UInt8} {p : Pla} {g : Int} {r : List UInt8} (hl : A.length + n + 1 = 48) (h : oneR t = some (p, g, r)) (hp : rtB p = false) : contM A B (n + 1) t = none := by
  rw [contM_step h]
  unfold contM
  cases hr : rawM n r with
  | none => rfl
  | some v =>
    obtain ⟨P, G⟩ := v
    simp only
    rw [if_neg]
    intro hc
    have := (chkM_ok hc).r A.length (by omega)
    rw [List.append_assoc, List.getD_eq_getElem?_getD, List.getElem?_append_right (Nat.le_refl _), Nat.sub_self] at this
    simp [hp] at this
theorem contM_zero_cons {A : List Pla} {B : List Int} {x : UInt8} {t : List UInt8} : contM A B 0 (x :: t) = none := by unfold contM; rw [rawM_zero_cons]
theorem contM_zero_nil {A : List Pla} {B : List Int} : contM A B 0 [] = if chkM A B = 0 then some (A, B) else none := by
  unfold contM; rw [rawM_zero_nil]; simp
theorem contM_succ_nil {A : List Pla} {B : List Int} {n : Nat} : contM A B (n + 1) [] = none := contM_none oneR_nil
/-- bytes, pair by pair -/
def byL : List Pla → List Int → List UInt8
  | p :: ps, g :: gs => putB g.toNat ++ plB p ++ byL ps gs
  | _, _ => []
theorem byL_snoc : ∀ (P : List Pla) (G : List Int) (p : Pla) (g : Int), P.length = G.length → byL (P ++ [p]) (G ++ [g]) = byL P G ++ (putB g.toNat ++ plB p) := by
  intro P
  induction P with
  | nil => intro G p g h; match G, h with
    | [], _ => simp [byL]
  | cons x t ih => intro G p g h; match G, h with
    | y :: u, h => simp only [List.cons_append, byL]; rw [ih u p g (by simpa using h)]; simp
theorem imK_byL {P : List Pla} {G : List Int} : ∀ k, k ≤ P.length → k ≤ G.length → imK P G k = byL (P.take k) (G.take k) := by
  intro k
  induction k with
  | zero => intro _ _; simp [imK, byL]
  | succ k ih =>
    intro h1 h2
    rw [imK_succ, ih (by omega) (by omega), List.take_succ_eq_append_getElem (by omega), List.take_succ_eq_append_getElem (show k < G.length by omega), byL_snoc _ _ _ _ (by rw [List.length_take, List.length_take]; omega)]
    have e1 : P.getD k noPl = P[k] := by rw [List.getD_eq_getElem?_getD, List.getElem?_eq_getElem (show k < P.length by omega)]; rfl
    have e2 : G.getD k 0 = G[k] := by rw [List.getD_eq_getElem?_getD, List.getElem?_eq_getElem (show k < G.length by omega)]; rfl
    rw [e1, e2]
theorem imB_byL {P : List Pla} {G : List Int} (h1 : P.length = 48) (h2 : G.length = 48) : imB P G = byL P G := by
  unfold imB
  rw [imK_byL 48 (by omega) (by omega), List.take_of_length_le (by omega), List.take_of_length_le (by omega)]
theorem oneR_back {p : Pla} {g : Int} (hp : rtB p = true) (hg : 0 ≤ g ∧ g ≤ 2147483647) (t : List UInt8) : oneR (putB g.toNat ++ plB p ++ t) = some (p, g, t) := by
  have h := get_put g.toNat (by omega) (plB p ++ t)
  rw [← List.append_assoc] at h
  have hd : (putB g.toNat ++ plB p ++ t).drop (getK (putB g.toNat ++ plB p ++ t)) = UInt8.ofNat p.cl.toNat :: UInt8.ofNat p.nh.toNat :: t := by
    rw [h.2.2, List.append_assoc, List.drop_left]; rfl
  rw [oneR_some ⟨h.1, by rw [h.2.1]; omega⟩ hd, rpl_plB hp, h.2.1]
  simp only [Option.some.injEq, Prod.mk.injEq, true_and, and_true]
  omega
theorem rawM_back : ∀ (P : List Pla) (G : List Int), P.length = G.length → (∀ k, k < P.length → rtB (P.getD k noPl) = true ∧ (0 ≤ G.getD k 0 ∧ G.getD k 0 ≤ 2147483647)) → rawM P.length (byL P G) = some (P, G) := by
  intro P
  induction P with
  | nil => intro G h _; match G, h with
    | [], _ => simp [byL, rawM]
  | cons p ps ih => intro G h hk; match G, h with
    | g :: gs, h =>
      have h0 : rtB p = true ∧ (0 ≤ g ∧ g ≤ 2147483647) := hk 0 (by simp)
      have := ih gs (by simpa using h) (fun k hk' => hk (k + 1) (by simpa using hk'))
      rw [List.length_cons]
      show rawM (ps.length + 1) (putB g.toNat ++ plB p ++ byL ps gs) = _
      rw [rawM_some (oneR_back h0.1 h0.2 _), this]
theorem readM_back {P : List Pla} {G : List Int} (h : OkM P G) : readM (imB P G) = some (P, G) := by
  unfold readM contM
  have hr := rawM_back P G (by rw [h.p, h.g]) (fun k hk => ⟨h.r k (by rw [h.p] at hk; exact hk), h.n k (by rw [h.p] at hk; exact hk)⟩)
  rw [h.p, ← imB_byL h.p h.g] at hr
  rw [hr]
  simp only [List.nil_append]
  rw [if_pos (chkM_yes h)]
theorem oneR_inv {s : List UInt8} {p : Pla} {g : Int} {r : List UInt8} (h : oneR s = some (p, g, r)) : s = putB g.toNat ++ plB p ++ r := by
  unfold oneR at h
  split at h
  · next hh =>
    split at h
    · next x y t hd =>
      simp only [Option.some.injEq, Prod.mk.injEq] at h
      obtain ⟨rfl, rfl, rfl⟩ := h
      have hp := put_get s hh.1
      rw [Int.toNat_natCast, hp.2.2.2, plB_rpl]
      conv => lhs; rw [← List.take_append_drop (getK s) s, hd]
      simp
    · cases h
  · cases h
theorem rawM_inv : ∀ {n : Nat} {s : List UInt8} {P : List Pla} {G : List Int}, rawM n s = some (P, G) → byL P G = s := by
  intro n
  induction n with
  | zero =>
    intro s P G h
    cases s with
    | nil => rw [rawM_zero_nil] at h; simp at h; obtain ⟨rfl, rfl⟩ := h; simp [byL]
    | cons x t => rw [rawM_zero_cons] at h; cases h
  | succ n ih =>
    intro s P G h
    cases ho : oneR s with
    | none => rw [rawM_none ho] at h; cases h
    | some v =>
      obtain ⟨p, g, r⟩ := v
      rw [rawM_some ho] at h
      cases hr : rawM n r with
      | none => rw [hr] at h; cases h
      | some v2 =>
        obtain ⟨P2, G2⟩ := v2
        rw [hr] at h
        simp only [Option.some.injEq, Prod.mk.injEq] at h
        obtain ⟨rfl, rfl⟩ := h
        show putB g.toNat ++ plB p ++ byL P2 G2 = s
        rw [ih hr, ← oneR_inv ho]
theorem readM_inv {s : List UInt8} {P : List Pla} {G : List Int} (h : readM s = some (P, G)) : chkM P G = 0 ∧ imB P G = s := by
  unfold readM contM at h
  cases hr : rawM 48 s with
  | none => rw [hr] at h; cases h
  | some v =>
    obtain ⟨P2, G2⟩ := v
    rw [hr] at h
    simp only [List.nil_append] at h
    split at h
    · next hc =>
      simp only [Option.some.injEq, Prod.mk.injEq] at h
      obtain ⟨rfl, rfl⟩ := h
      have hl := rawM_len hr
      exact ⟨hc, by rw [imB_byL hl.1 hl.2, rawM_inv hr]⟩
    · cases h
/-- what is answered, as lists and an error -/
def rdP (s : List UInt8) : List Pla := match readM s with
  | some (P, _) => P
  | none => []
def rdG (s : List UInt8) : List Int := match readM s with
  | some (_, G) => G
  | none => []
def rdME (s : List UInt8) : Int := if readM s = none then 4 else 0
theorem rdM_no {s : List UInt8} (h : readM s = none) : rdP s = [] ∧ rdG s = [] ∧ rdME s = 4 := by unfold rdP rdG rdME; rw [h, if_pos rfl]; exact ⟨rfl, rfl, rfl⟩
theorem rdM_yes {s : List UInt8} {P : List Pla} {G : List Int} (h : readM s = some (P, G)) : rdP s = P ∧ rdG s = G ∧ rdME s = 0 := by unfold rdP rdG rdME; rw [h, if_neg (by simp)]; exact ⟨rfl, rfl, rfl⟩
end Go.Proofs.YtbakgobgjfhhhaaDoor
