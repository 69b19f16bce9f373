/- Check points as bytes. No Go in sight. -/
import Derived.Test.YtbakgobgjfhhhaaDoorImRdMath
import Derived.Test.YtbakgobgjfhhhaaDoorSealMath
namespace Go.Proofs.YtbakgobgjfhhhaaDoor

/-- numbers that may be: from 0 to 2^31-1 -/
def srlB (n : Int) : Bool := decide (0 ≤ n ∧ n ≤ 2147483647)
theorem srlB_is {n : Int} (h : srlB n = true) : 0 ≤ n ∧ n ≤ 2147483647 := of_decide_eq_true h
theorem srlB_no {n : Int} (h : srlB n = false) : n < 0 ∨ 2147483647 < n := by
  have := of_decide_eq_false h
  omega
/-- what stands in the seal of a point -/
def ptB (n : Int) (P : List Pla) (G : List Int) : List UInt8 := fixB n.toNat 4 ++ imB P G
theorem ptB_len (n : Int) (P : List Pla) (G : List Int) : (ptB n P G).length = 4 + (imB P G).length := by unfold ptB; rw [List.length_append, fixB_length]
theorem ptB_small (n : Int) {P : List Pla} {G : List Int} (h : chkM P G = 0) : (ptB n P G).length ≤ 340 := by
  rw [ptB_len]
  have := imK_len (chkM_ok h) 48 (by omega)
  show 4 + (imK P G 48).length ≤ 340
  omega
/-- what Write answers -/
def ptE (t n : Int) (P : List Pla) (G : List Int) : Int := if srlB t = true ∧ srlB n = true then chkM P G else 1
theorem ptE_no {t n : Int} {P : List Pla} {G : List Int} (h : ¬ (srlB t = true ∧ srlB n = true)) : ptE t n P G = 1 := if_neg h
theorem ptE_yes {t n : Int} {P : List Pla} {G : List Int} (h1 : srlB t = true) (h2 : srlB n = true) : ptE t n P G = chkM P G := if_pos ⟨h1, h2⟩
theorem ptE_ok {t n : Int} {P : List Pla} {G : List Int} (h : ptE t n P G = 0) : srlB t = true ∧ srlB n = true ∧ chkM P G = 0 := by
  unfold ptE at h
  split at h
  · next hh => exact ⟨hh.1, hh.2, h⟩
  · omega
theorem ptE_mk {t n : Int} {P : List Pla} {G : List Int} (h1 : srlB t = true) (h2 : srlB n = true) (h3 : chkM P G = 0) : ptE t n P G = 0 := by rw [ptE_yes h1 h2, h3]
theorem sel_point {t n : Int} {P : List Pla} {G : List Int} (h1 : srlB t = true) (h : chkM P G = 0) : selE 2 t (ptB n P G).length = 0 := by
  unfold selE
  have hz := ptB_small n h
  have := srlB_is h1
  rw [if_pos ((mayS_iff 2 t).2 ⟨.inr rfl, this.1, this.2⟩), if_neg (by omega)]
/-- the text of a point -/
def ptL (t n : Int) (P : List Pla) (G : List Int) : List UInt8 := if ptE t n P G = 0 then selS 2 t.toNat (ptB n P G) else []
theorem ptL_ok {t n : Int} {P : List Pla} {G : List Int} (h : ptE t n P G = 0) : ptL t n P G = selS 2 t.toNat (ptB n P G) := if_pos h
theorem ptL_no {t n : Int} {P : List Pla} {G : List Int} (h : ptE t n P G ≠ 0) : ptL t n P G = [] := if_neg h
/-- what Read takes from a text -/
def rdPt (s : List UInt8) : Option (Int × Int × List Pla × List Int) :=
  if opE s = 0 ∧ kiS s = 2 ∧ 4 ≤ (bdS s).length ∧ unfN ((bdS s).take 4) ≤ 2147483647 then
    (match readM ((bdS s).drop 4) with
    | some (P, G) => some (((srS s : Nat) : Int), ((unfN ((bdS s).take 4) : Nat) : Int), P, G)
    | none => none)
  else none
/-- its error -/
def rdPE (s : List UInt8) : Int := if opE s = 0 then (if (rdPt s).isSome then 0 else 4) else opE s
theorem rdPt_bad {s : List UInt8} (h : ¬ (opE s = 0 ∧ kiS s = 2 ∧ 4 ≤ (bdS s).length ∧ unfN ((bdS s).take 4) ≤ 2147483647)) : rdPt s = none := if_neg h
theorem rdPt_none {s : List UInt8} (h : readM ((bdS s).drop 4) = none) : rdPt s = none := by
  unfold rdPt
  split
  · rw [h]
  · rfl
theorem rdPt_some {s : List UInt8} (h1 : opE s = 0) (h2 : kiS s = 2) (h3 : 4 ≤ (bdS s).length) (h4 : unfN ((bdS s).take 4) ≤ 2147483647) {P : List Pla} {G : List Int} (h5 : readM ((bdS s).drop 4) = some (P, G)) : rdPt s = some (((srS s : Nat) : Int), ((unfN ((bdS s).take 4) : Nat) : Int), P, G) := by
  unfold rdPt
  rw [if_pos ⟨h1, h2, h3, h4⟩, h5]
theorem rdPt_parts {s : List UInt8} {t n : Int} {P : List Pla} {G : List Int} (h : rdPt s = some (t, n, P, G)) : opE s = 0 ∧ kiS s = 2 ∧ 4 ≤ (bdS s).length ∧ unfN ((bdS s).take 4) ≤ 2147483647 ∧ readM ((bdS s).drop 4) = some (P, G) ∧ t = (srS s : Nat) ∧ n = (unfN ((bdS s).take 4) : Nat) := by
  unfold rdPt at h
  split at h
  · next hh =>
    cases hr : readM ((bdS s).drop 4) with
    | none => rw [hr] at h; simp at h
    | some v =>
      obtain ⟨P2, G2⟩ := v
      rw [hr] at h
      simp only [Option.some.injEq, Prod.mk.injEq] at h
      obtain ⟨h1, h2, h3, h4⟩ := h
      subst h3 h4
      exact ⟨hh.1, hh.2.1, hh.2.2.1, hh.2.2.2, rfl, h1.symm, h2.symm⟩
  · simp at h
/-- what is written is read -/
theorem rdPt_back {t n : Int} {P : List Pla} {G : List Int} (h : ptE t n P G = 0) : rdPt (ptL t n P G) = some (t, n, P, G) := by
  obtain ⟨h1, h2, h3⟩ := ptE_ok h
  have k1 := srlB_is h1
  have k2 := srlB_is h2
  obtain ⟨t', rfl⟩ := Int.eq_ofNat_of_zero_le k1.1
  obtain ⟨n', rfl⟩ := Int.eq_ofNat_of_zero_le k2.1
  have hs := sel_point (n := (n' : Int)) h1 h3
  have ho := open_sel (k := 2) (n := t') (b := ptB n' P G) hs
  rw [ptL_ok h]
  simp only [Int.toNat_natCast]
  obtain ⟨o1, o2, o3, o4⟩ := ho
  have e4 : (ptB (n' : Int) P G).take 4 = fixB n' 4 := by
    unfold ptB
    rw [Int.toNat_natCast]
    exact List.take_left' (fixB_length n' 4)
  have d4 : (ptB (n' : Int) P G).drop 4 = imB P G := by
    unfold ptB
    rw [Int.toNat_natCast]
    exact List.drop_left' (fixB_length n' 4)
  have hu : unfN (fixB n' 4) = n' := unf_small n' 4 (by have := k2.2; omega)
  have hr := readM_back (chkM_ok h3)
  have := rdPt_some (s := selS 2 t' (ptB n' P G)) o1 o2 (by rw [o4, ptB_len]; omega) (by rw [o4, e4, hu]; have := k2.2; omega) (P := P) (G := G) (by rw [o4, d4]; exact hr)
  rw [this, o3, o4, e4, hu]
/-- what is read is written as just that text -/
theorem rdPt_inv {s : List UInt8} {t n : Int} {P : List Pla} {G : List Int} (h : rdPt s = some (t, n, P, G)) : ptE t n P G = 0 ∧ ptL t n P G = s := by
  obtain ⟨h1, h2, h3, h4, h5, rfl, rfl⟩ := rdPt_parts h
  obtain ⟨⟨a1, a2⟩, a3, a4, a5⟩ := opE_ok h1
  obtain ⟨i1, i2⟩ := (open_iff a1 a2 a3).2 h1
  obtain ⟨r1, r2⟩ := readM_inv h5
  obtain ⟨_, m1, m2⟩ := (mayS_iff _ _).1 a4
  have he : ptE ((srS s : Nat) : Int) ((unfN ((bdS s).take 4) : Nat) : Int) P G = 0 := ptE_mk (decide_eq_true ⟨m1, m2⟩) (decide_eq_true ⟨by omega, by omega⟩) r1
  refine ⟨he, ?_⟩
  rw [ptL_ok he]
  simp only [Int.toNat_natCast]
  have hb : ptB ((unfN ((bdS s).take 4) : Nat) : Int) P G = bdS s := by
    unfold ptB
    have := fixB_unfN ((bdS s).take 4)
    rw [show ((bdS s).take 4).length = 4 by rw [List.length_take]; omega] at this
    rw [Int.toNat_natCast, this, r2, List.take_append_drop]
  rw [hb]
  rw [h2] at i2
  exact i2
theorem rdPE_open {s : List UInt8} (h : opE s ≠ 0) : rdPE s = opE s ∧ rdPt s = none := ⟨if_neg h, rdPt_bad (fun hh => h hh.1)⟩
theorem rdPE_no {s : List UInt8} (h : opE s = 0) (h2 : rdPt s = none) : rdPE s = 4 := by
  unfold rdPE
  rw [if_pos h, h2]; rfl
theorem rdPE_yes {s : List UInt8} {t n : Int} {P : List Pla} {G : List Int} (h : rdPt s = some (t, n, P, G)) : rdPE s = 0 := by
  unfold rdPE
  rw [if_pos (rdPt_parts h).1, h]; rfl
theorem rdPE_none {s : List UInt8} (h : rdPt s = none) : rdPE s ≠ 0 := by
  unfold rdPE
  split
  · rw [h]; decide
  · next hh => exact hh
theorem rdPE_zero {s : List UInt8} (h : rdPE s = 0) : ∃ t n P G, rdPt s = some (t, n, P, G) := by
  cases hh : rdPt s with
  | none => exact absurd h (rdPE_none hh)
  | some v => obtain ⟨t, n, P, G⟩ := v; exact ⟨t, n, P, G, rfl⟩
end Go.Proofs.YtbakgobgjfhhhaaDoor
