/- Plain facts: the one way to say abcabcabc in four marks. No Go in sight. -/
import Derived.Test.YtpkidjledgcemacFewMath
namespace Go.Proofs.Ytpkidjledgcemac

def s9 : List UInt8 := [97, 98, 99, 97, 98, 99, 97, 98, 99]
def m9 : List Mk := [⟨0, 0, 97⟩, ⟨0, 0, 98⟩, ⟨0, 0, 99⟩, ⟨6, 3, 0⟩]
/-- the first of marks that say s -/
theorem ex_head {m : Mk} {t : List Mk} {out s : List UInt8} (h : exE (m :: t) out = 0) (hs : exT (m :: t) out = s) :
    okM m = true ∧ m.ds ≤ out.length ∧ exE t (addM out m) = 0 ∧ exT t (addM out m) = s ∧ ∃ more, s = addM out m ++ more := by
  cases hm : okM m with
  | false => rw [exE_form _ _ _ hm] at h; exact absurd h (by decide)
  | true =>
    by_cases hd : (out.length : Int) < m.ds
    · rw [exE_dist _ _ _ hm hd] at h; exact absurd h (by decide)
    · by_cases hl : 512 < out.length + szM m
      · rw [exE_large _ _ _ hm hd hl] at h; exact absurd h (by decide)
      · rw [exE_step _ _ _ hm hd hl] at h
        rw [exT] at hs
        obtain ⟨more, hmore⟩ := exT_pre t (addM out m)
        exact ⟨rfl, by omega, h, hs, more, by rw [← hs]; exact hmore⟩
theorem ex_byte {m : Mk} {out s : List UInt8} (hm : okM m = true) (hd : m.ds ≤ out.length) (hs : ∃ more, s = addM out m ++ more) (hb : m.by' < 256) (hn : ∀ d, 1 ≤ d → d ≤ out.length → s.getD (out.length - d) 0 ≠ s.getD out.length 0) : m = ⟨0, 0, (s.getD out.length 0).toNat⟩ := by
  obtain ⟨more, hmore⟩ := hs
  rcases okM_of hm with ⟨h1, h2⟩ | ⟨h1, h2, h3, h4⟩
  · have had : addM out m = out ++ [UInt8.ofNat m.by'] := by unfold addM; rw [if_pos h1]
    have : s.getD out.length 0 = UInt8.ofNat m.by' := by
      rw [hmore, had, List.append_assoc, List.getD_eq_getElem?_getD, List.getElem?_append_right (Nat.le_refl _)]
      simp
    obtain ⟨a, b, c⟩ := m
    simp only at h1 h2 hb this
    subst h1 h2
    rw [this, UInt8.toNat_ofNat']
    congr 1
    omega
  · exfalso
    have had : addM out m = cpy m.ds.toNat m.ln.toNat out := by unfold addM; rw [if_neg (by omega)]
    have hg := cpy_mod m.ds.toNat (by omega) m.ln.toNat out (by omega) 0 (by omega)
    rw [Nat.add_zero, Nat.zero_mod, Nat.add_zero] at hg
    refine hn m.ds.toNat (by omega) (by omega) ?_
    have hl := cpy_len m.ds.toNat m.ln.toNat out
    rw [hmore, had, getD_pre _ _ _ (by omega), getD_pre _ _ _ (by omega), hg, cpy_old _ _ _ _ (by omega)]
theorem only9 {ms : List Mk} (he : exE ms [] = 0) (ht : exT ms [] = s9) (hl : ms.length ≤ 4) (hb : ∀ m ∈ ms, m.by' < 256) : ms = m9 := by
  match ms with
  | [] => simp [exT, s9] at ht
  | a :: r1 =>
    obtain ⟨o1, d1, e1, t1, p1⟩ := ex_head he ht
    have ha := ex_byte o1 d1 p1 (hb a (by simp)) (fun d h1 h2 => by simp at h2; omega)
    subst ha
    have w1 : addM [] ⟨0, 0, (s9.getD ([] : List UInt8).length 0).toNat⟩ = [97] := by decide
    rw [w1] at e1 t1
    match r1 with
    | [] => simp [exT, s9] at t1
    | b :: r2 =>
      obtain ⟨o2, d2, e2, t2, p2⟩ := ex_head e1 t1
      have hb2 := ex_byte o2 d2 p2 (hb b (by simp)) (fun d h1 h2 => by
        have : d = 1 := by simp at h2; omega
        subst this; decide)
      subst hb2
      have w2 : addM [97] ⟨0, 0, (s9.getD ([97] : List UInt8).length 0).toNat⟩ = [97, 98] := by decide
      rw [w2] at e2 t2
      match r2 with
      | [] => simp [exT, s9] at t2
      | c :: r3 =>
        obtain ⟨o3, d3, e3, t3, p3⟩ := ex_head e2 t2
        have hc3 := ex_byte o3 d3 p3 (hb c (by simp)) (fun d h1 h2 => by
          have : d = 1 ∨ d = 2 := by simp at h2; omega
          rcases this with rfl | rfl <;> decide)
        subst hc3
        have w3 : addM [97, 98] ⟨0, 0, (s9.getD ([97, 98] : List UInt8).length 0).toNat⟩ = [97, 98, 99] := by decide
        rw [w3] at e3 t3
        match r3 with
        | [] => simp [exT, s9] at t3
        | f :: r4 =>
          have hr4 : r4 = [] := by
            simp only [List.length_cons] at hl
            exact List.length_eq_zero_iff.1 (by omega)
          subst hr4
          obtain ⟨o4, d4, e4, t4, p4⟩ := ex_head e3 t3
          rw [exT] at t4
          have hlen := addM_len [97, 98, 99] f
          rw [t4] at hlen
          have h9 : s9.length = 9 := rfl
          rw [h9] at hlen
          simp only [List.length_cons, List.length_nil] at hlen d4
          have hsz : szM f = 6 := by omega
          rcases okM_of o4 with ⟨h1, h2⟩ | ⟨h1, h2, h3, h4⟩
          · unfold szM at hsz; rw [if_pos h1] at hsz; omega
          · unfold szM at hsz
            rw [if_neg (by omega)] at hsz
            have hln : f.ln = 6 := by omega
            have had : addM [97, 98, 99] f = cpy f.ds.toNat 6 [97, 98, 99] := by unfold addM; rw [if_neg (by omega), hsz]
            have hds : f.ds = 3 := by
              have : f.ds = 1 ∨ f.ds = 2 ∨ f.ds = 3 := by omega
              rcases this with h | h | h
              · rw [had, h] at t4; exact absurd t4 (by decide)
              · rw [had, h] at t4; exact absurd t4 (by decide)
              · exact h
            obtain ⟨fa, fb, fc⟩ := f
            simp only at hln hds h4
            subst hln hds h4
            rfl
theorem way9 : Way s9 4 0 s9.length := by
  have h : exE m9 [] = 0 := by decide
  have ht : exT m9 [] = s9 := by decide
  have := way_marks m9 [] h
  rw [ht] at this
  exact this
end Go.Proofs.Ytpkidjledgcemac
