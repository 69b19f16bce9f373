/- Blobs in memory. -/
import Derived.Test.YtjfmpnphlpeikaaRd
import Derived.Test.YtjfmpnphlpeikaaBlMath
namespace Go.Proofs.Ytjfmpnphlpeikaa
open Go.RowKit

def bl4 (b : Blb) : List Value := [.int .i64 b.kd, .int .i64 b.io, .int .i64 b.nt, .string b.tx]
def blC (l : List Blb) : List Value := l.flatMap bl4
theorem blC_length (P : List Blb) : (blC P).length = P.length * 4 := by
  induction P with
  | nil => rfl
  | cons m t ih => rw [blC, List.flatMap_cons, List.length_append, ← blC, ih]; simp [bl4]; omega
theorem blC_snoc (P : List Blb) (p : Blb) : blC (P ++ [p]) = blC P ++ bl4 p := by simp [blC]
theorem blC_app (P Q : List Blb) : blC (P ++ Q) = blC P ++ blC Q := by simp [blC]
theorem blC_at (P : List Blb) : ∀ i (_ : i < P.length), (blC P)[i * 4]? = some (.int .i64 (P.getD i noBl).kd) ∧ (blC P)[i * 4 + 1]? = some (.int .i64 (P.getD i noBl).io) ∧ (blC P)[i * 4 + 2]? = some (.int .i64 (P.getD i noBl).nt) ∧ (blC P)[i * 4 + 3]? = some (.string (P.getD i noBl).tx) := by
  induction P with
  | nil => intro i h; simp at h
  | cons m t ih =>
    intro i h
    have e : blC (m :: t) = .int .i64 m.kd :: .int .i64 m.io :: .int .i64 m.nt :: .string m.tx :: blC t := by simp [blC, bl4]
    rw [e]
    cases i with
    | zero => exact ⟨rfl, rfl, rfl, rfl⟩
    | succ i =>
      have := ih i (by simpa using h)
      rw [show (i + 1) * 4 = i * 4 + 1 + 1 + 1 + 1 by omega]
      simp only [List.getElem?_cons_succ, List.getD_cons_succ]
      exact this
theorem blC_one (P : List Blb) : ∀ u ∈ blC P, u.oneCell' = true := by
  intro u hu
  obtain ⟨p, _, hp⟩ := List.mem_flatMap.1 hu
  simp only [bl4, List.mem_cons, List.not_mem_nil, or_false] at hp
  rcases hp with rfl | rfl | rfl | rfl <;> rfl
/-- numbers that an int holds, texts that there may be -/
structure BlB (b : Blb) : Prop where
  k : -9223372036854775808 ≤ b.kd ∧ b.kd ≤ 9223372036854775807
  i : -9223372036854775808 ≤ b.io ∧ b.io ≤ 9223372036854775807
  n : -9223372036854775808 ≤ b.nt ∧ b.nt ≤ 9223372036854775807
  t : b.tx.size ≤ 140737488355328
/-- blobs that can be read -/
structure Bls (w : World) (a0 : Option Addr) (n cap : Nat) (l : List Blb) : Prop where
  nL : l.length = n
  nB : n ≤ 8796093022208
  rd : Rd w a0 n 4 (blC l)
  bB : ∀ b ∈ l, BlB b
  kc : n ≤ cap
  km : cap ≤ maxLen
  nc : a0 = none → cap = 0
theorem Bls.below {w w' : World} {a0 : Option Addr} {n cap : Nat} {l : List Blb} (h : Bls w a0 n cap l) (hb : Below w.heap.size w w') : Bls w' a0 n cap l := ⟨h.nL, h.nB, h.rd.below hb, h.bB, h.kc, h.km, h.nc⟩
theorem Bls.drew {w : World} {a0 : Option Addr} {n cap : Nat} {l : List Blb} (h : Bls w a0 n cap l) : Bls w.drew a0 n cap l := h.below ((Below.refl _ w).drew)
theorem Bls.at {w : World} {a0 : Option Addr} {n cap : Nat} {l : List Blb} (h : Bls w a0 n cap l) (k : Nat) (hk : k < n) :
    ∃ b off, a0 = some ⟨b, off, none⟩ ∧ b < w.heap.size ∧ w.cell? ⟨b, off + k * 4, none⟩ = some (.int .i64 (l.getD k noBl).kd) ∧ w.cell? ⟨b, off + k * 4 + 1, none⟩ = some (.int .i64 (l.getD k noBl).io) ∧ w.cell? ⟨b, off + k * 4 + 2, none⟩ = some (.int .i64 (l.getD k noBl).nt) ∧ w.cell? ⟨b, off + k * 4 + 3, none⟩ = some (.string (l.getD k noBl).tx) := by
  obtain ⟨b, off, e, hb, hc⟩ := h.rd.at' (by omega)
  have := blC_at l k (by rw [h.nL]; exact hk)
  exact ⟨b, off, e, hb, hc _ _ this.1, by have := hc _ _ this.2.1; rwa [← Nat.add_assoc] at this, by have := hc _ _ this.2.2.1; rwa [← Nat.add_assoc] at this, by have := hc _ _ this.2.2.2; rwa [← Nat.add_assoc] at this⟩
/-- from the m-th on: the address as it is sliced -/
theorem Bls.suf {w : World} {b off n cap : Nat} {l : List Blb} (h : Bls w (some ⟨b, off, none⟩) n cap l) (m : Nat) (hm : m ≤ n) (a : Option Addr) (ha : m < n → a = some ⟨b, off + m * 4, none⟩) (hn : a = none → cap - m = 0) : Bls w a (n - m) (cap - m) (l.drop m) := by
  have hlen : (l.drop m).length = n - m := by rw [List.length_drop, h.nL]
  refine ⟨hlen, by have := h.nB; omega, ⟨by rw [blC_length, hlen], fun hp => ?_⟩, fun b hb => h.bB b (List.mem_of_mem_drop hb), by have := h.kc; omega, by have := h.km; omega, hn⟩
  obtain ⟨b', off', e, hb, hc⟩ := h.rd.at' (by omega)
  cases e
  refine ⟨b, off + m * 4, ha (by omega), hb, fun j u hj => ?_⟩
  have e : blC l = blC (l.take m) ++ blC (l.drop m) := by rw [← blC_app, List.take_append_drop]
  have hl : (blC (l.take m)).length = m * 4 := by rw [blC_length, List.length_take, h.nL, Nat.min_eq_left hm]
  have := hc (m * 4 + j) u (by rw [e, List.getElem?_append_right (by omega), hl, Nat.add_sub_cancel_left]; exact hj)
  rwa [← Nat.add_assoc] at this
theorem Bls.pre {w : World} {a0 : Option Addr} {n cap : Nat} {l : List Blb} (h : Bls w a0 n cap l) (m : Nat) (hm : m ≤ n) : Bls w a0 m cap (l.take m) := by
  have hl : (l.take m).length = m := by rw [List.length_take, h.nL, Nat.min_eq_left hm]
  refine ⟨hl, by have := h.nB; omega, ⟨by rw [blC_length, hl], fun hp => ?_⟩, fun b hb => h.bB b (List.mem_of_mem_take hb), by have := h.kc; omega, h.km, h.nc⟩
  obtain ⟨b, off, e, hb, hc⟩ := h.rd.at' (by omega)
  refine ⟨b, off, e, hb, fun j u hj => hc j u ?_⟩
  have e2 : blC l = blC (l.take m) ++ blC (l.drop m) := by rw [← blC_app, List.take_append_drop]
  rw [e2, List.getElem?_append_left (List.getElem?_eq_some_iff.1 hj).1]; exact hj
/-- resliced from the m-th on -/
theorem Bls.reslice {w : World} {a : Option Addr} {n c : Nat} {l : List Blb} (h : Bls w a n c l) (m : Nat) (hm : m ≤ n) : Bls w (if c = m then a else a.map (·.add (m * 4))) (n - m) (c - m) (l.drop m) := by
  by_cases hc : c = m
  · rw [if_pos hc]
    have hk := h.kc
    have e1 : n - m = 0 := by omega
    have e2 : c - m = 0 := by omega
    have e3 : l.drop m = [] := List.drop_of_length_le (by rw [h.nL]; omega)
    rw [e1, e2, e3]
    exact ⟨rfl, by omega, Rd.nil _ _ _, fun b hb => by simp at hb, by omega, by omega, fun _ => rfl⟩
  · rw [if_neg hc]
    have hk := h.kc
    match a, h with
    | none, h => exact absurd (h.nc rfl) (by omega)
    | some ad, h =>
      by_cases hn : 0 < n
      · obtain ⟨b, off, e, _⟩ := h.rd.at' hn
        cases e
        exact h.suf m hm _ (fun _ => by show some (Addr.add _ _) = _; rw [addR]) (fun e => by simp at e)
      · have hm0 : m = 0 := by omega
        subst hm0
        have e3 : l = [] := List.length_eq_zero_iff.1 (by rw [h.nL]; omega)
        subst e3
        have hn0 : n = 0 := by omega
        subst hn0
        exact ⟨rfl, by omega, Rd.nil _ _ _, fun b hb => by simp at hb, by omega, by have := h.km; omega, fun e => by simp at e⟩
theorem drop_at' {l : List Blb} {k n : Nat} (hl : l.length = n) (h : k < n) : l.drop k = l.getD k noBl :: l.drop (k + 1) := by
  rw [List.drop_eq_getElem_cons (by omega), List.getD_eq_getElem?_getD, List.getElem?_eq_getElem (by omega)]; rfl
theorem getD_memB {l : List Blb} {k n : Nat} (hl : l.length = n) (h : k < n) : l.getD k noBl ∈ l := by
  rw [List.getD_eq_getElem?_getD, List.getElem?_eq_getElem (by omega)]; exact List.getElem_mem _
end Go.Proofs.Ytjfmpnphlpeikaa
