/- Disks in memory. -/
import Derived.Test.YtdhjadgmdmdnjaaRd
import Derived.Test.YtdhjadgmdmdnjaaDkMath
namespace Go.Proofs.Ytdhjadgmdmdnjaa
open Go.RowKit

def pt2 (p : Pt) : List Value := [.int .i64 p.pl, .string p.tx]
def ptC (P : List Pt) : List Value := P.flatMap pt2
theorem ptC_length (P : List Pt) : (ptC P).length = P.length * 2 := by
  induction P with
  | nil => rfl
  | cons m t ih => rw [ptC, List.flatMap_cons, List.length_append, ← ptC, ih]; simp [pt2]; omega
theorem ptC_snoc (P : List Pt) (p : Pt) : ptC (P ++ [p]) = ptC P ++ pt2 p := by simp [ptC]
theorem ptC_at (P : List Pt) : ∀ i (_ : i < P.length), (ptC P)[i * 2]? = some (.int .i64 (P.getD i noPt).pl) ∧ (ptC P)[i * 2 + 1]? = some (.string (P.getD i noPt).tx) := by
  induction P with
  | nil => intro i h; simp at h
  | cons m t ih =>
    intro i h
    have e : ptC (m :: t) = .int .i64 m.pl :: .string m.tx :: ptC t := by simp [ptC, pt2]
    rw [e]
    cases i with
    | zero => exact ⟨rfl, rfl⟩
    | succ i =>
      have := ih i (by simpa using h)
      rw [show (i + 1) * 2 = i * 2 + 1 + 1 by omega]
      simp only [List.getElem?_cons_succ, List.getD_cons_succ]
      exact this
theorem ptC_one (P : List Pt) : ∀ u ∈ ptC P, u.oneCell' = true := by
  intro u hu
  obtain ⟨p, _, hp⟩ := List.mem_flatMap.1 hu
  simp only [pt2, List.mem_cons, List.not_mem_nil, or_false] at hp
  rcases hp with rfl | rfl <;> rfl
def op3 (o : Opp) : List Value := [.int .i64 o.kd, .int .i64 o.pl, .string o.tx]
def opC (l : List Opp) : List Value := l.flatMap op3
theorem opC_length (P : List Opp) : (opC P).length = P.length * 3 := by
  induction P with
  | nil => rfl
  | cons m t ih => rw [opC, List.flatMap_cons, List.length_append, ← opC, ih]; simp [op3]; omega
theorem opC_snoc (P : List Opp) (p : Opp) : opC (P ++ [p]) = opC P ++ op3 p := by simp [opC]
theorem opC_at (P : List Opp) : ∀ i (_ : i < P.length), (opC P)[i * 3]? = some (.int .i64 (P.getD i noOp).kd) ∧ (opC P)[i * 3 + 1]? = some (.int .i64 (P.getD i noOp).pl) ∧ (opC P)[i * 3 + 2]? = some (.string (P.getD i noOp).tx) := by
  induction P with
  | nil => intro i h; simp at h
  | cons m t ih =>
    intro i h
    have e : opC (m :: t) = .int .i64 m.kd :: .int .i64 m.pl :: .string m.tx :: opC t := by simp [opC, op3]
    rw [e]
    cases i with
    | zero => exact ⟨rfl, rfl, rfl⟩
    | succ i =>
      have := ih i (by simpa using h)
      rw [show (i + 1) * 3 = i * 3 + 1 + 1 + 1 by omega]
      simp only [List.getElem?_cons_succ, List.getD_cons_succ]
      exact this
theorem opC_one (P : List Opp) : ∀ u ∈ opC P, u.oneCell' = true := by
  intro u hu
  obtain ⟨p, _, hp⟩ := List.mem_flatMap.1 hu
  simp only [op3, List.mem_cons, List.not_mem_nil, or_false] at hp
  rcases hp with rfl | rfl | rfl <;> rfl
/-- numbers that an int holds -/
def PtB (P : List Pt) : Prop := ∀ p ∈ P, -9223372036854775808 ≤ p.pl ∧ p.pl ≤ 9223372036854775807
def OpB (P : List Opp) : Prop := ∀ p ∈ P, (-9223372036854775808 ≤ p.kd ∧ p.kd ≤ 9223372036854775807) ∧ (-9223372036854775808 ≤ p.pl ∧ p.pl ≤ 9223372036854775807)
/-- a disk that can be read -/
structure Dk (w : World) (a0 : Option Addr) (n : Nat) (a1 : Option Addr) (m : Nat) (C : List ByteArray) (P : List Pt) : Prop where
  nC : C.length = n
  mP : P.length = m
  nB : n ≤ 8796093022208
  mB : m ≤ 5864062014805
  rc : Rd w a0 n 1 (stC C)
  rp : Rd w a1 m 2 (ptC P)
  pB : PtB P
  sB : ∀ s ∈ C, s.size ≤ 140737488355328
  tB : ∀ p ∈ P, p.tx.size ≤ 140737488355328
theorem Dk.below {w w' : World} {a0 : Option Addr} {n : Nat} {a1 : Option Addr} {m : Nat} {C : List ByteArray} {P : List Pt} (h : Dk w a0 n a1 m C P) (hb : Below w.heap.size w w') : Dk w' a0 n a1 m C P :=
  ⟨h.nC, h.mP, h.nB, h.mB, h.rc.below hb, h.rp.below hb, h.pB, h.sB, h.tB⟩
theorem Dk.drew {w : World} {a0 : Option Addr} {n : Nat} {a1 : Option Addr} {m : Nat} {C : List ByteArray} {P : List Pt} (h : Dk w a0 n a1 m C P) : Dk w.drew a0 n a1 m C P := h.below ((Below.refl _ w).drew)
theorem Dk.cell {w : World} {a0 : Option Addr} {n : Nat} {a1 : Option Addr} {m : Nat} {C : List ByteArray} {P : List Pt} (h : Dk w a0 n a1 m C P) (k : Nat) (hk : k < n) :
    ∃ b off, a0 = some ⟨b, off, none⟩ ∧ b < w.heap.size ∧ w.cell? ⟨b, off + k, none⟩ = some (.string (C.getD k ⟨#[]⟩)) := by
  obtain ⟨b, off, e, hb, hc⟩ := h.rc.at' (by omega)
  exact ⟨b, off, e, hb, hc k _ (stC_at C k (by rw [h.nC]; exact hk))⟩
theorem Dk.put {w : World} {a0 : Option Addr} {n : Nat} {a1 : Option Addr} {m : Nat} {C : List ByteArray} {P : List Pt} (h : Dk w a0 n a1 m C P) (k : Nat) (hk : k < m) :
    ∃ b off, a1 = some ⟨b, off, none⟩ ∧ b < w.heap.size ∧ w.cell? ⟨b, off + k * 2, none⟩ = some (.int .i64 (P.getD k noPt).pl) ∧ w.cell? ⟨b, off + k * 2 + 1, none⟩ = some (.string (P.getD k noPt).tx) := by
  obtain ⟨b, off, e, hb, hc⟩ := h.rp.at' (by omega)
  have := ptC_at P k (by rw [h.mP]; exact hk)
  exact ⟨b, off, e, hb, hc _ _ this.1, by have := hc _ _ this.2; rwa [← Nat.add_assoc] at this⟩
end Go.Proofs.Ytdhjadgmdmdnjaa
