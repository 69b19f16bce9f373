/- Ops that came in as a slice. -/
import Derived.Test.YtdhjadgmdmdnjaaDk
namespace Go.Proofs.Ytdhjadgmdmdnjaa
open Go.RowKit

structure Ops (w : World) (a0 : Option Addr) (n cap : Nat) (l : List Opp) : Prop where
  nL : l.length = n
  nB : n ≤ 8796093022208
  rd : Rd w a0 n 3 (opC l)
  oB : OpB l
  tB : ∀ o ∈ l, o.tx.size ≤ 140737488355328
  kc : n ≤ cap
  km : cap ≤ maxLen
  nc : a0 = none → cap = 0
theorem Ops.below {w w' : World} {a0 : Option Addr} {n cap : Nat} {l : List Opp} (h : Ops w a0 n cap l) (hb : Below w.heap.size w w') : Ops w' a0 n cap l := ⟨h.nL, h.nB, h.rd.below hb, h.oB, h.tB, h.kc, h.km, h.nc⟩
theorem Ops.at {w : World} {a0 : Option Addr} {n cap : Nat} {l : List Opp} (h : Ops w a0 n cap l) (k : Nat) (hk : k < n) :
    ∃ b off, a0 = some ⟨b, off, none⟩ ∧ b < w.heap.size ∧ w.cell? ⟨b, off + k * 3, none⟩ = some (.int .i64 (l.getD k noOp).kd) ∧ w.cell? ⟨b, off + k * 3 + 1, none⟩ = some (.int .i64 (l.getD k noOp).pl) ∧ w.cell? ⟨b, off + k * 3 + 2, none⟩ = some (.string (l.getD k noOp).tx) := by
  obtain ⟨b, off, e, hb, hc⟩ := h.rd.at' (by omega)
  have := opC_at l k (by rw [h.nL]; exact hk)
  exact ⟨b, off, e, hb, hc _ _ this.1, by have := hc _ _ this.2.1; rwa [← Nat.add_assoc] at this, by have := hc _ _ this.2.2; rwa [← Nat.add_assoc] at this⟩
theorem Ops.pre {w : World} {a0 : Option Addr} {n cap : Nat} {l : List Opp} (h : Ops w a0 n cap l) (m : Nat) (hm : m ≤ n) : Ops w a0 m cap (l.take m) := by
  have h1 := h.rd.pre m hm
  have e : (opC l).take (m * 3) = opC (l.take m) := by
    apply List.ext_getElem?
    intro j
    by_cases hj : j < m * 3
    · rw [List.getElem?_take_of_lt hj]
      obtain ⟨i, r, hr, rfl⟩ : ∃ i r, r < 3 ∧ j = i * 3 + r := ⟨j / 3, j % 3, by omega, by omega⟩
      have hi : i < m := by omega
      have hl := h.nL
      have e1 := opC_at l i (by omega)
      have e2 := opC_at (l.take m) i (by rw [List.length_take]; omega)
      have e3 : (l.take m).getD i noOp = l.getD i noOp := by rw [List.getD_eq_getElem?_getD, List.getD_eq_getElem?_getD, List.getElem?_take_of_lt hi]
      rw [e3] at e2
      rcases (by omega : r = 0 ∨ r = 1 ∨ r = 2) with rfl | rfl | rfl
      · rw [Nat.add_zero, e1.1, e2.1]
      · rw [e1.2.1, e2.2.1]
      · rw [e1.2.2, e2.2.2]
    · rw [List.getElem?_eq_none (by rw [List.length_take]; omega), List.getElem?_eq_none (by rw [opC_length, List.length_take]; omega)]
  rw [e] at h1
  exact ⟨by rw [List.length_take, h.nL]; omega, by have := h.nB; omega, h1, fun o ho => h.oB o (List.mem_of_mem_take ho), fun o ho => h.tB o (List.mem_of_mem_take ho), by have := h.kc; omega, h.km, h.nc⟩
/-- ops that came in -/
structure OpsIn (w : World) (a0 : Option Addr) (n cap : Nat) (l : List Opp) : Prop where
  ops : Ops w a0 n cap l
  nM : n ≤ 4398046511103
end Go.Proofs.Ytdhjadgmdmdnjaa
