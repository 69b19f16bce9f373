/- Texts of ours, one behind the other: CelKit RCelIn -/
import Derived.Test.YtbakgobgjfhhhaaDoorDiskReadWalks
import Derived.Test.YtbakgobgjfhhhaaDoorPsad

/- A cell that is there, of a right disk. -/
namespace Go.Proofs.YtbakgobgjfhhhaaDoor
open Go.RowKit

/-- what a cell holds, as disk.Read reads it -/
def cel (C : List ByteArray) (P : List Pt) (k : Nat) : ByteArray := cellL allL (k : Int) P 0 (C.getD k ⟨#[]⟩)
theorem cellL_size (L : Nat → Bool) (a : Int) : ∀ (P : List Pt) (i : Nat) (s : ByteArray), s.size ≤ 140737488355328 → (∀ p ∈ P, p.tx.size ≤ 140737488355328) → (cellL L a P i s).size ≤ 140737488355328 := by
  intro P
  induction P with
  | nil => intro i s h _; exact h
  | cons p r ih =>
    intro i s h hp
    show (cellL L a r (i + 1) (if p.pl = a ∧ L i = true then p.tx else s)).size ≤ _
    refine ih _ _ ?_ (fun x hx => hp x (by simp [hx]))
    split
    · exact hp p (by simp)
    · exact h
theorem Dk.celB {w : World} {a0 : Option Addr} {n : Nat} {a1 : Option Addr} {m : Nat} {C : List ByteArray} {P : List Pt} (h : Dk w a0 n a1 m C P) (k : Nat) : (cel C P k).size ≤ 140737488355328 := by
  refine cellL_size _ _ _ _ _ ?_ h.tB
  rw [List.getD_eq_getElem?_getD]
  cases hk : C[k]? with
  | none => exact Nat.zero_le _
  | some s => exact h.sB s (List.mem_of_getElem? hk)
/-- a cell that is there, of a right disk -/
theorem dread_in (a0 a1 : Option Addr) (n c m d : Nat) (C : List ByteArray) (P : List Pt) (k : Nat) (w : World) (h : Dk w a0 n a1 m C P) (hc : chkD C P = 0) (hk : k < n) :
    Calls Tryd.prog 37 #[.agg #[.slice a0 n c, .slice a1 m d], .int .i64 (k : Int)] w fun e w' => e = .returned (.tuple #[.string (cel C P k), .int .i64 0]) ∧ Below w.heap.size w w' := by
  have h0 : rdD C P (k : Int) = 0 := by
    unfold rdD
    rw [if_pos hc, if_pos]
    unfold hasB
    exact decide_eq_true ⟨by omega, by rw [h.nC]; omega⟩
  refine (dread_any a0 a1 n c m d C P (k : Int) w h).mono fun e w' hh => ?_
  rcases hh with ⟨⟨_, rfl⟩ | ⟨q, hq, hq2, _⟩, hb⟩
  · exact ⟨by rw [Int.toNat_natCast]; rfl, hb⟩
  · exact absurd (hq2.out.symm.trans h0) hq
end Go.Proofs.YtbakgobgjfhhhaaDoor

/- A cell, as linenref.Cell reads it. -/
namespace Go.Proofs.YtbakgobgjfhhhaaDoor
open Go.RowKit

theorem rcel_in (a0 a1 : Option Addr) (n c m d : Nat) (C : List ByteArray) (P : List Pt) (k : Nat) (w : World) (h : Dk w a0 n a1 m C P) (hk : k < n) :
    Calls Tryd.prog 39 #[.agg #[.slice a0 n c, .slice a1 m d], .int .i64 (k : Int), .func (.func 40) #[] #[]] w fun e w' => e = .returned (.string (cel C P k)) ∧ Below w.heap.size w w' := rcellE_any a0 a1 n c m d C P k w h hk
end Go.Proofs.YtbakgobgjfhhhaaDoor
