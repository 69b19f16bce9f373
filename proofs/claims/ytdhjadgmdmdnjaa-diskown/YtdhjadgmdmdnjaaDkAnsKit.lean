/- Disks that were answered, as disks that can be read. -/
import Derived.Test.YtdhjadgmdmdnjaaDiskOpsWalks
namespace Go.Proofs.Ytdhjadgmdmdnjaa
open Go.RowKit

theorem dk_of_own {w : World} {N : Nat} {u v : Value} {C : List ByteArray} {P : List Pt} (h : OwnDk w N u v C P) (hok : OkD C P) : ∃ a0 n c a1 m d, u = .slice a0 n c ∧ v = .slice a1 m d ∧ Dk w a0 n a1 m C P := by
  obtain ⟨a0, c, e0, _, _, _, r0⟩ := Rd.of_own h.rc
  obtain ⟨a1, d, e1, _, _, _, r1⟩ := Rd.of_own h.rp
  refine ⟨a0, _, c, a1, _, d, e0, e1, rfl, rfl, by have := hok.n2; omega, by have := hok.m; omega, r0, r1, fun p hp => ?_, fun s hs => ?_, fun p hp => ?_⟩
  · have := putE_zero (hok.ps p hp); have := hok.n2; omega
  · have := hok.cs s hs; omega
  · have := putE_zero (hok.ps p hp); omega
theorem dk_nil (w : World) : Dk w none 0 none 0 [] [] := ⟨rfl, rfl, by omega, by omega, Rd.nil _ _ _, Rd.nil _ _ _, fun p hp => by simp at hp, fun s hs => by simp at hs, fun p hp => by simp at hp⟩
/-- what came of it: the disk, or none -/
structure DkRes (w : World) (q : Int) (a0 : Option Addr) (n : Nat) (a1 : Option Addr) (m : Nat) (C : List ByteArray) (P : List Pt) : Prop where
  is : ∃ C' P', Dk w a0 n a1 m C' P' ∧ (q = 0 → C' = C ∧ P' = P) ∧ (q ≠ 0 → C' = [] ∧ P' = [])
theorem res_of_ans {w : World} {N : Nat} {e : Ending} {q : Int} {C : List ByteArray} {P : List Pt} (h : DkAns w N e q C P) (hok : q = 0 → OkD C P) :
    ∃ a0 n c a1 m d, e = .returned (.tuple #[.agg #[.slice a0 n c, .slice a1 m d], .int .i64 q]) ∧ DkRes w q a0 n a1 m C P := by
  rcases h with ⟨rfl, u, v, rfl, ho⟩ | ⟨hq, rfl⟩
  · obtain ⟨a0, n, c, a1, m, d, rfl, rfl, hd⟩ := dk_of_own ho (hok rfl)
    exact ⟨a0, n, c, a1, m, d, rfl, ⟨C, P, hd, fun _ => ⟨rfl, rfl⟩, fun h => absurd rfl h⟩⟩
  · exact ⟨none, 0, 0, none, 0, 0, rfl, ⟨[], [], dk_nil w, fun h => absurd h hq, fun _ => ⟨rfl, rfl⟩⟩⟩
theorem DkRes.below {w w' : World} {q : Int} {a0 : Option Addr} {n : Nat} {a1 : Option Addr} {m : Nat} {C : List ByteArray} {P : List Pt} (h : DkRes w q a0 n a1 m C P) (hb : Below w.heap.size w w') : DkRes w' q a0 n a1 m C P := by
  obtain ⟨C', P', h1, h2⟩ := h.is
  exact ⟨C', P', h1.below hb, h2⟩
theorem DkRes.yes {w : World} {q : Int} {a0 : Option Addr} {n : Nat} {a1 : Option Addr} {m : Nat} {C : List ByteArray} {P : List Pt} (h : DkRes w q a0 n a1 m C P) (hq : q = 0) : Dk w a0 n a1 m C P := by
  obtain ⟨C', P', h1, h2, _⟩ := h.is
  obtain ⟨rfl, rfl⟩ := h2 hq
  exact h1
theorem DkRes.no {w : World} {q : Int} {a0 : Option Addr} {n : Nat} {a1 : Option Addr} {m : Nat} {C : List ByteArray} {P : List Pt} (h : DkRes w q a0 n a1 m C P) (hq : q ≠ 0) : Dk w a0 n a1 m [] [] := by
  obtain ⟨C', P', h1, _, h2⟩ := h.is
  obtain ⟨rfl, rfl⟩ := h2 hq
  exact h1
end Go.Proofs.Ytdhjadgmdmdnjaa
