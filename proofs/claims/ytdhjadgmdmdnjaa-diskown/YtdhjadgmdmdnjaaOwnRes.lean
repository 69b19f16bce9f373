/- Answers that are disks, kept while older blocks are written. -/
import Derived.Test.YtdhjadgmdmdnjaaDkAnsKit
namespace Go.Proofs.Ytdhjadgmdmdnjaa
open Go.RowKit

/-- a disk that was answered, or none -/
def OwnRes (w : World) (N : Nat) (q : Int) (u v : Value) (C : List ByteArray) (P : List Pt) : Prop :=
  (q = 0 ∧ OkD C P ∧ OwnDk w N u v C P) ∨ (q ≠ 0 ∧ u = .slice none 0 0 ∧ v = .slice none 0 0)
theorem ores_of_ans {w : World} {N : Nat} {e : Ending} {q : Int} {C : List ByteArray} {P : List Pt} (h : DkAns w N e q C P) (hok : q = 0 → OkD C P) :
    ∃ a0 n c a1 m d, e = .returned (.tuple #[.agg #[.slice a0 n c, .slice a1 m d], .int .i64 q]) ∧ OwnRes w N q (.slice a0 n c) (.slice a1 m d) C P := by
  rcases h with ⟨rfl, u, v, rfl, ho⟩ | ⟨hq, rfl⟩
  · have ho' := ho
    obtain ⟨a0, n, c, a1, m, d, rfl, rfl, hd⟩ := dk_of_own ho (hok rfl)
    exact ⟨a0, n, c, a1, m, d, rfl, .inl ⟨rfl, hok rfl, ho'⟩⟩
  · exact ⟨none, 0, 0, none, 0, 0, rfl, .inr ⟨hq, rfl, rfl⟩⟩
theorem ores_nil {w : World} {N : Nat} {q : Int} {C : List ByteArray} {P : List Pt} (hq : q ≠ 0) : OwnRes w N q (.slice none 0 0) (.slice none 0 0) C P := .inr ⟨hq, rfl, rfl⟩
theorem OwnRes.below {w w' : World} {N : Nat} {q : Int} {u v : Value} {C : List ByteArray} {P : List Pt} (h : OwnRes w N q u v C P) (hb : Below w.heap.size w w') : OwnRes w' N q u v C P := by
  rcases h with ⟨h1, h2, h3⟩ | h
  · exact .inl ⟨h1, h2, h3.below hb⟩
  · exact .inr h
theorem OwnRes.set2 {w : World} {N g : Nat} {q : Int} {u v : Value} {C : List ByteArray} {P : List Pt} (h : OwnRes w N q u v C P) (hg : g < N) (x y : Value) : OwnRes ((w.setCell ⟨g, 0, none⟩ x).setCell ⟨g, 1, none⟩ y) N q u v C P := by
  rcases h with ⟨h1, h2, h3⟩ | h
  · exact .inl ⟨h1, h2, (h3.setLow (a := ⟨g, 0, none⟩) hg x).setLow (a := ⟨g, 1, none⟩) hg y⟩
  · exact .inr h
theorem OwnRes.dk {w : World} {N : Nat} {q : Int} {a0 : Option Addr} {n c : Nat} {a1 : Option Addr} {m d : Nat} {C : List ByteArray} {P : List Pt} (h : OwnRes w N q (.slice a0 n c) (.slice a1 m d) C P) : Dk w a0 n a1 m (if q = 0 then C else []) (if q = 0 then P else []) := by
  rcases h with ⟨h1, h2, h3⟩ | ⟨h1, h2, h3⟩
  · rw [if_pos h1, if_pos h1]
    obtain ⟨b0, n', c', b1, m', d', e0, e1, hd⟩ := dk_of_own h3 h2
    cases e0
    cases e1
    exact hd
  · rw [if_neg h1, if_neg h1]
    cases h2
    cases h3
    exact dk_nil w
theorem OwnRes.yes {w : World} {N : Nat} {q : Int} {a0 : Option Addr} {n c : Nat} {a1 : Option Addr} {m d : Nat} {C : List ByteArray} {P : List Pt} (h : OwnRes w N q (.slice a0 n c) (.slice a1 m d) C P) (hq : q = 0) : Dk w a0 n a1 m C P := by
  have := h.dk
  rw [if_pos hq, if_pos hq] at this; exact this
theorem OwnRes.no {w : World} {N : Nat} {q : Int} {a0 : Option Addr} {n c : Nat} {a1 : Option Addr} {m d : Nat} {C : List ByteArray} {P : List Pt} (h : OwnRes w N q (.slice a0 n c) (.slice a1 m d) C P) (hq : q ≠ 0) : Dk w a0 n a1 m [] [] := by
  have := h.dk
  rw [if_neg hq, if_neg hq] at this; exact this
theorem play_ok {C : List ByteArray} {P : List Pt} {l : List Opp} (h : (playE C P l).1 = 0) : OkD (playE C P l).2.1 (playE C P l).2.2 := by
  unfold playE at h ⊢
  by_cases h0 : chkD C P = 0
  · rw [if_pos h0] at h ⊢
    exact plays_ok l C P (chkD_ok h0) h
  · rw [if_neg h0] at h
    exact absurd h h0
theorem play_no {C : List ByteArray} {P : List Pt} {l : List Opp} (h : (playE C P l).1 ≠ 0) : (playE C P l).2 = ([], []) := by
  unfold playE at h ⊢
  by_cases h0 : chkD C P = 0
  · rw [if_pos h0] at h ⊢
    have := plays_zero l C P h
    exact Prod.ext this.1 this.2
  · rw [if_neg h0]
theorem play_range (C : List ByteArray) (P : List Pt) (l : List Opp) : 0 ≤ (playE C P l).1 ∧ (playE C P l).1 ≤ 9 := by
  unfold playE
  split
  · exact plays_range l C P
  · have := chkD_range C P; exact ⟨this.1, by simp only; omega⟩
end Go.Proofs.Ytdhjadgmdmdnjaa
