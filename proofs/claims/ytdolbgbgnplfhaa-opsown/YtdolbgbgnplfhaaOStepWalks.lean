/- What ops.step does. -/
import Derived.Test.YtdolbgbgnplfhaaDiskOpsWalks
namespace Go.Proofs.Ytdolbgbgnplfhaa
open Go.RowKit

theorem empty_isO (b : ByteArray) : b.toList.isEmpty = decide (b.data.toList = []) := by
  rw [ByteArray.toList_eq]
  cases b.data.toList with
  | nil => rfl
  | cons x t => rfl
/-- one op more -/
def StOk (C : List ByteArray) (P : List Pt) (o : Opp) (C' : List ByteArray) (P' : List Pt) : Prop := (OkD C' P' ∧ C'.length = C.length) ∧ ∀ r, plays (o :: r) C P = plays r C' P'
def StBad (C : List ByteArray) (P : List Pt) (o : Opp) (q : Int) : Prop := q ≠ 0 ∧ ∀ r, plays (o :: r) C P = (q, [], [])
theorem st_write {C : List ByteArray} {P : List Pt} {x : Int} {s : ByteArray} (hok : OkD C P) (h : WrtOk C.length P.length ⟨x, s⟩ 0) : StOk C P ⟨1, x, s⟩ C (P ++ [⟨x, s⟩]) := by
  unfold WrtOk wrtE at h
  have hp : putE C.length ⟨x, s⟩ = 0 := by
    refine Classical.byContradiction fun hh => ?_
    rw [if_neg hh] at h; exact hh h
  rw [if_pos hp] at h
  have hm : P.length < 400 := by
    refine Classical.byContradiction fun hh => ?_
    rw [if_pos (by omega)] at h; omega
  exact ⟨⟨ok_put hok hp hm, rfl⟩, fun r => plays_write (o := ⟨1, x, s⟩) r rfl hp hm⟩
theorem st_wbad {C : List ByteArray} {P : List Pt} {x : Int} {s : ByteArray} {q : Int} (h : WrtOk C.length P.length ⟨x, s⟩ q) (hq : q ≠ 0) : StBad C P ⟨1, x, s⟩ q :=
  ⟨hq, fun r => plays_bad (o := ⟨1, x, s⟩) r (by unfold opE; rw [if_pos rfl]; exact h) hq⟩
theorem st_sync {C : List ByteArray} {P : List Pt} {s : ByteArray} (hok : OkD C P) (hs : s.size = 0) : StOk C P ⟨2, 0, s⟩ (landL allL P 0 C) [] :=
  ⟨⟨ok_land hok allL, landL_length _ _ _ _⟩, fun r => plays_sync (o := ⟨2, 0, s⟩) r rfl rfl hs⟩
theorem st_form {C : List ByteArray} {P : List Pt} {k x : Int} {s : ByteArray} (h1 : k ≠ 1) (h2 : ¬ (k = 2 ∧ x = 0 ∧ s.size = 0)) : StBad C P ⟨k, x, s⟩ 4 :=
  ⟨by decide, fun r => plays_bad (o := ⟨k, x, s⟩) r (by unfold opE; rw [if_neg h1, if_neg h2]) (by decide)⟩

set_option maxRecDepth 20000 in
set_option maxHeartbeats 1600000 in
theorem ostep_any (N g : Nat) (u v : Value) (C : List ByteArray) (P : List Pt) (kd pl : Int) (tx : ByteArray) (w : World) (h : WDk w N g u v C P) (hok : OkD C P) (hs : tx.size ≤ 140737488355328) :
    Calls Try.prog 48 #[.pointer (some ⟨g, 0, none⟩), .agg #[.int .i64 kd, .int .i64 pl, .string tx]] w fun e w' => ((∃ C' P' v', e = .returned (.int .i64 0) ∧ StOk C P ⟨kd, pl, tx⟩ C' P' ∧ WDk w' N g u v' C' P') ∨ (∃ q, e = .returned (.int .i64 q) ∧ StBad C P ⟨kd, pl, tx⟩ q)) ∧ Below N w w' := by
  have HW := Hid.mk' (h.alloc (.cells #[.int .i64 kd, .int .i64 pl, .string tx] 29))
  have HOk := Hid.mk' hok
  have hNs : N ≤ w.heap.size := by have := h.gN; have := h.bx.lt; omega
  have HB0 : Hid (Below N w (w.alloc (.cells #[.int .i64 kd, .int .i64 pl, .string tx] 29))) := ((Below.refl _ w).mono hNs).alloc hNs _
  have HC := Hid.mk' hok.n2
  have HP := Hid.mk' hok.m
  clear h hok
  go_enter Try.func48, Try.ntmps48
  by_cases h1 : kd = 1
  · subst h1
    go_wp2_with fail
    refine (wwrite_any N g u v C P pl tx _ HW.out HC.out HP.out hs).mono ?_
    rintro e w1 ⟨hwr, hb1⟩
    have HB1 := Hid.mk' (HB0.out.trans hb1)
    clear hb1
    rcases hwr with ⟨v', rfl, hqq, hw2⟩ | ⟨q, rfl, hqq, hq0, _⟩
    · have HS := Hid.mk' (st_write HOk.out hqq)
      have HW2 := Hid.mk' hw2
      clear hqq hw2
      go_wp2_with fail
      go_ret
      exact ⟨.inl ⟨C, _, v', rfl, HS.out, HW2.out⟩, HB1.out⟩
    · have HS := Hid.mk' (st_wbad hqq hq0)
      clear hqq hq0
      go_wp2_with fail
      go_ret
      exact ⟨.inr ⟨q, rfl, HS.out⟩, HB1.out⟩
  · have t1 : (kd == 1) = false := by rw [beq_eq_false_iff_ne]; exact h1
    by_cases hA : kd = 2 ∧ pl = 0 ∧ tx.size = 0
    · obtain ⟨rfl, rfl, htx⟩ := hA
      have te : tx.toList.isEmpty = true := by rw [empty_isO]; exact decide_eq_true (List.length_eq_zero_iff.1 (by simpa using htx))
      have HS := Hid.mk' (st_sync (s := tx) HOk.out htx)
      clear htx h1
      go_wp2_with fail
      refine (wsync_any N g u v C P _ HW.out HOk.out).mono ?_
      rintro e w1 ⟨⟨rfl, hw1⟩, hb1⟩
      have HB1 := Hid.mk' (HB0.out.trans hb1)
      have HW1 := Hid.mk' hw1
      clear hb1 hw1
      go_wp2_with fail
      go_ret
      exact ⟨.inl ⟨_, _, _, rfl, HS.out, HW1.out⟩, HB1.out⟩
    · have HS := Hid.mk' (st_form (C := C) (P := P) h1 hA)
      by_cases h2 : kd = 2
      · subst h2
        by_cases h3 : pl = 0
        · subst h3
          have te : tx.toList.isEmpty = false := by rw [empty_isO]; exact decide_eq_false (fun e => hA ⟨rfl, rfl, by have := congrArg List.length e; simpa using this⟩)
          clear hA h1
          go_wp2_with fail
          go_ret
          exact ⟨.inr ⟨4, rfl, HS.out⟩, HB0.out⟩
        · have t3 : (pl == 0) = false := by rw [beq_eq_false_iff_ne]; exact h3
          clear hA h1 h3
          go_wp2_with fail
          go_ret
          exact ⟨.inr ⟨4, rfl, HS.out⟩, HB0.out⟩
      · have t2 : (kd == 2) = false := by rw [beq_eq_false_iff_ne]; exact h2
        clear hA h1 h2
        go_wp2_with fail
        go_ret
        exact ⟨.inr ⟨4, rfl, HS.out⟩, HB0.out⟩
end Go.Proofs.Ytdolbgbgnplfhaa
