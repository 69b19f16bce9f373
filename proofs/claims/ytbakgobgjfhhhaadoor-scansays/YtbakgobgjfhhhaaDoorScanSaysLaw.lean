/- The law ScanSays, walked. -/
import Derived.Test.YtbakgobgjfhhhaaDoorRunWalks
import Derived.Test.YtbakgobgjfhhhaaDoorRScanWalks
import Derived.Test.YtbakgobgjfhhhaaDoorSameEnWalks
namespace Go.Proofs.YtbakgobgjfhhhaaDoor
open Go.RowKit

theorem trE_map {α β : Type} (f : β → Bool) (g : α → β) (l : List α) : trE f (l.map g) = trE (fun x => f (g x)) l := by
  induction l with
  | nil => rfl
  | cons x r ih =>
    rw [List.map_cons]
    show (if trE f (r.map g) = 0 then (if f (g x) then 1 else 0) else trE f (r.map g) + 1) = _
    rw [ih]
    rfl
theorem runA_shape {w' : World} {C : List ByteArray} {P : List Pt} {a : Int} {z : Ending} (h : RunA w' C P a z) : ∃ (ao : Option Addr) (n cap : Nat) (mx q : Int), z = .returned (.tuple #[.slice ao n cap, .int .i64 mx, .int .i64 q]) := by
  rcases h with ⟨_, _, ao, l, cap, rfl, _⟩ | ⟨q, _, _, rfl⟩
  · exact ⟨ao, _, cap, _, 0, rfl⟩
  · exact ⟨none, 0, 0, 0, q, rfl⟩
/-- what is told, in memory -/
structure Tld (w : World) (ao : Option Addr) (n : Nat) (l : List EnS) (M : List Ent) : Prop where
  r : Rd w ao n 3 (enC l)
  n : l.length = n
  m : l.map EnS.e = M
  b : ∀ x ∈ l, EnB w x
theorem Tld.below {w w' : World} {ao : Option Addr} {n : Nat} {l : List EnS} {M : List Ent} (h : Tld w ao n l M) (hb : Below w.heap.size w w') : Tld w' ao n l M := ⟨h.r.below hb, h.n, h.m, fun x hx => (h.b x hx).below hb⟩
theorem runA_is {w' : World} {C : List ByteArray} {P : List Pt} {a : Int} {ao : Option Addr} {n cap : Nat} {mx q : Int} (h : RunA w' C P a (.returned (.tuple #[.slice ao n cap, .int .i64 mx, .int .i64 q]))) :
    q = (if chkD C P = 0 then (if aftB a = true then 0 else 1) else chkD C P) ∧
    ((q = 0 ∧ mx = mxN (lgK (celD C P) C.length) a ∧ ∃ l : List EnS, Chn (lgK (celD C P) C.length) a (l.map EnS.e) ∧ fnd (lgK (celD C P) C.length) (a + 1 + (l.length : Int)) = none ∧ n = trE (·.la) l ∧ Tld w' ao n (l.take n) ((l.take n).map EnS.e)) ∨ (q ≠ 0 ∧ mx = 0 ∧ n = 0 ∧ ao = none)) := by
  rcases h with ⟨h1, h2, ao', l, cap', he, hc, hf, hr, hb⟩ | ⟨q', h1, h2, he⟩
  · simp only [Ending.returned.injEq, Value.tuple.injEq, Array.mk.injEq, List.cons.injEq, Value.slice.injEq, Value.int.injEq, true_and, and_true] at he
    obtain ⟨⟨rfl, rfl, rfl⟩, rfl, rfl⟩ := he
    refine ⟨by rw [if_pos h1, if_pos h2], .inl ⟨rfl, rfl, l, hc, hf, rfl, ?_⟩⟩
    exact ⟨hr, by rw [List.length_take]; exact Nat.min_eq_left (trE_le _ _), rfl, fun x hx => hb x (List.mem_of_mem_take hx)⟩
  · simp only [Ending.returned.injEq, Value.tuple.injEq, Array.mk.injEq, List.cons.injEq, Value.slice.injEq, Value.int.injEq, true_and, and_true] at he
    obtain ⟨⟨rfl, rfl, rfl⟩, rfl, rfl⟩ := he
    exact ⟨h2, .inr ⟨h1, rfl, rfl, rfl⟩⟩
theorem runA_same {w1 w2 : World} {C : List ByteArray} {P : List Pt} {a : Int} {a1 a2 : Option Addr} {n1 n2 c1 c2 : Nat} {m1 m2 q1 q2 : Int} (h1 : RunA w1 C P a (.returned (.tuple #[.slice a1 n1 c1, .int .i64 m1, .int .i64 q1]))) (h2 : RunA w2 C P a (.returned (.tuple #[.slice a2 n2 c2, .int .i64 m2, .int .i64 q2]))) :
    n1 = n2 ∧ m1 = m2 ∧ q1 = q2 ∧ n1 ≤ C.length ∧ ∃ l1 l2 M, Tld w1 a1 n1 l1 M ∧ Tld w2 a2 n2 l2 M := by
  obtain ⟨e1, d1⟩ := runA_is h1
  obtain ⟨e2, d2⟩ := runA_is h2
  rcases d1 with ⟨z1, x1, l1, k1, f1, t1, b1⟩ | ⟨z1, x1, t1, o1⟩
  · rcases d2 with ⟨z2, x2, l2, k2, f2, t2, b2⟩ | ⟨z2, _⟩
    · have hl := k1.one k2 (by rw [List.length_map]; exact f1) (by rw [List.length_map]; exact f2)
      have hn : n1 = n2 := by
        rw [t1, t2]
        have ha := trE_map Ent.la EnS.e l1
        have hb := trE_map Ent.la EnS.e l2
        rw [hl, hb] at ha
        exact ha.symm
      have hle : n1 ≤ C.length := by
        rw [t1]
        have h3 := trE_le (fun x : EnS => x.la) l1
        have h4 := k1.le
        rw [List.length_map] at h4
        have h5 := lgK_len (celD C P) C.length
        omega
      refine ⟨hn, by rw [x1, x2], by rw [z1, z2], hle, l1.take n1, l2.take n2, (l1.take n1).map EnS.e, b1, ?_⟩
      have hm : (l2.take n2).map EnS.e = (l1.take n1).map EnS.e := by rw [List.map_take, List.map_take, hl, hn]
      rw [← hm]; exact b2
    · exact absurd (e2.trans (e1.symm.trans z1)) z2
  · rcases d2 with ⟨z2, _⟩ | ⟨z2, x2, t2, o2⟩
    · exact absurd (e1.trans (e2.symm.trans z2)) z1
    · subst t1 t2 o1 o2
      exact ⟨rfl, by rw [x1, x2], by rw [e1, e2], Nat.zero_le _, [], [], [], ⟨Rd.nil _ _ _, rfl, rfl, fun x hx => by cases hx⟩, ⟨Rd.nil _ _ _, rfl, rfl, fun x hx => by cases hx⟩⟩
theorem runA_n {w1 : World} {C : List ByteArray} {P : List Pt} {a : Int} {a1 : Option Addr} {n1 c1 : Nat} {m1 q1 : Int} (h1 : RunA w1 C P a (.returned (.tuple #[.slice a1 n1 c1, .int .i64 m1, .int .i64 q1]))) : n1 = 0 ∨ chkD C P = 0 := by
  obtain ⟨e1, d1⟩ := runA_is h1
  rcases d1 with ⟨z1, _⟩ | ⟨_, _, t1, _⟩
  · right
    rw [z1] at e1
    by_cases h : chkD C P = 0
    · exact h
    · rw [if_neg h] at e1; exact e1.symm
  · exact .inl t1
set_option maxRecDepth 20000 in
set_option maxHeartbeats 1600000 in
theorem scanSays_at (a0 a1 : Option Addr) (n c m d : Nat) (C : List ByteArray) (P : List Pt) (a : Int) (w : World) (hT : Tab w) (h : Dk w a0 n a1 m C P) :
    Calls Tryd.prog 6 #[.agg #[.slice a0 n c, .slice a1 m d], .int .i64 a] w fun z w' => z = .returned (.bool true) ∧ Below w.heap.size w w' := by
  have HD := Hid.mk' (boxV_new w [.slice a0 n c, .slice a1 m d] 39)
  have hB := below_boxE (w := w) #[.slice a0 n c, .slice a1 m d] 39
  obtain ⟨W0, hW0⟩ : ∃ W, Hid (w.alloc (.cells #[.slice a0 n c, .slice a1 m d] 39) = W) := ⟨_, Hid.mk' rfl⟩
  have e0 : (w.alloc (.cells [.slice a0 n c, .slice a1 m d].toArray 39)) = W0 := hW0.out
  rw [e0] at HD
  rw [hW0.out] at hB
  have HB := Hid.mk' hB
  have HKw := Hid.mk' h
  have HTw := Hid.mk' hT
  clear hB h hT e0
  have p0 := HD.out.c 0 _ rfl
  have p1 := HD.out.c 1 _ rfl
  go_enter Tryd.func6, Tryd.ntmps6
  go_wp2_with fail
  rw [hW0.out]
  go_wp2_with fail
  refine (run_any a0 a1 n c m d C P a W0 (tab_belowS HTw.out HB.out) (HKw.out.below HB.out)).mono ?_
  rintro z w1 ⟨hz, hb⟩
  obtain ⟨x1, n1, c1, m1, q1, rfl⟩ := runA_shape hz
  have HZ1 := Hid.mk' hz
  have HD1 := Hid.mk' (HD.out.below hb)
  have HB1 := Hid.mk' (HB.out.trans (hb.mono HB.out.size))
  clear hb hz p0 p1
  have p0 := HD1.out.c 0 _ rfl
  have p1 := HD1.out.c 1 _ rfl
  go_wp2_with fail
  refine (rscan_any a0 a1 n c m d C P a w1 (HKw.out.below HB1.out)).mono ?_
  rintro z w2 ⟨hz, hb⟩
  obtain ⟨x2, n2, c2, m2, q2, rfl⟩ := runA_shape hz
  obtain ⟨rfl, rfl, rfl, hle, l1, l2, M, t1, t2⟩ := runA_same HZ1.out hz
  have hn200 : n1 ≤ 200 := by
    rcases runA_n hz with h | h
    · omega
    · have := (chkD_ok h).n2; omega
  have HT1 := Hid.mk' (t1.below hb)
  have HT2 := Hid.mk' t2
  have HB2 := Hid.mk' (HB1.out.trans (hb.mono HB1.out.size))
  clear hb hz p0 p1 t1 t2 hle
  go_wp2_with fail
  refine (equalEn_any x1 x2 n1 c1 c2 l1 l2 w2 HT1.out.r HT2.out.r HT1.out.n HT2.out.n (HT1.out.m.trans HT2.out.m.symm) HT1.out.b HT2.out.b hn200).mono ?_
  rintro z w3 ⟨rfl, hb⟩
  have HB3 := Hid.mk' (HB2.out.trans (hb.mono HB2.out.size))
  clear hb
  go_wp2_with fail
  go_ret
  exact ⟨rfl, HB3.out⟩
theorem scanSays_walk (a0 : Option Addr) (n c : Nat) (a1 : Option Addr) (m d : Nat) (C : List ByteArray) (P : List Pt) (a : Int) (w : World) (h : Dk w a0 n a1 m C P) (_w1 : (Lit.int .i64 a).wf = true) (hT : Tab w) :
    Calls Tryd.prog 6 #[.agg #[.slice a0 n c, .slice a1 m d], .int .i64 a] w fun z w' => z = .returned (.bool true) ∧ Below w.heap.size w w' :=
  scanSays_at a0 a1 n c m d C P a w hT h
end Go.Proofs.YtbakgobgjfhhhaaDoor
