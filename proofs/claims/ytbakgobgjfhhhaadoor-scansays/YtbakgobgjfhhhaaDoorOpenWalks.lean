import Derived.Test.YtbakgobgjfhhhaaDoorPsad
import Derived.Test.YtbakgobgjfhhhaaDoorPsaa
import Derived.Test.YtbakgobgjfhhhaaDoorCloneText
import Derived.BigQuiet
import Derived.Lib.Strings

/- What seal.Open answers. -/
namespace Go.Proofs.YtbakgobgjfhhhaaDoor
open Go.RowKit

theorem results_tmp4 {fn : Func} {t u v x : Tmp} (h : fn.results = #[.tmp t, .tmp u, .tmp v, .tmp x]) (tmps : Array Value) (P : Program) (w : World) :
    (results fn tmps).run P w = .ok (.tuple #[tmps.getD t undef, tmps.getD u undef, tmps.getD v undef, tmps.getD x undef]) w := by
  simp [results, h]
theorem below_dS (w : World) (q : Nat) {B : Nat} : Below B w (w.drewN q) := ⟨rfl, rfl, rfl, Nat.le_refl _, fun _ _ => rfl⟩
theorem Tab.dN {w : World} (h : Tab w) (q : Nat) : Tab (w.drewN q) := fun i hi => h i hi
theorem ext_listS (s : ByteArray) (a b : Nat) : (s.extract a b).data.toList = (s.data.toList.take b).drop a := by
  rw [ByteArray.data_extract]
  simp only [Array.toList_extract, List.extract_eq_take_drop]
  rw [List.drop_take]
theorem ext_fullS (s : ByteArray) (a : Nat) : (s.extract a s.size).data.toList = s.data.toList.drop a := by
  rw [ext_listS, List.take_of_length_le (by rw [Array.length_toList]; exact Nat.le_refl _)]
theorem size_list (s : ByteArray) : s.data.toList.length = s.size := by rw [Array.length_toList]; rfl
set_option maxRecDepth 20000 in
set_option maxHeartbeats 800000 in
theorem rdnum_any (s : ByteArray) (k : Nat) (w : World) (hk : k ≤ 4) (h : k ≤ s.size) (_hs : s.size ≤ 1048576) :
    Calls Tryd.prog 57 #[.string s, .int .i64 (k : Int)] w fun e w' => e = .returned (.tuple #[.int .i64 (unfN (s.data.toList.take k) : Nat), .string (s.extract k s.size)]) ∧ ∃ q, w' = w.drewN q := by
  obtain ⟨x, hx⟩ : ∃ x, Hid (s.extract 0 k = x) := ⟨_, Hid.mk' rfl⟩
  have hxl : Hid (x.data.toList = s.data.toList.take k) := by show _ = _; rw [← hx.out, ext_listS, List.drop_zero]
  have hxz : x.size = k := by rw [← size_list, hxl.out, List.length_take, size_list]; omega
  have hun := Hid.mk' (fun w => unfix_in x w (by omega))
  rw [hxl.out] at hun
  have hlt := unfN_lt (s.data.toList.take k)
  have hlt2 : unfN (s.data.toList.take k) < 4294967296 := by
    have e : (s.data.toList.take k).length = k := by rw [List.length_take, size_list]; omega
    rw [e] at hlt
    exact Nat.lt_of_lt_of_le hlt (Nat.pow_le_pow_right (by decide) hk)
  obtain ⟨m, hm⟩ : ∃ m, Hid (unfN (s.data.toList.take k) = m) := ⟨_, Hid.mk' rfl⟩
  rw [hm.out] at hun hlt2 ⊢
  have hx' := hx.out
  have e1 : IntKind.i64.wrap (m : Int) = m := by rw [IntKind.wrap_i64]; omega
  have h0 : (k : Int) ≤ (s.size : Int) := by omega
  clear hlt hxz
  go_enter Tryd.func57, Tryd.ntmps57
  go_wp2_with fail
  refine (hun.out _).mono ?_
  rintro e w1 ⟨rfl, rfl⟩
  go_wp2_with fail
  go_quiet (fail)
  go_wp2_with fail
  go_ret2
  exact ⟨rfl, _, rfl⟩
/-- what Open answers -/
def OpnAns (s : ByteArray) (e : Ending) : Prop :=
  (opnE s.data.toList = 0 ∧ e = .returned (.tuple #[.int .i64 (kiS s.data.toList : Nat), .int .i64 (srS s.data.toList : Nat), .string (txS (bdS s.data.toList)), .int .i64 0])) ∨ (∃ q, q ≠ 0 ∧ Hid (opnE s.data.toList = q) ∧ e = .returned (.tuple #[.int .i64 0, .int .i64 0, .string ⟨#[]⟩, .int .i64 q]))
theorem text_ne (a b : ByteArray) : (a.toList != b.toList) = decide (¬ a.data.toList = b.data.toList) := by
  rw [ByteArray.toList_eq, ByteArray.toList_eq]
  by_cases h : a.data.toList = b.data.toList
  · rw [h]; simp
  · rw [decide_eq_true h]; exact bne_iff_ne.2 h
theorem unf_w (l : List UInt8) (k : Nat) (h : l.length ≤ k) : unfN l < 256 ^ k := Nat.lt_of_lt_of_le (unfN_lt l) (Nat.pow_le_pow_right (by decide) h)
set_option maxRecDepth 20000 in
set_option maxHeartbeats 1600000 in
theorem open_any (s : ByteArray) (w : World) (hT : Tab w) (_hs : s.size ≤ 140737488355328) :
    Calls Tryd.prog 28 #[.string s] w fun e w' => OpnAns s e ∧ Below w.heap.size w w' := by
  have hl := size_list s
  by_cases h1 : s.size < 11
  · have hq : Hid (opnE s.data.toList = 3) := by show _ = _; unfold opnE; rw [if_pos (by omega)]
    clear hl
    go_enter Tryd.func28, Tryd.ntmps28
    go_wp2_with fail
    (try simp only [Exit.inBlock, Exit.then])
    refine bodyPost_ret (results_tmp4 rfl _ _ _) rfl ?_
    exact ⟨.inr ⟨3, by decide, hq.out, rfl⟩, Below.refl _ _⟩
  by_cases h2 : 1011 < s.size
  · have hq : Hid (opnE s.data.toList = 2) := by show _ = _; unfold opnE; rw [if_neg (by omega), if_pos (by omega)]
    clear hl
    go_enter Tryd.func28, Tryd.ntmps28
    go_wp2_with fail
    (try simp only [Exit.inBlock, Exit.then])
    refine bodyPost_ret (results_tmp4 rfl _ _ _) rfl ?_
    exact ⟨.inr ⟨2, by decide, hq.out, rfl⟩, Below.refl _ _⟩
  obtain ⟨z, hz⟩ : ∃ z, Hid (s.size - 4 = z) := ⟨_, Hid.mk' rfl⟩
  have ez : (s.size : Int) - 4 = (z : Int) := by have := hz.out; omega
  have hz7 : 7 ≤ z := by have := hz.out; omega
  have hzs : z ≤ s.size := by have := hz.out; omega
  have hz2 : z ≤ 1007 := by have := hz.out; omega
  have hd : Hid (opnE s.data.toList = if leC (s.data.toList.take z) = s.data.toList.drop z then (if mayS (kiS s.data.toList : Nat) (srS s.data.toList : Nat) = true ∧ ctS s.data.toList = s.data.toList.length - 11 then 0 else 4) else 5) := by
    show _ = _
    unfold opnE
    rw [if_neg (by omega), if_neg (by omega), hl, hz.out]
  obtain ⟨A, hA⟩ : ∃ A, Hid (s.extract 0 z = A) := ⟨_, Hid.mk' rfl⟩
  obtain ⟨E, hE⟩ : ∃ E, Hid (s.extract z s.size = E) := ⟨_, Hid.mk' rfl⟩
  have hAl : Hid (A.data.toList = s.data.toList.take z) := by show _ = _; rw [← hA.out, ext_listS, List.drop_zero]
  have hEl : Hid (E.data.toList = s.data.toList.drop z) := by show _ = _; rw [← hE.out, ext_fullS]
  have hAz : A.size = z := by rw [← size_list, hAl.out, List.length_take, hl]; omega
  have hAz' := Hid.mk' hAz
  have hA' := hA.out
  have hE' := hE.out
  have c1 := Hid.mk' (fun w => sumof_any A w (by omega))
  rw [hAl.out] at c1
  have hex := Hid.mk' (text_ne (txS (leC (s.data.toList.take z))) E)
  rw [txS_list, hEl.out] at hex
  obtain ⟨X, hX⟩ : ∃ X, Hid (txS (leC (s.data.toList.take z)) = X) := ⟨_, Hid.mk' rfl⟩
  rw [hX.out] at hex c1
  have i1 : (11 : Int) ≤ (s.size : Int) := by omega
  have i2 : (s.size : Int) ≤ 1011 := by omega
  have n1 : ¬ (s.size : Int) < 11 := by omega
  have n2 : ¬ (1011 : Int) < (s.size : Int) := by omega
  have HT := Hid.mk' hT
  have hlH := Hid.mk' hl
  clear hAz hl h1 h2
  by_cases hg : leC (s.data.toList.take z) = s.data.toList.drop z
  · have hex2 := hex.out
    rw [decide_eq_false (fun h => h hg)] at hex2
    have hex3 : (X.toList == E.toList) = true := by simpa [bne] using hex2
    rw [if_pos hg] at hd
    clear hex hg
    have c2 := Hid.mk' (fun w => rdnum_any A 1 w (by omega) (by rw [hAz'.out]; omega) (by rw [hAz'.out]; omega))
    obtain ⟨r1, hr1⟩ : ∃ r, Hid (A.extract 1 A.size = r) := ⟨_, Hid.mk' rfl⟩
    have hr1l : Hid (r1.data.toList = (s.data.toList.take z).drop 1) := by show _ = _; rw [← hr1.out, ext_fullS, hAl.out]
    have hr1z : Hid (r1.size = z - 1) := by show _ = _; rw [← size_list, hr1l.out, List.length_drop, List.length_take, hlH.out]; omega
    have hki : Hid (unfN (A.data.toList.take 1) = kiS s.data.toList) := by show _ = _; unfold kiS; rw [hAl.out, List.take_take, show min 1 z = 1 by omega]
    rw [hr1.out, hki.out] at c2
    have c3 := Hid.mk' (fun w => rdnum_any r1 4 w (by omega) (by rw [hr1z.out]; omega) (by rw [hr1z.out]; omega))
    obtain ⟨r2, hr2⟩ : ∃ r, Hid (r1.extract 4 r1.size = r) := ⟨_, Hid.mk' rfl⟩
    have hr2l : Hid (r2.data.toList = (s.data.toList.take z).drop 5) := by show _ = _; rw [← hr2.out, ext_fullS, hr1l.out, List.drop_drop]
    have hr2z : Hid (r2.size = z - 5) := by show _ = _; rw [← size_list, hr2l.out, List.length_drop, List.length_take, hlH.out]; omega
    have hsr : Hid (unfN (r1.data.toList.take 4) = srS s.data.toList) := by
      show _ = _
      unfold srS
      rw [hr1l.out, List.drop_take, List.take_take, show min 4 (z - 1) = 4 by omega]
    rw [hr2.out, hsr.out] at c3
    have c4 := Hid.mk' (fun w => rdnum_any r2 2 w (by omega) (by rw [hr2z.out]; omega) (by rw [hr2z.out]; omega))
    obtain ⟨r3, hr3⟩ : ∃ r, Hid (r2.extract 2 r2.size = r) := ⟨_, Hid.mk' rfl⟩
    have hr3l : Hid (r3.data.toList = bdS s.data.toList) := by show _ = _; unfold bdS; rw [← hr3.out, ext_fullS, hr2l.out, List.drop_drop, hlH.out, hz.out]
    have hr3z : Hid (r3.size = z - 7) := by show _ = _; rw [← size_list, hr3l.out]; unfold bdS; rw [List.length_drop, List.length_take, hlH.out, hz.out]; omega
    have hct : Hid (unfN (r2.data.toList.take 2) = ctS s.data.toList) := by
      show _ = _
      unfold ctS
      rw [hr2l.out, List.drop_take, List.take_take, show min 2 (z - 5) = 2 by omega]
    rw [hr3.out, hct.out] at c4
    have hbt : Hid (txS (bdS s.data.toList) = r3) := by show _ = _; rw [← hr3l.out, txS_of]
    have b1 : kiS s.data.toList < 256 := unf_w _ 1 (List.length_take_le _ _)
    have b2 : srS s.data.toList < 4294967296 := unf_w _ 4 (List.length_take_le _ _)
    have b3 : ctS s.data.toList < 65536 := unf_w _ 2 (List.length_take_le _ _)
    have hdef : Hid (OpnAns s = fun e => (opnE s.data.toList = 0 ∧ e = .returned (.tuple #[.int .i64 (kiS s.data.toList : Nat), .int .i64 (srS s.data.toList : Nat), .string r3, .int .i64 0])) ∨ (∃ q, q ≠ 0 ∧ Hid (opnE s.data.toList = q) ∧ e = .returned (.tuple #[.int .i64 0, .int .i64 0, .string ⟨#[]⟩, .int .i64 q]))) := by
      show _ = _
      unfold OpnAns
      rw [hbt.out]
    rw [hdef.out]
    obtain ⟨q, hq⟩ : ∃ q, Hid (opnE s.data.toList = q) := ⟨_, Hid.mk' rfl⟩
    rw [hq.out] at hd ⊢
    have hlen : Hid (s.data.toList.length - 11 = r3.size) := by show _ = _; rw [hr3z.out, hlH.out]; have := hz.out; omega
    rw [hlen.out] at hd
    generalize kiS s.data.toList = ki at *
    generalize srS s.data.toList = sr at *
    generalize ctS s.data.toList = ct at *
    have c5 := Hid.mk' (fun w => may_any (ki : Int) (sr : Int) w)
    have hr3b : r3.size ≤ 1007 := by have := hr3z.out; omega
    have c6 := Hid.mk' (fun w => tclone_any r3 w (by omega))
    obtain ⟨m, hm⟩ : ∃ m, Hid (mayS (ki : Int) (sr : Int) = m) := ⟨_, Hid.mk' rfl⟩
    rw [hm.out] at hd c5
    clear hr1 hr2 hr3 hr1l hr2l hr3l hr1z hr2z hr3z hki hsr hct hbt hAl hEl hX hdef hlen
    cases m with
    | true =>
      by_cases hc : ct = r3.size
      · have hq0 : Hid (q = 0) := by show _ = _; rw [hd.out, if_pos ⟨rfl, hc⟩]
        subst hc
        clear hd
        go_enter Tryd.func28, Tryd.ntmps28
        go_wp2_with fail
        go_quiet (fail)
        go_wp2_with fail
        refine (c1.out _ (HT.out.dN _)).mono ?_
        rintro e w1 ⟨rfl, hb1⟩
        have HB1 := Hid.mk' ((below_dS w _).trans hb1)
        clear hb1
        go_wp2_with fail
        refine (c2.out _).mono ?_
        rintro e w2 ⟨rfl, q2, rfl⟩
        go_wp2_with fail
        refine (c3.out _).mono ?_
        rintro e w3 ⟨rfl, q3, rfl⟩
        go_wp2_with fail
        refine (c4.out _).mono ?_
        rintro e w4 ⟨rfl, q4, rfl⟩
        go_wp2_with fail
        refine (c5.out _).mono ?_
        rintro e w5 ⟨rfl, rfl⟩
        go_wp2_with fail
        have HB5 : Hid (Below w.heap.size w (w1.drewN (q2 + q3 + q4))) := Below.trans (by exact HB1.out) (below_dS w1 _)
        refine (c6.out _).mono ?_
        rintro e w6 ⟨rfl, hb6⟩
        have HB6 := Hid.mk' (HB5.out.trans (hb6.mono HB5.out.size))
        clear hb6
        go_wp2_with fail
        (try simp only [Exit.inBlock, Exit.then])
        refine bodyPost_ret (results_tmp4 rfl _ _ _) rfl ?_
        exact ⟨.inl ⟨hq0.out, rfl⟩, HB6.out⟩
      · have hq4 : Hid (q = 4) := by show _ = _; rw [hd.out, if_neg (fun h => hc h.2)]
        have tc : ((ct : Int) != (r3.size : Int)) = true := by rw [bne_iff_ne]; omega
        clear hd hc
        go_enter Tryd.func28, Tryd.ntmps28
        go_wp2_with fail
        go_quiet (fail)
        go_wp2_with fail
        refine (c1.out _ (HT.out.dN _)).mono ?_
        rintro e w1 ⟨rfl, hb1⟩
        have HB1 := Hid.mk' ((below_dS w _).trans hb1)
        clear hb1
        go_wp2_with fail
        refine (c2.out _).mono ?_
        rintro e w2 ⟨rfl, q2, rfl⟩
        go_wp2_with fail
        refine (c3.out _).mono ?_
        rintro e w3 ⟨rfl, q3, rfl⟩
        go_wp2_with fail
        refine (c4.out _).mono ?_
        rintro e w4 ⟨rfl, q4, rfl⟩
        go_wp2_with fail
        refine (c5.out _).mono ?_
        rintro e w5 ⟨rfl, rfl⟩
        have HB5 : Hid (Below w.heap.size w (w1.drewN (q2 + q3 + q4))) := Below.trans (by exact HB1.out) (below_dS w1 _)
        go_wp2_with fail
        (try simp only [Exit.inBlock, Exit.then])
        refine bodyPost_ret (results_tmp4 rfl _ _ _) rfl ?_
        exact ⟨.inr ⟨4, by decide, hq4.out, rfl⟩, HB5.out⟩
    | false =>
      have hq4 : Hid (q = 4) := by show _ = _; rw [hd.out, if_neg (fun h => by cases h.1)]
      clear hd
      go_enter Tryd.func28, Tryd.ntmps28
      go_wp2_with fail
      go_quiet (fail)
      go_wp2_with fail
      refine (c1.out _ (HT.out.dN _)).mono ?_
      rintro e w1 ⟨rfl, hb1⟩
      have HB1 := Hid.mk' ((below_dS w _).trans hb1)
      clear hb1
      go_wp2_with fail
      refine (c2.out _).mono ?_
      rintro e w2 ⟨rfl, q2, rfl⟩
      go_wp2_with fail
      refine (c3.out _).mono ?_
      rintro e w3 ⟨rfl, q3, rfl⟩
      go_wp2_with fail
      refine (c4.out _).mono ?_
      rintro e w4 ⟨rfl, q4, rfl⟩
      go_wp2_with fail
      refine (c5.out _).mono ?_
      rintro e w5 ⟨rfl, rfl⟩
      have HB5 : Hid (Below w.heap.size w (w1.drewN (q2 + q3 + q4))) := Below.trans (by exact HB1.out) (below_dS w1 _)
      go_wp2_with fail
      (try simp only [Exit.inBlock, Exit.then])
      refine bodyPost_ret (results_tmp4 rfl _ _ _) rfl ?_
      exact ⟨.inr ⟨4, by decide, hq4.out, rfl⟩, HB5.out⟩
  · have hex2 := hex.out
    rw [decide_eq_true hg] at hex2
    have hex3 : (X.toList == E.toList) = false := by simpa [bne] using hex2
    have hq : Hid (opnE s.data.toList = 5) := by show _ = _; rw [hd.out, if_neg hg]
    clear hex hg
    go_enter Tryd.func28, Tryd.ntmps28
    go_wp2_with fail
    go_quiet (fail)
    go_wp2_with fail
    refine (c1.out _ (HT.out.dN _)).mono ?_
    rintro e w1 ⟨rfl, hb1⟩
    have HB1 := Hid.mk' ((below_dS w _).trans hb1)
    clear hb1
    go_wp2_with fail
    (try simp only [Exit.inBlock, Exit.then])
    refine bodyPost_ret (results_tmp4 rfl _ _ _) rfl ?_
    exact ⟨.inr ⟨5, by decide, hq.out, rfl⟩, HB1.out⟩
/-- what Open answers, as one value -/
def opn4 (l : List UInt8) : (Int × Int) × (ByteArray × Int) := if opnE l = 0 then (((kiS l : Nat), (srS l : Nat)), (txS (bdS l), 0)) else ((0, 0), (⟨#[]⟩, opnE l))
theorem opn_ans {s : ByteArray} {e : Ending} (h : OpnAns s e) : e = .returned (.tuple #[.int .i64 (opn4 s.data.toList).1.1, .int .i64 (opn4 s.data.toList).1.2, .string (opn4 s.data.toList).2.1, .int .i64 (opn4 s.data.toList).2.2]) := by
  unfold opn4
  rcases h with ⟨h, rfl⟩ | ⟨q, hq, h, rfl⟩
  · rw [if_pos h]
  · rw [h.out, if_neg hq]
end Go.Proofs.YtbakgobgjfhhhaaDoor
