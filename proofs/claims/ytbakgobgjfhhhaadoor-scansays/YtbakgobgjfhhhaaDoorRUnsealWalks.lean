import Derived.Test.YtbakgobgjfhhhaaDoorOpenWalks
import Derived.Test.YtbakgobgjfhhhaaDoorRSealWalks
import Derived.Test.YtbakgobgjfhhhaaDoorPsad
import Derived.Deep.RegionHeldLaw

/- What linenref.Unseal answers. -/
namespace Go.Proofs.YtbakgobgjfhhhaaDoor
open Go.RowKit

theorem slT_eq {k n : Nat} {b s : ByteArray} : (selE (k : Int) (n : Int) b.size = 0 ∧ txS (selS k n b.data.toList) = s) ↔ (selE (k : Int) (n : Int) b.data.toList.length = 0 ∧ selS k n b.data.toList = s.data.toList) := by
  rw [size_list]
  constructor
  · rintro ⟨h1, h2⟩; exact ⟨h1, by rw [← h2]; rfl⟩
  · rintro ⟨h1, h2⟩; exact ⟨h1, by rw [h2, txS_of]⟩
set_option maxRecDepth 20000 in
set_option maxHeartbeats 3200000 in
theorem unseal_any (s : ByteArray) (w : World) (_hs : s.size ≤ 140737488355328) :
    Calls Tryd.prog 31 #[.string s] w fun e w' => OpnAns s e ∧ Below w.heap.size w w' := by
  have hl := size_list s
  by_cases h1 : s.size < 11
  · have hq : Hid (opnE s.data.toList = 3) := by show _ = _; unfold opnE; rw [if_pos (by omega)]
    clear hl
    go_enter Tryd.func31, Tryd.ntmps31
    go_wp2_with fail
    (try simp only [Exit.inBlock, Exit.then])
    refine bodyPost_ret (results_tmp4 rfl _ _ _) rfl ?_
    exact ⟨.inr ⟨3, by decide, hq.out, rfl⟩, Below.refl _ _⟩
  by_cases h2 : 1011 < s.size
  · have hq : Hid (opnE s.data.toList = 2) := by show _ = _; unfold opnE; rw [if_neg (by omega), if_pos (by omega)]
    clear hl
    go_enter Tryd.func31, Tryd.ntmps31
    go_wp2_with fail
    (try simp only [Exit.inBlock, Exit.then])
    refine bodyPost_ret (results_tmp4 rfl _ _ _) rfl ?_
    exact ⟨.inr ⟨2, by decide, hq.out, rfl⟩, Below.refl _ _⟩
  obtain ⟨z, hz⟩ : ∃ z, Hid (s.size - 4 = z) := ⟨_, Hid.mk' rfl⟩
  have ez : (s.size : Int) - 4 = (z : Int) := by have := hz.out; omega
  have hz7 : 7 ≤ z := by have := hz.out; omega
  have hzs : z ≤ s.size := by have := hz.out; omega
  have hz2 : z ≤ 1007 := by have := hz.out; omega
  obtain ⟨A, hA⟩ : ∃ A, Hid (s.extract 0 z = A) := ⟨_, Hid.mk' rfl⟩
  obtain ⟨E, hE⟩ : ∃ E, Hid (s.extract z s.size = E) := ⟨_, Hid.mk' rfl⟩
  have hAl : Hid (A.data.toList = s.data.toList.take z) := by show _ = _; rw [← hA.out, ext_listS, List.drop_zero]
  have hEl : Hid (E.data.toList = s.data.toList.drop z) := by show _ = _; rw [← hE.out, ext_fullS]
  have hAz : A.size = z := by rw [← size_list, hAl.out, List.length_take, hl]; omega
  have hA' := hA.out
  have hE' := hE.out
  have hd : Hid (opnE s.data.toList = if leC (s.data.toList.take z) = s.data.toList.drop z then (if mayS (kiS s.data.toList : Nat) (srS s.data.toList : Nat) = true ∧ ctS s.data.toList = s.data.toList.length - 11 then 0 else 4) else 5) := by
    show _ = _
    unfold opnE
    rw [if_neg (by omega), if_neg (by omega), hl, hz.out]
  have c1 := Hid.mk' (fun w => rsum0 A w (by unfold maxLen; omega))
  rw [hAl.out] at c1
  obtain ⟨c, hc⟩ : ∃ c, Hid (sumC (s.data.toList.take z) = c) := ⟨_, Hid.mk' rfl⟩
  have hcl := c.isLt
  have hBc : Hid (B c = ((c.toNat : Nat) : Int)) := rfl
  obtain ⟨m, hm⟩ : ∃ m, Hid (c.toNat = m) := ⟨_, Hid.mk' rfl⟩
  rw [hm.out] at hcl hBc
  rw [hc.out, hBc.out] at c1
  have c2 := Hid.mk' (fun w => rfixS4 m w (by omega))
  have c3 := Hid.mk' (fun w => back_any (txS (fixB m 4)) w (by rw [txS_size, fixB_length]; omega))
  have hrv : (fixB m 4).reverse = leC (s.data.toList.take z) := by rw [← hm.out, ← hc.out]; exact le_rev _
  rw [txS_list, hrv] at c3
  have hex := Hid.mk' (text_ne (txS (leC (s.data.toList.take z))) E)
  rw [txS_list, hEl.out] at hex
  obtain ⟨X, hX⟩ : ∃ X, Hid (txS (leC (s.data.toList.take z)) = X) := ⟨_, Hid.mk' rfl⟩
  obtain ⟨Y, hY⟩ : ∃ X, Hid (txS (fixB m 4) = X) := ⟨_, Hid.mk' rfl⟩
  rw [hX.out] at hex c3
  rw [hY.out] at c2 c3
  have e4 : IntKind.u64.wrap (m : Int) = m := by rw [IntKind.wrap_u64]; omega
  have i1 : (11 : Int) ≤ (s.size : Int) := by omega
  have i2 : (s.size : Int) ≤ 1011 := by omega
  have n1 : ¬ (s.size : Int) < 11 := by omega
  have n2 : ¬ (1011 : Int) < (s.size : Int) := by omega
  have iz : (z : Int) ≤ (s.size : Int) := by omega
  have i0 : (0 : Int) ≤ (z : Int) := by omega
  have hlH := Hid.mk' hl
  have HS11 := Hid.mk' (And.intro (show 11 ≤ s.size by omega) (show s.size ≤ 1011 by omega))
  clear hAz hl h1 h2 hrv hc hBc hm hX hY
  by_cases hg : leC (s.data.toList.take z) = s.data.toList.drop z
  · have hex2 := hex.out
    rw [decide_eq_false (fun h => h hg)] at hex2
    have hex3 : (X.toList == E.toList) = true := by simpa [bne] using hex2
    have hgood : Hid (Good s.data.toList) := by show Good _; unfold Good; rw [hlH.out, hz.out]; exact hg
    clear hex hg hd
    obtain ⟨p, hp⟩ : ∃ r, Hid (s.extract 1 5 = r) := ⟨_, Hid.mk' rfl⟩
    have hp' := hp.out
    have hpl : Hid (p.data.toList = (s.data.toList.drop 1).take 4) := by show _ = _; rw [← hp.out, ext_listS, List.drop_take]
    have hpz : p.size ≤ 8 := by rw [← size_list, hpl.out]; have := List.length_take_le 4 (s.data.toList.drop 1); omega
    have c4 := Hid.mk' (fun w => runfix_in p w hpz)
    rw [hpl.out] at c4
    have hsr : Hid (unfN ((s.data.toList.drop 1).take 4) = srS s.data.toList) := rfl
    rw [hsr.out] at c4
    obtain ⟨b, hb⟩ : ∃ r, Hid (s.extract 7 z = r) := ⟨_, Hid.mk' rfl⟩
    have hb' := hb.out
    have hbl : Hid (b.data.toList = bdS s.data.toList) := by show _ = _; unfold bdS; rw [← hb.out, ext_listS, hlH.out, hz.out]
    have hbz : b.size ≤ 1007 := by rw [← size_list, hbl.out]; unfold bdS; rw [List.length_drop, List.length_take]; have := hlH.out; omega
    have hki : Hid ((s[0]'(by have := HS11.out.1; omega)).toNat = kiS s.data.toList) := by
      show _ = _
      have hlen := hlH.out
      have h11 := HS11.out.1
      have e : s.data.toList.take 1 = [s[0]'(by omega)] := by
        rw [List.take_succ_eq_append_getElem (by omega)]; rfl
      unfold kiS
      rw [e]; simp [unfN]
    have h0n : 0 < s.size := by have := HS11.out.1; omega
    obtain ⟨x, hx⟩ : ∃ x, Hid (s[0]'h0n = x) := ⟨_, Hid.mk' rfl⟩
    have hx' := hx.out
    have hxl := x.toNat_lt
    rw [hx'] at hki
    have b1 : kiS s.data.toList < 256 := unf_w _ 1 (List.length_take_le _ _)
    have b2 : srS s.data.toList < 4294967296 := unf_w _ 4 (List.length_take_le _ _)
    have hiff := Hid.mk' (open_iff (l := s.data.toList) (by rw [hlH.out]; exact HS11.out.1) (by rw [hlH.out]; exact HS11.out.2) hgood.out)
    rw [← hbl.out, ← hki.out] at hiff
    have hbt : Hid (txS (bdS s.data.toList) = b) := by show _ = _; rw [← hbl.out, txS_of]
    have hans : Hid (OpnAns s = fun e => (opnE s.data.toList = 0 ∧ e = .returned (.tuple #[.int .i64 (x.toNat : Int), .int .i64 (srS s.data.toList : Nat), .string b, .int .i64 0])) ∨ (∃ q, q ≠ 0 ∧ Hid (opnE s.data.toList = q) ∧ e = .returned (.tuple #[.int .i64 0, .int .i64 0, .string ⟨#[]⟩, .int .i64 q]))) := by
      show _ = _
      unfold OpnAns
      rw [hbt.out, hki.out]
    rw [hans.out]
    have hno : Hid (opnE s.data.toList ≠ 0 → opnE s.data.toList = 4) := by
      show _ → _
      intro h
      have hg := hgood.out
      unfold Good at hg
      have hlen := hlH.out
      have h11 := HS11.out
      unfold opnE at h ⊢
      rw [if_neg (by omega), if_neg (by omega), if_pos hg] at h ⊢
      split at h
      · exact absurd rfl h
      · rw [if_neg ‹_›]
    obtain ⟨q, hq⟩ : ∃ q, Hid (opnE s.data.toList = q) := ⟨_, Hid.mk' rfl⟩
    rw [hq.out] at hiff hno ⊢
    generalize srS s.data.toList = sr at *
    have c5 := Hid.mk' (fun w => rseal_any (x.toNat : Int) (sr : Int) b w (by omega))
    obtain ⟨v, hv⟩ : ∃ v, Hid (selE (x.toNat : Int) (sr : Int) b.size = v) := ⟨_, Hid.mk' rfl⟩
    obtain ⟨W, hW⟩ : ∃ v, Hid (slT (x.toNat : Int) (sr : Int) b = v) := ⟨_, Hid.mk' rfl⟩
    have c5 : Hid (∀ w, Calls Tryd.prog 26 #[.int .i64 (x.toNat : Int), .int .i64 (sr : Int), .string b] w fun e w' => e = .returned (.tuple #[.string W, .int .i64 v]) ∧ Below w.heap.size w w') := fun w => (c5.out w).mono fun e w' ⟨he, hb⟩ => ⟨by rw [sl_ans he, hW.out, hv.out], hb⟩
    have hsl := @slT_eq x.toNat sr b s
    have hWv : Hid (v = 0 → W = txS (selS x.toNat sr b.data.toList)) := by
      show _ → _
      intro h
      rw [← hW.out]
      unfold slT
      rw [hv.out, if_pos h]; rfl
    rw [size_list, hv.out] at hsl
    have hokk : Hid ((v = 0 ∧ W = s) ↔ q = 0) := by
      show _ ↔ _
      have h1 := hiff.out
      rw [size_list, hv.out] at h1
      rw [← h1, ← hsl]
      exact ⟨fun h => ⟨h.1, by rw [← hWv.out h.1]; exact h.2⟩, fun h => ⟨h.1, by rw [hWv.out h.1]; exact h.2⟩⟩
    have e5 : IntKind.i64.wrap (sr : Int) = (sr : Int) := by rw [IntKind.wrap_i64]; omega
    have e6 : IntKind.i64.wrap (x.toNat : Int) = (x.toNat : Int) := by rw [IntKind.wrap_i64]; omega
    clear hsl hiff hWv hv hW
    go_enter Tryd.func31, Tryd.ntmps31
    go_wp2_with fail
    go_region_held_law (fun _ => True) (trivial) (first
      | (go_at_call 56; refine (c1.out _).mono ?_; rintro e w1 ⟨rfl, rfl⟩)
      | (go_at_call 27; refine (c2.out _).mono ?_; rintro e w2 ⟨rfl, hb2⟩; have HB2 := Hid.mk' ((Below.refl _ w).drew.trans hb2); clear hb2)
      | (go_at_call 55; refine (c3.out _).mono ?_; rintro e w3 ⟨rfl, hb3⟩; have HB3 := Hid.mk' (HB2.out.trans (hb3.mono HB2.out.size)); clear hb3)
      | fail)
    all_goals
      go_wp2_with fail
      refine (c4.out _).mono ?_
      rintro e w4 ⟨rfl, rfl⟩
      go_wp2_with fail
      go_region_held_law (fun _ => True) (trivial) (first
        | (go_at_call 26; refine (c5.out _).mono ?_; rintro e w5 ⟨rfl, hb5⟩; have HB5 := Hid.mk' (HB3.out.trans (((Below.refl _ w4).drew.trans hb5).mono HB3.out.size)); clear hb5)
        | fail)
      all_goals
        by_cases hv0 : v = 0
        · subst hv0
          by_cases hWs : W = s
          · subst hWs
            have hq0 : Hid (q = 0) := hokk.out.1 ⟨rfl, rfl⟩
            go_wp2_with fail
            go_quiet (fail)
            go_wp2_with fail
            (try simp only [Exit.inBlock, Exit.then])
            refine bodyPost_ret (results_tmp4 rfl _ _ _) rfl ?_
            exact ⟨.inl ⟨hq0.out, rfl⟩, HB5.out.trans (below_dS _ _)⟩
          · have hq4 : Hid (q = 4) := hno.out (fun h => hWs (hokk.out.2 h).2)
            have tW : (W.toList == s.toList) = false := by
              rw [beq_eq_false_iff_ne, ByteArray.toList_eq, ByteArray.toList_eq]
              exact fun h => hWs (bytes_ext h)
            clear hWs
            go_wp2_with fail
            (try simp only [Exit.inBlock, Exit.then])
            refine bodyPost_ret (results_tmp4 rfl _ _ _) rfl ?_
            exact ⟨.inr ⟨4, by decide, hq4.out, rfl⟩, HB5.out⟩
        · have hq4 : Hid (q = 4) := hno.out (fun h => hv0 (hokk.out.2 h).1)
          have tv : (v != 0) = true := by rw [bne_iff_ne]; exact hv0
          clear hv0
          go_wp2_with fail
          (try simp only [Exit.inBlock, Exit.then])
          refine bodyPost_ret (results_tmp4 rfl _ _ _) rfl ?_
          exact ⟨.inr ⟨4, by decide, hq4.out, rfl⟩, HB5.out⟩
  · have hex2 := hex.out
    rw [decide_eq_true hg] at hex2
    have hex3 : (X.toList == E.toList) = false := by simpa [bne] using hex2
    have hq : Hid (opnE s.data.toList = 5) := by show _ = _; rw [hd.out, if_neg hg]
    clear hex hg hd
    go_enter Tryd.func31, Tryd.ntmps31
    go_wp2_with fail
    go_region_held_law (fun _ => True) (trivial) (first
      | (go_at_call 56; refine (c1.out _).mono ?_; rintro e w1 ⟨rfl, rfl⟩)
      | (go_at_call 27; refine (c2.out _).mono ?_; rintro e w2 ⟨rfl, hb2⟩; have HB2 := Hid.mk' ((Below.refl _ w).drew.trans hb2); clear hb2)
      | (go_at_call 55; refine (c3.out _).mono ?_; rintro e w3 ⟨rfl, hb3⟩; have HB3 := Hid.mk' (HB2.out.trans (hb3.mono HB2.out.size)); clear hb3)
      | fail)
    all_goals
      go_wp2_with fail
      (try simp only [Exit.inBlock, Exit.then])
      refine bodyPost_ret (results_tmp4 rfl _ _ _) rfl ?_
      exact ⟨.inr ⟨5, by decide, hq.out, rfl⟩, HB3.out⟩
end Go.Proofs.YtbakgobgjfhhhaaDoor
