import Derived.Test.YtbakgobgjfhhhaaDoorPsaq

/- What scan.byNumber answers. -/
namespace Go.Proofs.YtbakgobgjfhhhaaDoor
open Go.RowKit

def prjL (L : List (Nat × EnS)) : List (Nat × Ent) := L.map (fun p => (p.1, p.2.e))
theorem prjL_snoc (L : List (Nat × EnS)) (p : Nat × EnS) : prjL (L ++ [p]) = prjL L ++ [(p.1, p.2.e)] := by simp [prjL]
def celD (C : List ByteArray) (P : List Pt) : Nat → List UInt8 := fun k => (cel C P k).data.toList
set_option maxRecDepth 20000 in
set_option maxHeartbeats 3200000 in
theorem bynum_any (a0 a1 : Option Addr) (n c m d : Nat) (C : List ByteArray) (P : List Pt) (w : World) (hT : Tab w) (h : Dk w a0 n a1 m C P) (hc : chkD C P = 0) :
    Calls Tryd.prog 41 #[.agg #[.slice a0 n c, .slice a1 m d]] w fun z w' => (∃ g q D L, z = .returned (.map (some g)) ∧ MapL w' g q D L ∧ prjL L = lgK (celD C P) n ∧ (∀ p ∈ L, EnB w' p.2) ∧ (∀ p ∈ L, p.1 ≤ 2147483647)) ∧ Below w.heap.size w w' := by
  have hn128 : n ≤ 128 := by have := (chkD_ok hc).n2; rw [h.nC] at this; exact this
  have hd0 := boxV_new w [.slice a0 n c, .slice a1 m d] 39
  have hs0 : (w.alloc (.cells #[.slice a0 n c, .slice a1 m d] 39)).heap.size = w.heap.size + 1 := by simp
  have hb0 := below_boxE (w := w) #[.slice a0 n c, .slice a1 m d] 39
  obtain ⟨W0, hW0⟩ : ∃ W, Hid (w.alloc (.cells #[.slice a0 n c, .slice a1 m d] 39) = W) := ⟨_, Hid.mk' rfl⟩
  have e0 : w.alloc (.cells [.slice a0 n c, .slice a1 m d].toArray 39) = W0 := hW0.out
  rw [e0] at hd0
  rw [hW0.out] at hs0 hb0
  have hmm := run_makeMap (P := Tryd.prog) 72 W0
  have hm1 := World.ownsMap_made W0 Tryd.prog 3 R0
  obtain ⟨W1, hW1⟩ : ∃ W, Hid (W0.alloc (.map #[] 0) = W) := ⟨_, Hid.mk' rfl⟩
  have hb01 : Below W0.heap.size W0 W1 := by rw [← hW1.out]; exact (Below.refl _ _).alloc (Nat.le_refl _) _
  have hs1 : W1.heap.size = w.heap.size + 2 := by rw [← hW1.out]; simp; omega
  rw [hW1.out, hs0] at hmm hm1
  have HM1 : Hid (MapL W1 (w.heap.size + 1) 0 (.map []) []) := ⟨hm1, mapD_start⟩
  have HD1 := Hid.mk' (hd0.below hb01)
  have HB1 := Hid.mk' (hb0.trans (hb01.mono hb0.size))
  have HKw := Hid.mk' h
  have HTw := Hid.mk' hT
  have HCh := Hid.mk' hc
  have hrc := Hid.mk' (fun k w hT h hk => rdcell_any a0 a1 n c m d C P k w hT h hc hk)
  clear hd0 hs0 hb0 hm1 hb01 e0 h hT hc
  go_enter Tryd.func41, Tryd.ntmps41
  rw [← hW0.out] at hmm
  go_wp2_with fail
  clear hmm
  go_loopw [4] (fun i wr => ∃ (k q : Nat) (D : DataW Value) (L : List (Nat × EnS)), 2 ≤ k ∧ (k ≤ n ∨ k = 2) ∧ i = .int .i64 k ∧ q ≤ k ∧ MapL wr (w.heap.size + 1) q D L ∧ prjL L = lgK (celD C P) k ∧ (∀ p ∈ L, EnB wr p.2) ∧ (∀ p ∈ L, p.1 ≤ 2147483647) ∧ BoxV wr w.heap.size [.slice a0 n c, .slice a1 m d] ∧ Below w.heap.size w wr ∧ w.heap.size + 2 ≤ wr.heap.size) (fun i _ => 200 - (intOf i).toNat)
  case atStart => exact ⟨2, 0, _, [], Nat.le_refl _, .inr rfl, rfl, Nat.zero_le _, HM1.out, rfl, (fun p hp => by cases hp), (fun p hp => by cases hp), HD1.out, HB1.out, by omega⟩
  case round =>
    obtain ⟨k, q, D, L, hk2, hkn, rfl, hq, hM, hp, hE, hN, hD, hB, hz⟩ := hrel
    have HM := Hid.mk' hM
    have HP := Hid.mk' hp
    have HE := Hid.mk' hE
    have HN := Hid.mk' hN
    have HD := Hid.mk' hD
    have HB := Hid.mk' hB
    have HZ := Hid.mk' hz
    clear hM hp hE hN hD hB hz
    have p0 := HD.out.c 0 _ rfl
    have p1 := HD.out.c 1 _ rfl
    by_cases hlt : k < n
    · go_wp2_with fail
      refine (hrc.out k wr (tab_belowS HTw.out HB.out) (HKw.out.below HB.out) hlt).mono ?_
      rintro z w3 ⟨hz, hb⟩
      have HM3 := Hid.mk' (HM.out.below hb)
      have HE3 : Hid (∀ p ∈ L, EnB w3 p.2) := fun p hp => (HE.out p hp).below hb
      have HD3 := Hid.mk' (HD.out.below hb)
      have HB3 := Hid.mk' (HB.out.trans (hb.mono HB.out.size))
      have HZ3 := Hid.mk' (Nat.le_trans HZ.out hb.size)
      clear hb p0 p1
      rcases hz with ⟨hno, rfl⟩ | ⟨N, x, hyes, hxk, rfl, hxb⟩
      · have hpr : Hid (prjL L = lgK (celD C P) (k + 1)) := by show _ = _; rw [lgK_none hno]; exact HP.out
        have hbx := below_boxE (w := w3) #[.int .i64 0, .slice none 0 0, .bool false] 48
        have HM4 := Hid.mk' (HM3.out.below hbx)
        have HE4 : Hid (∀ p ∈ L, EnB _ p.2) := fun p hp => (HE3.out p hp).below hbx
        have HD4 := Hid.mk' (HD3.out.below hbx)
        have HB4 := Hid.mk' (HB3.out.trans (hbx.mono HB3.out.size))
        have HZ4 := Hid.mk' (Nat.le_trans HZ3.out hbx.size)
        clear hbx hno
        go_wp2_with fail
        exact ⟨⟨k + 1, q, D, L, by omega, .inl (by omega), by go_num, by omega, HM4.out, hpr.out, HE4.out, HN.out, HD4.out, HB4.out, HZ4.out⟩, by simp [intOf]; omega⟩
      · obtain ⟨cl, bl, la, xa, xc⟩ := x
        simp only at hyes hxk hxb
        subst hxk
        have hpr : Hid (prjL (L ++ [(N, ⟨cl, bl, la, xa, xc⟩)]) = lgK (celD C P) (cl + 1)) := by show _ = _; rw [lgK_some hk2 hyes, prjL_snoc, HP.out]; rfl
        have hNm : Hid (∀ p ∈ L ++ [(N, (⟨cl, bl, la, xa, xc⟩ : EnS))], p.1 ≤ 2147483647) := fun p hp => by
          rcases List.mem_append.1 hp with hp | hp
          · exact HN.out p hp
          · rw [List.mem_singleton.1 hp]; exact lgS_serial hyes
        have hN1 : N ≤ 2147483647 := lgS_serial hyes
        have hwf : (Lit.int .i64 (N : Int)).wf = true := WalkArith.wf_i64 (by omega)
        have hbx := below_boxE (w := w3) #[.int .i64 (cl : Int), .slice xa bl.length xc, .bool la] 48
        have HM4 := Hid.mk' (HM3.out.below hbx)
        have HE4 : Hid (∀ p ∈ L, EnB _ p.2) := fun p hp => (HE3.out p hp).below hbx
        have HX4 := Hid.mk' (EnB.below hxb hbx)
        have HD4 := Hid.mk' (HD3.out.below hbx)
        have HB4 := Hid.mk' (HB3.out.trans (hbx.mono HB3.out.size))
        have HZ4 := Hid.mk' (Nat.le_trans HZ3.out hbx.size)
        have HV4 := Hid.mk' (boxV_new w3 [.int .i64 (cl : Int), .slice xa bl.length xc, .bool la] 48)
        clear hbx hyes hxb
        cases hf : fnd L (N : Int) with
        | some y =>
          have hlk := HM4.out.look_yes hwf hf
          have hbx := below_boxE (w := w3.alloc (.cells #[.int .i64 (cl : Int), .slice xa bl.length xc, .bool la] 48)) #[.int .i64 (y.cl : Int), .slice y.a y.bl.length y.c, .bool y.la] 48
          have HM5 := Hid.mk' (HM4.out.below hbx)
          have HE5 : Hid (∀ p ∈ L ++ [(N, (⟨cl, bl, la, xa, xc⟩ : EnS))], EnB _ p.2) := fun p hp => by
            rcases List.mem_append.1 hp with hp | hp
            · exact (HE4.out p hp).below hbx
            · rw [List.mem_singleton.1 hp]; exact EnB.below HX4.out hbx
          have HD5 := Hid.mk' (HD4.out.below hbx)
          have HB5 := Hid.mk' (HB4.out.trans (hbx.mono HB4.out.size))
          have HZ5 := Hid.mk' (Nat.le_trans HZ4.out hbx.size)
          have hMM : Hid (MapL _ (w.heap.size + 1) q D (L ++ [(N, (⟨cl, bl, la, xa, xc⟩ : EnS))])) := ⟨HM5.out.own, mapD_old HM5.out.d (N, ⟨cl, bl, la, xa, xc⟩) hf⟩
          clear hbx hf hwf
          go_wp2_with fail
          exact ⟨⟨cl + 1, q, D, _, by omega, .inl (by omega), by go_num, by omega, hMM.out, hpr.out, HE5.out, hNm.out, HD5.out, HB5.out, HZ5.out⟩, by simp [intOf]; omega⟩
        | none =>
          have hlk := HM4.out.look_no hwf hf
          have hbx := below_boxE (w := w3.alloc (.cells #[.int .i64 (cl : Int), .slice xa bl.length xc, .bool la] 48)) #[.int .i64 0, .slice none 0 0, .bool false] 48
          have HM5 := Hid.mk' (HM4.out.below hbx)
          obtain ⟨w6, hu, hM6, hg6⟩ := HM5.out.upd (N, ⟨cl, bl, la, xa, xc⟩) hwf (by unfold maxLen; omega) hf
          have HE6 : Hid (∀ p ∈ L ++ [(N, (⟨cl, bl, la, xa, xc⟩ : EnS))], EnB w6 p.2) := fun p hp => by
            rcases List.mem_append.1 hp with hp | hp
            · exact enB_map HM5.out hg6 ((HE4.out p hp).below hbx)
            · rw [List.mem_singleton.1 hp]; exact enB_map HM5.out hg6 (EnB.below HX4.out hbx)
          have HB6 := Hid.mk' (below_map (HB4.out.trans (hbx.mono HB4.out.size)) hg6 (Nat.le_succ _))
          have HZ6 := Hid.mk' (Nat.le_trans (Nat.le_trans HZ4.out hbx.size) hg6.size)
          have HD6 := Hid.mk' ((HD4.out.below hbx).grown hg6 (by simp))
          have HM6 := Hid.mk' hM6
          have v0 := (HV4.out.below hbx).c 0 _ rfl
          have v1 := (HV4.out.below hbx).c 1 _ rfl
          have v2 := (HV4.out.below hbx).c 2 _ rfl
          clear hbx hf hwf hM6 hg6
          go_wp2_with fail
          exact ⟨⟨cl + 1, q + 1, _, _, by omega, .inl (by omega), by go_num, by omega, HM6.out, hpr.out, HE6.out, hNm.out, HD6.out, HB6.out, HZ6.out⟩, by simp [intOf]; omega⟩
    · have hpr : Hid (prjL L = lgK (celD C P) n) := by
        show _ = _
        rw [HP.out]
        rcases hkn with h1 | h1
        · rw [show k = n by omega]
        · subst h1
          rw [lgK_low _ (Nat.le_refl 2), lgK_low _ (by omega)]
      go_wp2_with fail
      go_ret
      exact ⟨⟨_, q, D, L, rfl, HM.out, hpr.out, HE.out, HN.out⟩, HB.out⟩
end Go.Proofs.YtbakgobgjfhhhaaDoor
