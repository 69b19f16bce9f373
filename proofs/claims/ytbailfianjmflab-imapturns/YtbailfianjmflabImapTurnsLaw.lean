/- The law ImapTurns, walked. -/
import Derived.Test.YtbailfianjmflabMapAt
import Derived.Test.YtbailfianjmflabEqualN
namespace Go.Proofs.Ytbailfianjmflab
open Go.RowKit

/-- an answered map, to be read -/
theorem imA_maps {w' : World} {N : Nat} {P : List Pla} {G : List Int} {q : Int} {z : Ending} (h : ImA w' N P G q z) (hP : P.length ≤ 48) (hG : G.length ≤ 48) (h1 : ∀ p ∈ P, PlaB p) (h2 : ∀ g ∈ G, I64 g) :
    ∃ a c b e, z = .returned (.tuple #[.agg #[.slice a P.length c, .slice b G.length e], .int .i64 q]) ∧ Pls w' a P.length c P ∧ Its w' b G.length e G := by
  obtain ⟨u, v, rfl, ho⟩ := h
  obtain ⟨a0, c, a1, e, rfl, rfl, h3, h4⟩ := ho.pls hP hG h1 h2
  exact ⟨a0, c, a1, e, rfl, h3, h4⟩
theorem frS_set_ne {P : List Pla} {G : List Int} {k j : Nat} {p : Pla} {x : Int} (hP : P.length = 48) (hG : G.length = 48) (hj : j < 48) (h : k ≠ j) : frS (P.set k p) (G.set k x) j ↔ frS P G j := by
  unfold frS
  rw [getD_setM P k j p noPl (by rw [hP]; exact hj), getD_setM G k j x 0 (by rw [hG]; exact hj), if_neg h, if_neg h]
theorem frS_setP_ne {P : List Pla} {G : List Int} {k j : Nat} {p : Pla} (hP : P.length = 48) (hj : j < 48) (h : k ≠ j) : frS (P.set k p) G j ↔ frS P G j := by
  unfold frS
  rw [getD_setM P k j p noPl (by rw [hP]; exact hj), if_neg h]
set_option maxRecDepth 20000 in
set_option maxHeartbeats 12800000 in
theorem imapTurns_walk (a0 : Option Addr) (n c : Nat) (a1 : Option Addr) (m e : Nat) (P : List Pla) (G : List Int) (p : Pla) (w : World) (h : Pls w a0 n c P) (h' : Its w a1 m e G) (hpB : PlaB p) :
    Calls Try.prog 5 #[.agg #[.slice a0 n c, .slice a1 m e], .agg #[.int .i64 p.cl, .int .i64 p.nh]] w fun z w' => z = .returned (.bool true) ∧ Below w.heap.size w w' := by
  have hPB := Hid.mk' h.bB
  have hGB := Hid.mk' h'.bB
  have HPB := Hid.mk' hpB
  have hnL := Hid.mk' h.nL
  have hmL := Hid.mk' h'.nL
  -- the boxes
  have hm0 := MapAt.new h h' 36
  have hb0 := below_boxP (w := w) #[.slice a0 n c, .slice a1 m e] 36
  have hs0 : (w.alloc (.cells #[.slice a0 n c, .slice a1 m e] 36)).heap.size = w.heap.size + 1 := by simp
  obtain ⟨Wa, hWa⟩ : ∃ W, Hid (w.alloc (.cells #[.slice a0 n c, .slice a1 m e] 36) = W) := ⟨_, Hid.mk' rfl⟩
  rw [hWa.out] at hm0 hb0 hs0
  have hx0 := bxPl Wa p 29
  have hb1 := below_boxP (w := Wa) #[.int .i64 p.cl, .int .i64 p.nh] 29
  rw [hs0] at hx0
  obtain ⟨W0, hW0⟩ : ∃ W, Hid (Wa.alloc (.cells #[.int .i64 p.cl, .int .i64 p.nh] 29) = W) := ⟨_, Hid.mk' rfl⟩
  have hs1 : (Wa.alloc (.cells #[.int .i64 p.cl, .int .i64 p.nh] 29)).heap.size = w.heap.size + 2 := by simp; omega
  rw [hW0.out] at hx0 hb1 hs1
  have HM := Hid.mk' (hm0.below hb1)
  have HX := Hid.mk' hx0
  have HB := Hid.mk' (hb0.trans (hb1.mono hb0.size))
  have hz := Hid.mk' hs1
  have HTK := Hid.mk' (fun w h h' => take_anyM a0 n c a1 m e P G w h h')
  have HST := Hid.mk' (fun x w h h' => imset_any a0 n c a1 m e P G x p w h h')
  clear h h' hm0 hb0 hs0 hx0 hb1 hs1
  go_enter Try.func5, Try.ntmps5
  go_wp2_with fail
  rw [hWa.out, hW0.out]
  -- the fresh one
  refine (fresh_any W0).mono ?_
  rintro z w1 ⟨hfr, hb⟩
  obtain ⟨fa, fc, fb, fe, rfl, hf1, hf2⟩ := fresh_maps hfr
  have HM1 := Hid.mk' (HM.out.below hb)
  have HX1 := Hid.mk' (HX.out.below hb)
  have HB1 := Hid.mk' (HB.out.trans (hb.mono HB.out.size))
  have HF1 := Hid.mk' hf1
  have HF2 := Hid.mk' hf2
  clear hb hfr hf1 hf2
  go_wp2_with fail
  refine (take_anyM fa 48 fc fb 48 fe frA frG w1 HF1.out HF2.out).mono ?_
  rintro z w2 ⟨htk, hb⟩
  rw [take_fresh htk]
  have HM2 := Hid.mk' (HM1.out.below hb)
  have HX2 := Hid.mk' (HX1.out.below hb)
  have HB2 := Hid.mk' (HB1.out.trans (hb.mono HB1.out.size))
  have c0 := HM2.out.c0
  have c1 := HM2.out.c1
  clear hb htk HF1 HF2
  go_wp2_with fail
  -- Take
  refine (HTK.out w2 HM2.out.pl HM2.out.it).mono ?_
  rintro z w3 ⟨⟨k, q, rfl, hans⟩, hb⟩
  have HM3 := Hid.mk' (HM2.out.below hb)
  have HX3 := Hid.mk' (HX2.out.below hb)
  have HB3 := Hid.mk' (HB2.out.trans (hb.mono HB2.out.size))
  clear hb c0 c1
  by_cases h0 : q = 0
  rotate_left
  · obtain rfl : k = 0 := by
      rcases hans with ⟨_, h1, _⟩ | ⟨_, ⟨_, _, _, _, h2⟩ | ⟨h1, _⟩⟩
      · exact h1
      · exact absurd h2 h0
      · exact h1
    have tq : (q != 0) = true := by rw [bne_iff_ne]; exact h0
    clear h0 hans
    go_wp2_with fail
    go_ret
    exact ⟨rfl, HB3.out⟩
  subst h0
  obtain ⟨hc0, hk1, hk48, hfk, hmin⟩ : chkM P G = 0 ∧ 1 ≤ k ∧ k < 48 ∧ frS P G k ∧ (∀ j, 1 ≤ j → j < k → ¬ frS P G j) := by
    rcases hans with ⟨h1, _, h2⟩ | ⟨h1, ⟨a, b, c, d, _⟩ | ⟨_, _, h2⟩⟩
    · exact absurd h2.symm h1
    · exact ⟨h1, a, b, c, d⟩
    · simp at h2
  have hok := chkM_ok hc0
  have hn : n = 48 := by rw [← hnL.out]; exact hok.p
  have hm : m = 48 := by rw [← hmL.out]; exact hok.g
  subst hn hm
  have HC0 := Hid.mk' hc0
  have HOk := Hid.mk' hok
  have HFk := Hid.mk' hfk
  have HMin := Hid.mk' hmin
  have hgk := hok.n k hk48
  obtain ⟨g, hg⟩ : ∃ g, Hid (G.getD k 0 = g) := ⟨_, Hid.mk' rfl⟩
  rw [hg.out] at hgk
  have hgl : g < 2147483647 := by rw [← hg.out]; exact hfk.2
  have t1 : decide ((k : Int) < 1) = false := decide_eq_false (by omega)
  have t2 : decide ((47 : Int) < (k : Int)) = false := decide_eq_false (by omega)
  have c0 := HM3.out.c0
  have c1 := HM3.out.c1
  have d0 := HX3.out.c0
  have d1 := HX3.out.c1
  clear hans hc0 hok hfk hmin
  go_wp2_with fail
  -- Set
  refine (HST.out (k : Int) w3 HM3.out.pl HM3.out.it).mono ?_
  rintro z w4 ⟨hans, hb⟩
  have hlenP : (stP P G (k : Int) p).length ≤ 48 := by
    unfold stP; split
    · rw [List.length_set, hnL.out]; exact Nat.le_refl _
    · simp
  have hlenG : (stG P G (k : Int) p).length ≤ 48 := by
    unfold stG; split
    · rw [hmL.out]; exact Nat.le_refl _
    · simp
  have hB1 : ∀ x ∈ stP P G (k : Int) p, PlaB x := by
    unfold stP; split
    · exact plaB_set hPB.out _ HPB.out
    · intro x hx; cases hx
  have hB2 : ∀ x ∈ stG P G (k : Int) p, I64 x := by
    unfold stG; split
    · exact hGB.out
    · intro x hx; cases hx
  obtain ⟨sa, sc, sb, se, rfl, hs1, hs2⟩ := imA_maps hans hlenP hlenG hB1 hB2
  have hbx := below_boxP (w := w4) #[.slice sa (stP P G (k : Int) p).length sc, .slice sb (stG P G (k : Int) p).length se] 36
  have hbb := hb.trans (hbx.mono hb.size)
  have HM4 := Hid.mk' (HM3.out.below hbb)
  have HX4 := Hid.mk' (HX3.out.below hbb)
  have HB4 := Hid.mk' (HB3.out.trans (hbb.mono HB3.out.size))
  have HS4 := Hid.mk' (MapAt.new hs1 hs2 36)
  have hz4 : w3.heap.size ≤ w4.heap.size := hb.size
  obtain ⟨W4, hW4⟩ : ∃ W, Hid (w4.alloc (.cells #[.slice sa (stP P G (k : Int) p).length sc, .slice sb (stG P G (k : Int) p).length se] 36) = W) := ⟨_, Hid.mk' rfl⟩
  clear hb hbx hbb hs1 hs2 hans hlenP hlenG hB1 hB2 c0 c1 d0 d1
  have hse : Hid (stE P G (k : Int) p = 0 ∨ stE P G (k : Int) p = 1) := by
    show _ ∨ _
    by_cases hh : numM (k : Int) = true ∧ rtB p = true ∧ nonB p = false
    · exact .inl (stE_ok HC0.out hh)
    · exact .inr (stE_bad HC0.out hh)
  rcases hse.out with hst | hst
  rotate_left
  · rw [hst]
    clear hst
    go_wp2_with fail
    go_ret
    exact ⟨rfl, HB4.out⟩
  have hrp : rtB p = true ∧ nonB p = false := by
    refine Classical.byContradiction fun hh => ?_
    have := stE_bad (n := (k : Int)) (p := p) HC0.out (fun h => hh ⟨h.2.1, h.2.2⟩)
    rw [hst] at this
    simp at this
  have hsP : stP P G (k : Int) p = P.set k p := by unfold stP; rw [hst, if_pos rfl]; rfl
  have hsG : stG P G (k : Int) p = G := by unfold stG; rw [hst, if_pos rfl]
  rw [hsP, hsG, List.length_set, hnL.out, hmL.out] at HM4 HX4 HB4 HS4 hW4 ⊢
  rw [hst]
  rw [hW4.out] at HM4 HX4 HB4 HS4
  have hokA : OkM (P.set k p) G := HOk.out.setP k hrp.1
  have HOkA := Hid.mk' hokA
  have hget : (P.set k p).getD k noPl = p := by rw [getD_setM P k k p noPl (by rw [hnL.out]; exact hk48), if_pos rfl]
  have HRp := Hid.mk' hrp
  have HGet := Hid.mk' hget
  have c0 := HM4.out.c0
  have c1 := HM4.out.c1
  have s0 := HS4.out.c0
  have s1 := HS4.out.c1
  rw [← hW4.out] at s0 s1
  clear hst hrp hsP hsG hokA hget
  go_wp2_with fail
  rw [hW4.out]
  rw [hW4.out] at s0 s1
  go_wp2_with fail
  -- Take of what was set
  refine (take_anyM sa 48 sc sb 48 se (P.set k p) G W4 HS4.out.pl HS4.out.it).mono ?_
  rintro z w5 ⟨⟨k2, q2, rfl, hans⟩, hb⟩
  have HM5 := Hid.mk' (HM4.out.below hb)
  have HX5 := Hid.mk' (HX4.out.below hb)
  have HS5 := Hid.mk' (HS4.out.below hb)
  have HB5 := Hid.mk' (HB4.out.trans (hb.mono HB4.out.size))
  have hq2 : (q2 = 0 ∧ k < k2) ∨ (q2 = 10 ∧ k2 = 0) := by
    rcases hans with ⟨h1, _⟩ | ⟨_, ⟨h1, h2, h3, _, h5⟩ | ⟨h1, _, h3⟩⟩
    · exact absurd (chkM_yes HOkA.out) h1
    · refine .inl ⟨h5, ?_⟩
      rcases Nat.lt_trichotomy k2 k with hl | hl | hl
      · exact absurd ((frS_setP_ne (by rw [hnL.out]) h2 (by omega)).1 h3) (HMin.out k2 h1 hl)
      · subst hl
        have h6 := h3.1
        rw [HGet.out, HRp.out.2] at h6
        cases h6
      · exact hl
    · exact .inr ⟨h3, h1⟩
  have s0 := HS5.out.c0
  have s1 := HS5.out.c1
  have c0 := HM5.out.c0
  have c1 := HM5.out.c1
  have d0 := HX5.out.c0
  have d1 := HX5.out.c1
  obtain ⟨ab, ao, rfl, ha1, ha2, ha3⟩ := HS5.out.pl.at k hk48
  rw [HGet.out] at ha2 ha3
  have hEq : Hid (∀ r : Nat, Calls Try.prog 16 #[.slice sb 48 se, .slice a1 48 e] (w5.drewN r) fun z w' => z = .returned (.bool true) ∧ ∃ q, w' = (w5.drewN r).drewN q) := fun r => (equalN_any sb a1 48 se 48 e G G (w5.drewN r) (HS5.out.it.rd.below (below_dP w5 r)) (HM5.out.it.rd.below (below_dP w5 r)) hmL.out hmL.out (by omega) (by omega)).mono (by
    rintro z w' ⟨⟨b, rfl, hb⟩, hq⟩
    exact ⟨by rw [hb.yes rfl], hq⟩)
  have HCU : Hid (∀ w : World, Pls w (some ⟨ab, ao, none⟩) 48 sc (P.set k p) → Its w sb 48 se G → Calls Try.prog 17 #[.agg #[.slice (some ⟨ab, ao, none⟩) 48 sc, .slice sb 48 se], .int .i64 (k : Int)] w fun z w' => ImA w' w.heap.size (cuP (P.set k p) G (k : Int)) (cuG (P.set k p) G (k : Int)) (cuE (P.set k p) G (k : Int)) z ∧ Below w.heap.size w w') := fun w h h' => imcut_any _ 48 sc sb 48 se (P.set k p) G (k : Int) w h h'
  have hce : cuE (P.set k p) G (k : Int) = 0 := cuE_ok (chkM_yes HOkA.out) (decide_eq_true (by omega)) (by show nonB ((P.set k p).getD k noPl) = false; rw [HGet.out]; exact HRp.out.2) (by show ¬ G.getD k 0 = 2147483647; rw [hg.out]; omega)
  have hcP : cuP (P.set k p) G (k : Int) = (P.set k p).set k noPl := by unfold cuP; rw [hce, if_pos rfl]; rfl
  have hcG : cuG (P.set k p) G (k : Int) = G.set k (g + 1) := by unfold cuG; rw [hce, if_pos rfl]; show G.set k (G.getD k 0 + 1) = _; rw [hg.out]
  rw [hce, hcP, hcG] at HCU
  have HP2 : Hid ((((P.set k p).set k noPl).getD k noPl) = noPl) := by show _ = _; rw [getD_setM _ _ _ _ _ (by rw [List.length_set, hnL.out]; exact hk48), if_pos rfl]
  have HG2 : Hid ((G.set k (g + 1)).getD k 0 = g + 1) := by show _ = _; rw [getD_setM _ _ _ _ _ (by rw [hmL.out]; exact hk48), if_pos rfl]
  have HOk2 := Hid.mk' ((HOkA.out.setP k (p := noPl) (by decide)).setG k (g := g + 1) (by omega))
  have hP2L : Hid (((P.set k p).set k noPl).length = 48) := by show _ = _; rw [List.length_set, List.length_set, hnL.out]
  have hG2L : Hid ((G.set k (g + 1)).length = 48) := by show _ = _; rw [List.length_set, hmL.out]
  have hP2B := Hid.mk' (plaB_set (plaB_set hPB.out k HPB.out) k plaB_none)
  have hG2B := Hid.mk' (i64_set hGB.out k (x := g + 1) ⟨by omega, by omega⟩)
  have HFr : Hid (∀ j, j < 48 → k ≠ j → (frS ((P.set k p).set k noPl) (G.set k (g + 1)) j ↔ frS P G j)) := fun j hj hne => by
    have h1 := frS_set_ne (P := P.set k p) (G := G) (p := noPl) (x := g + 1) (by rw [List.length_set, hnL.out]) hmL.out hj hne
    exact h1.trans (frS_setP_ne (by rw [hnL.out]) hj hne)
  obtain ⟨P2, hP2⟩ : ∃ X, Hid ((P.set k p).set k noPl = X) := ⟨_, Hid.mk' rfl⟩
  obtain ⟨G2, hG2⟩ : ∃ X, Hid (G.set k (g + 1) = X) := ⟨_, Hid.mk' rfl⟩
  rw [hP2.out, hG2.out] at HCU HOk2 HFr
  rw [hP2.out] at HP2 hP2L hP2B
  rw [hG2.out] at HG2 hG2L hG2B
  clear hb hans hce hcP hcG
  have ii0 : (0 : Int) ≤ (k : Int) := by omega
  have ii1 : (k : Int) < 48 := by omega
  have ii2 : (k : Int) < ((48 : Nat) : Int) := by omega
  rcases hq2 with ⟨rfl, hk2⟩ | ⟨rfl, rfl⟩
  all_goals
    try have t3 : decide ((k2 : Int) ≤ (k : Int)) = false := decide_eq_false (by omega)
    go_wp2_with fail
    go_quiet ((go_at_call 16; refine (hEq.out _).mono ?_; rintro z w' ⟨rfl, r, rfl⟩; exact ⟨rfl, _, drewN_addN _ _ _⟩))
    have HM6 := Hid.mk' (HM5.out.below (below_dP w5 nq))
    have HX6 := Hid.mk' (HX5.out.below (below_dP w5 nq))
    have HS6 := Hid.mk' (HS5.out.below (below_dP w5 nq))
    have HB6 := Hid.mk' (HB5.out.trans (below_dP w5 nq))
    have s0 := HS6.out.c0
    have s1 := HS6.out.c1
    clear c0 c1 d0 d1 ha1 ha2 ha3 hEq
    go_wp2_with fail
    refine (HCU.out _ HS6.out.pl HS6.out.it).mono ?_
    rintro z w7 ⟨hans, hb⟩
    obtain ⟨ba, bc, bb, be, rfl, hs1, hs2⟩ := imA_maps hans (by rw [hP2L.out]; exact Nat.le_refl _) (by rw [hG2L.out]; exact Nat.le_refl _) hP2B.out hG2B.out
    rw [hP2L.out] at hs1
    rw [hG2L.out] at hs2
    rw [hP2L.out, hG2L.out]
    have hbx := below_boxP (w := w7) #[.slice ba 48 bc, .slice bb 48 be] 36
    have hbb := hb.trans (hbx.mono hb.size)
    have HM7 := Hid.mk' (HM6.out.below hbb)
    have HB7 := Hid.mk' (HB6.out.trans (hbb.mono HB6.out.size))
    have HS7 := Hid.mk' (MapAt.new hs1 hs2 36)
    obtain ⟨W7, hW7⟩ : ∃ W, Hid (w7.alloc (.cells #[.slice ba 48 bc, .slice bb 48 be] 36) = W) := ⟨_, Hid.mk' rfl⟩
    clear hb hbx hbb hs1 hs2 hans s0 s1
    have hcb := HCU
    clear HCU
    rw [hW7.out] at HM7 HB7 HS7
    obtain ⟨bb1, bo1, rfl, hb1, hb2, hb3⟩ := HS7.out.pl.at k hk48
    obtain ⟨bb2, bo2, rfl, hc1, hc2⟩ := HS7.out.it.at k hk48
    obtain ⟨bb3, bo3, rfl, hd1, hd2⟩ := HM7.out.it.at k hk48
    rw [HP2.out] at hb2 hb3
    rw [HG2.out] at hc2
    rw [hg.out] at hd2
    simp only [noPl] at hb2 hb3
    have ew : IntKind.i64.wrap (g + 1) = g + 1 := by rw [IntKind.wrap_i64]; omega
    have tg : (g + 1 != g + 1) = false := by simp
    have c1 := HM7.out.c1
    have s0 := HS7.out.c0
    have s1 := HS7.out.c1
    go_wp2_with fail
    rw [hW7.out]
    go_quiet (fail)
    have HM8 := Hid.mk' (HM7.out.below (below_dP W7 nq))
    have HS8 := Hid.mk' (HS7.out.below (below_dP W7 nq))
    have HB8 := Hid.mk' (HB7.out.trans (below_dP W7 nq))
    have s0 := HS8.out.c0
    have s1 := HS8.out.c1
    have hc12 : cuE P2 G2 (k : Int) = 12 := cuE_none (chkM_yes HOk2.out) (decide_eq_true (by omega)) (by show nonB (P2.getD k noPl) = true; rw [HP2.out]; decide)
    have HC12 := Hid.mk' hc12
    clear hc12 hb1 hb2 hb3 hc1 hc2 hd1 hd2 c1
    go_wp2_with fail
    refine (imcut_any _ 48 bc _ 48 be P2 G2 (k : Int) _ HS8.out.pl HS8.out.it).mono ?_
    rintro z w9 ⟨⟨u, v, rfl, _⟩, hb⟩
    rw [HC12.out]
    have HS9 := Hid.mk' (HS8.out.below hb)
    have HB9 := Hid.mk' (HB8.out.trans (hb.mono HB8.out.size))
    have s0 := HS9.out.c0
    have s1 := HS9.out.c1
    clear hb
    go_wp2_with fail
    refine (take_anyM _ 48 bc _ 48 be P2 G2 w9 HS9.out.pl HS9.out.it).mono ?_
    rintro z w10 ⟨⟨k3, q3, rfl, hans⟩, hb⟩
    have HS10 := Hid.mk' (HS9.out.below hb)
    have HB10 := Hid.mk' (HB9.out.trans (hb.mono HB9.out.size))
    have hT : TakA P2 G2 k3 q3 := by
      rcases hans with ⟨h1, _⟩ | ⟨_, h⟩
      · exact absurd (chkM_yes HOk2.out) h1
      · exact h
    have hmin2 : ∀ j, 1 ≤ j → j < k → ¬ frS P2 G2 j := fun j h1 h2 h3 => HMin.out j h1 h2 ((HFr.out j (by omega) (by omega)).1 h3)
    obtain ⟨bz, boz, hbz, hez1, hez2⟩ := HS10.out.it.at k hk48
    cases hbz
    rw [HG2.out] at hez2
    have s0 := HS10.out.c0
    have s1 := HS10.out.c1
    clear hb hans
    by_cases hgm : g + 1 = 2147483647
    · have tm : (g + 1 == 2147483647) = true := by rw [hgm]; rfl
      have h3 : (q3 = 0 ∧ k3 ≠ k) ∨ q3 = 10 := by
        rcases hT with ⟨_, _, h1, _, h2⟩ | ⟨_, _, h2⟩
        · refine .inl ⟨h2, fun he => ?_⟩
          subst he
          have := h1.2
          rw [HG2.out] at this
          omega
        · exact .inr h2
      rcases h3 with ⟨rfl, h3⟩ | rfl
      · have t7 : ((k3 : Int) == (k : Int)) = false := by rw [beq_eq_false_iff_ne]; omega
        clear hT hmin2 hgm h3
        go_wp2_with fail
        go_ret
        exact ⟨rfl, HB10.out⟩
      · clear hT hmin2 hgm
        go_wp2_with fail
        go_ret
        exact ⟨rfl, HB10.out⟩
    · have hf2 : frS P2 G2 k := ⟨by rw [HP2.out]; decide, by rw [HG2.out]; omega⟩
      obtain ⟨rfl, rfl⟩ : k3 = k ∧ q3 = 0 := by
        rcases hT with ⟨a, b, c, d, e⟩ | ⟨_, d, _⟩
        · refine ⟨?_, e⟩
          rcases Nat.lt_trichotomy k3 k with hl | hl | hl
          · exact absurd c (hmin2 k3 a hl)
          · exact hl
          · exact absurd hf2 (d k hk1 hl)
        · exact absurd hf2 (d k hk1 hk48)
      clear hT hmin2 hgm hf2
      go_wp2_with fail
      go_ret
      exact ⟨rfl, HB10.out⟩
end Go.Proofs.Ytbailfianjmflab
