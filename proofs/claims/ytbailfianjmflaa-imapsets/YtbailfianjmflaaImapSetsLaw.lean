/- The law ImapSets, walked. -/
import Derived.Test.YtbailfianjmflaaMapAt
import Derived.Test.YtbailfianjmflaaRImChkWalks
import Derived.Test.YtbailfianjmflaaSameImWalks
import Derived.Deep.RegionHeld3
import Derived.Deep.DeepCutAuto
namespace Go.Proofs.Ytbailfianjmflaa
open Go.RowKit

/-- an answered map, to be read -/
theorem imA_mapsS {w' : World} {N : Nat} {P : List Pla} {G : List Int} {q : Int} {z : Ending} (h : ImA w' N P G q z) (hP : P.length ≤ 48) (hG : G.length ≤ 48) (h1 : ∀ p ∈ P, PlaB p) (h2 : ∀ g ∈ G, I64 g) :
    ∃ a c b e, z = .returned (.tuple #[.agg #[.slice a P.length c, .slice b G.length e], .int .i64 q]) ∧ Pls w' a P.length c P ∧ Its w' b G.length e G := by
  obtain ⟨u, v, rfl, ho⟩ := h
  obtain ⟨a0, c, a1, e, rfl, rfl, h3, h4⟩ := ho.pls hP hG h1 h2
  exact ⟨a0, c, a1, e, rfl, h3, h4⟩
theorem pls_ownS {w : World} {N : Nat} {n : Nat} {L : List Pla} {ao : Option Addr} {cap : Nat} (h : w.ownsRow N 26 2 (.slice ao n cap) n (plC L)) (hl : L.length = n) (hn : n ≤ 8796093022208) (hb : ∀ b ∈ L, PlaB b) : Pls w ao n cap L := by
  obtain ⟨a, c, e, hp⟩ := pls_own h hl hn hb
  cases e
  exact hp
theorem Pls.keep {w w' : World} {a : Option Addr} {n c : Nat} {l : List Pla} (h : Pls w a n c l) (hs : w.heap.size ≤ w'.heap.size) (hc : ∀ b off, a = some ⟨b, off, none⟩ → b < w.heap.size → ∀ j, w'.cell? ⟨b, j, none⟩ = w.cell? ⟨b, j, none⟩) : Pls w' a n c l :=
  ⟨h.nL, h.nB, ⟨h.rd.len, fun hp => by
    obtain ⟨b, off, h1, h2, h3⟩ := h.rd.at' hp
    exact ⟨b, off, h1, Nat.lt_of_lt_of_le h2 hs, fun j u hj => (hc b off h1 h2 _).trans (h3 j u hj)⟩⟩, h.bB, h.kc, h.km, h.nc⟩
theorem Its.keep {w w' : World} {a : Option Addr} {n c : Nat} {l : List Int} (h : Its w a n c l) (hs : w.heap.size ≤ w'.heap.size) (hc : ∀ b off, a = some ⟨b, off, none⟩ → b < w.heap.size → ∀ j, w'.cell? ⟨b, j, none⟩ = w.cell? ⟨b, j, none⟩) : Its w' a n c l :=
  ⟨h.nL, h.nB, ⟨h.rd.len, fun hp => by
    obtain ⟨b, off, h1, h2, h3⟩ := h.rd.at' hp
    exact ⟨b, off, h1, Nat.lt_of_lt_of_le h2 hs, fun j u hj => (hc b off h1 h2 _).trans (h3 j u hj)⟩⟩, h.bB, h.kc, h.km, h.nc⟩
theorem cell_oth {X : World} {b j g k : Nat} (hne : g ≠ b) (v : Value) : (X.setCell ⟨g, k, none⟩ v).cell? ⟨b, j, none⟩ = X.cell? ⟨b, j, none⟩ :=
  World.cell?_setCell_other _ _ _ _ (fun e => by simp only [Addr.mk.injEq] at e; omega)
theorem stP_len (P : List Pla) (G : List Int) (x : Int) (p : Pla) : (stP P G x p).length ≤ 48 := by
  unfold stP; split
  · next h =>
    rw [List.length_set]
    refine Classical.byContradiction fun hh => ?_
    have : chkM P G ≠ 0 := fun h0 => hh (by rw [(chkM_ok h0).p]; exact Nat.le_refl _)
    rw [stE_chk this] at h
    exact this h
  · simp
theorem stG_len (P : List Pla) (G : List Int) (x : Int) (p : Pla) : (stG P G x p).length ≤ 48 := by
  unfold stG; split
  · next h =>
    refine Classical.byContradiction fun hh => ?_
    have : chkM P G ≠ 0 := fun h0 => hh (by rw [(chkM_ok h0).g]; exact Nat.le_refl _)
    rw [stE_chk this] at h
    exact this h
  · simp
theorem cuP_len (P : List Pla) (G : List Int) (x : Int) : (cuP P G x).length ≤ 48 := by
  unfold cuP; split
  · next h =>
    rw [List.length_set]
    refine Classical.byContradiction fun hh => ?_
    have : chkM P G ≠ 0 := fun h0 => hh (by rw [(chkM_ok h0).p]; exact Nat.le_refl _)
    rw [cuE_chk this] at h
    exact this h
  · simp
theorem cuG_len (P : List Pla) (G : List Int) (x : Int) : (cuG P G x).length ≤ 48 := by
  unfold cuG; split
  · next h =>
    rw [List.length_set]
    refine Classical.byContradiction fun hh => ?_
    have : chkM P G ≠ 0 := fun h0 => hh (by rw [(chkM_ok h0).g]; exact Nat.le_refl _)
    rw [cuE_chk this] at h
    exact this h
  · simp
theorem stP_B {P : List Pla} {G : List Int} {x : Int} {p : Pla} (h : ∀ p ∈ P, PlaB p) (hp : PlaB p) : ∀ q ∈ stP P G x p, PlaB q := by
  unfold stP; split
  · exact plaB_set h _ hp
  · intro q hq; cases hq
theorem stG_B {P : List Pla} {G : List Int} {x : Int} {p : Pla} (h : ∀ g ∈ G, I64 g) : ∀ q ∈ stG P G x p, I64 q := by
  unfold stG; split
  · exact h
  · intro q hq; cases hq
theorem cuP_B {P : List Pla} {G : List Int} {x : Int} (h : ∀ p ∈ P, PlaB p) : ∀ q ∈ cuP P G x, PlaB q := by
  unfold cuP; split
  · exact plaB_set h _ plaB_none
  · intro q hq; cases hq
/-- what is seen where Set goes well -/
theorem stE_zero {P : List Pla} {G : List Int} {x : Int} {p : Pla} (h : stE P G x p = 0) : chkM P G = 0 ∧ numM x = true ∧ rtB p = true ∧ nonB p = false := by
  have h0 : chkM P G = 0 := Classical.byContradiction fun hh => by rw [stE_chk hh] at h; exact hh h
  refine ⟨h0, Classical.byContradiction fun hh => ?_⟩
  rw [stE_bad h0 hh] at h
  simp at h
theorem cuE_zero {P : List Pla} {G : List Int} {x : Int} (h : cuE P G x = 0) : chkM P G = 0 ∧ numM x = true ∧ nonB (P.getD x.toNat noPl) = false ∧ G.getD x.toNat 0 ≠ 2147483647 := by
  have h0 : chkM P G = 0 := Classical.byContradiction fun hh => by rw [cuE_chk hh] at h; exact hh h
  have h1 : numM x = true := by
    cases hn : numM x with
    | true => rfl
    | false => rw [cuE_num h0 hn] at h; simp at h
  have h2 : nonB (P.getD x.toNat noPl) = false := by
    cases hn : nonB (P.getD x.toNat noPl) with
    | false => rfl
    | true => rw [cuE_none h0 h1 hn] at h; simp at h
  exact ⟨h0, h1, h2, fun hg => by rw [cuE_many h0 h1 h2 hg] at h; simp at h⟩
theorem cuG_B {P : List Pla} {G : List Int} {x : Int} (h : ∀ g ∈ G, I64 g) : ∀ q ∈ cuG P G x, I64 q := by
  unfold cuG; split
  · next hc =>
    obtain ⟨h0, h1, h2, h3⟩ := cuE_zero hc
    have hok := chkM_ok h0
    have hx : 0 ≤ x ∧ x < 48 := of_decide_eq_true h1
    have := hok.n x.toNat (by omega)
    exact i64_set h _ ⟨by omega, by omega⟩
  · intro q hq; cases hq
set_option maxRecDepth 20000 in
set_option maxHeartbeats 12800000 in
theorem imapSets_walk (a0 : Option Addr) (n c : Nat) (a1 : Option Addr) (m e : Nat) (P : List Pla) (G : List Int) (x : Int) (p : Pla) (w : World) (h : Pls w a0 n c P) (h' : Its w a1 m e G) (_hx : (Lit.int .i64 x).wf = true) (hpB : PlaB p) :
    Calls Try.prog 7 #[.agg #[.slice a0 n c, .slice a1 m e], .int .i64 x, .agg #[.int .i64 p.cl, .int .i64 p.nh]] w fun z w' => z = .returned (.bool true) ∧ Below w.heap.size w w' := by
  have hPB := Hid.mk' h.bB
  have hGB := Hid.mk' h'.bB
  have HPB := Hid.mk' hpB
  have hnL := Hid.mk' h.nL
  have hmL := Hid.mk' h'.nL
  have hm0 := MapAt.new h h' 39
  have hb0 := below_boxP (w := w) #[.slice a0 n c, .slice a1 m e] 39
  have hs0 : (w.alloc (.cells #[.slice a0 n c, .slice a1 m e] 39)).heap.size = w.heap.size + 1 := by simp
  obtain ⟨Wa, hWa⟩ : ∃ W, Hid (w.alloc (.cells #[.slice a0 n c, .slice a1 m e] 39) = W) := ⟨_, Hid.mk' rfl⟩
  rw [hWa.out] at hm0 hb0 hs0
  have hx0 := bxPl Wa p 26
  have hb1 := below_boxP (w := Wa) #[.int .i64 p.cl, .int .i64 p.nh] 26
  rw [hs0] at hx0
  obtain ⟨W0, hW0⟩ : ∃ W, Hid (Wa.alloc (.cells #[.int .i64 p.cl, .int .i64 p.nh] 26) = W) := ⟨_, Hid.mk' rfl⟩
  have hs1 : (Wa.alloc (.cells #[.int .i64 p.cl, .int .i64 p.nh] 26)).heap.size = w.heap.size + 2 := by simp; omega
  rw [hW0.out] at hx0 hb1 hs1
  have HM := Hid.mk' (hm0.below hb1)
  have HX := Hid.mk' hx0
  have HB := Hid.mk' (hb0.trans (hb1.mono hb0.size))
  have hz := Hid.mk' hs1
  have HST := Hid.mk' (fun w h h' => imset_any a0 n c a1 m e P G x p w h h')
  have HCU := Hid.mk' (fun w h h' => imcut_any a0 n c a1 m e P G x w h h')
  have HCK := Hid.mk' (fun w h h' => rimap_any a0 n c a1 m e P G w h h')
  have HRT := Hid.mk' (fun w => rright_any p w)
  obtain ⟨q, hq⟩ : ∃ q, Hid (chkM P G = q) := ⟨_, Hid.mk' rfl⟩
  rw [hq.out] at HCK
  obtain ⟨sP, hsP⟩ : ∃ X, Hid (stP P G x p = X) := ⟨_, Hid.mk' rfl⟩
  obtain ⟨sG, hsG⟩ : ∃ X, Hid (stG P G x p = X) := ⟨_, Hid.mk' rfl⟩
  obtain ⟨sE, hsE⟩ : ∃ X, Hid (stE P G x p = X) := ⟨_, Hid.mk' rfl⟩
  obtain ⟨uP, huP⟩ : ∃ X, Hid (cuP P G x = X) := ⟨_, Hid.mk' rfl⟩
  obtain ⟨uG, huG⟩ : ∃ X, Hid (cuG P G x = X) := ⟨_, Hid.mk' rfl⟩
  obtain ⟨uE, huE⟩ : ∃ X, Hid (cuE P G x = X) := ⟨_, Hid.mk' rfl⟩
  rw [hsP.out, hsG.out, hsE.out] at HST
  rw [huP.out, huG.out, huE.out] at HCU
  have L1 : Hid (sP.length ≤ 48) := by show _ ≤ _; rw [← hsP.out]; exact stP_len _ _ _ _
  have L2 : Hid (sG.length ≤ 48) := by show _ ≤ _; rw [← hsG.out]; exact stG_len _ _ _ _
  have L3 : Hid (uP.length ≤ 48) := by show _ ≤ _; rw [← huP.out]; exact cuP_len _ _ _
  have L4 : Hid (uG.length ≤ 48) := by show _ ≤ _; rw [← huG.out]; exact cuG_len _ _ _
  have B1 : Hid (∀ q ∈ sP, PlaB q) := by show ∀ q ∈ sP, _; rw [← hsP.out]; exact stP_B hPB.out HPB.out
  have B2 : Hid (∀ q ∈ sG, I64 q) := by show ∀ q ∈ sG, _; rw [← hsG.out]; exact stG_B hGB.out
  have B3 : Hid (∀ q ∈ uP, PlaB q) := by show ∀ q ∈ uP, _; rw [← huP.out]; exact cuP_B hPB.out
  have B4 : Hid (∀ q ∈ uG, I64 q) := by show ∀ q ∈ uG, _; rw [← huG.out]; exact cuG_B hGB.out
  clear h h' hm0 hb0 hs0 hx0 hb1 hs1 hpB
  go_enter Try.func7, Try.ntmps7
  go_wp2_with fail
  rw [hWa.out, hW0.out]
  have d0 := HX.out.c0
  have d1 := HX.out.c1
  go_wp2_with fail
  refine (HST.out W0 HM.out.pl HM.out.it).mono ?_
  rintro z w1 ⟨hans, hb⟩
  obtain ⟨sa, sc, sb, se, rfl, h1, h2⟩ := imA_mapsS hans L1.out L2.out B1.out B2.out
  have hbx := below_boxP (w := w1) #[.slice sa sP.length sc, .slice sb sG.length se] 39
  have hbb := hb.trans (hbx.mono hb.size)
  have HM1 := Hid.mk' (HM.out.below hbb)
  have HX1 := Hid.mk' (HX.out.below hbb)
  have HB1 := Hid.mk' (HB.out.trans (hbb.mono HB.out.size))
  have HS1 := Hid.mk' (MapAt.new h1 h2 39)
  have hz1 : w.heap.size + 2 ≤ w1.heap.size := by have := hz.out; have := hb.size; omega
  have hs1 : (w1.alloc (.cells #[.slice sa sP.length sc, .slice sb sG.length se] 39)).heap.size = w1.heap.size + 1 := by simp
  obtain ⟨W1, hW1⟩ : ∃ W, Hid (w1.alloc (.cells #[.slice sa sP.length sc, .slice sb sG.length se] 39) = W) := ⟨_, Hid.mk' rfl⟩
  rw [hW1.out] at HM1 HX1 HB1 HS1 hs1
  obtain ⟨gs, hgs⟩ : ∃ g, Hid (w1.heap.size = g) := ⟨_, Hid.mk' rfl⟩
  rw [hgs.out] at HS1 hs1 hz1
  have hls1 : gs < W1.heap.size := by omega
  clear hb hbx hbb h1 h2 hans d0 d1 hs1
  have c0 := HM1.out.c0
  have c1 := HM1.out.c1
  rw [← hW1.out] at c0 c1
  go_wp2_with fail
  rw [hW1.out, hgs.out]
  refine (HCU.out W1 HM1.out.pl HM1.out.it).mono ?_
  rintro z w2 ⟨hans, hb⟩
  obtain ⟨ua, uc, ub, ue, rfl, h1, h2⟩ := imA_mapsS hans L3.out L4.out B3.out B4.out
  have hbx := below_boxP (w := w2) #[.slice ua uP.length uc, .slice ub uG.length ue] 39
  have hbb := hb.trans (hbx.mono hb.size)
  have HM2 := Hid.mk' (HM1.out.below hbb)
  have HX2 := Hid.mk' (HX1.out.below hbb)
  have HB2 := Hid.mk' (HB1.out.trans (hbb.mono HB1.out.size))
  have HS2 := Hid.mk' (HS1.out.below hbb)
  have HU2 := Hid.mk' (MapAt.new h1 h2 39)
  have hz2 : gs < w2.heap.size := by have := hb.size; omega
  have hs2 : (w2.alloc (.cells #[.slice ua uP.length uc, .slice ub uG.length ue] 39)).heap.size = w2.heap.size + 1 := by simp
  obtain ⟨W2, hW2⟩ : ∃ W, Hid (w2.alloc (.cells #[.slice ua uP.length uc, .slice ub uG.length ue] 39) = W) := ⟨_, Hid.mk' rfl⟩
  rw [hW2.out] at HM2 HX2 HB2 HS2 HU2 hs2
  obtain ⟨gu, hgu⟩ : ∃ g, Hid (w2.heap.size = g) := ⟨_, Hid.mk' rfl⟩
  rw [hgu.out] at HU2 hs2 hz2
  have hls2 : gu < W2.heap.size := by omega
  clear hb hbx hbb h1 h2 hans c0 c1 hs2
  go_wp2_with fail
  rw [hW2.out, hgu.out]
  have c0 := HM2.out.c0
  have c1 := HM2.out.c1
  go_region_held3 (fun X => X.cell? ⟨w.heap.size, 0, none⟩ = some (.slice a0 n c) ∧ X.cell? ⟨w.heap.size, 1, none⟩ = some (.slice a1 m e)) (first | exact ⟨p0, p1⟩ | exact ⟨c0, c1⟩)
    ((go_at_call 21; refine (HCK.out _ (by first | exact HM3.out.pl | exact (HM2.out.below ((Below.refl _ W2).drew)).pl) (by first | exact HM3.out.it | exact (HM2.out.below ((Below.refl _ W2).drew)).it)).mono ?_; rintro z w3 ⟨rfl, hb⟩; have HB3 : Hid (Below W2.heap.size W2 w3) := (by first | exact HB3.out.trans (hb.mono HB3.out.size) | exact ((Below.refl _ W2).drew).trans hb | fail); clear hb; have HM3 := Hid.mk' (HM2.out.below HB3.out); have p0 := HM3.out.c0; have p1 := HM3.out.c1))
  have HX3 := Hid.mk' (HX2.out.below HB3.out)
  have HS3 := Hid.mk' (HS2.out.below HB3.out)
  have HU3 := Hid.mk' (HU2.out.below HB3.out)
  have HB3' := Hid.mk' (HB2.out.trans (HB3.out.mono HB2.out.size))
  have hz3 : gu < w3.heap.size := Nat.lt_of_lt_of_le hls2 HB3.out.size
  clear c0 c1 p0 p1
  go_upto_if 33 with fail
  go_cut [11, 12] (fun u v wx => u = .int .i64 sE ∧ v = .int .i64 uE ∧ Below w3.heap.size w3 wx)
  case first =>
    by_cases h0 : q = 0
    rotate_left
    · have tq : (q == 0) = false := by rw [beq_eq_false_iff_ne]; exact h0
      have e1 : Hid (sE = q) := by show _ = _; rw [← hsE.out, stE_chk (by rw [hq.out]; exact h0), hq.out]
      have e2 : Hid (uE = q) := by show _ = _; rw [← huE.out, cuE_chk (by rw [hq.out]; exact h0), hq.out]
      clear h0
      go_wp2_with fail
      go_meet
      exact ⟨by rw [e1.out], by rw [e2.out], Below.refl _ _⟩
    subst h0
    have hok := chkM_ok hq.out
    have hn : n = 48 := by rw [← hnL.out]; exact hok.p
    have hm : m = 48 := by rw [← hmL.out]; exact hok.g
    subst hn hm
    have c0 := HM3.out.c0
    have c1 := HM3.out.c1
    have d0 := HX3.out.c0
    have d1 := HX3.out.c1
    -- the place
    have hpl : Hid ((rtB p = false) ∨ (rtB p = true ∧ (p.cl == 0) = true ∧ nonB p = true) ∨ (rtB p = true ∧ (p.cl == 0) = false ∧ nonB p = false)) := by
      show _ ∨ _
      cases hr : rtB p with
      | false => exact .inl rfl
      | true =>
        have h := rt_none hr
        cases hn : nonB p with
        | true => exact .inr (.inl ⟨rfl, by rw [h.2 hn]; rfl, rfl⟩)
        | false => exact .inr (.inr ⟨rfl, (by rw [beq_eq_false_iff_ne]; intro e; rw [h.1 e] at hn; cases hn), rfl⟩)
    -- the number
    by_cases hx0 : x < 0
    · have t1 : decide (x < 0) = true := decide_eq_true hx0
      have hnum : numM x = false := decide_eq_false (fun h => by omega)
      have e1 : Hid (sE = 1) := by show _ = _; rw [← hsE.out, stE_bad hq.out (by rw [hnum]; simp)]
      have e2 : Hid (uE = 1) := by show _ = _; rw [← huE.out, cuE_num hq.out hnum]
      clear hx0 hnum hok
      rcases hpl.out with hp1 | ⟨hp1, hp2, _⟩ | ⟨hp1, hp2, _⟩
      all_goals
        go_wp2_with fail
        refine (HRT.out _).mono ?_
        rintro z w5 ⟨rfl, hb⟩
        rw [hp1]
        have hx5 := (HX3.out.below hb)
        have d0 := hx5.c0
        have d1 := hx5.c1
        have HB5 := Hid.mk' hb
        clear hx5 hb
        go_wp2_with fail
        go_meet
        exact ⟨by rw [e1.out], by rw [e2.out], HB5.out⟩
    have t1 : decide (x < 0) = false := decide_eq_false hx0
    by_cases hx1 : 47 < x
    · have t2 : decide ((47 : Int) < x) = true := decide_eq_true hx1
      have hnum : numM x = false := decide_eq_false (fun h => by omega)
      have e1 : Hid (sE = 1) := by show _ = _; rw [← hsE.out, stE_bad hq.out (by rw [hnum]; simp)]
      have e2 : Hid (uE = 1) := by show _ = _; rw [← huE.out, cuE_num hq.out hnum]
      clear hx0 hx1 hnum hok
      rcases hpl.out with hp1 | ⟨hp1, hp2, _⟩ | ⟨hp1, hp2, _⟩
      all_goals
        go_wp2_with fail
        refine (HRT.out _).mono ?_
        rintro z w5 ⟨rfl, hb⟩
        rw [hp1]
        have hx5 := (HX3.out.below hb)
        have d0 := hx5.c0
        have d1 := hx5.c1
        have HB5 := Hid.mk' hb
        clear hx5 hb
        go_wp2_with fail
        go_meet
        exact ⟨by rw [e1.out], by rw [e2.out], HB5.out⟩
    have t2 : decide ((47 : Int) < x) = false := decide_eq_false hx1
    obtain ⟨k, rfl⟩ := Int.eq_ofNat_of_zero_le (show 0 ≤ x by omega)
    have hk : k < 48 := by omega
    have hnum : numM (k : Int) = true := decide_eq_true (by omega)
    obtain ⟨b, off, rfl, hbb, hx1', hx2'⟩ := HM3.out.pl.at k hk
    obtain ⟨b1, off1, rfl, hb1, hy1⟩ := HM3.out.it.at k hk
    have hrk := hok.r k hk
    have hnk := rt_none hrk
    have e1 : Hid ((rtB p = true ∧ nonB p = false → sE = 0) ∧ (¬ (rtB p = true ∧ nonB p = false) → sE = 1)) := by
      refine ⟨fun h => ?_, fun h => ?_⟩
      · rw [← hsE.out]; exact stE_ok hq.out ⟨hnum, h.1, h.2⟩
      · rw [← hsE.out]; exact stE_bad hq.out (fun hh => h hh.2)
    have e2 : Hid ((nonB (P.getD k noPl) = true → uE = 12) ∧ (nonB (P.getD k noPl) = false → G.getD k 0 = 2147483647 → uE = 10) ∧ (nonB (P.getD k noPl) = false → ¬ G.getD k 0 = 2147483647 → uE = 0)) := by
      refine ⟨fun h => ?_, fun h h2 => ?_, fun h h2 => ?_⟩
      · rw [← huE.out]; exact cuE_none hq.out hnum h
      · rw [← huE.out]; exact cuE_many hq.out hnum h h2
      · rw [← huE.out]; exact cuE_ok hq.out hnum h h2
    generalize P.getD k noPl = o at *
    generalize G.getD k 0 = g at *
    have ik0 : (0 : Int) ≤ (k : Int) := by omega
    have ik1 : (k : Int) < 48 := by omega
    have e3 : Hid (∃ v, uE = v ∧ (((o.cl == 0) = true ∧ v = 12) ∨ ((o.cl == 0) = false ∧ (g == 2147483647) = true ∧ v = 10) ∨ ((o.cl == 0) = false ∧ (g == 2147483647) = false ∧ v = 0))) := by
      show ∃ v, _
      cases hno : nonB o with
      | true => exact ⟨12, e2.out.1 hno, .inl ⟨by rw [hnk.2 hno]; rfl, rfl⟩⟩
      | false =>
        have hc : (o.cl == 0) = false := by rw [beq_eq_false_iff_ne]; intro e; rw [hnk.1 e] at hno; cases hno
        by_cases hg : g = 2147483647
        · exact ⟨10, e2.out.2.1 hno hg, .inr (.inl ⟨hc, by rw [hg]; rfl, rfl⟩)⟩
        · exact ⟨0, e2.out.2.2 hno hg, .inr (.inr ⟨hc, by rw [beq_eq_false_iff_ne]; exact hg, rfl⟩)⟩
    have e4 : Hid (∃ v, sE = v ∧ ((rtB p = false ∧ v = 1) ∨ (rtB p = true ∧ (p.cl == 0) = true ∧ v = 1) ∨ (rtB p = true ∧ (p.cl == 0) = false ∧ v = 0))) := by
      show ∃ v, _
      rcases hpl.out with h | ⟨h, h2, h3⟩ | ⟨h, h2, h3⟩
      · exact ⟨1, e1.out.2 (fun hh => by rw [h] at hh; cases hh.1), .inl ⟨h, rfl⟩⟩
      · exact ⟨1, e1.out.2 (fun hh => by rw [h3] at hh; cases hh.2), .inr (.inl ⟨h, h2, rfl⟩)⟩
      · exact ⟨0, e1.out.1 ⟨h, h3⟩, .inr (.inr ⟨h, h2, rfl⟩)⟩
    clear hx0 hx1 hnum hok hrk hnk
    obtain ⟨vu, hvu, hcase⟩ := e3.out
    obtain ⟨vs, hvs, hcas2⟩ := e4.out
    have HVU := Hid.mk' hvu
    have HVS := Hid.mk' hvs
    clear hvu hvs e1 e2 e3 e4 hpl
    rcases hcase with ⟨ho1, rfl⟩ | ⟨ho1, ho2, rfl⟩ | ⟨ho1, ho2, rfl⟩
    all_goals
      rcases hcas2 with ⟨hp1, rfl⟩ | ⟨hp1, hp2, rfl⟩ | ⟨hp1, hp2, rfl⟩
      all_goals
        go_wp2_with fail
        refine (HRT.out _).mono ?_
        rintro z w5 ⟨rfl, hb⟩
        rw [hp1]
        have hx5 := (HX3.out.below hb)
        have d0 := hx5.c0
        have d1 := hx5.c1
        have HB5 := Hid.mk' hb
        clear hx5 hb
        go_wp2_with fail
        go_meet
        exact ⟨by rw [HVS.out], by rw [HVU.out], HB5.out⟩
  case rest =>
    obtain ⟨wy, rfl⟩ : ∃ y, y = wc := ⟨_, rfl⟩
    obtain ⟨rfl, rfl, hbc⟩ := hcut
    have HMc := Hid.mk' (HM3.out.below hbc)
    have HXc := Hid.mk' (HX3.out.below hbc)
    have HSc := Hid.mk' (HS3.out.below hbc)
    have HUc := Hid.mk' (HU3.out.below hbc)
    have HBc := Hid.mk' (HB3'.out.trans (hbc.mono HB3'.out.size))
    have hzc : gu < wy.heap.size := Nat.lt_of_lt_of_le hz3 hbc.size
    have h13 := (boxV_new wy [.slice none 0 0, .slice none 0 0] 39).alloc (.cells #[.slice none 0 0, .slice none 0 0] 39)
    have h14 := boxV_new (wy.alloc (.cells #[.slice none 0 0, .slice none 0 0] 39)) [.slice none 0 0, .slice none 0 0] 39
    have hsz1 : (wy.alloc (.cells #[.slice none 0 0, .slice none 0 0] 39)).heap.size = wy.heap.size + 1 := by simp
    rw [hsz1] at h14
    have hbd := (below_boxP (w := wy) #[.slice none 0 0, .slice none 0 0] 39).alloc (by simp) (.cells #[.slice none 0 0, .slice none 0 0] 39)
    have hsz2 : ((wy.alloc (.cells #[.slice none 0 0, .slice none 0 0] 39)).alloc (.cells #[.slice none 0 0, .slice none 0 0] 39)).heap.size = wy.heap.size + 2 := by simp
    obtain ⟨Wd, hWd⟩ : ∃ W, Hid ((wy.alloc (.cells #[.slice none 0 0, .slice none 0 0] 39)).alloc (.cells #[.slice none 0 0, .slice none 0 0] 39) = W) := ⟨_, Hid.mk' rfl⟩
    have H13 : Hid (BoxV Wd wy.heap.size [.slice none 0 0, .slice none 0 0]) := by rw [← hWd.out]; exact h13
    have H14 : Hid (BoxV Wd (wy.heap.size + 1) [.slice none 0 0, .slice none 0 0]) := by rw [← hWd.out]; exact h14
    have HBd : Hid (Below wy.heap.size wy Wd) := by rw [← hWd.out]; exact hbd
    rw [hWd.out] at hsz2
    have hzd := Hid.mk' hsz2
    clear h13 h14 hsz1 hbd hsz2 hbc
    go_upto_if 65 with fail
    rw [hWd.out]
    go_cut [] (fun wx => ∃ a' c' b' e', MapAt wx wy.heap.size a' sP.length c' b' sG.length e' sP sG ∧ BoxV wx (wy.heap.size + 1) [.slice none 0 0, .slice none 0 0] ∧ Below wy.heap.size wy wx ∧ wy.heap.size + 2 ≤ wx.heap.size ∧ (∀ b off, a' = some ⟨b, off, none⟩ → b ≠ wy.heap.size + 1) ∧ (∀ b off, b' = some ⟨b, off, none⟩ → b ≠ wy.heap.size + 1))
    case first =>
      by_cases hs0 : sE = 0
      rotate_left
      · have tq : (sE == 0) = false := by rw [beq_eq_false_iff_ne]; exact hs0
        have e1 : Hid (sP = []) := by show _ = _; rw [← hsP.out]; unfold stP; rw [hsE.out, if_neg hs0]
        have e2 : Hid (sG = []) := by show _ = _; rw [← hsG.out]; unfold stG; rw [hsE.out, if_neg hs0]
        clear hs0
        go_wp2_with fail
        go_meet
        rw [e1.out, e2.out]
        exact ⟨_, _, _, _, ⟨H13.out, pls_none _, its_none _⟩, H14.out, HBd.out, by have := hzd.out; omega, (fun b off e => by cases e), (fun b off e => by cases e)⟩
      obtain ⟨h0, h1, h2, h3⟩ := stE_zero (hsE.out.trans hs0)
      have hok := chkM_ok h0
      have hn : n = 48 := by rw [← hnL.out]; exact hok.p
      have hm : m = 48 := by rw [← hmL.out]; exact hok.g
      subst hn hm
      have hxx : 0 ≤ x ∧ x < 48 := of_decide_eq_true h1
      obtain ⟨k, rfl⟩ := Int.eq_ofNat_of_zero_le hxx.1
      have hk : k < 48 := by omega
      have e1 : Hid (sP = P.set k p) := by show _ = _; rw [← hsP.out]; unfold stP; rw [hsE.out, if_pos hs0]; rfl
      have e2 : Hid (sG = G) := by show _ = _; rw [← hsG.out]; unfold stG; rw [hsE.out, if_pos hs0]
      subst hs0
      have HMd := Hid.mk' (HMc.out.below HBd.out)
      have HXd := Hid.mk' (HXc.out.below HBd.out)
      have c0 := HMd.out.c0
      have c1 := HMd.out.c1
      have hzz := hzd.out
      clear h0 h1 h2 h3 hok hxx
      go_wp2_with fail
      go_region_held3 (fun X => X.cell? ⟨w.heap.size, 0, none⟩ = some (.slice a0 48 c) ∧ X.cell? ⟨w.heap.size, 1, none⟩ = some (.slice a1 48 e)) (first | exact ⟨p0, p1⟩ | exact ⟨c0, c1⟩ | exact ⟨cset2M p0 (by omega) _ _, cset2M p1 (by omega) _ _⟩)
        ((go_at_call 27; refine (clone_plA a0 48 c P _ (by first | exact (HMd.out.below ((Below.refl _ Wd).drew)).pl)).mono ?_; rintro z w5 ⟨⟨v, rfl, ho⟩, hb⟩; obtain ⟨gp, cp, rfl, hg1, hg2, _⟩ := own_some ho (by omega); have HO5 := Hid.mk' ho; have HB5 := Hid.mk' (show Below Wd.heap.size Wd w5 from ((Below.refl _ Wd).drew).trans hb); clear hb ho; have HM5 := Hid.mk' (HMd.out.below HB5.out); have p0 := HM5.out.c0; have p1 := HM5.out.c1; have H135 := Hid.mk' (H13.out.below HB5.out); have q0 := H135.out.c 0 _ rfl; have q1 := H135.out.c 1 _ rfl; have qf0 := H135.out.f 0 (by simp); have qf1 := H135.out.f 1 (by simp)))
      all_goals
        have hgd : wy.heap.size + 2 ≤ gp := by have h : Wd.heap.size ≤ gp := hg1; omega
        have hgt : gp < w5.heap.size := hg2
        have hzu : wy.heap.size + 2 ≤ w5.heap.size := by have := HB5.out.size; omega
        have hx5 := HXd.out.below HB5.out
        have d0 := hx5.c0
        have d1 := hx5.c1
        have l1 : (plC P).length = 96 := by rw [plC_length, hnL.out]
        have g0 := HO5.out.cellAt (k * 2) (by omega)
        have g1 := HO5.out.cellAt (k * 2 + 1) (by omega)
        have gf0 := HO5.out.frozenAt (k * 2)
        have gf1 := HO5.out.frozenAt (k * 2 + 1)
        rw [(plC_at P k (by rw [hnL.out]; exact hk)).1] at g0
        rw [(plC_at P k (by rw [hnL.out]; exact hk)).2] at g1
        have n1 : gp ≠ wy.heap.size := by omega
        have n2 : wy.heap.size ≠ gp := by omega
        have n3 : gp ≠ w.heap.size := by omega
        have n4 : w.heap.size ≠ gp := by omega
        have n5 : gp ≠ w.heap.size + 1 := by omega
        have n6 : w.heap.size + 1 ≠ gp := by omega
        have n7 : wy.heap.size ≠ w.heap.size + 1 := by omega
        have n8 : w.heap.size + 1 ≠ wy.heap.size := by omega
        have ho6 := ownsRow_setCell_below (ownsRow_setCell_below HO5.out (a := ⟨wy.heap.size, 0, none⟩) (by show wy.heap.size < Wd.heap.size; omega) (.slice (some ⟨gp, 0, none⟩) 48 cp)) (a := ⟨wy.heap.size, 1, none⟩) (by show wy.heap.size < Wd.heap.size; omega) (.slice a1 48 e)
        have ho7 := ((ho6.stored (k * 2) (.int .i64 p.cl)).1.stored (k * 2 + 1) (.int .i64 p.nh)).1
        rw [← plC_set P k p (by rw [hnL.out]; exact hk)] at ho7
        have HP7 := Hid.mk' (pls_ownS ho7 (by rw [List.length_set, hnL.out]) (by omega) (plaB_set hPB.out k HPB.out))
        have H137 := Hid.mk' (((H135.out.set2M (.slice (some ⟨gp, 0, none⟩) 48 cp) (.slice a1 48 e)).other ⟨gp, k * 2, none⟩ (.int .i64 p.cl) n1).other ⟨gp, k * 2 + 1, none⟩ (.int .i64 p.nh) n1)
        have H147 := Hid.mk' (((((H14.out.below HB5.out).other ⟨wy.heap.size, 0, none⟩ (.slice (some ⟨gp, 0, none⟩) 48 cp) (by show wy.heap.size ≠ wy.heap.size + 1; omega)).other ⟨wy.heap.size, 1, none⟩ (.slice a1 48 e) (by show wy.heap.size ≠ wy.heap.size + 1; omega)).other ⟨gp, k * 2, none⟩ (.int .i64 p.cl) (by show gp ≠ wy.heap.size + 1; omega)).other ⟨gp, k * 2 + 1, none⟩ (.int .i64 p.nh) (by show gp ≠ wy.heap.size + 1; omega))
        have HB7 := Hid.mk' (((((HBd.out.trans (HB5.out.mono (by omega))).setCell (p := ⟨wy.heap.size, 0, none⟩) (Nat.le_refl _) (.slice (some ⟨gp, 0, none⟩) 48 cp)).setCell (p := ⟨wy.heap.size, 1, none⟩) (Nat.le_refl _) (.slice a1 48 e)).setCell (p := ⟨gp, k * 2, none⟩) (by show wy.heap.size ≤ gp; omega) (.int .i64 p.cl)).setCell (p := ⟨gp, k * 2 + 1, none⟩) (by show wy.heap.size ≤ gp; omega) (.int .i64 p.nh))
        have HI7 := Hid.mk' (HMc.out.it.below HB7.out)
        have hz7 : wy.heap.size + 2 ≤ ((((w5.setCell ⟨wy.heap.size, 0, none⟩ (.slice (some ⟨gp, 0, none⟩) 48 cp)).setCell ⟨wy.heap.size, 1, none⟩ (.slice a1 48 e)).setCell ⟨gp, k * 2, none⟩ (.int .i64 p.cl)).setCell ⟨gp, k * 2 + 1, none⟩ (.int .i64 p.nh)).heap.size := by simpa [World.setCell] using hzu
        clear hx5 ho6 ho7 l1 c0 c1 p0 p1
        go_wp2_with fail
        go_meet
        rw [e1.out, e2.out, List.length_set, hnL.out, hmL.out]
        exact ⟨_, _, _, _, ⟨H137.out, HP7.out, HI7.out⟩, H147.out, HB7.out, hz7, (fun b off e => by cases e; omega), (fun b off e => by
          obtain ⟨b2, off2, e2, h2, _⟩ := HMc.out.it.at 0 (by omega)
          rw [e2] at e
          cases e
          omega)⟩
    case rest =>
      obtain ⟨xa, xc, xb, xe, hx13, hx14, hbx, hzx, hxa, hxb⟩ := hcut
      obtain ⟨wz, rfl⟩ : ∃ y, y = wc := ⟨_, rfl⟩
      have HMz := Hid.mk' (HMc.out.below hbx)
      have HXz := Hid.mk' (HXc.out.below hbx)
      have HSz := Hid.mk' (HSc.out.below hbx)
      have HUz := Hid.mk' (HUc.out.below hbx)
      have HBz := Hid.mk' (HBc.out.trans (hbx.mono HBc.out.size))
      have H13z := Hid.mk' hx13
      have H14z := Hid.mk' hx14
      have hzyz : wy.heap.size + 2 ≤ wz.heap.size := hzx
      have HBX := Hid.mk' hbx
      have HXA := Hid.mk' hxa
      have HXB := Hid.mk' hxb
      clear hx13 hx14 hbx hzx hxa hxb
      go_upto_if 78 with fail
      go_cut [] (fun wx => ∃ a' c' b' e', MapAt wx (wy.heap.size + 1) a' uP.length c' b' uG.length e' uP uG ∧ MapAt wx wy.heap.size xa sP.length xc xb sG.length xe sP sG ∧ MapAt wx gs sa sP.length sc sb sG.length se sP sG ∧ MapAt wx gu ua uP.length uc ub uG.length ue uP uG ∧ Below w.heap.size w wx)
      case first =>
        by_cases hs0 : uE = 0
        rotate_left
        · have tq : (uE == 0) = false := by rw [beq_eq_false_iff_ne]; exact hs0
          have e1 : Hid (uP = []) := by show _ = _; rw [← huP.out]; unfold cuP; rw [huE.out, if_neg hs0]
          have e2 : Hid (uG = []) := by show _ = _; rw [← huG.out]; unfold cuG; rw [huE.out, if_neg hs0]
          clear hs0
          go_wp2_with fail
          go_meet
          have hU := HUz.out
          rw [e1.out, e2.out] at hU ⊢
          exact ⟨_, _, _, _, ⟨H14z.out, pls_none _, its_none _⟩, H13z.out, HSz.out, hU, HBz.out⟩
        obtain ⟨h0, h1, h2, h3⟩ := cuE_zero (huE.out.trans hs0)
        have hok := chkM_ok h0
        have hn : n = 48 := by rw [← hnL.out]; exact hok.p
        have hm : m = 48 := by rw [← hmL.out]; exact hok.g
        subst hn hm
        have hxx : 0 ≤ x ∧ x < 48 := of_decide_eq_true h1
        obtain ⟨k, rfl⟩ := Int.eq_ofNat_of_zero_le hxx.1
        have hk : k < 48 := by omega
        have hgk := hok.n k hk
        obtain ⟨g, hg⟩ : ∃ g, Hid (G.getD k 0 = g) := ⟨_, Hid.mk' rfl⟩
        have e1 : Hid (uP = P.set k noPl) := by show _ = _; rw [← huP.out]; unfold cuP; rw [huE.out, if_pos hs0]; rfl
        have e2 : Hid (uG = G.set k (g + 1)) := by show _ = _; rw [← huG.out]; unfold cuG; rw [huE.out, if_pos hs0]; show G.set k (G.getD k 0 + 1) = _; rw [hg.out]
        rw [hg.out] at hgk
        have hg3 : g ≠ 2147483647 := by rw [← hg.out]; exact h3
        have ew : IntKind.i64.wrap (g + 1) = g + 1 := by rw [IntKind.wrap_i64]; omega
        subst hs0
        have c0 := HMz.out.c0
        have c1 := HMz.out.c1
        clear h0 h1 h2 h3 hok hxx
        go_wp2_with fail
        go_region_held3 (fun X => X.cell? ⟨w.heap.size, 0, none⟩ = some (.slice a0 48 c) ∧ X.cell? ⟨w.heap.size, 1, none⟩ = some (.slice a1 48 e)) (first | exact ⟨p0, p1⟩ | exact ⟨c0, c1⟩ | exact ⟨cset2M p0 (by omega) _ _, cset2M p1 (by omega) _ _⟩) (first
          | (go_at_call 27; refine (clone_plA a0 48 c P _ (by first | exact (HMz.out.below ((Below.refl _ wz).drew)).pl)).mono ?_; rintro z w5 ⟨⟨v, rfl, ho⟩, hb⟩; obtain ⟨gp, cp, rfl, hg1, hg2, _⟩ := own_some ho (by omega); have HO5 := Hid.mk' ho; have HB5 := Hid.mk' (show Below wz.heap.size wz w5 from ((Below.refl _ wz).drew).trans hb); clear hb ho; have HM5 := Hid.mk' (HMz.out.below HB5.out); have p0 := HM5.out.c0; have p1 := HM5.out.c1)
          | (go_at_call 28; refine (clone_inA a1 48 e G _ HM5.out.it).mono ?_; rintro z w6 ⟨⟨v, rfl, ho⟩, hb⟩; obtain ⟨gg, cg, rfl, hg3, hg4, _⟩ := own_some ho (by omega); have HO6 := Hid.mk' ho; have HB6 := Hid.mk' (HB5.out.trans (hb.mono HB5.out.size)); have HOP6 := Hid.mk' (own_below HO5.out hb); clear hb ho; have HM6 := Hid.mk' (HMz.out.below HB6.out); have p0 := HM6.out.c0; have p1 := HM6.out.c1; have H146 := Hid.mk' (H14z.out.below HB6.out); have q0 := H146.out.c 0 _ rfl; have q1 := H146.out.c 1 _ rfl; have qf0 := H146.out.f 0 (by simp); have qf1 := H146.out.f 1 (by simp))
          | fail)
        all_goals
          have hgp1 : wz.heap.size ≤ gp := hg1
          have hgp2 : gp < w5.heap.size := hg2
          have hgg1 : w5.heap.size ≤ gg := by assumption
          have hgg2 : gg < w6.heap.size := by assumption
          have hz56 : wz.heap.size ≤ w5.heap.size := HB5.out.size
          have hO : OwnIm w6 wz.heap.size (.slice (some ⟨gp, 0, none⟩) 48 cp) (.slice (some ⟨gg, 0, none⟩) 48 cg) 48 48 P G := ⟨HOP6.out, HO6.out.mono hz56, .inr (by simp [Value.ownBlock]; omega), hnL.out, hmL.out⟩
          obtain ⟨p0', p1', pf0, pf1⟩ := hO.cellP (k := k) hk
          obtain ⟨g0, gf0⟩ := hO.cellG (k := k) hk
          rw [hg.out] at g0
          have n1 : gp ≠ wy.heap.size + 1 := by omega
          have n2 : wy.heap.size + 1 ≠ gp := by omega
          have n3 : gg ≠ wy.heap.size + 1 := by omega
          have n4 : wy.heap.size + 1 ≠ gg := by omega
          have n5 : gp ≠ gg := by omega
          have n6 : gg ≠ gp := by omega
          have hO1 := (hO.setLow (a := ⟨wy.heap.size + 1, 0, none⟩) (by show wy.heap.size + 1 < wz.heap.size; omega) (.slice (some ⟨gp, 0, none⟩) 48 cp)).setLow (a := ⟨wy.heap.size + 1, 1, none⟩) (by show wy.heap.size + 1 < wz.heap.size; omega) (.slice (some ⟨gg, 0, none⟩) 48 cg)
          have hO2 := (hO1.setP hk noPl).setG (k := k) (g + 1)
          simp only [noPl] at hO2
          obtain ⟨a', c', b', e', h1, h2, h3, h4⟩ := hO2.pls (by omega) (by omega) (plaB_set hPB.out k plaB_none) (i64_set hGB.out k ⟨by omega, by omega⟩)
          cases h1
          cases h2
          have HP9 := Hid.mk' h3
          have HI9 := Hid.mk' h4
          have H149 := Hid.mk' ((((H146.out.set2M (.slice (some ⟨gp, 0, none⟩) 48 cp) (.slice (some ⟨gg, 0, none⟩) 48 cg)).other ⟨gp, k * 2, none⟩ (.int .i64 0) n1).other ⟨gp, k * 2 + 1, none⟩ (.int .i64 0) n1).other ⟨gg, k, none⟩ (.int .i64 (g + 1)) n3)
          have hb13 := ((((((H13z.out.bx.below HB6.out).other ⟨wy.heap.size + 1, 0, none⟩ (.slice (some ⟨gp, 0, none⟩) 48 cp) (by show wy.heap.size + 1 ≠ wy.heap.size; omega)).other ⟨wy.heap.size + 1, 1, none⟩ (.slice (some ⟨gg, 0, none⟩) 48 cg) (by show wy.heap.size + 1 ≠ wy.heap.size; omega)).other ⟨gp, k * 2, none⟩ (.int .i64 0) (by show gp ≠ wy.heap.size; omega)).other ⟨gp, k * 2 + 1, none⟩ (.int .i64 0) (by show gp ≠ wy.heap.size; omega)).other ⟨gg, k, none⟩ (.int .i64 (g + 1)) (by show gg ≠ wy.heap.size; omega))
          have hbf : Below wy.heap.size wy (((((w6.setCell ⟨wy.heap.size + 1, 0, none⟩ (.slice (some ⟨gp, 0, none⟩) 48 cp)).setCell ⟨wy.heap.size + 1, 1, none⟩ (.slice (some ⟨gg, 0, none⟩) 48 cg)).setCell ⟨gp, k * 2, none⟩ (.int .i64 0)).setCell ⟨gp, k * 2 + 1, none⟩ (.int .i64 0)).setCell ⟨gg, k, none⟩ (.int .i64 (g + 1))) := (((((HBX.out.trans (HB6.out.mono (by omega))).setCell (p := ⟨wy.heap.size + 1, 0, none⟩) (by show wy.heap.size ≤ wy.heap.size + 1; omega) (.slice (some ⟨gp, 0, none⟩) 48 cp)).setCell (p := ⟨wy.heap.size + 1, 1, none⟩) (by show wy.heap.size ≤ wy.heap.size + 1; omega) (.slice (some ⟨gg, 0, none⟩) 48 cg)).setCell (p := ⟨gp, k * 2, none⟩) (by show wy.heap.size ≤ gp; omega) (.int .i64 0)).setCell (p := ⟨gp, k * 2 + 1, none⟩) (by show wy.heap.size ≤ gp; omega) (.int .i64 0)).setCell (p := ⟨gg, k, none⟩) (by show wy.heap.size ≤ gg; omega) (.int .i64 (g + 1))
          have hkeep : ∀ b, b < wz.heap.size → b ≠ wy.heap.size + 1 → ∀ j, (((((w6.setCell ⟨wy.heap.size + 1, 0, none⟩ (.slice (some ⟨gp, 0, none⟩) 48 cp)).setCell ⟨wy.heap.size + 1, 1, none⟩ (.slice (some ⟨gg, 0, none⟩) 48 cg)).setCell ⟨gp, k * 2, none⟩ (.int .i64 0)).setCell ⟨gp, k * 2 + 1, none⟩ (.int .i64 0)).setCell ⟨gg, k, none⟩ (.int .i64 (g + 1))).cell? ⟨b, j, none⟩ = wz.cell? ⟨b, j, none⟩ := fun b hb hne j => by
            rw [cell_oth (by omega), cell_oth (by omega), cell_oth (by omega), cell_oth (Ne.symm hne), cell_oth (Ne.symm hne)]
            exact HB6.out.cell (p := ⟨b, j, none⟩) hb
          have hsz : wz.heap.size ≤ (((((w6.setCell ⟨wy.heap.size + 1, 0, none⟩ (.slice (some ⟨gp, 0, none⟩) 48 cp)).setCell ⟨wy.heap.size + 1, 1, none⟩ (.slice (some ⟨gg, 0, none⟩) 48 cg)).setCell ⟨gp, k * 2, none⟩ (.int .i64 0)).setCell ⟨gp, k * 2 + 1, none⟩ (.int .i64 0)).setCell ⟨gg, k, none⟩ (.int .i64 (g + 1))).heap.size := by have := HB6.out.size; simpa [World.setCell] using this
          have HX13 := Hid.mk' (show MapAt (((((w6.setCell ⟨wy.heap.size + 1, 0, none⟩ (.slice (some ⟨gp, 0, none⟩) 48 cp)).setCell ⟨wy.heap.size + 1, 1, none⟩ (.slice (some ⟨gg, 0, none⟩) 48 cg)).setCell ⟨gp, k * 2, none⟩ (.int .i64 0)).setCell ⟨gp, k * 2 + 1, none⟩ (.int .i64 0)).setCell ⟨gg, k, none⟩ (.int .i64 (g + 1))) wy.heap.size xa sP.length xc xb sG.length xe sP sG from ⟨hb13, H13z.out.pl.keep hsz (fun b off e hb j => hkeep b hb (HXA.out b off e) j), H13z.out.it.keep hsz (fun b off e hb j => hkeep b hb (HXB.out b off e) j)⟩)
          have HXS := Hid.mk' (HSc.out.below hbf)
          have HXU := Hid.mk' (HUc.out.below hbf)
          have HXB9 := Hid.mk' (HBc.out.trans (hbf.mono HBc.out.size))
          clear hO hO1 hO2 hb13 hbf hkeep hsz h3 h4 c0 c1 p0 p1
          go_wp2_with fail
          go_meet
          have hU := HXU.out
          rw [e1.out, e2.out, List.length_set, List.length_set, hnL.out, hmL.out] at hU ⊢
          exact ⟨_, _, _, _, ⟨H149.out, HP9.out, HI9.out⟩, HX13.out, HXS.out, hU, HXB9.out⟩
      case rest =>
        obtain ⟨ya, yc, yb, ye, hy14, hy13, hys, hyu, hbw⟩ := hcut
        have c0 := hy13.c0
        have c1 := hy13.c1
        have d0 := hy14.c0
        have d1 := hy14.c1
        have s0 := hys.c0
        have s1 := hys.c1
        have u0 := hyu.c0
        have u1 := hyu.c1
        have HY13 := Hid.mk' hy13
        have HY14 := Hid.mk' hy14
        have HYS := Hid.mk' hys
        have HYU := Hid.mk' hyu
        have HBW := Hid.mk' hbw
        have t1 : (sE == sE) = true := by simp
        have t2 : (uE == uE) = true := by simp
        clear hy13 hy14 hys hyu hbw
        go_wp2_with fail
        refine (sameim_yes sa sP.length sc sb sG.length se xa sP.length xc xb sG.length xe sP sG wc HYS.out.pl HYS.out.it HY13.out.pl HY13.out.it).mono ?_
        rintro z w7 ⟨rfl, hb⟩
        have HY14b := Hid.mk' (HY14.out.below hb)
        have HYUb := Hid.mk' (HYU.out.below hb)
        have HB7 := Hid.mk' (HBW.out.trans (hb.mono HBW.out.size))
        have d0 := HY14b.out.c0
        have d1 := HY14b.out.c1
        have u0 := HYUb.out.c0
        have u1 := HYUb.out.c1
        clear hb
        go_wp2_with fail
        refine (sameim_yes ua uP.length uc ub uG.length ue ya uP.length yc yb uG.length ye uP uG w7 HYUb.out.pl HYUb.out.it HY14b.out.pl HY14b.out.it).mono ?_
        rintro z w8 ⟨rfl, hb⟩
        have HB8 := Hid.mk' (HB7.out.trans (hb.mono HB7.out.size))
        clear hb
        go_wp2_with fail
        go_ret
        exact ⟨rfl, HB8.out⟩
end Go.Proofs.Ytbailfianjmflaa
