/- The law OpsLean, walked. -/
import Derived.Test.YtdolbgbgnplfhaaLeanWalks
import Derived.Test.YtdolbgbgnplfhaaLeanPlayMath
import Derived.Test.YtdolbgbgnplfhaaOPlayWalks
import Derived.Test.YtdolbgbgnplfhaaOwnRes
import Derived.Test.YtdolbgbgnplfhaaEqualO
import Derived.Test.YtdolbgbgnplfhaaEqualS
import Derived.Test.YtdolbgbgnplfhaaDiskSyncWalks
import Derived.Test.YtdolbgbgnplfhaaSameDkWalks
import Derived.Test.YtdolbgbgnplfhaaBoxV
namespace Go.Proofs.Ytdolbgbgnplfhaa
open Go.RowKit

/-- where all ops play, the lean ones play too, and what lies for good is the same behind a sync -/
theorem playE_lean {C : List ByteArray} {P : List Pt} {l : List Opp} (h : (playE C P l).1 = 0) :
    (playE C P (leanL l)).1 = 0 ∧ (playE C P (leanL l)).2.1 = (playE C P l).2.1 ∧ landL allL (playE C P (leanL l)).2.2 0 (playE C P l).2.1 = landL allL (playE C P l).2.2 0 (playE C P l).2.1 := by
  unfold playE at h ⊢
  by_cases h0 : chkD C P = 0
  · rw [if_pos h0] at h ⊢
    rw [if_pos h0]
    have hp : ∀ p ∈ P, 0 ≤ p.pl := fun p hp => by
      have := (chkD_ok h0).ps p hp
      rcases putE_cases C.length p with h1 | h1 | h1
      · exact h1.2.1
      · rw [h1.1] at this; simp at this
      · rw [h1.1] at this; simp at this
    exact plays_lean l C P P hp hp (Nat.le_refl _) (fun _ _ _ => rfl) h
  · rw [if_neg h0] at h
    exact absurd h h0
def op3L (o : Opp) : List Value := [.int .i64 o.kd, .int .i64 o.pl, .string o.tx]
theorem lit_ops (w : World) (L : List Opp) (hz : L.length ≤ 3) (hb : OpB L) (ht : ∀ o ∈ L, o.tx.size ≤ 140737488355328) : Ops (w.alloc (.cells (opC L).toArray 29)) (some ⟨w.heap.size, 0, none⟩) L.length L.length L := by
  have h := boxV_new w (opC L) 29
  refine ⟨rfl, by omega, ⟨opC_length L, fun _ => ⟨w.heap.size, 0, rfl, by simp, fun j u hj => ?_⟩⟩, hb, ht, Nat.le_refl _, by unfold maxLen; omega, fun e => by cases e⟩
  rw [Nat.zero_add]
  exact h.c j u hj
def lit3 : List Opp := [⟨1, 0, ⟨#[97]⟩⟩, ⟨1, 0, ⟨#[98]⟩⟩, ⟨2, 0, ⟨#[]⟩⟩]
def lit2 : List Opp := [⟨1, 0, ⟨#[98]⟩⟩, ⟨2, 0, ⟨#[]⟩⟩]
theorem lean_lit : leanL lit3 = lit2 := by
  show leanL [⟨1, 0, ⟨#[97]⟩⟩, ⟨1, 0, ⟨#[98]⟩⟩, ⟨2, 0, ⟨#[]⟩⟩] = [⟨1, 0, ⟨#[98]⟩⟩, ⟨2, 0, ⟨#[]⟩⟩]
  rfl
theorem lit3_B : OpB lit3 := by
  intro o ho
  simp only [lit3, List.mem_cons, List.not_mem_nil, or_false] at ho
  rcases ho with rfl | rfl | rfl <;> decide
theorem lit3_t : ∀ o ∈ lit3, o.tx.size ≤ 140737488355328 := by
  intro o ho
  simp only [lit3, List.mem_cons, List.not_mem_nil, or_false] at ho
  rcases ho with rfl | rfl | rfl <;> decide
theorem lit2_B : OpB lit2 := by
  intro o ho
  simp only [lit2, List.mem_cons, List.not_mem_nil, or_false] at ho
  rcases ho with rfl | rfl <;> decide
theorem lit2_t : ∀ o ∈ lit2, o.tx.size ≤ 140737488355328 := by
  intro o ho
  simp only [lit2, List.mem_cons, List.not_mem_nil, or_false] at ho
  rcases ho with rfl | rfl <;> decide
theorem dk_ok_sync {C : List ByteArray} {P : List Pt} (h : OkD C P) : OkD (landL allL P 0 C) [] := ok_land h allL
set_option maxRecDepth 20000 in
set_option maxHeartbeats 6400000 in
theorem opsLean_walk (a0 : Option Addr) (n c : Nat) (b0 : Option Addr) (m d : Nat) (C : List ByteArray) (P : List Pt) (al : Option Addr) (nl capl : Nat) (l : List Opp) (w : World) (h : Dk w a0 n b0 m C P) (hli : OpsIn w al nl capl l) :
    Calls Try.prog 3 #[.agg #[.slice a0 n c, .slice b0 m d], .slice al nl capl] w fun e w' => e = .returned (.bool true) ∧ Below w.heap.size w w' := by
  have hnM := hli.nM
  have hNL := Hid.mk' hli.ops.nL
  have hv := boxV_new w [.slice a0 n c, .slice b0 m d] 25
  have hb0 : Below w.heap.size w (w.alloc (.cells #[.slice a0 n c, .slice b0 m d] 25)) := (Below.refl _ w).alloc (Nat.le_refl _) _
  obtain ⟨W0, hW0⟩ : ∃ W, Hid (w.alloc (.cells #[.slice a0 n c, .slice b0 m d] 25) = W) := ⟨_, Hid.mk' rfl⟩
  have e0 : (w.alloc (.cells [.slice a0 n c, .slice b0 m d].toArray 25)) = W0 := hW0.out
  have hs0 : (w.alloc (.cells #[.slice a0 n c, .slice b0 m d] 25)).heap.size = w.heap.size + 1 := by simp
  rw [e0] at hv
  rw [hW0.out] at hb0 hs0
  have hz0 := Hid.mk' hs0
  have hlit := lit_ops W0 lit3 (by decide) lit3_B lit3_t
  have hb1 : Below W0.heap.size W0 (W0.alloc (.cells (opC lit3).toArray 29)) := (Below.refl _ W0).alloc (Nat.le_refl _) _
  obtain ⟨W1, hW1⟩ : ∃ W, Hid (W0.alloc (.cells (opC lit3).toArray 29) = W) := ⟨_, Hid.mk' rfl⟩
  have hW1' : Hid (W0.alloc (.cells #[.int .i64 1, .int .i64 0, .string ⟨#[97]⟩, .int .i64 1, .int .i64 0, .string ⟨#[98]⟩, .int .i64 2, .int .i64 0, .string ⟨#[]⟩] 29) = W1) := hW1.out
  rw [hW1.out, hs0] at hlit
  rw [hW1.out] at hb1
  have HLit := Hid.mk' hlit
  have HV := Hid.mk' (hv.below hb1)
  have HB := Hid.mk' (hb0.trans (hb1.mono hb0.size))
  have HK := Hid.mk' (h.below HB.out)
  have HL := Hid.mk' (hli.ops.below HB.out)
  clear h hli hv hb0 e0 hs0 hlit hb1
  go_enter Try.func3, Try.ntmps3
  go_wp2_with fail
  rw [hW0.out, hW1'.out]
  refine (lean_any (some ⟨w.heap.size + 1, 0, none⟩) 3 3 lit3 W1 HLit.out (by omega)).mono ?_
  rintro e w2 ⟨xa, xc, rfl, hx, hb⟩
  rw [lean_lit] at hx ⊢
  have hlit2 := lit_ops w2 lit2 (by decide) lit2_B lit2_t
  have hbx : Below w2.heap.size w2 (w2.alloc (.cells (opC lit2).toArray 29)) := (Below.refl _ w2).alloc (Nat.le_refl _) _
  have hbb := hb.trans (hbx.mono hb.size)
  have HX2 := Hid.mk' (hx.below hbx)
  obtain ⟨W2, hW2⟩ : ∃ W, Hid (w2.alloc (.cells (opC lit2).toArray 29) = W) := ⟨_, Hid.mk' rfl⟩
  have hW2' : Hid (w2.alloc (.cells #[.int .i64 1, .int .i64 0, .string ⟨#[98]⟩, .int .i64 2, .int .i64 0, .string ⟨#[]⟩] 29) = W2) := hW2.out
  rw [hW2.out] at hlit2 hbb HX2
  have HLit2 := Hid.mk' hlit2
  have HV2 := Hid.mk' (HV.out.below hbb)
  have HB2 := Hid.mk' (HB.out.trans (hbb.mono HB.out.size))
  have HK2 := Hid.mk' (HK.out.below hbb)
  have HL2 := Hid.mk' (HL.out.below hbb)
  clear hx hb hlit2 hbx hbb
  show _
  go_wp2_with fail
  rw [hW2'.out]
  refine (equalO_any xa (some ⟨w2.heap.size, 0, none⟩) 2 xc 2 2 lit2 lit2 W2 HX2.out.rd HLit2.out.rd rfl rfl (by omega) (by omega)).mono ?_
  rintro e w3 ⟨⟨b, rfl, hbt⟩, r, rfl⟩
  rw [hbt.yes rfl]
  clear hbt
  have hbd : Below W2.heap.size W2 (W2.drewN r) := ⟨rfl, rfl, rfl, Nat.le_refl _, fun _ _ => rfl⟩
  have HV3 := Hid.mk' (HV2.out.below hbd)
  have HB3 := Hid.mk' (HB2.out.trans (hbd.mono HB2.out.size))
  have HK3 := Hid.mk' (HK2.out.below hbd)
  have HL3 := Hid.mk' (HL2.out.below hbd)
  obtain ⟨W3, hW3⟩ : ∃ W, Hid (W2.drewN r = W) := ⟨_, Hid.mk' rfl⟩
  rw [hW3.out] at HV3 HB3 HK3 HL3 ⊢
  obtain ⟨M, hM⟩ : ∃ M, Hid (leanL l = M) := ⟨_, Hid.mk' rfl⟩
  have hMl : M.length ≤ nl := by rw [← hM.out, ← hNL.out]; exact leanL_length l
  have hMM : Hid (leanL M = M) := by show _ = _; rw [← hM.out]; exact lean_lean l
  obtain ⟨⟨qR, CR, PR⟩, hR⟩ : ∃ R, Hid (playE C P l = R) := ⟨_, Hid.mk' rfl⟩
  obtain ⟨⟨q2, C2, P2⟩, hR2⟩ : ∃ R, Hid (playE C P M = R) := ⟨_, Hid.mk' rfl⟩
  have hRok : Hid (qR = 0 → OkD CR PR) := fun h0 => by have := @play_ok C P l; rw [hR.out] at this; exact this h0
  have hR2ok : Hid (q2 = 0 → OkD C2 P2) := fun h0 => by have := @play_ok C P M; rw [hR2.out] at this; exact this h0
  have hsame : Hid (qR = 0 → q2 = 0 ∧ C2 = CR ∧ landL allL P2 0 CR = landL allL PR 0 CR) := fun h0 => by
    have := @playE_lean C P l
    rw [hM.out, hR.out, hR2.out] at this
    exact this h0
  clear hbd HX2 HLit2 HLit
  go_wp2_with fail
  -- m
  refine (lean_any al nl capl l W3 HL3.out hnM).mono ?_
  rintro e w4 ⟨ma, mc, rfl, hm, hb⟩
  rw [hM.out] at hm ⊢
  have HMo := Hid.mk' hm
  have HV4 := Hid.mk' (HV3.out.below hb)
  have HB4 := Hid.mk' (HB3.out.trans (hb.mono HB3.out.size))
  have HK4 := Hid.mk' (HK3.out.below hb)
  have HL4 := Hid.mk' (HL3.out.below hb)
  have c0 := HV4.out.c 0 _ rfl
  have c1 := HV4.out.c 1 _ rfl
  clear hm hb
  go_wp2_with fail
  -- Play of all
  refine (oPlay_any a0 b0 n c m d C P al nl capl l w4 HK4.out HL4.out).mono ?_
  rintro e w5 ⟨hans, hb⟩
  rw [hR.out] at hans
  obtain ⟨x0, xn, xc', x1, xm, xd, rfl, hres⟩ := ores_of_ans hans hRok.out
  have hbx : Below w5.heap.size w5 (w5.alloc (.cells #[.slice x0 xn xc', .slice x1 xm xd] 25)) := (Below.refl _ w5).alloc (Nat.le_refl _) _
  have hbb := hb.trans (hbx.mono hb.size)
  have HA5 := Hid.mk' (hres.below hbx)
  have HAb := Hid.mk' (boxV_new w5 [.slice x0 xn xc', .slice x1 xm xd] 25)
  have HV5 := Hid.mk' (HV4.out.below hbb)
  have HB5 := Hid.mk' (HB4.out.trans (hbb.mono HB4.out.size))
  have HK5 := Hid.mk' (HK4.out.below hbb)
  have HM5 := Hid.mk' (HMo.out.below hbb)
  have hs5 : (w5.alloc (.cells #[.slice x0 xn xc', .slice x1 xm xd] 25)).heap.size = w5.heap.size + 1 := by simp
  obtain ⟨W5, hW5⟩ : ∃ W, Hid (w5.alloc (.cells #[.slice x0 xn xc', .slice x1 xm xd] 25) = W) := ⟨_, Hid.mk' rfl⟩
  have e5 : (w5.alloc (.cells [.slice x0 xn xc', .slice x1 xm xd].toArray 25)) = W5 := hW5.out
  have HAB : Hid (BoxV W5 w5.heap.size [.slice x0 xn xc', .slice x1 xm xd]) := by rw [← e5]; exact HAb.out
  rw [hW5.out] at HA5 HV5 HB5 HK5 HM5 hs5
  obtain ⟨ga, hga⟩ : ∃ g, Hid (w5.heap.size = g) := ⟨_, Hid.mk' rfl⟩
  rw [hga.out] at HAB hs5
  have hls5 : ga < W5.heap.size := by omega
  have c0 := HV5.out.c 0 _ rfl
  have c1 := HV5.out.c 1 _ rfl
  rw [← hW5.out] at c0 c1
  clear hans hb hres hbx hbb e5 HAb hs5
  go_wp2_with fail
  rw [hW5.out, hga.out]
  -- Play of the lean ones
  refine (oPlay_any a0 b0 n c m d C P ma M.length mc M W5 HK5.out HM5.out).mono ?_
  rintro e w6 ⟨hans, hb⟩
  rw [hR2.out] at hans
  obtain ⟨y0, yn, yc, y1, ym, yd, rfl, hres⟩ := ores_of_ans hans hR2ok.out
  have hbx : Below w6.heap.size w6 (w6.alloc (.cells #[.slice y0 yn yc, .slice y1 ym yd] 25)) := (Below.refl _ w6).alloc (Nat.le_refl _) _
  have hbb := hb.trans (hbx.mono hb.size)
  have HC6 := Hid.mk' (hres.below hbx)
  have HCb := Hid.mk' (boxV_new w6 [.slice y0 yn yc, .slice y1 ym yd] 25)
  have HA6 := Hid.mk' (HA5.out.below hbb)
  have HAB6 := Hid.mk' (HAB.out.below hbb)
  have HB6 := Hid.mk' (HB5.out.trans (hbb.mono HB5.out.size))
  have HM6 := Hid.mk' (HM5.out.below hbb)
  have hz6 : ga < w6.heap.size := Nat.lt_of_lt_of_le hls5 hb.size
  have hs6 : (w6.alloc (.cells #[.slice y0 yn yc, .slice y1 ym yd] 25)).heap.size = w6.heap.size + 1 := by simp
  obtain ⟨W6, hW6⟩ : ∃ W, Hid (w6.alloc (.cells #[.slice y0 yn yc, .slice y1 ym yd] 25) = W) := ⟨_, Hid.mk' rfl⟩
  have e6 : (w6.alloc (.cells [.slice y0 yn yc, .slice y1 ym yd].toArray 25)) = W6 := hW6.out
  have HCB : Hid (BoxV W6 w6.heap.size [.slice y0 yn yc, .slice y1 ym yd]) := by rw [← e6]; exact HCb.out
  rw [hW6.out] at HC6 HA6 HAB6 HB6 HM6 hs6
  obtain ⟨gb, hgb⟩ : ∃ g, Hid (w6.heap.size = g) := ⟨_, Hid.mk' rfl⟩
  rw [hgb.out] at HCB hs6 hz6
  have hls6 : gb < W6.heap.size := by omega
  clear hans hb hres hbx hbb e6 HCb hs6 c0 c1
  have tlen : decide ((M.length : Int) ≤ (nl : Int)) = true := decide_eq_true (by omega)
  have tgt : decide ((nl : Int) < (M.length : Int)) = false := decide_eq_false (by omega)
  by_cases h0 : qR = 0
  rotate_left
  · have tq : (qR != 0) = true := by rw [bne_iff_ne]; exact h0
    clear h0
    go_wp2_with fail
    go_ret
    rw [hW6.out]
    exact ⟨rfl, HB6.out⟩
  obtain ⟨hq2, hC2, hLand⟩ := hsame.out h0
  subst h0
  subst hq2
  subst hC2
  have hdA := HA6.out.yes rfl
  have hdC := HC6.out.yes rfl
  have HDA := Hid.mk' hdA
  have HDC := Hid.mk' hdC
  have hLL := Hid.mk' hLand
  have HokA := Hid.mk' (hRok.out rfl)
  have HokC := Hid.mk' (hR2ok.out rfl)
  have k0 := HAB6.out.c 0 _ rfl
  have k1 := HAB6.out.c 1 _ rfl
  have j0 := HCB.out.c 0 _ rfl
  have j1 := HCB.out.c 1 _ rfl
  have hnA := hdA.nB
  have hnC := hdC.nB
  rw [← hW6.out] at k0 k1
  rw [← hW6.out, ← hgb.out] at j0 j1
  clear hdA hdC hLand
  go_wp2_with fail
  rw [hW6.out, hgb.out]
  refine (equalS_any x0 y0 xn xc' yn yc C2 C2 W6 HDA.out.rc HDC.out.rc HDA.out.nC HDC.out.nC hnA hnC).mono ?_
  rintro e w7 ⟨⟨b, rfl, hbt⟩, r7, rfl⟩
  rw [hbt.yes rfl]
  clear hbt hnA hnC k0 k1 j0 j1
  have hbd : Below W6.heap.size W6 (W6.drewN r7) := ⟨rfl, rfl, rfl, Nat.le_refl _, fun _ _ => rfl⟩
  have HDA7 := Hid.mk' (HDA.out.below hbd)
  have HDC7 := Hid.mk' (HDC.out.below hbd)
  have HM7 := Hid.mk' (HM6.out.below hbd)
  have HAB7 := Hid.mk' (HAB6.out.below hbd)
  have HCB7 := Hid.mk' (HCB.out.below hbd)
  have HB7 := Hid.mk' (HB6.out.trans (hbd.mono HB6.out.size))
  obtain ⟨W7, hW7⟩ : ∃ W, Hid (W6.drewN r7 = W) := ⟨_, Hid.mk' rfl⟩
  rw [hW7.out] at HDA7 HDC7 HM7 HAB7 HCB7 HB7 ⊢
  have k0 := HAB7.out.c 0 _ rfl
  have k1 := HAB7.out.c 1 _ rfl
  clear hbd HDA HDC HM6 HAB6 HCB HB6 hls6 hz6
  go_wp2_with fail
  -- Sync of all
  refine (dsync_any x0 x1 xn xc' xm xd C2 PR W7 HDA7.out).mono ?_
  rintro e w8 ⟨hans, hb⟩
  rw [ok_chkD HokA.out] at hans
  obtain ⟨u0, un, uc, u1, um, ud, rfl, hres⟩ := ores_of_ans hans (fun _ => dk_ok_sync HokA.out)
  have hbx : Below w8.heap.size w8 (w8.alloc (.cells #[.slice u0 un uc, .slice u1 um ud] 25)) := (Below.refl _ w8).alloc (Nat.le_refl _) _
  have hbb := hb.trans (hbx.mono hb.size)
  have HU8 := Hid.mk' ((hres.yes rfl).below hbx)
  have HUb := Hid.mk' (boxV_new w8 [.slice u0 un uc, .slice u1 um ud] 25)
  have HDC8 := Hid.mk' (HDC7.out.below hbb)
  have HM8 := Hid.mk' (HM7.out.below hbb)
  have HCB8 := Hid.mk' (HCB7.out.below hbb)
  have HB8 := Hid.mk' (HB7.out.trans (hbb.mono HB7.out.size))
  obtain ⟨W8, hW8⟩ : ∃ W, Hid (w8.alloc (.cells #[.slice u0 un uc, .slice u1 um ud] 25) = W) := ⟨_, Hid.mk' rfl⟩
  have e8 : (w8.alloc (.cells [.slice u0 un uc, .slice u1 um ud].toArray 25)) = W8 := hW8.out
  have HUB : Hid (BoxV W8 w8.heap.size [.slice u0 un uc, .slice u1 um ud]) := by rw [← e8]; exact HUb.out
  rw [hW8.out] at HU8 HDC8 HM8 HCB8 HB8
  have hs8 : (w8.alloc (.cells #[.slice u0 un uc, .slice u1 um ud] 25)).heap.size = w8.heap.size + 1 := by simp
  rw [hW8.out] at hs8
  obtain ⟨gu, hgu⟩ : ∃ g, Hid (w8.heap.size = g) := ⟨_, Hid.mk' rfl⟩
  rw [hgu.out] at HUB hs8
  have hls8 : gu < W8.heap.size := by omega
  have j0 := HCB8.out.c 0 _ rfl
  have j1 := HCB8.out.c 1 _ rfl
  rw [← hW8.out] at j0 j1
  clear hans hb hres hbx hbb e8 HUb hs8 k0 k1
  go_wp2_with fail
  rw [hW8.out, hgu.out]
  -- Sync of the lean ones
  refine (dsync_any y0 y1 yn yc ym yd C2 P2 W8 HDC8.out).mono ?_
  rintro e w9 ⟨hans, hb⟩
  rw [ok_chkD HokC.out] at hans
  obtain ⟨v0, vn, vc, v1, vm, vd, rfl, hres⟩ := ores_of_ans hans (fun _ => dk_ok_sync HokC.out)
  have hbx : Below w9.heap.size w9 (w9.alloc (.cells #[.slice v0 vn vc, .slice v1 vm vd] 25)) := (Below.refl _ w9).alloc (Nat.le_refl _) _
  have hbb := hb.trans (hbx.mono hb.size)
  have HV9 := Hid.mk' ((hres.yes rfl).below hbx)
  have HVb := Hid.mk' (boxV_new w9 [.slice v0 vn vc, .slice v1 vm vd] 25)
  have HU9 := Hid.mk' (HU8.out.below hbb)
  have HM9 := Hid.mk' (HM8.out.below hbb)
  have HUB9 := Hid.mk' (HUB.out.below hbb)
  have HB9 := Hid.mk' (HB8.out.trans (hbb.mono HB8.out.size))
  have hz9 : gu < w9.heap.size := Nat.lt_of_lt_of_le hls8 hb.size
  obtain ⟨W9, hW9⟩ : ∃ W, Hid (w9.alloc (.cells #[.slice v0 vn vc, .slice v1 vm vd] 25) = W) := ⟨_, Hid.mk' rfl⟩
  have e9 : (w9.alloc (.cells [.slice v0 vn vc, .slice v1 vm vd].toArray 25)) = W9 := hW9.out
  have HVB : Hid (BoxV W9 w9.heap.size [.slice v0 vn vc, .slice v1 vm vd]) := by rw [← e9]; exact HVb.out
  rw [hW9.out] at HV9 HU9 HM9 HUB9 HB9
  obtain ⟨gv, hgv⟩ : ∃ g, Hid (w9.heap.size = g) := ⟨_, Hid.mk' rfl⟩
  rw [hgv.out] at HVB
  have k0 := HUB9.out.c 0 _ rfl
  have k1 := HUB9.out.c 1 _ rfl
  have i0 := HVB.out.c 0 _ rfl
  have i1 := HVB.out.c 1 _ rfl
  rw [← hW9.out] at k0 k1 i0 i1
  rw [← hgv.out] at i0 i1
  clear hans hb hres hbx hbb e9 HVb j0 j1
  go_wp2_with fail
  rw [hW9.out]
  refine (sameDk_any u0 u1 un uc um ud (landL allL PR 0 C2) [] v0 v1 vn vc vm vd (landL allL P2 0 C2) [] W9 HU9.out HV9.out).mono ?_
  rintro e wa ⟨⟨b, rfl, hbt⟩, hb⟩
  rw [hbt.yes ⟨hLL.out.symm, rfl⟩]
  have HMa := Hid.mk' (HM9.out.below hb)
  have HBa := Hid.mk' (HB9.out.trans (hb.mono HB9.out.size))
  clear hbt hb k0 k1 i0 i1
  go_wp2_with fail
  refine (lean_any ma M.length mc M wa HMa.out (by omega)).mono ?_
  rintro e wb ⟨na, nc', rfl, hm, hb⟩
  rw [hMM.out] at hm ⊢
  have HN := Hid.mk' hm
  have HMb := Hid.mk' (HMa.out.below hb)
  have HBb := Hid.mk' (HBa.out.trans (hb.mono HBa.out.size))
  clear hm hb
  go_wp2_with fail
  refine (equalO_any na ma M.length nc' M.length mc M M wb HN.out.rd HMb.out.rd rfl rfl (by omega) (by omega)).mono ?_
  rintro e wc ⟨⟨b, rfl, hbt⟩, r9, rfl⟩
  rw [hbt.yes rfl]
  clear hbt
  go_wp2_with fail
  go_ret
  exact ⟨rfl, HBb.out.trans ⟨rfl, rfl, rfl, Nat.le_refl _, fun _ _ => rfl⟩⟩
end Go.Proofs.Ytdolbgbgnplfhaa
