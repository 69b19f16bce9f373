/- The law OpsOwn, walked. -/
import Derived.Test.YtdolbgbgnplfhaaLeanOwnWalks
import Derived.Test.YtdolbgbgnplfhaaOPlayWalks
import Derived.Test.YtdolbgbgnplfhaaOwnOpsKit
import Derived.Test.YtdolbgbgnplfhaaFilledO
import Derived.Test.YtdolbgbgnplfhaaCloneO
import Derived.Test.YtdolbgbgnplfhaaEqualO
import Derived.Test.YtdolbgbgnplfhaaEqualS
import Derived.Test.YtdolbgbgnplfhaaEqualP
import Derived.Test.YtdolbgbgnplfhaaBoxV
import Derived.Deep.RegionHeld3
namespace Go.Proofs.Ytdolbgbgnplfhaa
open Go.RowKit

def markO : Opp := ⟨9, 0, ⟨#[109, 97, 114, 107]⟩⟩
def mkV : List Value := [.int .i64 9, .int .i64 0, .string ⟨#[109, 97, 114, 107]⟩]
def litK : List Opp := [⟨2, 0, ⟨#[]⟩⟩]
theorem leanK : leanL litK = litK := by
  show leanL [⟨2, 0, ⟨#[]⟩⟩] = [⟨2, 0, ⟨#[]⟩⟩]
  rfl
theorem lit_opsK (w : World) : Ops (w.alloc (.cells #[.int .i64 2, .int .i64 0, .string ⟨#[]⟩] 29)) (some ⟨w.heap.size, 0, none⟩) 1 1 litK := by
  have h := boxV_new w (opC litK) 29
  refine ⟨rfl, by omega, ⟨opC_length litK, fun _ => ⟨w.heap.size, 0, rfl, by simp, fun j u hj => ?_⟩⟩, ?_, ?_, Nat.le_refl _, by unfold maxLen; omega, fun e => by cases e⟩
  · rw [Nat.zero_add]
    exact h.c j u hj
  · intro o ho
    simp only [litK, List.mem_cons, List.not_mem_nil, or_false] at ho
    subst ho
    decide
  · intro o ho
    simp only [litK, List.mem_cons, List.not_mem_nil, or_false] at ho
    subst ho
    decide
theorem lean_lit1 (w : World) :
    Calls Try.prog 7 #[.slice (some ⟨w.heap.size, 0, none⟩) 1 1] (w.alloc (.cells #[.int .i64 2, .int .i64 0, .string ⟨#[]⟩] 29)) fun e w' => (∃ ao cap', e = .returned (.slice ao 1 cap')) ∧ Below w.heap.size w w' := by
  refine (lean_own (some ⟨w.heap.size, 0, none⟩) 1 1 litK _ (lit_opsK w) (by omega)).mono ?_
  rintro e w' ⟨ao, cp, rfl, _, _, hb⟩
  rw [leanK]
  exact ⟨⟨ao, cp, rfl⟩, ((Below.refl _ w).alloc (Nat.le_refl _) _).trans (hb.mono (by simp))⟩
theorem roomyK (a0 : Option Addr) (n cap : Nat) (l : List Opp) (w : World) (h : Ops w a0 n cap l) (hnM : n ≤ 4398046511103) :
    Calls Try.prog 29 #[.slice a0 n cap, .agg #[.int .i64 9, .int .i64 0, .string ⟨#[109, 97, 114, 107]⟩]] w fun e w' => (∃ g, e = .returned (.slice (some ⟨g, 0, none⟩) n (n + 3)) ∧ BoxV w' g (opC l ++ mk3O markO 3) ∧ w.heap.size ≤ g) ∧ Below w.heap.size w w' := roomyO_any a0 n cap l markO w h hnM
theorem filledK (g n : Nat) (l : List Opp) (w : World) (h : BoxV w g (opC l ++ mk3O markO 3)) (hl : l.length = n) (hnM : n ≤ 4398046511103) :
    Calls Try.prog 30 #[.slice (some ⟨g, 0, none⟩) n (n + 3), .agg #[.int .i64 9, .int .i64 0, .string ⟨#[109, 97, 114, 107]⟩]] w fun e w' => e = .returned (.bool true) ∧ Below w.heap.size w w' := filledO_any g n l markO w h hl hnM
theorem spoilK (g n cap : Nat) (vs : List Value) (w : World) (h : BoxV w g vs) (hl : vs.length = cap * 3) (hc : cap ≤ 9223372036854775807) :
    Calls Try.prog 33 #[.slice (some ⟨g, 0, none⟩) n cap, .agg #[.int .i64 9, .int .i64 0, .string ⟨#[109, 97, 114, 107]⟩]] w fun e w' => e = .returned (.tuple #[]) ∧ w.grownBy w' (some g) := spoilO_any g n cap vs markO w h hl hc
theorem spoilV (N n : Nat) (v : Value) (xs : List Value) (w : World) (h : w.ownsRow N 29 3 v n xs) (hc : ∀ a c, v = .slice a n c → c ≤ 9223372036854775807) :
    Calls Try.prog 33 #[v, .agg #[.int .i64 9, .int .i64 0, .string ⟨#[109, 97, 114, 107]⟩]] w fun e w' => e = .returned (.tuple #[]) ∧ w.grownBy w' v.ownBlock := spoilO_own N n v xs markO w h hc
theorem cloneSA (a0 : Option Addr) (n c : Nat) (a1 : Option Addr) (m : Nat) (C : List ByteArray) (P : List Pt) (w : World) (h : Dk w a0 n a1 m C P) :
    Calls Try.prog 25 #[.slice a0 n c] w fun e w' => (∃ v, e = .returned v ∧ w'.ownsRow w.heap.size 9 1 v n (stC C)) ∧ Below w.heap.size w w' := cloneS_any a0 n c C w h.rc h.nC h.nB
theorem clonePA (a0 : Option Addr) (n : Nat) (a1 : Option Addr) (m d : Nat) (C : List ByteArray) (P : List Pt) (w : World) (h : Dk w a0 n a1 m C P) :
    Calls Try.prog 31 #[.slice a1 m d] w fun e w' => (∃ v, e = .returned v ∧ w'.ownsRow w.heap.size 46 2 v m (ptC P)) ∧ Below w.heap.size w w' := cloneP_any a1 m d P w h.rp h.mP h.mB
theorem cloneOA (N : Nat) (a0 : Option Addr) (n c : Nat) (M : List Opp) (w : World) (h : w.ownsRow N 29 3 (.slice a0 n c) n (opC M)) (hn : M.length = n) (hb : n ≤ 4398046511103) :
    Calls Try.prog 32 #[.slice a0 n c] w fun e w' => (∃ v, e = .returned v ∧ w'.ownsRow w.heap.size 29 3 v n (opC M)) ∧ Below w.heap.size w w' := cloneO_any a0 n c M w (rd_own h) hn hb
set_option maxRecDepth 20000 in
set_option maxHeartbeats 6400000 in
theorem opsOwn_walk (a0 : Option Addr) (n c : Nat) (b0 : Option Addr) (m d : Nat) (C : List ByteArray) (P : List Pt) (al : Option Addr) (nl capl : Nat) (l : List Opp) (w : World) (h : Dk w a0 n b0 m C P) (hli : OpsIn w al nl capl l) :
    Calls Try.prog 6 #[.agg #[.slice a0 n c, .slice b0 m d], .slice al nl capl] w fun e w' => e = .returned (.bool true) ∧ Below w.heap.size w w' := by
  have hnM := hli.nM
  have hNL := Hid.mk' hli.ops.nL
  have hv := boxV_new w [.slice a0 n c, .slice b0 m d] 25
  have hb0 : Below w.heap.size w (w.alloc (.cells #[.slice a0 n c, .slice b0 m d] 25)) := (Below.refl _ w).alloc (Nat.le_refl _) _
  obtain ⟨W0, hW0⟩ : ∃ W, Hid (w.alloc (.cells #[.slice a0 n c, .slice b0 m d] 25) = W) := ⟨_, Hid.mk' rfl⟩
  have e0 : (w.alloc (.cells [.slice a0 n c, .slice b0 m d].toArray 25)) = W0 := hW0.out
  have hs0 : (w.alloc (.cells #[.slice a0 n c, .slice b0 m d] 25)).heap.size = w.heap.size + 1 := by simp
  rw [e0] at hv
  rw [hW0.out] at hb0 hs0
  have hmk := boxV_new W0 mkV 29
  have hb1 : Below W0.heap.size W0 (W0.alloc (.cells mkV.toArray 29)) := (Below.refl _ W0).alloc (Nat.le_refl _) _
  obtain ⟨W1, hW1⟩ : ∃ W, Hid (W0.alloc (.cells mkV.toArray 29) = W) := ⟨_, Hid.mk' rfl⟩
  have hW1' : Hid (W0.alloc (.cells #[.int .i64 9, .int .i64 0, .string ⟨#[109, 97, 114, 107]⟩] 29) = W1) := hW1.out
  rw [hW1.out] at hmk hb1
  obtain ⟨sm, hsm⟩ : ∃ s, Hid (W0.heap.size = s) := ⟨_, Hid.mk' rfl⟩
  rw [hsm.out] at hmk
  have hsms : sm = w.heap.size + 1 := by rw [← hsm.out]; exact hs0
  have HV := Hid.mk' (hv.below hb1)
  have HMk := Hid.mk' hmk
  have HB := Hid.mk' (hb0.trans (hb1.mono hb0.size))
  have HK := Hid.mk' (h.below HB.out)
  have HL := Hid.mk' (hli.ops.below HB.out)
  clear h hli hv hb0 e0 hs0 hmk hb1
  subst hsms
  have m0 := HMk.out.c 0 _ rfl
  have m1 := HMk.out.c 1 _ rfl
  have m2 := HMk.out.c 2 _ rfl
  rw [← hW1'.out, ← hW0.out] at m0 m1 m2
  go_enter Try.func6, Try.ntmps6
  go_wp2_with fail
  rw [hW0.out, hW1'.out]
  refine (roomyK al nl capl l W1 HL.out hnM).mono ?_
  rintro e w2 ⟨⟨gi, rfl, hbx, hgi⟩, hb⟩
  have HI2 := Hid.mk' hbx
  have HV2 := Hid.mk' (HV.out.below hb)
  have HMk2 := Hid.mk' (HMk.out.below hb)
  have HB2 := Hid.mk' (HB.out.trans (hb.mono HB.out.size))
  have HK2 := Hid.mk' (HK.out.below hb)
  have HL2 := Hid.mk' (HL.out.below hb)
  have hgiw : w.heap.size ≤ gi := Nat.le_trans HB.out.size hgi
  have hgiM : w.heap.size + 1 ≠ gi := by have := HMk.out.lt; omega
  have hgi2 : gi < w2.heap.size := hbx.lt
  have c0 := HV2.out.c 0 _ rfl
  have c1 := HV2.out.c 1 _ rfl
  clear hbx hb hgi m0 m1 m2
  obtain ⟨⟨qR, CR, PR⟩, hR⟩ : ∃ R, Hid (playE C P l = R) := ⟨_, Hid.mk' rfl⟩
  have hRok : Hid (qR = 0 → OkD CR PR) := fun h0 => by have := @play_ok C P l; rw [hR.out] at this; exact this h0
  go_wp2_with fail
  -- Play
  refine (oPlay_any a0 b0 n c m d C P (some ⟨gi, 0, none⟩) nl (nl + 3) l w2 HK2.out (ops_of_room HI2.out HL2.out)).mono ?_
  rintro e w3 ⟨hans, hb⟩
  rw [hR.out] at hans
  obtain ⟨x0, xn, xc, x1, xm, xd, rfl, hres⟩ := ores_of_ans hans hRok.out
  have hbx : Below w3.heap.size w3 (w3.alloc (.cells #[.slice x0 xn xc, .slice x1 xm xd] 25)) := (Below.refl _ w3).alloc (Nat.le_refl _) _
  have hbb := hb.trans (hbx.mono hb.size)
  have HA3 := Hid.mk' (hres.below hbx)
  have HAb := Hid.mk' (boxV_new w3 [.slice x0 xn xc, .slice x1 xm xd] 25)
  have HI3 := Hid.mk' (HI2.out.below hbb)
  have HMk3 := Hid.mk' (HMk2.out.below hbb)
  have HB3 := Hid.mk' (HB2.out.trans (hbb.mono HB2.out.size))
  have HL3 := Hid.mk' (HL2.out.below hbb)
  have hs3 : (w3.alloc (.cells #[.slice x0 xn xc, .slice x1 xm xd] 25)).heap.size = w3.heap.size + 1 := by simp
  have hz3 := hb.size
  obtain ⟨W3, hW3⟩ : ∃ W, Hid (w3.alloc (.cells #[.slice x0 xn xc, .slice x1 xm xd] 25) = W) := ⟨_, Hid.mk' rfl⟩
  have e3 : (w3.alloc (.cells [.slice x0 xn xc, .slice x1 xm xd].toArray 25)) = W3 := hW3.out
  have HAB : Hid (BoxV W3 w3.heap.size [.slice x0 xn xc, .slice x1 xm xd]) := by rw [← e3]; exact HAb.out
  rw [hW3.out] at HA3 HI3 HMk3 HB3 HL3 hs3
  obtain ⟨ga, hga⟩ : ∃ g, Hid (w3.heap.size = g) := ⟨_, Hid.mk' rfl⟩
  rw [hga.out] at HAB hs3 hz3
  have hga3 : ga < W3.heap.size := by omega
  have hgia : gi < ga := by omega
  clear hans hb hres hbx hbb e3 HAb hs3 c0 c1
  go_wp2_with fail
  rw [hW3.out, hga.out]
  -- Lean
  refine (lean_own (some ⟨gi, 0, none⟩) nl (nl + 3) l W3 (ops_of_room HI3.out HL3.out) hnM).mono ?_
  rintro e w4 ⟨ba, bc, rfl, hm, ⟨zs, hz⟩, hb⟩
  have HO4 := Hid.mk' (own_of_rd hz hm.rd)
  have hkm := hm.km
  have hMl : (leanL l).length ≤ nl := by rw [← hNL.out]; exact leanL_length l
  have HA4 := Hid.mk' (HA3.out.below hb)
  have HAB4 := Hid.mk' (HAB.out.below hb)
  have HI4 := Hid.mk' (HI3.out.below hb)
  have HMk4 := Hid.mk' (HMk3.out.below hb)
  have HB4 := Hid.mk' (HB3.out.trans (hb.mono HB3.out.size))
  have HL4 := Hid.mk' (HL3.out.below hb)
  obtain ⟨M, hM⟩ : ∃ M, Hid (leanL l = M) := ⟨_, Hid.mk' rfl⟩
  rw [hM.out] at HO4 hMl ⊢
  have HIo := Hid.mk' (ops_of_room HI4.out HL4.out)
  clear hm hz hb
  go_wp2_with fail
  -- in and l
  refine (equalO_any (some ⟨gi, 0, none⟩) al nl (nl + 3) nl capl l l w4 HIo.out.rd HL4.out.rd HL4.out.nL HL4.out.nL HL4.out.nB HL4.out.nB).mono ?_
  rintro e w5 ⟨⟨b, rfl, hbt⟩, r5, rfl⟩
  rw [hbt.yes rfl]
  have hbd : Below w4.heap.size w4 (w4.drewN r5) := ⟨rfl, rfl, rfl, Nat.le_refl _, fun _ _ => rfl⟩
  have HO5 := Hid.mk' (own_below HO4.out hbd)
  have HA5 := Hid.mk' (HA4.out.below hbd)
  have HAB5 := Hid.mk' (HAB4.out.below hbd)
  have HI5 := Hid.mk' (HI4.out.below hbd)
  have HMk5 := Hid.mk' (HMk4.out.below hbd)
  have HB5 := Hid.mk' (HB4.out.trans (hbd.mono HB4.out.size))
  obtain ⟨W5, hW5⟩ : ∃ W, Hid (w4.drewN r5 = W) := ⟨_, Hid.mk' rfl⟩
  rw [hW5.out] at HO5 HA5 HAB5 HI5 HMk5 HB5 ⊢
  clear hbt hbd HIo
  have m0 := HMk5.out.c 0 _ rfl
  have m1 := HMk5.out.c 1 _ rfl
  have m2 := HMk5.out.c 2 _ rfl
  go_wp2_with fail
  -- filled
  refine (filledK gi nl l W5 HI5.out hNL.out hnM).mono ?_
  rintro e w6 ⟨rfl, hb⟩
  have HO6 := Hid.mk' (own_below HO5.out hb)
  have HA6 := Hid.mk' (HA5.out.below hb)
  have HAB6 := Hid.mk' (HAB5.out.below hb)
  have HI6 := Hid.mk' (HI5.out.below hb)
  have HMk6 := Hid.mk' (HMk5.out.below hb)
  have HB6 := Hid.mk' (HB5.out.trans (hb.mono HB5.out.size))
  obtain ⟨CA, hCA⟩ : ∃ X, Hid ((if qR = 0 then CR else []) = X) := ⟨_, Hid.mk' rfl⟩
  obtain ⟨PA, hPA⟩ : ∃ X, Hid ((if qR = 0 then PR else []) = X) := ⟨_, Hid.mk' rfl⟩
  have HD6 : Hid (Dk w6 x0 xn x1 xm CA PA) := by have := HA6.out.dk; rw [hCA.out, hPA.out] at this; exact this
  have k0 := HAB6.out.c 0 _ rfl
  have k1 := HAB6.out.c 1 _ rfl
  clear hb m0 m1 m2
  go_wp2_with fail
  go_region_held3 (fun X => X.cell? ⟨ga, 0, none⟩ = some (.slice x0 xn xc) ∧ X.cell? ⟨ga, 1, none⟩ = some (.slice x1 xm xd)) (first | exact ⟨p0, p1⟩ | exact ⟨k0, k1⟩) (first
      | (go_at_call 25; refine (cloneSA x0 xn xc x1 xm CA PA _ (by first | exact HD6.out.below HB1.out | exact HD6.out.below ((Below.refl _ w6).drew))).mono ?_; rintro z wS ⟨⟨v, rfl, ho⟩, hb⟩; obtain ⟨aS, cS, rfl⟩ := own_slice' ho; have HoS := Hid.mk' ho; have HBS := Hid.mk' hb; have HB1 : Hid (Below w6.heap.size w6 wS) := (by first | exact HB1.out.trans (hb.mono HB1.out.size) | exact ((Below.refl _ w6).drew).trans hb | fail); clear hb ho; have hx := HAB6.out.below HB1.out; have p0 := hx.c 0 _ rfl; have p1 := hx.c 1 _ rfl; clear hx)
      | (go_at_call 31; refine (clonePA x0 xn x1 xm xd CA PA _ (by first | exact HD6.out.below HB1.out | exact HD6.out.below ((Below.refl _ w6).drew))).mono ?_; rintro z wP ⟨⟨v, rfl, ho⟩, hb⟩; obtain ⟨aP, cP, rfl⟩ := own_slice' ho; have HoP := Hid.mk' ho; have HBP := Hid.mk' hb; have HB1 : Hid (Below w6.heap.size w6 wP) := (by first | exact HB1.out.trans (hb.mono HB1.out.size) | exact ((Below.refl _ w6).drew).trans hb | fail); clear hb ho; have hx := HAB6.out.below HB1.out; have p0 := hx.c 0 _ rfl; have p1 := hx.c 1 _ rfl; clear hx)
      | (go_at_call 32; refine (cloneOA W3.heap.size ba M.length bc M _ (by first | exact own_below HO6.out HB1.out | exact own_below HO6.out ((Below.refl _ w6).drew)) rfl (by omega)).mono ?_; rintro z wO ⟨⟨v, rfl, ho⟩, hb⟩; obtain ⟨aO, cO, rfl⟩ := own_slice' ho; have HoO := Hid.mk' ho; have HBO := Hid.mk' hb; have HB1 : Hid (Below w6.heap.size w6 wO) := (by first | exact HB1.out.trans (hb.mono HB1.out.size) | exact ((Below.refl _ w6).drew).trans hb | fail); clear hb ho; have hx := HAB6.out.below HB1.out; have p0 := hx.c 0 _ rfl; have p1 := hx.c 1 _ rfl; clear hx)
      | fail)
  have HBR := HB1
  have hz6 : gi < w6.heap.size := HI6.out.lt
  have hzS : w6.heap.size ≤ wS.heap.size := HBS.out.size
  have hzP : wS.heap.size ≤ wP.heap.size := HBP.out.size
  have HS := Hid.mk' (own_below (own_below HoS.out HBP.out) HBO.out)
  have HP := Hid.mk' (own_below HoP.out HBO.out)
  have HA := Hid.mk' (HA6.out.below HBR.out)
  have Hb := Hid.mk' (own_below HO6.out HBR.out)
  have hAB := HAB6.out.below HBR.out
  have hMk := HMk6.out.below HBR.out
  have hIx := HI6.out.below HBR.out
  have hBw := HB6.out.trans (HBR.out.mono HB6.out.size)
  have hbL := HO6.out.lt
  have haL := HA3.out.lts
  have hlen : (opC l ++ mk3O markO 3).length = (nl + 3) * 3 := by rw [List.length_append, opC_length, hNL.out, mk3O_length]; omega
  have m0 := hMk.c 0 _ rfl
  have m1 := hMk.c 1 _ rfl
  have m2 := hMk.c 2 _ rfl
  clear p0 p1 k0 k1
  go_wp2_with fail
  -- spoil in
  refine (spoilK gi nl (nl + 3) _ wO hIx hlen (by omega)).mono ?_
  rintro e w7 ⟨rfl, hg⟩
  have HA7 := Hid.mk' (HA.out.spoilt hg hgi2)
  have Hb7 := Hid.mk' (own_low Hb.out hg (by omega))
  have HS7 := Hid.mk' (own_low HS.out hg (by exact hz6))
  have HP7 := Hid.mk' (own_low HP.out hg (by omega))
  have HO7 := Hid.mk' (own_low HoO.out hg (by omega))
  have HAB7 := Hid.mk' (hAB.grown hg (fun e => by have := Option.some.inj e; omega))
  have HMk7 := Hid.mk' (hMk.grown hg (fun e => by have := Option.some.inj e; omega))
  have HB7 := Hid.mk' (hBw.grown hg hBw.size (fun k e => by cases e; exact hgiw))
  have HD7 : Hid (Dk w7 x0 xn x1 xm CA PA) := by have := HA7.out.dk; rw [hCA.out, hPA.out] at this; exact this
  have k0 := HAB7.out.c 0 _ rfl
  have k1 := HAB7.out.c 1 _ rfl
  clear hg hAB hMk hIx hBw m0 m1 m2
  go_wp2_with fail
  refine (equalS_any x0 aS xn xc xn cS CA CA w7 HD7.out.rc (rd_own HS7.out) HD7.out.nC HD7.out.nC HD7.out.nB HD7.out.nB).mono ?_
  rintro e w8 ⟨⟨b, rfl, hbt⟩, r8, rfl⟩
  rw [hbt.yes rfl]
  have hbd : Below w7.heap.size w7 (w7.drewN r8) := ⟨rfl, rfl, rfl, Nat.le_refl _, fun _ _ => rfl⟩
  have HA8 := Hid.mk' (HA7.out.below hbd)
  have Hb8 := Hid.mk' (own_below Hb7.out hbd)
  have HP8 := Hid.mk' (own_below HP7.out hbd)
  have HO8 := Hid.mk' (own_below HO7.out hbd)
  have HAB8 := Hid.mk' (HAB7.out.below hbd)
  have HMk8 := Hid.mk' (HMk7.out.below hbd)
  have HD8 := Hid.mk' (HD7.out.below hbd)
  have HB8 := Hid.mk' (HB7.out.trans (hbd.mono HB7.out.size))
  obtain ⟨W8, hW8⟩ : ∃ W, Hid (w7.drewN r8 = W) := ⟨_, Hid.mk' rfl⟩
  rw [hW8.out] at HA8 Hb8 HP8 HO8 HAB8 HMk8 HD8 HB8 ⊢
  clear hbt hbd k0 k1
  have k1 := HAB8.out.c 1 _ rfl
  go_wp2_with fail
  refine (equalP_any x1 aP xm xd xm cP PA PA W8 HD8.out.rp (rd_own HP8.out) HD8.out.mP HD8.out.mP (by have := HD8.out.mB; omega) (by have := HD8.out.mB; omega)).mono ?_
  rintro e w9 ⟨⟨b, rfl, hbt⟩, r9, rfl⟩
  rw [hbt.yes rfl]
  have hbd : Below W8.heap.size W8 (W8.drewN r9) := ⟨rfl, rfl, rfl, Nat.le_refl _, fun _ _ => rfl⟩
  have HA9 := Hid.mk' (HA8.out.below hbd)
  have Hb9 := Hid.mk' (own_below Hb8.out hbd)
  have HP9 := Hid.mk' (own_below HP8.out hbd)
  have HO9 := Hid.mk' (own_below HO8.out hbd)
  have HAB9 := Hid.mk' (HAB8.out.below hbd)
  have HMk9 := Hid.mk' (HMk8.out.below hbd)
  have HB9 := Hid.mk' (HB8.out.trans (hbd.mono HB8.out.size))
  obtain ⟨W9, hW9⟩ : ∃ W, Hid (W8.drewN r9 = W) := ⟨_, Hid.mk' rfl⟩
  rw [hW9.out] at HA9 Hb9 HP9 HO9 HAB9 HMk9 HB9 ⊢
  clear hbt hbd k1
  go_wp2_with fail
  refine (equalO_any ba aO M.length bc M.length cO M M W9 (rd_own Hb9.out) (rd_own HO9.out) rfl rfl (by omega) (by omega)).mono ?_
  rintro e w10 ⟨⟨b, rfl, hbt⟩, r10, rfl⟩
  rw [hbt.yes rfl]
  have hbd : Below W9.heap.size W9 (W9.drewN r10) := ⟨rfl, rfl, rfl, Nat.le_refl _, fun _ _ => rfl⟩
  have HA10 := Hid.mk' (HA9.out.below hbd)
  have Hb10 := Hid.mk' (own_below Hb9.out hbd)
  have HP10 := Hid.mk' (own_below HP9.out hbd)
  have HAB10 := Hid.mk' (HAB9.out.below hbd)
  have HMk10 := Hid.mk' (HMk9.out.below hbd)
  have HB10 := Hid.mk' (HB9.out.trans (hbd.mono HB9.out.size))
  obtain ⟨W10, hW10⟩ : ∃ W, Hid (W9.drewN r10 = W) := ⟨_, Hid.mk' rfl⟩
  rw [hW10.out] at HA10 Hb10 HP10 HAB10 HMk10 HB10 ⊢
  clear hbt hbd
  have m0 := HMk10.out.c 0 _ rfl
  have m1 := HMk10.out.c 1 _ rfl
  have m2 := HMk10.out.c 2 _ rfl
  go_wp2_with fail
  -- spoil b
  refine (spoilV W3.heap.size M.length (.slice ba M.length bc) (opC M) W10 Hb10.out (fun a c e => by cases e; have := hkm; unfold maxLen at this; omega)).mono ?_
  rintro e w11 ⟨rfl, hg⟩
  have hAr : ∀ k, (Value.slice ba M.length bc).ownBlock = some k → W3.heap.size ≤ k ∧ k < w6.heap.size := hbL
  have HA11 := Hid.mk' (HA10.out.keptR hg (fun k e e' => by have := haL.1 k e; have := (hAr k e').1; omega) (fun k e e' => by have := haL.2 k e; have := (hAr k e').1; omega))
  have HP11 := Hid.mk' (own_keptR HP10.out hg (fun k e => by have := (hAr k e).2; omega))
  have HAB11 := Hid.mk' (HAB10.out.grown hg (fun e => by have := (hAr _ e).1; omega))
  have HB11 := Hid.mk' (HB10.out.grown hg HB10.out.size (fun k e => by have := (hAr k e).1; have := HB3.out.size; omega))
  have HD11 : Hid (Dk w11 x0 xn x1 xm CA PA) := by have := HA11.out.dk; rw [hCA.out, hPA.out] at this; exact this
  have k1 := HAB11.out.c 1 _ rfl
  clear hg m0 m1 m2
  go_wp2_with fail
  refine (equalP_any x1 aP xm xd xm cP PA PA w11 HD11.out.rp (rd_own HP11.out) HD11.out.mP HD11.out.mP (by have := HD11.out.mB; omega) (by have := HD11.out.mB; omega)).mono ?_
  rintro e w12 ⟨⟨b, rfl, hbt⟩, r12, rfl⟩
  rw [hbt.yes rfl]
  have hbd : Below w11.heap.size w11 (w11.drewN r12) := ⟨rfl, rfl, rfl, Nat.le_refl _, fun _ _ => rfl⟩
  have HB12 := Hid.mk' (HB11.out.trans (hbd.mono HB11.out.size))
  obtain ⟨W12, hW12⟩ : ∃ W, Hid (w11.drewN r12 = W) := ⟨_, Hid.mk' rfl⟩
  rw [hW12.out] at HB12 ⊢
  clear hbt hbd k1
  go_wp2_with fail
  refine (lean_lit1 W12).mono ?_
  rintro e w13 ⟨⟨ao, cp, rfl⟩, hb⟩
  have HB13 := Hid.mk' (HB12.out.trans (hb.mono HB12.out.size))
  clear hb
  go_wp2_with fail
  go_ret
  exact ⟨rfl, HB13.out⟩
end Go.Proofs.Ytdolbgbgnplfhaa
