/- The law InodeSays, walked. -/
import Derived.Test.YtbailfianjmflaaRInWriteWalks
namespace Go.Proofs.Ytbailfianjmflaa
open Go.RowKit

set_option maxRecDepth 20000 in
set_option maxHeartbeats 3200000 in
theorem inodeSays_walk (i : Ino) (a0 : Option Addr) (n c : Nat) (p : Pla) (w : World) (h : Pls w a0 n c i.ps) (_hp : PlaB p) :
    Calls Try.prog 3 #[.agg #[.int .i64 i.kd, .int .i64 i.gn, .int .i64 i.sz, .slice a0 n c], .agg #[.int .i64 p.cl, .int .i64 p.nh]] w fun e w' => e = .returned (.bool true) ∧ Below w.heap.size w w' := by
  have H1 : Hid (∀ w : World, Pls w a0 n c i.ps → Calls Try.prog 9 #[.agg #[.int .i64 i.kd, .int .i64 i.gn, .int .i64 i.sz, .slice a0 n c]] w fun e w' => e = .returned (.tuple #[.string (wiT i), .int .i64 (chkI i)]) ∧ Below w.heap.size w w') := fun w h => iwrite_any i a0 n c w h
  have H2 : Hid (∀ w : World, Pls w a0 n c i.ps → Calls Try.prog 10 #[.agg #[.int .i64 i.kd, .int .i64 i.gn, .int .i64 i.sz, .slice a0 n c]] w fun e w' => e = .returned (.tuple #[.string (wiT i), .int .i64 (chkI i)]) ∧ Below w.heap.size w w') := fun w h => rinodetext_any i a0 n c w h
  have H3 : Hid (∀ w : World, Pls w a0 n c i.ps → Calls Try.prog 11 #[.agg #[.int .i64 i.kd, .int .i64 i.gn, .int .i64 i.sz, .slice a0 n c]] w fun e w' => e = .returned (.int .i64 (chkI i)) ∧ Below w.heap.size w w') := fun w h => icheck_any i a0 n c w h
  have H4 : Hid (∀ w : World, Pls w a0 n c i.ps → Calls Try.prog 12 #[.agg #[.int .i64 i.kd, .int .i64 i.gn, .int .i64 i.sz, .slice a0 n c]] w fun e w' => e = .returned (.int .i64 (chkI i)) ∧ Below w.heap.size w w') := fun w h => rinode_any i a0 n c w h
  have H5 : Hid (∀ w : World, Calls Try.prog 13 #[.agg #[.int .i64 p.cl, .int .i64 p.nh]] w fun e w' => e = .returned (.bool (rtB p)) ∧ Below w.heap.size w w') := fun w => right_any p w
  have H6 : Hid (∀ w : World, Calls Try.prog 14 #[.agg #[.int .i64 p.cl, .int .i64 p.nh]] w fun e w' => e = .returned (.bool (rtB p)) ∧ Below w.heap.size w w') := fun w => rright_any p w
  obtain ⟨T, hT⟩ : ∃ T, Hid (wiT i = T) := ⟨_, Hid.mk' rfl⟩
  obtain ⟨q, hq⟩ : ∃ q, Hid (chkI i = q) := ⟨_, Hid.mk' rfl⟩
  obtain ⟨r, hr⟩ : ∃ q, Hid (rtB p = q) := ⟨_, Hid.mk' rfl⟩
  rw [hT.out, hq.out] at H1 H2
  rw [hq.out] at H3 H4
  rw [hr.out] at H5 H6
  obtain ⟨kd, gn, sz, ps⟩ := i
  obtain ⟨pc, pn⟩ := p
  simp only at *
  have hv := boxV_new w (inV kd gn sz a0 n c) 24
  have HBa : Hid (Below w.heap.size w (w.alloc (.cells #[.int .i64 kd, .int .i64 gn, .int .i64 sz, .slice a0 n c] 24))) := below_boxP _ _
  obtain ⟨Wa, hWa⟩ : ∃ W, Hid (w.alloc (.cells #[.int .i64 kd, .int .i64 gn, .int .i64 sz, .slice a0 n c] 24) = W) := ⟨_, Hid.mk' rfl⟩
  have e0 : (w.alloc (.cells (inV kd gn sz a0 n c).toArray 24)) = Wa := hWa.out
  have hsz : Wa.heap.size = w.heap.size + 1 := by rw [← hWa.out]; simp
  rw [e0] at hv
  rw [hWa.out] at HBa
  have hbx := bxPl Wa ⟨pc, pn⟩ 26
  have HBb := Hid.mk' (below_boxP (w := Wa) #[.int .i64 pc, .int .i64 pn] 26)
  obtain ⟨W0, hW0⟩ : ∃ W, Hid (Wa.alloc (.cells #[.int .i64 pc, .int .i64 pn] 26) = W) := ⟨_, Hid.mk' rfl⟩
  simp only at hbx
  rw [hW0.out] at hbx HBb
  rw [hsz] at hbx
  have hHB : Below w.heap.size w W0 := HBa.out.trans (HBb.out.mono (by omega))
  have HB := Hid.mk' hHB
  have hv0 := hv.below HBb.out
  have HV := Hid.mk' hv0
  have HX := Hid.mk' hbx
  have HL := Hid.mk' (h.below HB.out)
  have c0 := hv0.c 0 _ rfl
  have c1 := hv0.c 1 _ rfl
  have c2 := hv0.c 2 _ rfl
  have c3 := hv0.c 3 _ rfl
  have d0 := hbx.c0
  have d1 := hbx.c1
  simp only at d0 d1
  have hz0 : w.heap.size ≤ W0.heap.size := HB.out.size
  clear h hv hv0 hbx hHB e0 hsz HBa HBb
  go_enter Try.func3, Try.ntmps3
  go_wp2_with fail
  rw [hWa.out, hW0.out]
  refine (H1.out _ HL.out).mono ?_
  rintro e w1 ⟨rfl, hb⟩
  have HB1 := Hid.mk' hb
  have HL1 := Hid.mk' (HL.out.below hb)
  have hv := HV.out.below hb
  have c0 := hv.c 0 _ rfl
  have c1 := hv.c 1 _ rfl
  have c2 := hv.c 2 _ rfl
  have c3 := hv.c 3 _ rfl
  clear hv hb
  go_wp2_with fail
  refine (H2.out _ HL1.out).mono ?_
  rintro e w2 ⟨rfl, hb⟩
  have HB2 := Hid.mk' (HB1.out.trans (hb.mono HB1.out.size))
  have HL2 := Hid.mk' (HL1.out.below hb)
  have hv := HV.out.below HB2.out
  have c0 := hv.c 0 _ rfl
  have c1 := hv.c 1 _ rfl
  have c2 := hv.c 2 _ rfl
  have c3 := hv.c 3 _ rfl
  have hx := HX.out.below HB2.out
  have d0 := hx.c0
  have d1 := hx.c1
  simp only at d0 d1
  clear hv hx hb
  go_wp2_with fail
  go_region_held3 (fun X => X.cell? ⟨w.heap.size, 0, none⟩ = some (.int .i64 kd) ∧ X.cell? ⟨w.heap.size, 1, none⟩ = some (.int .i64 gn) ∧ X.cell? ⟨w.heap.size, 2, none⟩ = some (.int .i64 sz) ∧ X.cell? ⟨w.heap.size, 3, none⟩ = some (.slice a0 n c) ∧ X.cell? ⟨w.heap.size + 1, 0, none⟩ = some (.int .i64 pc) ∧ X.cell? ⟨w.heap.size + 1, 1, none⟩ = some (.int .i64 pn)) (first | exact ⟨p0, p1, p2, p3, p4, p5⟩ | exact ⟨c0, c1, c2, c3, d0, d1⟩) (first
      | (go_at_call 11; refine (H3.out _ (by first | exact HL3.out | exact HL2.out.below ((Below.refl _ w2).drew))).mono ?_; rintro e w3 ⟨rfl, hb⟩; have HB3 : Hid (Below W0.heap.size W0 w3) := (by first | exact HB3.out.trans (hb.mono HB3.out.size) | exact HB2.out.trans (((Below.refl _ w2).drew.trans hb).mono HB2.out.size) | fail); clear hb; have hv := HV.out.below HB3.out; have hx := HX.out.below HB3.out; have HL3 := Hid.mk' (HL.out.below HB3.out); have p0 := hv.c 0 _ rfl; have p1 := hv.c 1 _ rfl; have p2 := hv.c 2 _ rfl; have p3 := hv.c 3 _ rfl; have p4 := hx.c0; have p5 := hx.c1; simp only at p4 p5; clear hv hx)
      | (go_at_call 12; refine (H4.out _ (by first | exact HL3.out | exact HL2.out.below ((Below.refl _ w2).drew))).mono ?_; rintro e w3 ⟨rfl, hb⟩; have HB3 : Hid (Below W0.heap.size W0 w3) := (by first | exact HB3.out.trans (hb.mono HB3.out.size) | exact HB2.out.trans (((Below.refl _ w2).drew.trans hb).mono HB2.out.size) | fail); clear hb; have hv := HV.out.below HB3.out; have hx := HX.out.below HB3.out; have HL3 := Hid.mk' (HL.out.below HB3.out); have p0 := hv.c 0 _ rfl; have p1 := hv.c 1 _ rfl; have p2 := hv.c 2 _ rfl; have p3 := hv.c 3 _ rfl; have p4 := hx.c0; have p5 := hx.c1; simp only at p4 p5; clear hv hx)
      | (go_at_call 13; refine (H5.out _).mono ?_; rintro e w3 ⟨rfl, hb⟩; have HB3 : Hid (Below W0.heap.size W0 w3) := (by first | exact HB3.out.trans (hb.mono HB3.out.size) | exact HB2.out.trans (((Below.refl _ w2).drew.trans hb).mono HB2.out.size) | fail); clear hb; have hv := HV.out.below HB3.out; have hx := HX.out.below HB3.out; have HL3 := Hid.mk' (HL.out.below HB3.out); have p0 := hv.c 0 _ rfl; have p1 := hv.c 1 _ rfl; have p2 := hv.c 2 _ rfl; have p3 := hv.c 3 _ rfl; have p4 := hx.c0; have p5 := hx.c1; simp only at p4 p5; clear hv hx)
      | (go_at_call 14; refine (H6.out _).mono ?_; rintro e w3 ⟨rfl, hb⟩; have HB3 : Hid (Below W0.heap.size W0 w3) := (by first | exact HB3.out.trans (hb.mono HB3.out.size) | exact HB2.out.trans (((Below.refl _ w2).drew.trans hb).mono HB2.out.size) | fail); clear hb; have hv := HV.out.below HB3.out; have hx := HX.out.below HB3.out; have HL3 := Hid.mk' (HL.out.below HB3.out); have p0 := hv.c 0 _ rfl; have p1 := hv.c 1 _ rfl; have p2 := hv.c 2 _ rfl; have p3 := hv.c 3 _ rfl; have p4 := hx.c0; have p5 := hx.c1; simp only at p4 p5; clear hv hx)
      | fail)
  all_goals
    go_wp2_with fail
    go_ret
    exact ⟨rfl, HB.out.trans (HB3.out.mono hz0)⟩
end Go.Proofs.Ytbailfianjmflaa
