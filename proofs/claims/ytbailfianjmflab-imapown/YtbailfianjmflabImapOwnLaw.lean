/- The law ImapOwn, walked. -/
import Derived.Test.YtbailfianjmflabRoomKit2
import Derived.Test.YtbailfianjmflabMapAt
import Derived.Test.YtbailfianjmflabSpoilL
import Derived.Test.YtbailfianjmflabSpoilN
import Derived.Test.YtbailfianjmflabFilledL
import Derived.Test.YtbailfianjmflabFilledN
import Derived.Test.YtbailfianjmflabSameImWalks
import Derived.Deep.RegionHeld3
import Derived.Deep.DeepCutAuto
namespace Go.Proofs.Ytbailfianjmflab
open Go.RowKit

def mkL : Pla := ⟨1, 0⟩
theorem pls_of_room {w : World} {g n : Nat} {l : List Pla} {r : List Value} (h : BoxV w g (plC l ++ r)) (hn : l.length = n) (hB : n ≤ 8796093022208) (hb : ∀ b ∈ l, PlaB b) : Pls w (some ⟨g, 0, none⟩) n (n + 3) l :=
  ⟨hn, hB, rd_of_box h (by rw [plC_length, hn]), hb, by omega, by unfold maxLen; omega, fun e => by cases e⟩
theorem its_of_room {w : World} {g n : Nat} {l : List Int} {r : List Value} (h : BoxV w g (inC l ++ r)) (hn : l.length = n) (hB : n ≤ 17592186044416) (hb : ∀ b ∈ l, I64 b) : Its w (some ⟨g, 0, none⟩) n (n + 3) l :=
  ⟨hn, hB, rd_of_box h (by rw [inC_length, hn, Nat.mul_one]), hb, by omega, by unfold maxLen; omega, fun e => by cases e⟩
theorem roomyLK (a0 : Option Addr) (n c : Nat) (P : List Pla) (w : World) (h : Pls w a0 n c P) :
    Calls Try.prog 18 #[.slice a0 n c, .agg #[.int .i64 1, .int .i64 0]] w fun e w' => (∃ g, e = .returned (.slice (some ⟨g, 0, none⟩) n (n + 3)) ∧ BoxV w' g (plC P ++ mk3L mkL 3) ∧ w.heap.size ≤ g) ∧ Below w.heap.size w w' := roomyL_any a0 n c P mkL w h.rd h.nL h.nc h.nB
theorem roomyNK (a0 : Option Addr) (n c : Nat) (G : List Int) (w : World) (h : Its w a0 n c G) :
    Calls Try.prog 19 #[.slice a0 n c, .int .i64 (-9)] w fun e w' => (∃ g, e = .returned (.slice (some ⟨g, 0, none⟩) n (n + 3)) ∧ BoxV w' g (inC G ++ mk3N (-9) 3) ∧ w.heap.size ≤ g) ∧ Below w.heap.size w w' := roomyN_any a0 n c G (-9) w h.rd h.nL h.nc h.nB
theorem filledLK (g n : Nat) (l : List Pla) (w : World) (h : BoxV w g (plC l ++ mk3L mkL 3)) (hl : l.length = n) (hB : n ≤ 8796093022208) :
    Calls Try.prog 20 #[.slice (some ⟨g, 0, none⟩) n (n + 3), .agg #[.int .i64 1, .int .i64 0]] w fun e w' => e = .returned (.bool true) ∧ Below w.heap.size w w' := filledL_any g n l mkL w h hl hB
theorem filledNK (g n : Nat) (l : List Int) (w : World) (h : BoxV w g (inC l ++ mk3N (-9) 3)) (hl : l.length = n) (hB : n ≤ 17592186044416) :
    Calls Try.prog 21 #[.slice (some ⟨g, 0, none⟩) n (n + 3), .int .i64 (-9)] w fun e w' => e = .returned (.bool true) ∧ Below w.heap.size w w' := filledN_any g n l (-9) w h hl hB
theorem spoilLK (g n : Nat) (P : List Pla) (w : World) (h : BoxV w g (plC P ++ mk3L mkL 3)) (hn : P.length = n) (hB : n ≤ 8796093022208) :
    Calls Try.prog 24 #[.slice (some ⟨g, 0, none⟩) n (n + 3), .agg #[.int .i64 1, .int .i64 0]] w fun e w' => e = .returned (.tuple #[]) ∧ w.grownBy w' (some g) := spoilL_any g n (n + 3) _ mkL w h (by rw [List.length_append, plC_length, hn, mk3L_length]; omega) (by omega)
theorem spoilNK (g n : Nat) (P : List Int) (w : World) (h : BoxV w g (inC P ++ mk3N (-9) 3)) (hn : P.length = n) (hB : n ≤ 17592186044416) :
    Calls Try.prog 25 #[.slice (some ⟨g, 0, none⟩) n (n + 3), .int .i64 (-9)] w fun e w' => e = .returned (.tuple #[]) ∧ w.grownBy w' (some g) := spoilN_any g n (n + 3) _ (-9) w h (by rw [List.length_append, inC_length, hn, mk3N_length]) (by omega)
theorem spoilLV (N n : Nat) (v : Value) (xs : List Value) (w : World) (h : w.ownsRow N 29 2 v n xs) (hc : ∀ a c, v = .slice a n c → c ≤ 9223372036854775807) :
    Calls Try.prog 24 #[v, .agg #[.int .i64 1, .int .i64 0]] w fun e w' => e = .returned (.tuple #[]) ∧ w.grownBy w' v.ownBlock := spoilL_own N n v xs mkL w h hc
theorem cloneNA (N : Nat) (a0 : Option Addr) (c : Nat) (M : List Int) (w : World) (h : w.ownsRow N 3 1 (.slice a0 M.length c) M.length (inC M)) (hb : M.length ≤ 17592186044416) :
    Calls Try.prog 22 #[.slice a0 M.length c] w fun e w' => (∃ v, e = .returned v ∧ w'.ownsRow w.heap.size 3 1 v M.length (inC M)) ∧ Below w.heap.size w w' := cloneN_any a0 M.length c M w (rd_ownR h).1 rfl hb
theorem cloneLA (N : Nat) (a0 : Option Addr) (c : Nat) (M : List Pla) (w : World) (h : w.ownsRow N 29 2 (.slice a0 M.length c) M.length (plC M)) (hb : M.length ≤ 8796093022208) :
    Calls Try.prog 23 #[.slice a0 M.length c] w fun e w' => (∃ v, e = .returned v ∧ w'.ownsRow w.heap.size 29 2 v M.length (plC M)) ∧ Below w.heap.size w w' := clonePl_any a0 M.length c M w (rd_ownR h).1 rfl hb
theorem own_lens (P : List Pla) (G : List Int) (x : Int) (p : Pla) : (stP P G x p).length ≤ P.length ∧ (stG P G x p).length ≤ G.length ∧ (cuP P G x).length ≤ P.length ∧ (cuG P G x).length ≤ G.length := by
  unfold stP stG cuP cuG
  refine ⟨?_, ?_, ?_, ?_⟩ <;> split <;> simp
theorem fieldAt (a c e f : Nat) (g h : Option Addr) (w : World) : (Instr.field 36 (.agg #[.slice g a c, .slice h e f]) 0).run Try.prog w = .ok (.slice g a c) w := by kernel_rfl
/-- the map with room behind its lists, as it was made -/
def JOwn (W0 X : World) (P : List Pla) (G : List Int) (n m : Nat) (v : Value) : Prop :=
  ∃ gt gi gj, v = .pointer (some ⟨gt, 0, none⟩) ∧ BoxV X gt [.slice (some ⟨gi, 0, none⟩) n (n + 3), .slice (some ⟨gj, 0, none⟩) m (m + 3)] ∧ BoxV X gi (plC P ++ mk3L mkL 3) ∧ BoxV X gj (inC G ++ mk3N (-9) 3) ∧ (gt ≠ gi ∧ gt ≠ gj ∧ gi ≠ gj) ∧ (W0.heap.size ≤ gt ∧ W0.heap.size ≤ gi ∧ W0.heap.size ≤ gj) ∧ Below W0.heap.size W0 X
theorem jown_set {W0 Z : World} {P : List Pla} {G : List Int} {n m gt gi gj : Nat} {a b : Value} (hT : BoxV Z gt [a, b]) (hi : BoxV Z gi (plC P ++ mk3L mkL 3)) (hj : BoxV Z gj (inC G ++ mk3N (-9) 3)) (h1 : gt ≠ gi) (h2 : gt ≠ gj) (h3 : gi ≠ gj) (b1 : W0.heap.size ≤ gt) (b2 : W0.heap.size ≤ gi) (b3 : W0.heap.size ≤ gj) (hb : Below W0.heap.size W0 Z) :
    JOwn W0 ((Z.setCell ⟨gt, 0, none⟩ (.slice (some ⟨gi, 0, none⟩) n (n + 3))).setCell ⟨gt, 1, none⟩ (.slice (some ⟨gj, 0, none⟩) m (m + 3))) P G n m (.pointer (some ⟨gt, 0, none⟩)) :=
  ⟨gt, gi, gj, rfl, hT.set2M _ _, (hi.other _ _ h1).other _ _ h1, (hj.other _ _ h2).other _ _ h2, ⟨h1, h2, h3⟩, ⟨b1, b2, b3⟩, (hb.setCell (p := ⟨gt, 0, none⟩) b1 _).setCell (p := ⟨gt, 1, none⟩) b1 _⟩
theorem jown_new {W0 Z : World} {P : List Pla} {G : List Int} {n m gi gj : Nat} (hi : BoxV Z gi (plC P ++ mk3L mkL 3)) (hj : BoxV Z gj (inC G ++ mk3N (-9) 3)) (h3 : gi ≠ gj) (b2 : W0.heap.size ≤ gi) (b3 : W0.heap.size ≤ gj) (hb : Below W0.heap.size W0 Z) :
    JOwn W0 (Z.alloc (.cells #[.slice (some ⟨gi, 0, none⟩) n (n + 3), .slice (some ⟨gj, 0, none⟩) m (m + 3)] 36)) P G n m (.pointer (some ⟨Z.heap.size, 0, none⟩)) :=
  ⟨Z.heap.size, gi, gj, rfl, boxV_new Z _ _, hi.alloc _, hj.alloc _, ⟨by have := hi.lt; omega, by have := hj.lt; omega, h3⟩, ⟨hb.size, b2, b3⟩, hb.alloc hb.size _⟩
theorem JOwn.drew {W0 X : World} {P : List Pla} {G : List Int} {n m : Nat} {v : Value} (h : JOwn W0 X P G n m v) : JOwn W0 X.drew P G n m v := by
  obtain ⟨gt, gi, gj, e, h1, h2, h3, h4, h5, h6⟩ := h
  exact ⟨gt, gi, gj, e, h1.drew, h2.drew, h3.drew, h4, h5, h6.drew⟩
set_option maxRecDepth 20000 in
set_option maxHeartbeats 6400000 in
theorem imapOwn_walk (a0 : Option Addr) (n c : Nat) (a1 : Option Addr) (m e : Nat) (P : List Pla) (G : List Int) (x : Int) (p : Pla) (w : World) (h : Pls w a0 n c P) (h' : Its w a1 m e G) (_hx : (Lit.int .i64 x).wf = true) (_hp : PlaB p) :
    Calls Try.prog 6 #[.agg #[.slice a0 n c, .slice a1 m e], .int .i64 x, .agg #[.int .i64 p.cl, .int .i64 p.nh]] w fun z w' => z = .returned (.bool true) ∧ Below w.heap.size w w' := by
  have hPB := Hid.mk' h.bB
  have hGB := Hid.mk' h'.bB
  have hnL := Hid.mk' h.nL
  have hmL := Hid.mk' h'.nL
  have hnB := h.nB
  have hmB := h'.nB
  have hm0 := MapAt.new h h' 36
  have hb0 := below_boxP (w := w) #[.slice a0 n c, .slice a1 m e] 36
  have hs0 : (w.alloc (.cells #[.slice a0 n c, .slice a1 m e] 36)).heap.size = w.heap.size + 1 := by simp
  obtain ⟨Wa, hWa⟩ : ∃ W, Hid (w.alloc (.cells #[.slice a0 n c, .slice a1 m e] 36) = W) := ⟨_, Hid.mk' rfl⟩
  rw [hWa.out] at hm0 hb0 hs0
  have hx0 := boxV_new Wa [.int .i64 p.cl, .int .i64 p.nh] 29
  have hb1 := below_boxP (w := Wa) #[.int .i64 p.cl, .int .i64 p.nh] 29
  rw [hs0] at hx0
  obtain ⟨W0, hW0⟩ : ∃ W, Hid (Wa.alloc (.cells #[.int .i64 p.cl, .int .i64 p.nh] 29) = W) := ⟨_, Hid.mk' rfl⟩
  have e0 : Wa.alloc (.cells [.int .i64 p.cl, .int .i64 p.nh].toArray 29) = W0 := hW0.out
  have hs1 : (Wa.alloc (.cells #[.int .i64 p.cl, .int .i64 p.nh] 29)).heap.size = w.heap.size + 2 := by simp; omega
  rw [e0] at hx0
  rw [hW0.out] at hb1 hs1
  have HM := Hid.mk' (hm0.below hb1)
  have HX := Hid.mk' hx0
  have HB := Hid.mk' (hb0.trans (hb1.mono hb0.size))
  have hz := Hid.mk' hs1
  have k0 := HM.out.c0
  have k1 := HM.out.c1
  clear h h' hm0 hb0 hs0 hx0 hb1 hs1 e0
  go_enter Try.func6, Try.ntmps6
  have HBd : Hid (Below W0.heap.size W0 W0.drew) := (Below.refl _ W0).drew
  have HBa : Hid (Below W0.heap.size W0 (W0.alloc (.cells #[.slice none 0 0, .slice none 0 0] 36)).drew) := ((Below.refl _ W0).alloc (Nat.le_refl _) _).drew
  have HT0 : Hid (BoxV (W0.alloc (.cells #[.slice none 0 0, .slice none 0 0] 36)).drew W0.heap.size [.slice none 0 0, .slice none 0 0]) := (boxV_new W0 [.slice none 0 0, .slice none 0 0] 36).drew
  have hsd : Hid ((W0.alloc (.cells #[.slice none 0 0, .slice none 0 0] 36)).drew.heap.size = W0.heap.size + 1) := by show (W0.alloc (.cells #[.slice none 0 0, .slice none 0 0] 36)).heap.size = _; simp
  go_upto_region 1 with fail
  rw [hWa.out, hW0.out]
  go_cut [7] (fun v wx => JOwn W0 wx P G n m v)
  case first =>
    go_region_held3 (fun X => X.cell? ⟨w.heap.size, 0, none⟩ = some (.slice a0 n c) ∧ X.cell? ⟨w.heap.size, 1, none⟩ = some (.slice a1 m e)) (first | with_reducible exact ⟨p0, p1⟩ | with_reducible exact ⟨k0, k1⟩ | with_reducible exact ⟨(HMx.out.bx.alloc _).c 0 _ rfl, (HMx.out.bx.alloc _).c 1 _ rfl⟩ | with_reducible exact ⟨cset2M ((HMx.out.bx.alloc _).c 0 _ rfl) (by have := HMx.out.bx.lt; omega) _ _, cset2M ((HMx.out.bx.alloc _).c 1 _ rfl) (by have := HMx.out.bx.lt; omega) _ _⟩ | with_reducible exact ⟨cset2M p0 hnT _ _, cset2M p1 hnT _ _⟩ | with_reducible exact ⟨(HM.out.bx.alloc _).c 0 _ rfl, (HM.out.bx.alloc _).c 1 _ rfl⟩ | with_reducible exact ⟨((HM.out.bx.alloc _).drew).c 0 _ rfl, ((HM.out.bx.alloc _).drew).c 1 _ rfl⟩ | with_reducible exact ⟨(HM.out.bx.drew.alloc _).c 0 _ rfl, (HM.out.bx.drew.alloc _).c 1 _ rfl⟩ | with_reducible exact ⟨HM.out.bx.drew.c 0 _ rfl, HM.out.bx.drew.c 1 _ rfl⟩) (first
      | (go_at_call 18; go_loud (refine (roomyLK a0 n c P _ (by first | with_reducible exact HM.out.pl.below HBd.out | with_reducible exact HM.out.pl.below HBa.out)).mono ?_); rintro z w1 ⟨⟨gi, rfl, hbx, hgi⟩, hb⟩; have HIL := Hid.mk' hbx; go_loud (have HB1 : Hid (Below W0.heap.size W0 w1) := Hid.mk' (by first | with_reducible exact HBd.out.trans (hb.mono HBd.out.size) | with_reducible exact HBa.out.trans (hb.mono HBa.out.size))); go_loud (have hgiW : W0.heap.size ≤ gi := (by first | with_reducible exact Nat.le_trans HBd.out.size hgi | with_reducible exact Nat.le_trans HBa.out.size hgi)); (first | (have HT1 : Hid (BoxV w1 W0.heap.size [.slice none 0 0, .slice none 0 0]) := Hid.mk' (by with_reducible exact HT0.out.below hb); have hgT : W0.heap.size ≠ gi := (by have h9 := hgi; rw [hsd.out] at h9; omega)) | skip); clear hb hbx hgi; have HMx := Hid.mk' (HM.out.below HB1.out); have p0 := HMx.out.c0; have p1 := HMx.out.c1)
      | (go_at_call 19; refine (roomyNK a1 m e G _ (by with_reducible exact HM.out.it.below HB1.out)).mono ?_; rintro z w2 ⟨⟨gj, rfl, hbx, hgj⟩, hb⟩; have HIN := Hid.mk' hbx; have HB2 : Hid (Below W0.heap.size W0 w2) := Hid.mk' (by with_reducible exact HB1.out.trans (hb.mono HB1.out.size)); have HI2 : Hid (BoxV w2 gi (plC P ++ mk3L mkL 3)) := Hid.mk' (by with_reducible exact HIL.out.below hb); have hgjW : W0.heap.size ≤ gj := (by with_reducible exact Nat.le_trans HB1.out.size hgj); have hgij : gi ≠ gj := (by have := HIL.out.lt; omega); (first | (have HT2 := Hid.mk' (HT1.out.below hb); have hgTj : W0.heap.size ≠ gj := (by have := HT1.out.lt; omega); have t0 := HT2.out.c 0 _ rfl; have t1 := HT2.out.c 1 _ rfl; have tf0 := HT2.out.f 0 (by simp); have tf1 := HT2.out.f 1 (by simp); have hnT : W0.heap.size ≠ w.heap.size := (by have := hz.out; omega); have HJ := Hid.mk' (jown_set (n := n) (m := m) HT2.out HI2.out HIN.out hgT hgTj hgij (Nat.le_refl _) hgiW hgjW HB2.out)) | (have HJ := Hid.mk' (jown_new (n := n) (m := m) HI2.out HIN.out hgij hgiW hgjW HB2.out))); clear hb hbx hgj; have HMx := Hid.mk' (HM.out.below HB2.out); have p0 := HMx.out.c0; have p1 := HMx.out.c1)
      | (go_at_call 19; have HB1a := HB1.out.alloc HB1.out.size (.cells #[.slice none 0 0, .slice none 0 0] 36); refine (roomyNK a1 m e G _ (by with_reducible exact HM.out.it.below HB1a)).mono ?_; rintro z w2 ⟨⟨gj, rfl, hbx, hgj⟩, hb⟩; have HIN := Hid.mk' hbx; have HB2 : Hid (Below W0.heap.size W0 w2) := Hid.mk' (by with_reducible exact HB1a.trans (hb.mono HB1a.size)); have HI2 : Hid (BoxV w2 gi (plC P ++ mk3L mkL 3)) := Hid.mk' (by with_reducible exact (HIL.out.alloc _).below hb); have hgjW : W0.heap.size ≤ gj := (by with_reducible exact Nat.le_trans HB1a.size hgj); have h9 : w1.heap.size + 1 ≤ gj := (by simpa using hgj); have hgij : gi ≠ gj := (by have := HIL.out.lt; omega); have HT2 : Hid (BoxV w2 w1.heap.size [.slice none 0 0, .slice none 0 0]) := Hid.mk' ((boxV_new w1 [.slice none 0 0, .slice none 0 0] 36).below hb); have t0 := HT2.out.c 0 _ rfl; have t1 := HT2.out.c 1 _ rfl; have tf0 := HT2.out.f 0 (by simp); have tf1 := HT2.out.f 1 (by simp); have hnT : w1.heap.size ≠ w.heap.size := (by have := hz.out; have := HB1.out.size; omega); have HJ := Hid.mk' (jown_set (n := n) (m := m) HT2.out HI2.out HIN.out (by have := HIL.out.lt; omega) (by omega) hgij HB1.out.size hgiW hgjW HB2.out); clear hb hbx hgj h9; have HMx := Hid.mk' (HM.out.below HB2.out); have p0 := HMx.out.c0; have p1 := HMx.out.c1)
      | fail)
    all_goals
      go_wp2_with fail
      go_meet
      first | exact HJ.out | exact HJ.out.drew
  case rest =>
    obtain ⟨gt, gi, gj, rfl, hT, hI, hJ, ⟨q1, q2, q3⟩, ⟨b1, b2, b3⟩, hb⟩ := hcut
    have HM1 := Hid.mk' (HM.out.below hb)
    have HX1 := Hid.mk' (HX.out.below hb)
    have HBc := Hid.mk' (HB.out.trans (hb.mono HB.out.size))
    have HT := Hid.mk' hT
    have HI := Hid.mk' hI
    have HJ := Hid.mk' hJ
    obtain ⟨l1, l2, l3, l4⟩ := own_lens P G x p
    rw [hnL.out] at l1 l3
    rw [hmL.out] at l2 l4
    have hz0 := hz.out
    rw [hz0] at b1 b2 b3
    have hgt : gt < wc.heap.size := hT.lt
    have hgi : gi < wc.heap.size := hI.lt
    have hgj : gj < wc.heap.size := hJ.lt
    have t0 := hT.c 0 _ rfl
    have t1 := hT.c 1 _ rfl
    have x0 := HX1.out.c 0 _ rfl
    have x1 := HX1.out.c 1 _ rfl
    have HST := Hid.mk' (imset_any (some ⟨gi, 0, none⟩) n (n + 3) (some ⟨gj, 0, none⟩) m (m + 3) P G x p wc (pls_of_room hI hnL.out hnB hPB.out) (its_of_room hJ hmL.out hmB hGB.out))
    clear hT hI hJ hb hz0 HM HX HB k0 k1 HBd HBa HT0 hsd
    generalize stP P G x p = SP at *
    generalize stG P G x p = SG at *
    generalize stE P G x p = sq at *
    generalize hCP : cuP P G x = CP at l3
    generalize hCG : cuG P G x = CG at l4
    have HCP := Hid.mk' hCP
    have HCG := Hid.mk' hCG
    clear hCP hCG
    go_wp2_with fail
    -- Set
    refine HST.out.mono ?_
    rintro z w3 ⟨⟨u, v, rfl, ho⟩, hb⟩
    obtain ⟨au, cu, rfl⟩ := own_slice' ho.rp
    obtain ⟨av, cv, rfl⟩ := own_slice' ho.rg
    have hbx := below_boxP (w := w3) #[.slice au SP.length cu, .slice av SG.length cv] 36
    have hbb := hb.trans (hbx.mono hb.size)
    have HA3 := Hid.mk' (own_below ho.rp hbx)
    have HAG3 := Hid.mk' (own_below ho.rg hbx)
    have h8 := boxV_new w3 [.slice au SP.length cu, .slice av SG.length cv] 36
    have HM3 := Hid.mk' (HM1.out.below hbb)
    have HT3 := Hid.mk' (HT.out.below hbb)
    have HI3 := Hid.mk' (HI.out.below hbb)
    have HJ3 := Hid.mk' (HJ.out.below hbb)
    have HB3 := Hid.mk' (HBc.out.trans (hbb.mono HBc.out.size))
    have hs3 : (w3.alloc (.cells #[.slice au SP.length cu, .slice av SG.length cv] 36)).heap.size = w3.heap.size + 1 := by simp
    have hz3 := hb.size
    obtain ⟨W3, hW3⟩ : ∃ W, Hid (w3.alloc (.cells #[.slice au SP.length cu, .slice av SG.length cv] 36) = W) := ⟨_, Hid.mk' rfl⟩
    have e3 : w3.alloc (.cells [.slice au SP.length cu, .slice av SG.length cv].toArray 36) = W3 := hW3.out
    rw [e3] at h8
    rw [hW3.out] at HA3 HAG3 HM3 HT3 HI3 HJ3 HB3 hs3
    obtain ⟨g8, hg8⟩ : ∃ g, Hid (w3.heap.size = g) := ⟨_, Hid.mk' rfl⟩
    rw [hg8.out] at h8 hs3 hz3
    have H8 := Hid.mk' h8
    have t0 := HT3.out.c 0 _ rfl
    have t1 := HT3.out.c 1 _ rfl
    rw [← hW3.out] at t0 t1
    have HCU := Hid.mk' (imcut_any (some ⟨gi, 0, none⟩) n (n + 3) (some ⟨gj, 0, none⟩) m (m + 3) P G x W3 (pls_of_room HI3.out hnL.out hnB hPB.out) (its_of_room HJ3.out hmL.out hmB hGB.out))
    rw [HCP.out, HCG.out] at HCU
    clear ho hb hbx hbb h8 e3 x0 x1
    go_wp2_with fail
    rw [hW3.out, hg8.out]
    -- Cut
    refine HCU.out.mono ?_
    rintro z w4 ⟨⟨u, v, rfl, ho⟩, hb⟩
    obtain ⟨bu, du, rfl⟩ := own_slice' ho.rp
    obtain ⟨bv, dv, rfl⟩ := own_slice' ho.rg
    have hbx := below_boxP (w := w4) #[.slice bu CP.length du, .slice bv CG.length dv] 36
    have hbb := hb.trans (hbx.mono hb.size)
    have HC4 := Hid.mk' (own_below ho.rp hbx)
    have h10 := boxV_new w4 [.slice bu CP.length du, .slice bv CG.length dv] 36
    have HA4 := Hid.mk' (own_below HA3.out hbb)
    have HAG4 := Hid.mk' (own_below HAG3.out hbb)
    have H84 := Hid.mk' (H8.out.below hbb)
    have HM4 := Hid.mk' (HM3.out.below hbb)
    have HT4 := Hid.mk' (HT3.out.below hbb)
    have HI4 := Hid.mk' (HI3.out.below hbb)
    have HJ4 := Hid.mk' (HJ3.out.below hbb)
    have HB4 := Hid.mk' (HB3.out.trans (hbb.mono HB3.out.size))
    have hs4 : (w4.alloc (.cells #[.slice bu CP.length du, .slice bv CG.length dv] 36)).heap.size = w4.heap.size + 1 := by simp
    have hz4 := hb.size
    obtain ⟨W4, hW4⟩ : ∃ W, Hid (w4.alloc (.cells #[.slice bu CP.length du, .slice bv CG.length dv] 36) = W) := ⟨_, Hid.mk' rfl⟩
    have e4 : w4.alloc (.cells [.slice bu CP.length du, .slice bv CG.length dv].toArray 36) = W4 := hW4.out
    rw [e4] at h10
    rw [hW4.out] at HC4 HA4 HAG4 H84 HM4 HT4 HI4 HJ4 HB4 hs4
    obtain ⟨g10, hg10⟩ : ∃ g, Hid (w4.heap.size = g) := ⟨_, Hid.mk' rfl⟩
    rw [hg10.out] at h10 hs4 hz4
    have H10 := Hid.mk' h10
    have HPi := Hid.mk' (pls_of_room HI4.out hnL.out hnB hPB.out)
    have HGi := Hid.mk' (its_of_room HJ4.out hmL.out hmB hGB.out)
    clear t0 t1
    have t0 := HT4.out.c 0 _ rfl
    have t1 := HT4.out.c 1 _ rfl
    have k0 := HM4.out.c0
    have k1 := HM4.out.c1
    rw [← hW4.out] at t0 t1 k0 k1
    clear ho hb hbx hbb h10 e4 HCU HST
    go_wp2_with fail
    rw [hW4.out, hg10.out]
    refine (sameim_yes (some ⟨gi, 0, none⟩) n (n + 3) (some ⟨gj, 0, none⟩) m (m + 3) a0 n c a1 m e P G W4 HPi.out HGi.out HM4.out.pl HM4.out.it).mono ?_
    rintro z w5 ⟨rfl, hb⟩
    have HC5 := Hid.mk' (own_below HC4.out hb)
    have HA5 := Hid.mk' (own_below HA4.out hb)
    have HAG5 := Hid.mk' (own_below HAG4.out hb)
    have H85 := Hid.mk' (H84.out.below hb)
    have H105 := Hid.mk' (H10.out.below hb)
    have HT5 := Hid.mk' (HT4.out.below hb)
    have HI5 := Hid.mk' (HI4.out.below hb)
    have HJ5 := Hid.mk' (HJ4.out.below hb)
    have HB5 := Hid.mk' (HB4.out.trans (hb.mono HB4.out.size))
    clear hb t0 t1 k0 k1
    have t0 := HT5.out.c 0 _ rfl
    go_wp2_with fail
    refine (filledLK gi n P w5 HI5.out hnL.out hnB).mono ?_
    rintro z w6 ⟨rfl, hb⟩
    have HC6 := Hid.mk' (own_below HC5.out hb)
    have HA6 := Hid.mk' (own_below HA5.out hb)
    have HAG6 := Hid.mk' (own_below HAG5.out hb)
    have H86 := Hid.mk' (H85.out.below hb)
    have H106 := Hid.mk' (H105.out.below hb)
    have HT6 := Hid.mk' (HT5.out.below hb)
    have HI6 := Hid.mk' (HI5.out.below hb)
    have HJ6 := Hid.mk' (HJ5.out.below hb)
    have HB6 := Hid.mk' (HB5.out.trans (hb.mono HB5.out.size))
    clear hb t0
    have t1 := HT6.out.c 1 _ rfl
    go_wp2_with fail
    refine (filledNK gj m G w6 HJ6.out hmL.out hmB).mono ?_
    rintro z w7 ⟨rfl, hb⟩
    have HC7 := Hid.mk' (own_below HC6.out hb)
    have HA7 := Hid.mk' (own_below HA6.out hb)
    have HAG7 := Hid.mk' (own_below HAG6.out hb)
    have H87 := Hid.mk' (H86.out.below hb)
    have H107 := Hid.mk' (H106.out.below hb)
    have HT7 := Hid.mk' (HT6.out.below hb)
    have HI7 := Hid.mk' (HI6.out.below hb)
    have HJ7 := Hid.mk' (HJ6.out.below hb)
    have HB7 := Hid.mk' (HB6.out.trans (hb.mono HB6.out.size))
    clear hb t1
    have k0 := H87.out.c 1 _ rfl
    have k1 := H107.out.c 0 _ rfl
    have HCLN := Hid.mk' (fun X (hb : Below w7.heap.size w7 X) => cloneNA wc.heap.size av cv SG X (own_below HAG7.out hb) (by omega))
    have HCLL := Hid.mk' (fun X (hb : Below w7.heap.size w7 X) => cloneLA W3.heap.size bu du CP X (own_below HC7.out hb) (by omega))
    have HBd : Hid (Below w7.heap.size w7 w7.drew) := (Below.refl _ w7).drew
    have kd0 := H87.out.drew.c 1 _ rfl
    have kd1 := H107.out.drew.c 0 _ rfl
    go_wp2_with fail
    go_region_held3 (fun X => X.cell? ⟨g8, 1, none⟩ = some (.slice av SG.length cv) ∧ X.cell? ⟨g10, 0, none⟩ = some (.slice bu CP.length du)) (first | with_reducible exact ⟨p0, p1⟩ | with_reducible exact ⟨k0, k1⟩ | with_reducible exact ⟨kd0, kd1⟩) (first
      | (go_at_call 22; refine (HCLN.out _ (by with_reducible exact HBd.out)).mono ?_; rintro z wN ⟨⟨vN, rfl, ho⟩, hb⟩; obtain ⟨aN, cN, rfl⟩ := own_slice' ho; have HoN := Hid.mk' ho; have HBN := Hid.mk' hb; have HB1 : Hid (Below w7.heap.size w7 wN) := Hid.mk' (HBd.out.trans (hb.mono HBd.out.size)); clear hb ho; have p0 := (H87.out.below HB1.out).c 1 _ rfl; have p1 := (H107.out.below HB1.out).c 0 _ rfl)
      | (go_at_call 23; refine (HCLL.out _ (by with_reducible exact HB1.out)).mono ?_; rintro z wL ⟨⟨vL, rfl, ho⟩, hb⟩; obtain ⟨aL, cL, rfl⟩ := own_slice' ho; have HoL := Hid.mk' ho; have HBL := Hid.mk' hb; have HBR : Hid (Below w7.heap.size w7 wL) := Hid.mk' (HB1.out.trans (hb.mono HB1.out.size)); clear hb ho; have p0 := (H87.out.below HBR.out).c 1 _ rfl; have p1 := (H107.out.below HBR.out).c 0 _ rfl)
      | fail)
    have hzN : w7.heap.size ≤ wN.heap.size := HB1.out.size
    have hg10 : g10 < w7.heap.size := H107.out.lt
    have hg8w : g8 < w7.heap.size := H87.out.lt
    have HN8 := Hid.mk' (own_below HoN.out HBL.out)
    have HC8 := Hid.mk' (own_below HC7.out HBR.out)
    have HA8 := Hid.mk' (own_below HA7.out HBR.out)
    have HAG8 := Hid.mk' (own_below HAG7.out HBR.out)
    have H88 := Hid.mk' (H87.out.below HBR.out)
    have H108 := Hid.mk' (H107.out.below HBR.out)
    have HT8 := Hid.mk' (HT7.out.below HBR.out)
    have HI8 := Hid.mk' (HI7.out.below HBR.out)
    have HJ8 := Hid.mk' (HJ7.out.below HBR.out)
    have HB8 := Hid.mk' (HB7.out.trans (HBR.out.mono HB7.out.size))
    have hg7 : gi < w7.heap.size := HI7.out.lt
    have hgj7 : gj < w7.heap.size := HJ7.out.lt
    have haL := HA4.out.lt
    have hC7 := HA7.out.lt
    clear p0 p1 k0 k1 kd0 kd1
    have t0 := HT8.out.c 0 _ rfl
    go_wp2_with fail
    -- spoil At
    refine (spoilLK gi n P wL HI8.out hnL.out hnB).mono ?_
    rintro z w9 ⟨rfl, hg⟩
    have HN9 := Hid.mk' (own_lowR HN8.out hg (by show gi < w7.heap.size; exact hg7))
    have HL9 := Hid.mk' (own_lowR HoL.out hg (by omega))
    have HC9 := Hid.mk' (own_lowR HC8.out hg (by omega))
    have HA9 := Hid.mk' (own_lowR HA8.out hg hgi)
    have HAG9 := Hid.mk' (own_lowR HAG8.out hg hgi)
    have H89 := Hid.mk' (H88.out.grown hg (fun e => by have := Option.some.inj e; omega))
    have H109 := Hid.mk' (H108.out.grown hg (fun e => by have := Option.some.inj e; omega))
    have HT9 := Hid.mk' (HT8.out.grown hg (fun e => by have := Option.some.inj e; omega))
    have HJ9 := Hid.mk' (HJ8.out.grown hg (fun e => by have := Option.some.inj e; omega))
    have HB9 := Hid.mk' (HB8.out.grown hg HB8.out.size (fun k e => by cases e; omega))
    clear hg t0
    have t1 := HT9.out.c 1 _ rfl
    go_wp2_with fail
    -- spoil Gens
    refine (spoilNK gj m G w9 HJ9.out hmL.out hmB).mono ?_
    rintro z w10 ⟨rfl, hg⟩
    have HN10 := Hid.mk' (own_lowR HN9.out hg (by show gj < w7.heap.size; exact hgj7))
    have HL10 := Hid.mk' (own_lowR HL9.out hg (by omega))
    have HC10 := Hid.mk' (own_lowR HC9.out hg (by omega))
    have HA10 := Hid.mk' (own_lowR HA9.out hg hgj)
    have HAG10 := Hid.mk' (own_lowR HAG9.out hg hgj)
    have H810 := Hid.mk' (H89.out.grown hg (fun e => by have := Option.some.inj e; omega))
    have H1010 := Hid.mk' (H109.out.grown hg (fun e => by have := Option.some.inj e; omega))
    have HB10 := Hid.mk' (HB9.out.grown hg HB9.out.size (fun k e => by cases e; omega))
    clear hg t1
    have k0 := H810.out.c 1 _ rfl
    go_wp2_with fail
    refine (equalN_any av aN SG.length cv SG.length cN SG SG w10 (rd_ownR HAG10.out).1 (rd_ownR HN10.out).1 rfl rfl (by omega) (by omega)).mono ?_
    rintro z w11 ⟨⟨b, rfl, hbt⟩, r11, rfl⟩
    rw [hbt.yes rfl]
    have hbd : Below w10.heap.size w10 (w10.drewN r11) := ⟨rfl, rfl, rfl, Nat.le_refl _, fun _ _ => rfl⟩
    have HL11 := Hid.mk' (own_below HL10.out hbd)
    have HC11 := Hid.mk' (own_below HC10.out hbd)
    have HA11 := Hid.mk' (own_below HA10.out hbd)
    have H811 := Hid.mk' (H810.out.below hbd)
    have H1011 := Hid.mk' (H1010.out.below hbd)
    have HB11 := Hid.mk' (HB10.out.trans (hbd.mono HB10.out.size))
    obtain ⟨W11, hW11⟩ : ∃ W, Hid (w10.drewN r11 = W) := ⟨_, Hid.mk' rfl⟩
    rw [hW11.out] at HL11 HC11 HA11 H811 H1011 HB11 ⊢
    clear hbt hbd k0
    have k1 := H1011.out.c 0 _ rfl
    go_wp2_with fail
    refine (equalL_any bu aL CP.length du CP.length cL CP CP W11 (rd_ownR HC11.out).1 (rd_ownR HL11.out).1 rfl rfl (by omega) (by omega)).mono ?_
    rintro z w12 ⟨⟨b, rfl, hbt⟩, r12, rfl⟩
    rw [hbt.yes rfl]
    have hbd : Below W11.heap.size W11 (W11.drewN r12) := ⟨rfl, rfl, rfl, Nat.le_refl _, fun _ _ => rfl⟩
    have HL12 := Hid.mk' (own_below HL11.out hbd)
    have HC12 := Hid.mk' (own_below HC11.out hbd)
    have HA12 := Hid.mk' (own_below HA11.out hbd)
    have H812 := Hid.mk' (H811.out.below hbd)
    have H1012 := Hid.mk' (H1011.out.below hbd)
    have HB12 := Hid.mk' (HB11.out.trans (hbd.mono HB11.out.size))
    obtain ⟨W12, hW12⟩ : ∃ W, Hid (W11.drewN r12 = W) := ⟨_, Hid.mk' rfl⟩
    rw [hW12.out] at HL12 HC12 HA12 H812 H1012 HB12 ⊢
    clear hbt hbd k1
    have k0 := H812.out.c 0 _ rfl
    go_wp2_with fail
    -- spoil a.At
    refine (spoilLV wc.heap.size SP.length (.slice au SP.length cu) (plC SP) W12 HA12.out (fun a c e => by cases e; have := (rd_ownR HA12.out).2; unfold maxLen at this; omega)).mono ?_
    rintro z w13 ⟨rfl, hg⟩
    have haU : ∀ k, (Value.slice au SP.length cu).ownBlock = some k → wc.heap.size ≤ k ∧ k < W3.heap.size := fun k e => ⟨(HA3.out.lt k e).1, (HA3.out.lt k e).2⟩
    have HL13 := Hid.mk' (own_hiR HL12.out hg (fun k e => by have := (haU k e).2; omega))
    have HC13 := Hid.mk' (own_hiR HC12.out hg (fun k e => (haU k e).2))
    have H1013 := Hid.mk' (H1012.out.grown hg (fun e => by have := (haU _ e).2; omega))
    have HB13 := Hid.mk' (HB12.out.grown hg HB12.out.size (fun k e => by have := (haU k e).1; have := HBc.out.size; omega))
    clear hg k0
    have k1 := H1013.out.c 0 _ rfl
    go_wp2_with fail
    refine (equalL_any bu aL CP.length du CP.length cL CP CP w13 (rd_ownR HC13.out).1 (rd_ownR HL13.out).1 rfl rfl (by omega) (by omega)).mono ?_
    rintro z w14 ⟨⟨b, rfl, hbt⟩, r14, rfl⟩
    rw [hbt.yes rfl]
    have hbd : Below w13.heap.size w13 (w13.drewN r14) := ⟨rfl, rfl, rfl, Nat.le_refl _, fun _ _ => rfl⟩
    have HB14 := Hid.mk' (HB13.out.trans (hbd.mono HB13.out.size))
    obtain ⟨W14, hW14⟩ : ∃ W, Hid (w13.drewN r14 = W) := ⟨_, Hid.mk' rfl⟩
    rw [hW14.out] at HB14 ⊢
    clear hbt hbd k1
    go_wp2_with fail
    refine (fresh_any W14).mono ?_
    rintro z w15 ⟨⟨fa, fb, rfl, _⟩, hb⟩
    have HB15 := Hid.mk' (HB14.out.trans (hb.mono HB14.out.size))
    clear hb
    have hfld := fun w => fieldAt 48 48 48 48 (some ⟨fa, 0, none⟩) (some ⟨fb, 0, none⟩) w
    go_wp2_with fail
    go_ret
    exact ⟨rfl, HB15.out⟩
end Go.Proofs.Ytbailfianjmflab
