/- The law ImapSays, walked. -/
import Derived.Test.YtbailfianjmflaaRImWriteWalks
import Derived.Test.YtbailfianjmflaaMapAt
import Derived.Test.YtbailfianjmflaaSameImWalks
import Derived.Deep.RegionHeldLaw
namespace Go.Proofs.Ytbailfianjmflaa
open Go.RowKit

theorem cell_alM {X : World} {g k : Nat} {v : Value} (h : X.cell? ⟨g, k, none⟩ = some v) (o : Obj) : (X.alloc o).cell? ⟨g, k, none⟩ = some v :=
  ((Below.refl X.heap.size X).alloc (Nat.le_refl _) o).cell (p := ⟨g, k, none⟩) (block_lt_of_cell h) |>.trans h
theorem below_al2 (X : World) (A B : Obj) : Below X.heap.size X ((X.alloc A).alloc B) := ((Below.refl _ X).alloc (Nat.le_refl _) A).alloc (by simp) B
theorem mk_plas (X : World) {MA : Array Value} (hA : MA.toList = plC frA) : Pls (X.alloc (.cells MA 26)) (some ⟨X.heap.size, 0, none⟩) 48 48 frA := by
  have hr : (X.alloc (.cells MA 26)).ownsRow X.heap.size 26 2 (.slice (some ⟨X.heap.size, 0, none⟩) 48 48) 48 (plC frA) := row_of_blockM (Nat.le_refl _) (heap_alloc_new X _) (by unfold maxLen; omega) (by rw [← Array.length_toList, hA, plC_length, frA, List.length_replicate]) hA
  obtain ⟨a, c, e1, h⟩ := pls_own hr (by rw [frA, List.length_replicate]) (by omega) fresh_plaB
  cases e1
  exact h
theorem mk_ints (X : World) {MB : Array Value} (hB : MB.toList = inC frG) : Its (X.alloc (.cells MB 3)) (some ⟨X.heap.size, 0, none⟩) 48 48 frG := by
  have hr : (X.alloc (.cells MB 3)).ownsRow X.heap.size 3 1 (.slice (some ⟨X.heap.size, 0, none⟩) 48 48) 48 (inC frG) := row_of_blockM (Nat.le_refl _) (heap_alloc_new X _) (by unfold maxLen; omega) (by rw [← Array.length_toList, hB, inC_length, frG, List.length_replicate]) hB
  obtain ⟨a, c, e1, h⟩ := its_own hr (by rw [frG, List.length_replicate]) (by omega) fresh_i64
  cases e1
  exact h
theorem sz_al (X : World) (o : Obj) : (X.alloc o).heap.size = X.heap.size + 1 := by simp
theorem pls_at {X : World} {a b : Option Addr} {l : List Pla} (h : Pls X a 48 48 l) (e : a = b) : Pls X b 48 48 l := e ▸ h
theorem its_at {X : World} {a b : Option Addr} {l : List Int} (h : Its X a 48 48 l) (e : a = b) : Its X b 48 48 l := e ▸ h
set_option maxRecDepth 20000 in
set_option maxHeartbeats 6400000 in
theorem imapSays_walk (a0 : Option Addr) (n c : Nat) (a1 : Option Addr) (m e : Nat) (P : List Pla) (G : List Int) (w : World) (h : Pls w a0 n c P) (h' : Its w a1 m e G) :
    Calls Try.prog 5 #[.agg #[.slice a0 n c, .slice a1 m e]] w fun z w' => z = .returned (.bool true) ∧ Below w.heap.size w w' := by
  have H1 := Hid.mk' (fun w h h' => imwrite_any a0 n c a1 m e P G w h h')
  have H2 := Hid.mk' (fun w h h' => rimaptext_any a0 n c a1 m e P G w h h')
  have H3 := Hid.mk' (fun w h h' => imcheck_any a0 n c a1 m e P G w h h')
  have H4 := Hid.mk' (fun w h h' => rimap_any a0 n c a1 m e P G w h h')
  obtain ⟨T, hT⟩ : ∃ T, Hid (wmT P G = T) := ⟨_, Hid.mk' rfl⟩
  obtain ⟨q, hq⟩ : ∃ q, Hid (chkM P G = q) := ⟨_, Hid.mk' rfl⟩
  rw [hT.out, hq.out] at H1 H2
  rw [hq.out] at H3 H4
  have hm0 := MapAt.new h h' 39
  have hb0 := below_boxP (w := w) #[.slice a0 n c, .slice a1 m e] 39
  obtain ⟨W0, hW0⟩ : ∃ W, Hid (w.alloc (.cells #[.slice a0 n c, .slice a1 m e] 39) = W) := ⟨_, Hid.mk' rfl⟩
  rw [hW0.out] at hm0 hb0
  have HM := Hid.mk' hm0
  have HB := Hid.mk' hb0
  have mk1 := make_plas
  have mk2 := make_ints
  have HA := Hid.mk' made_plas
  have HBB := Hid.mk' made_ints
  generalize madeCells #[.int .i64 0, .int .i64 0] 96 = MA at *
  generalize madeCells #[.int .i64 0] 48 = MB at *
  clear hm0 hb0 h h'
  go_enter Try.func5, Try.ntmps5
  go_wp2_with fail
  rw [hW0.out]
  refine (H1.out W0 HM.out.pl HM.out.it).mono ?_
  rintro z w1 ⟨rfl, hb⟩
  have HM1 := Hid.mk' (HM.out.below hb)
  have HB1 := Hid.mk' (HB.out.trans (hb.mono HB.out.size))
  have c0 := HM1.out.c0
  have c1 := HM1.out.c1
  clear hb
  go_wp2_with fail
  refine (H2.out w1 HM1.out.pl HM1.out.it).mono ?_
  rintro z w2 ⟨rfl, hb⟩
  have HM2 := Hid.mk' (HM1.out.below hb)
  have HB2 := Hid.mk' (HB1.out.trans (hb.mono HB1.out.size))
  have c0 := HM2.out.c0
  have c1 := HM2.out.c1
  clear hb
  go_wp2_with fail
  go_region_held3 (fun X => X.cell? ⟨w.heap.size, 0, none⟩ = some (.slice a0 n c) ∧ X.cell? ⟨w.heap.size, 1, none⟩ = some (.slice a1 m e)) (first | (with_reducible exact ⟨pe0, pe1⟩) | (with_reducible exact ⟨sA0, sA1⟩) | (with_reducible exact ⟨sB0, sB1⟩) | (with_reducible exact ⟨sAB0, sAB1⟩) | (with_reducible exact ⟨sBA0, sBA1⟩) | (with_reducible exact ⟨rA0, rA1⟩) | (with_reducible exact ⟨rB0, rB1⟩) | (with_reducible exact ⟨rAB0, rAB1⟩) | (with_reducible exact ⟨rBA0, rBA1⟩) | (with_reducible exact ⟨p0, p1⟩) | exact ⟨c0, c1⟩) (first
      | (go_at_call 20; refine (H3.out _ (by first | exact HM3.out.pl | exact (HM2.out.below ((Below.refl _ w2).drew)).pl) (by first | exact HM3.out.it | exact (HM2.out.below ((Below.refl _ w2).drew)).it)).mono ?_; rintro z w3 ⟨rfl, hb⟩; have HB3 : Hid (Below w2.heap.size w2 w3) := (by first | exact HB3.out.trans (hb.mono HB3.out.size) | exact ((Below.refl _ w2).drew).trans hb | fail); clear hb; have HM3 := Hid.mk' (HM2.out.below HB3.out); have p0 := HM3.out.c0; have p1 := HM3.out.c1)
      | (go_at_call 21; refine (H4.out _ (by first | exact HM3.out.pl | exact (HM2.out.below ((Below.refl _ w2).drew)).pl) (by first | exact HM3.out.it | exact (HM2.out.below ((Below.refl _ w2).drew)).it)).mono ?_; rintro z w3 ⟨rfl, hb⟩; have HB3 : Hid (Below w2.heap.size w2 w3) := (by first | exact HB3.out.trans (hb.mono HB3.out.size) | exact ((Below.refl _ w2).drew).trans hb | fail); clear hb; have HM3 := Hid.mk' (HM2.out.below HB3.out); have p0 := HM3.out.c0; have p1 := HM3.out.c1; have rA0 := cell_alM p0 (.cells MA 26); have rA1 := cell_alM p1 (.cells MA 26); have rB0 := cell_alM p0 (.cells MB 3); have rB1 := cell_alM p1 (.cells MB 3); have rAB0 := cell_alM rA0 (.cells MB 3); have rAB1 := cell_alM rA1 (.cells MB 3); have rBA0 := cell_alM rB0 (.cells MA 26); have rBA1 := cell_alM rB1 (.cells MA 26); have HQA := Hid.mk' (show Below w3.heap.size w3 (w3.alloc (.cells MA 26)) from (Below.refl _ w3).alloc (Nat.le_refl _) _); have HQB := Hid.mk' (show Below w3.heap.size w3 (w3.alloc (.cells MB 3)) from (Below.refl _ w3).alloc (Nat.le_refl _) _); have HQAB := Hid.mk' (show Below w3.heap.size w3 ((w3.alloc (.cells MA 26)).alloc (.cells MB 3)) from ((Below.refl _ w3).alloc (Nat.le_refl _) _).alloc (by simp) _); have HQBA := Hid.mk' (show Below w3.heap.size w3 ((w3.alloc (.cells MB 3)).alloc (.cells MA 26)) from ((Below.refl _ w3).alloc (Nat.le_refl _) _).alloc (by simp) _))
      | (go_at_call 23; with_reducible refine (fresh_any w3).mono ?_; rintro z w4 ⟨hfr, hb⟩; obtain ⟨fa, fc, fb, fe, rfl, hf1, hf2⟩ := fresh_maps hfr; have HB4 := Hid.mk' hb; have HM4 := Hid.mk' (HM3.out.below HB4.out); have p0 := HM4.out.c0; have p1 := HM4.out.c1; have HF1 := Hid.mk' hf1; have HF2 := Hid.mk' hf2; clear hb hfr hf1 hf2; have sA0 := cell_alM p0 (.cells MA 26); have sA1 := cell_alM p1 (.cells MA 26); have sAB0 := cell_alM sA0 (.cells MB 3); have sAB1 := cell_alM sA1 (.cells MB 3); have sB0 := cell_alM p0 (.cells MB 3); have sB1 := cell_alM p1 (.cells MB 3); have sBA0 := cell_alM sB0 (.cells MA 26); have sBA1 := cell_alM sB1 (.cells MA 26))
      | (go_at_call 22; have BL := Hid.mk' (show Below w4.heap.size w4 ((w4.alloc (.cells MA 26)).alloc (.cells MB 3)) from ((Below.refl _ w4).alloc (Nat.le_refl _) (.cells MA 26)).alloc (by simp) (.cells MB 3)); have G1 := Hid.mk' (HF1.out.below BL.out); have G2 := Hid.mk' (HF2.out.below BL.out); have G3 := Hid.mk' (show Pls ((w4.alloc (.cells MA 26)).alloc (.cells MB 3)) (some ⟨w4.heap.size, 0, none⟩) 48 48 frA from pls_at (b := some ⟨w4.heap.size, 0, none⟩) ((mk_plas w4 HA.out).below ((Below.refl _ _).alloc (Nat.le_refl _) (.cells MB 3))) (by simp)); have G4 := Hid.mk' (show Its ((w4.alloc (.cells MA 26)).alloc (.cells MB 3)) (some ⟨w4.heap.size + 1, 0, none⟩) 48 48 frG from its_at (b := some ⟨w4.heap.size + 1, 0, none⟩) (mk_ints (w4.alloc (.cells MA 26)) HBB.out) (by simp)); with_reducible refine (sameim_yes fa 48 fc fb 48 fe (some ⟨w4.heap.size, 0, none⟩) 48 48 (some ⟨w4.heap.size + 1, 0, none⟩) 48 48 frA frG ((w4.alloc (.cells MA 26)).alloc (.cells MB 3)) G1.out G2.out G3.out G4.out).mono ?_; rintro z w5 ⟨rfl, hb⟩; have HB5 := Hid.mk' (show Below w3.heap.size w3 w5 from HB4.out.trans ((BL.out.trans (hb.mono BL.out.size)).mono HB4.out.size)); have HM5 := Hid.mk' (HM3.out.below HB5.out); have pe0 := HM5.out.c0; have pe1 := HM5.out.c1; clear hb)
      | (go_at_call 22; have BL := Hid.mk' (show Below w4.heap.size w4 ((w4.alloc (.cells MB 3)).alloc (.cells MA 26)) from ((Below.refl _ w4).alloc (Nat.le_refl _) (.cells MB 3)).alloc (by simp) (.cells MA 26)); have G1 := Hid.mk' (HF1.out.below BL.out); have G2 := Hid.mk' (HF2.out.below BL.out); have G3 := Hid.mk' (show Pls ((w4.alloc (.cells MB 3)).alloc (.cells MA 26)) (some ⟨w4.heap.size + 1, 0, none⟩) 48 48 frA from pls_at (b := some ⟨w4.heap.size + 1, 0, none⟩) (mk_plas (w4.alloc (.cells MB 3)) HA.out) (by simp)); have G4 := Hid.mk' (show Its ((w4.alloc (.cells MB 3)).alloc (.cells MA 26)) (some ⟨w4.heap.size, 0, none⟩) 48 48 frG from its_at (b := some ⟨w4.heap.size, 0, none⟩) ((mk_ints w4 HBB.out).below ((Below.refl _ _).alloc (Nat.le_refl _) (.cells MA 26))) (by simp)); with_reducible refine (sameim_yes fa 48 fc fb 48 fe (some ⟨w4.heap.size + 1, 0, none⟩) 48 48 (some ⟨w4.heap.size, 0, none⟩) 48 48 frA frG ((w4.alloc (.cells MB 3)).alloc (.cells MA 26)) G1.out G2.out G3.out G4.out).mono ?_; rintro z w5 ⟨rfl, hb⟩; have HB5 := Hid.mk' (show Below w3.heap.size w3 w5 from HB4.out.trans ((BL.out.trans (hb.mono BL.out.size)).mono HB4.out.size)); have HM5 := Hid.mk' (HM3.out.below HB5.out); have pe0 := HM5.out.c0; have pe1 := HM5.out.c1; clear hb)
      | (go_at_call 23; with_reducible refine (fresh_any (w3.alloc (.cells MA 26))).mono ?_; rintro z w4 ⟨hfr, hb⟩; obtain ⟨fa, fc, fb, fe, rfl, hf1, hf2⟩ := fresh_maps hfr; have HB4 := Hid.mk' (HQA.out.trans (hb.mono HQA.out.size)); have HM4 := Hid.mk' (HM3.out.below HB4.out); have p0 := HM4.out.c0; have p1 := HM4.out.c1; have HPA := Hid.mk' (pls_at (b := some ⟨w3.heap.size, 0, none⟩) ((mk_plas w3 HA.out).below hb) (by simp)); have HF1 := Hid.mk' hf1; have HF2 := Hid.mk' hf2; clear hb hfr hf1 hf2; have sB0 := cell_alM p0 (.cells MB 3); have sB1 := cell_alM p1 (.cells MB 3))
      | (go_at_call 22; have BL := Hid.mk' (show Below w4.heap.size w4 (w4.alloc (.cells MB 3)) from (Below.refl _ w4).alloc (Nat.le_refl _) (.cells MB 3)); have G1 := Hid.mk' (HF1.out.below BL.out); have G2 := Hid.mk' (HF2.out.below BL.out); have G3 := Hid.mk' (show Pls (w4.alloc (.cells MB 3)) (some ⟨w3.heap.size, 0, none⟩) 48 48 frA from HPA.out.below ((Below.refl _ w4).alloc (Nat.le_refl _) (.cells MB 3))); have G4 := Hid.mk' (show Its (w4.alloc (.cells MB 3)) (some ⟨w4.heap.size, 0, none⟩) 48 48 frG from its_at (b := some ⟨w4.heap.size, 0, none⟩) (mk_ints w4 HBB.out) (by simp)); with_reducible refine (sameim_yes fa 48 fc fb 48 fe (some ⟨w3.heap.size, 0, none⟩) 48 48 (some ⟨w4.heap.size, 0, none⟩) 48 48 frA frG (w4.alloc (.cells MB 3)) G1.out G2.out G3.out G4.out).mono ?_; rintro z w5 ⟨rfl, hb⟩; have HB5 := Hid.mk' (show Below w3.heap.size w3 w5 from HB4.out.trans ((BL.out.trans (hb.mono BL.out.size)).mono HB4.out.size)); have HM5 := Hid.mk' (HM3.out.below HB5.out); have pe0 := HM5.out.c0; have pe1 := HM5.out.c1; clear hb)
      | (go_at_call 23; with_reducible refine (fresh_any (w3.alloc (.cells MB 3))).mono ?_; rintro z w4 ⟨hfr, hb⟩; obtain ⟨fa, fc, fb, fe, rfl, hf1, hf2⟩ := fresh_maps hfr; have HB4 := Hid.mk' (HQB.out.trans (hb.mono HQB.out.size)); have HM4 := Hid.mk' (HM3.out.below HB4.out); have p0 := HM4.out.c0; have p1 := HM4.out.c1; have HPB := Hid.mk' (its_at (b := some ⟨w3.heap.size, 0, none⟩) ((mk_ints w3 HBB.out).below hb) (by simp)); have HF1 := Hid.mk' hf1; have HF2 := Hid.mk' hf2; clear hb hfr hf1 hf2; have sA0 := cell_alM p0 (.cells MA 26); have sA1 := cell_alM p1 (.cells MA 26))
      | (go_at_call 22; have BL := Hid.mk' (show Below w4.heap.size w4 (w4.alloc (.cells MA 26)) from (Below.refl _ w4).alloc (Nat.le_refl _) (.cells MA 26)); have G1 := Hid.mk' (HF1.out.below BL.out); have G2 := Hid.mk' (HF2.out.below BL.out); have G3 := Hid.mk' (show Pls (w4.alloc (.cells MA 26)) (some ⟨w4.heap.size, 0, none⟩) 48 48 frA from pls_at (b := some ⟨w4.heap.size, 0, none⟩) (mk_plas w4 HA.out) (by simp)); have G4 := Hid.mk' (show Its (w4.alloc (.cells MA 26)) (some ⟨w3.heap.size, 0, none⟩) 48 48 frG from HPB.out.below ((Below.refl _ w4).alloc (Nat.le_refl _) (.cells MA 26))); with_reducible refine (sameim_yes fa 48 fc fb 48 fe (some ⟨w4.heap.size, 0, none⟩) 48 48 (some ⟨w3.heap.size, 0, none⟩) 48 48 frA frG (w4.alloc (.cells MA 26)) G1.out G2.out G3.out G4.out).mono ?_; rintro z w5 ⟨rfl, hb⟩; have HB5 := Hid.mk' (show Below w3.heap.size w3 w5 from HB4.out.trans ((BL.out.trans (hb.mono BL.out.size)).mono HB4.out.size)); have HM5 := Hid.mk' (HM3.out.below HB5.out); have pe0 := HM5.out.c0; have pe1 := HM5.out.c1; clear hb)
      | (go_at_call 23; with_reducible refine (fresh_any ((w3.alloc (.cells MA 26)).alloc (.cells MB 3))).mono ?_; rintro z w4 ⟨hfr, hb⟩; obtain ⟨fa, fc, fb, fe, rfl, hf1, hf2⟩ := fresh_maps hfr; have HB4 := Hid.mk' (HQAB.out.trans (hb.mono HQAB.out.size)); have HM4 := Hid.mk' (HM3.out.below HB4.out); have p0 := HM4.out.c0; have p1 := HM4.out.c1; have HPA := Hid.mk' (pls_at (b := some ⟨w3.heap.size, 0, none⟩) (((mk_plas w3 HA.out).below ((Below.refl _ _).alloc (Nat.le_refl _) (.cells MB 3))).below hb) (by simp)); have HPB := Hid.mk' (its_at (b := some ⟨w3.heap.size + 1, 0, none⟩) ((mk_ints (w3.alloc (.cells MA 26)) HBB.out).below hb) (by simp)); have HF1 := Hid.mk' hf1; have HF2 := Hid.mk' hf2; clear hb hfr hf1 hf2)
      | (go_at_call 22; have BL := Hid.mk' (show Below w4.heap.size w4 w4 from Below.refl _ w4); have G1 := Hid.mk' (HF1.out.below BL.out); have G2 := Hid.mk' (HF2.out.below BL.out); have G3 := Hid.mk' (show Pls w4 (some ⟨w3.heap.size, 0, none⟩) 48 48 frA from HPA.out.below (Below.refl _ w4)); have G4 := Hid.mk' (show Its w4 (some ⟨w3.heap.size + 1, 0, none⟩) 48 48 frG from HPB.out.below (Below.refl _ w4)); with_reducible refine (sameim_yes fa 48 fc fb 48 fe (some ⟨w3.heap.size, 0, none⟩) 48 48 (some ⟨w3.heap.size + 1, 0, none⟩) 48 48 frA frG w4 G1.out G2.out G3.out G4.out).mono ?_; rintro z w5 ⟨rfl, hb⟩; have HB5 := Hid.mk' (show Below w3.heap.size w3 w5 from HB4.out.trans ((BL.out.trans (hb.mono BL.out.size)).mono HB4.out.size)); have HM5 := Hid.mk' (HM3.out.below HB5.out); have pe0 := HM5.out.c0; have pe1 := HM5.out.c1; clear hb)
      | (go_at_call 23; with_reducible refine (fresh_any ((w3.alloc (.cells MB 3)).alloc (.cells MA 26))).mono ?_; rintro z w4 ⟨hfr, hb⟩; obtain ⟨fa, fc, fb, fe, rfl, hf1, hf2⟩ := fresh_maps hfr; have HB4 := Hid.mk' (HQBA.out.trans (hb.mono HQBA.out.size)); have HM4 := Hid.mk' (HM3.out.below HB4.out); have p0 := HM4.out.c0; have p1 := HM4.out.c1; have HPB := Hid.mk' (its_at (b := some ⟨w3.heap.size, 0, none⟩) (((mk_ints w3 HBB.out).below ((Below.refl _ _).alloc (Nat.le_refl _) (.cells MA 26))).below hb) (by simp)); have HPA := Hid.mk' (pls_at (b := some ⟨w3.heap.size + 1, 0, none⟩) ((mk_plas (w3.alloc (.cells MB 3)) HA.out).below hb) (by simp)); have HF1 := Hid.mk' hf1; have HF2 := Hid.mk' hf2; clear hb hfr hf1 hf2)
      | (go_at_call 22; have BL := Hid.mk' (show Below w4.heap.size w4 w4 from Below.refl _ w4); have G1 := Hid.mk' (HF1.out.below BL.out); have G2 := Hid.mk' (HF2.out.below BL.out); have G3 := Hid.mk' (show Pls w4 (some ⟨w3.heap.size + 1, 0, none⟩) 48 48 frA from HPA.out.below (Below.refl _ w4)); have G4 := Hid.mk' (show Its w4 (some ⟨w3.heap.size, 0, none⟩) 48 48 frG from HPB.out.below (Below.refl _ w4)); with_reducible refine (sameim_yes fa 48 fc fb 48 fe (some ⟨w3.heap.size + 1, 0, none⟩) 48 48 (some ⟨w3.heap.size, 0, none⟩) 48 48 frA frG w4 G1.out G2.out G3.out G4.out).mono ?_; rintro z w5 ⟨rfl, hb⟩; have HB5 := Hid.mk' (show Below w3.heap.size w3 w5 from HB4.out.trans ((BL.out.trans (hb.mono BL.out.size)).mono HB4.out.size)); have HM5 := Hid.mk' (HM3.out.below HB5.out); have pe0 := HM5.out.c0; have pe1 := HM5.out.c1; clear hb)
      | fail)
  all_goals
    go_wp2_with fail
    go_ret
    exact ⟨rfl, HB2.out.trans ((HB3.out.trans (HB5.out.mono HB3.out.size)).mono HB2.out.size)⟩
end Go.Proofs.Ytbailfianjmflaa
