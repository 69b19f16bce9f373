/- The law OpsJoins, walked. -/
import Derived.Test.YtlcfccnkplmpgabOwnRes
import Derived.Test.YtlcfccnkplmpgabOUntilWalks
import Derived.Test.YtlcfccnkplmpgabConcatOps
import Derived.Test.YtlcfccnkplmpgabRowBo
import Derived.Test.YtlcfccnkplmpgabDiskSyncWalks
import Derived.Test.YtlcfccnkplmpgabSameDkWalks
namespace Go.Proofs.Ytlcfccnkplmpgab
open Go.RowKit

theorem two_slicesJ (w : World) (x y : Value) (t : TypeId) : (w.alloc (.cells #[x, y] t)).cell? ⟨w.heap.size, 0, none⟩ = some x ∧ (w.alloc (.cells #[x, y] t)).cell? ⟨w.heap.size, 1, none⟩ = some y ∧ w.heap.size < (w.alloc (.cells #[x, y] t)).heap.size :=
  ⟨(box2_new w x y t).c0, (box2_new w x y t).c1, (box2_new w x y t).lt⟩
theorem lit_oneJ {w : World} {s : ByteArray} : Rd (w.alloc (.cells #[.string s] 9)) (some ⟨w.heap.size, 0, none⟩) 1 1 (stC [s]) :=
  ⟨rfl, fun _ => ⟨w.heap.size, 0, rfl, by simp, fun j u hj => by
    rw [Nat.zero_add, World.cell?_alloc_new]
    match j with
    | 0 => exact hj
    | j + 1 => simp [stC] at hj⟩⟩
theorem lit_opJ {w : World} {k x : Int} {s : ByteArray} (hk : 0 ≤ k ∧ k ≤ 8) (hx : 0 ≤ x ∧ x ≤ 8) (hs : s.size ≤ 8) : Ops (w.alloc (.cells #[.int .i64 k, .int .i64 x, .string s] 44)) (some ⟨w.heap.size, 0, none⟩) 1 1 [⟨k, x, s⟩] :=
  ⟨rfl, by omega, ⟨rfl, fun _ => ⟨w.heap.size, 0, rfl, by simp, fun j u hj => by
    rw [Nat.zero_add, World.cell?_alloc_new]
    match j with
    | 0 => exact hj
    | 1 => exact hj
    | 2 => exact hj
    | j + 3 => simp [opC, op3] at hj⟩⟩, fun o ho => by rw [List.mem_singleton.1 ho]; simp only; omega, fun o ho => by rw [List.mem_singleton.1 ho]; simp only; omega, by omega, by unfold maxLen; omega, fun e => by cases e⟩
theorem lit_diskJ (w : World) (s : ByteArray) (hs : s.size ≤ 8) : Dk (w.alloc (.cells #[.string s] 9)) (some ⟨w.heap.size, 0, none⟩) 1 none 0 [s] [] :=
  ⟨rfl, rfl, by omega, by omega, lit_oneJ, Rd.nil _ _ _, fun p hp => by simp at hp, fun x hx => by rw [List.mem_singleton.1 hx]; omega, fun p hp => by simp at hp⟩
theorem known_joins : playE [(⟨#[]⟩ : ByteArray)] [] [⟨1, 0, ⟨#[97]⟩⟩] = (0, [⟨#[]⟩], [⟨0, ⟨#[97]⟩⟩]) := by rfl
theorem ops_of_own {w : World} {N n : Nat} {v : Value} {l : List Opp} (h : w.ownsRow N 44 3 v n (opC l)) (hn : l.length = n) (hb : n ≤ 8796093022208) (ho : OpB l) (ht : ∀ o ∈ l, o.tx.size ≤ 140737488355328) : ∃ a0 cap, v = .slice a0 n cap ∧ Ops w a0 n cap l := by
  obtain ⟨a0, cap, e, h1, h2, h3, hr⟩ := Rd.of_own h
  exact ⟨a0, cap, e, hn, hb, hr, ho, ht, h1, h2, h3⟩
theorem join_bad {C : List ByteArray} {P : List Pt} {l M : List Opp} {q : Int} {C' : List ByteArray} {P' : List Pt} (h : playE C P l = (q, C', P')) (hq : q ≠ 0) : playE C P (l ++ M) = (q, C', P') := by
  unfold playE at h ⊢
  by_cases h0 : chkD C P = 0
  · rw [if_pos h0] at h ⊢
    rw [plays_append, h, if_neg hq]
  · rw [if_neg h0] at h ⊢
    exact h
theorem join_ok {C : List ByteArray} {P : List Pt} {l M : List Opp} {C' : List ByteArray} {P' : List Pt} (h : playE C P l = (0, C', P')) (hok : OkD C' P') : playE C P (l ++ M) = playE C' P' M := by
  have hr : playE C' P' M = plays M C' P' := by unfold playE; rw [if_pos (ok_chkD hok)]
  rw [hr]
  unfold playE at h ⊢
  by_cases h0 : chkD C P = 0
  · rw [if_pos h0] at h ⊢
    rw [plays_append, h, if_pos rfl]
  · rw [if_neg h0] at h
    exact absurd (congrArg Prod.fst h) h0
theorem size_al (w : World) (o : Obj) : (w.alloc o).heap.size = w.heap.size + 1 := by simp
theorem size_da (w : World) (o : Obj) : (w.drew.alloc o).heap.size = w.heap.size + 1 := size_al w.drew o
theorem box2_two {w : World} {g : Nat} {x y : Value} (h : Box2 w g x y) : w.cell? ⟨g, 0, none⟩ = some x ∧ w.cell? ⟨g, 1, none⟩ = some y := ⟨h.c0, h.c1⟩
/-- behind a call whose answer is stored in a new block -/
def JFin (wa wx : World) (q : Int) (C : List ByteArray) (P : List Pt) (p e : Value) : Prop :=
  ∃ g u0 un uc u1 um ud, p = .pointer (some ⟨g, 0, none⟩) ∧ e = .int .i64 q ∧ Box2 wx g (.slice u0 un uc) (.slice u1 um ud) ∧ Dk wx u0 un u1 um (if q = 0 then C else []) (if q = 0 then P else []) ∧ Below wa.heap.size wa wx
theorem jfin_new {wa w3 : World} {N : Nat} {q : Int} {C : List ByteArray} {P : List Pt} {u0 u1 : Option Addr} {un uc um ud : Nat} (h : OwnRes w3 N q (.slice u0 un uc) (.slice u1 um ud) C P) (hb : Below wa.heap.size wa w3) (t : TypeId) :
    JFin wa (w3.alloc (.cells #[.slice u0 un uc, .slice u1 um ud] t)) q C P (.pointer (some ⟨w3.heap.size, 0, none⟩)) (.int .i64 q) :=
  ⟨_, u0, un, uc, u1, um, ud, rfl, rfl, box2_new w3 _ _ t, (h.below ((Below.refl _ _).alloc (Nat.le_refl _) _)).dk, hb.alloc hb.size _⟩
theorem jfin_set {wa w3 : World} {N g : Nat} {q : Int} {C : List ByteArray} {P : List Pt} {u0 u1 : Option Addr} {un uc um ud : Nat} (h : OwnRes w3 N q (.slice u0 un uc) (.slice u1 um ud) C P) (hb : Below wa.heap.size wa w3) (hz : Box2 w3 g (.slice none 0 0) (.slice none 0 0)) (hg : g < N) (hw : wa.heap.size ≤ g) :
    JFin wa ((w3.setCell ⟨g, 0, none⟩ (.slice u0 un uc)).setCell ⟨g, 1, none⟩ (.slice u1 um ud)) q C P (.pointer (some ⟨g, 0, none⟩)) (.int .i64 q) :=
  ⟨_, u0, un, uc, u1, um, ud, rfl, rfl, hz.set _ _, (h.set2 hg _ _).dk, (hb.setCell (p := ⟨g, 0, none⟩) hw _).setCell (p := ⟨g, 1, none⟩) hw _⟩
set_option maxRecDepth 20000 in
set_option maxHeartbeats 4000000 in
theorem opsJoins_walk (a0 : Option Addr) (n c : Nat) (b0 : Option Addr) (m d : Nat) (C : List ByteArray) (P : List Pt) (al : Option Addr) (nl capl : Nat) (l : List Opp) (am : Option Addr) (ml capm : Nat) (M : List Opp) (w : World) (h : Dk w a0 n b0 m C P) (hli : OpsIn w al nl capl l) (hmi : OpsIn w am ml capm M) :
    Calls Try.prog 7 #[.agg #[.slice a0 n c, .slice b0 m d], .slice al nl capl, .slice am ml capm] w fun e w' => e = .returned (.bool true) ∧ Below w.heap.size w w' := by
  obtain ⟨W0, hW0⟩ : ∃ W, Hid (w.alloc (.cells #[.slice a0 n c, .slice b0 m d] 25) = W) := ⟨_, Hid.mk' rfl⟩
  have HB0 : Hid (Below w.heap.size w W0) := by rw [← hW0.out]; exact (Below.refl _ w).alloc (Nat.le_refl _) _
  have HX0 : Hid (Box2 W0 w.heap.size (.slice a0 n c) (.slice b0 m d)) := by rw [← hW0.out]; exact box2_new w _ _ _
  have HKw := Hid.mk' h
  have HLw := Hid.mk' hli.ops
  have HMw := Hid.mk' hmi.ops
  have hnl := hli.nM
  have hnm := hmi.nM
  have hkn := Hid.mk' known_joins
  obtain ⟨⟨qA, CA, PA⟩, hA⟩ : ∃ R, Hid (playE C P (l ++ M) = R) := ⟨_, Hid.mk' rfl⟩
  have hAok : Hid (qA = 0 → OkD CA PA) := fun h0 => by have := @play_ok C P (l ++ M); rw [hA.out] at this; exact this h0
  obtain ⟨⟨qB, CB, PB⟩, hB⟩ : ∃ R, Hid (playE C P l = R) := ⟨_, Hid.mk' rfl⟩
  have hBok : Hid (qB = 0 → OkD CB PB) := fun h0 => by have := @play_ok C P l; rw [hB.out] at this; exact this h0
  clear h hli hmi
  go_enter Try.func7, Try.ntmps7
  go_wp2_with fail
  rw [hW0.out]
  have hs0 : Hid (W0.heap.size = w.heap.size + 1) := by rw [← hW0.out]; show _ = _; simp
  obtain ⟨wl0, hwl0⟩ : ∃ W, Hid (W0.alloc (.cells #[.string ⟨#[]⟩] 9) = W) := ⟨_, Hid.mk' rfl⟩
  have hld : Dk wl0 (some ⟨w.heap.size + 1, 0, none⟩) 1 none 0 [⟨#[]⟩] [] := by rw [← hwl0.out, ← hs0.out]; exact lit_diskJ W0 ⟨#[]⟩ (by decide)
  have hsl0 : Hid (wl0.heap.size = w.heap.size + 1 + 1) := by rw [← hwl0.out]; show _ = _; simp [hs0.out]
  have HBl0 : Hid (Below W0.heap.size W0 wl0) := by rw [← hwl0.out]; exact (Below.refl _ _).alloc (Nat.le_refl _) _
  rw [hwl0.out]
  obtain ⟨wl, hwl⟩ : ∃ W, Hid (wl0.alloc (.cells #[.int .i64 1, .int .i64 0, .string ⟨#[97]⟩] 44) = W) := ⟨_, Hid.mk' rfl⟩
  have HLo : Hid (Ops wl (some ⟨w.heap.size + 1 + 1, 0, none⟩) 1 1 [⟨1, 0, ⟨#[97]⟩⟩]) := by rw [← hwl.out, ← hsl0.out]; exact lit_opJ (by decide) (by decide) (by decide)
  have HBl1 : Hid (Below wl0.heap.size wl0 wl) := by rw [← hwl.out]; exact (Below.refl _ _).alloc (Nat.le_refl _) _
  have HLd := Hid.mk' (hld.below HBl1.out)
  have HBl : Hid (Below W0.heap.size W0 wl) := HBl0.out.trans (HBl1.out.mono HBl0.out.size)
  have HBlw := Hid.mk' (HB0.out.trans (HBl.out.mono HB0.out.size))
  rw [hwl.out]
  clear hld
  refine (oPlay_any (some ⟨w.heap.size + 1, 0, none⟩) none 1 1 0 0 _ _ (some ⟨w.heap.size + 1 + 1, 0, none⟩) 1 1 _ wl HLd.out HLo.out).mono ?_
  rintro e w1 ⟨hans, hb1⟩
  rw [hkn.out] at hans
  obtain ⟨x0, xn, xc, x1, xm, xd, rfl, hres⟩ := ores_of_ans hans (fun _ => by have := @play_ok [(⟨#[]⟩ : ByteArray)] [] [⟨1, 0, ⟨#[97]⟩⟩]; rw [hkn.out] at this; exact this rfl)
  have hd := hres.yes rfl
  have hxm : xm = 1 := by simpa using hd.mP.symm
  subst hxm
  have HB1 := Hid.mk' (HBlw.out.trans (hb1.mono HBlw.out.size))
  have HX1 := Hid.mk' ((HX0.out.below HBl.out).below hb1)
  clear hans hb1 hres hd
  go_wp2_with fail
  obtain ⟨wa, hwa⟩ : ∃ W, Hid (w1.alloc (.cells #[.slice x0 xn xc, .slice x1 1 xd] 25) = W) := ⟨_, Hid.mk' rfl⟩
  have HBa : Hid (Below w1.heap.size w1 wa) := by rw [← hwa.out]; exact (Below.refl _ _).alloc (Nat.le_refl _) _
  have HXa := Hid.mk' (HX1.out.below HBa.out)
  have HBaw := Hid.mk' (HB1.out.trans (HBa.out.mono HB1.out.size))
  rw [hwa.out]
  have HKa := Hid.mk' (HKw.out.below HBaw.out)
  have HLa := Hid.mk' (HLw.out.below HBaw.out)
  have HMa := Hid.mk' (HMw.out.below HBaw.out)
  have d0 := HXa.out.c0
  have d1 := HXa.out.c1
  have hza : w.heap.size < wa.heap.size := HXa.out.lt
  have HBA : Hid (Below wa.heap.size wa (wa.alloc (.cells #[.slice al nl capl, .slice am ml capm] 41)).drew) := ((Below.refl _ wa).alloc (Nat.le_refl _) _).drew
  have HBAZ : Hid (Below wa.heap.size wa ((wa.alloc (.cells #[.slice al nl capl, .slice am ml capm] 41)).alloc (.cells #[.slice none 0 0, .slice none 0 0] 25)).drew) := (((Below.refl _ wa).alloc (Nat.le_refl _) _).alloc (by rw [size_al]; omega) _).drew
  have HBZA : Hid (Below wa.heap.size wa ((wa.alloc (.cells #[.slice none 0 0, .slice none 0 0] 25)).alloc (.cells #[.slice al nl capl, .slice am ml capm] 41)).drew) := (((Below.refl _ wa).alloc (Nat.le_refl _) _).alloc (by rw [size_al]; omega) _).drew
  have hopb : Hid (OpB (l ++ M)) := fun o ho => (List.mem_append.1 ho).elim (HLw.out.oB o) (HMw.out.oB o)
  have hopt : Hid (∀ o ∈ l ++ M, o.tx.size ≤ 140737488355328) := fun o ho => (List.mem_append.1 ho).elim (HLw.out.tB o) (HMw.out.tB o)
  have hnn : nl + ml ≤ 8796093022208 := by omega
  have hp1 := (box2_new wa (.slice al nl capl) (.slice am ml capm) 41).drew
  have HC1 := Hid.mk' (concatO_any wa.heap.size al am nl capl ml capm l M (wa.alloc (.cells #[.slice al nl capl, .slice am ml capm] 41)).drew hp1.c0 hp1.c1 hp1.lt (HLa.out.below HBA.out).rd (HMa.out.below HBA.out).rd HLa.out.nL HMa.out.nL HLa.out.nc HMa.out.nc hnn)
  have hp2 := ((box2_new wa (.slice al nl capl) (.slice am ml capm) 41).alloc (.cells #[.slice none 0 0, .slice none 0 0] 25)).drew
  have HC2 := Hid.mk' (concatO_any wa.heap.size al am nl capl ml capm l M ((wa.alloc (.cells #[.slice al nl capl, .slice am ml capm] 41)).alloc (.cells #[.slice none 0 0, .slice none 0 0] 25)).drew hp2.c0 hp2.c1 hp2.lt (HLa.out.below HBAZ.out).rd (HMa.out.below HBAZ.out).rd HLa.out.nL HMa.out.nL HLa.out.nc HMa.out.nc hnn)
  have hp3 := (box2_new (wa.alloc (.cells #[.slice none 0 0, .slice none 0 0] 25)) (.slice al nl capl) (.slice am ml capm) 41).drew
  rw [size_al] at hp3
  have HC3 := Hid.mk' (concatO_any (wa.heap.size + 1) al am nl capl ml capm l M ((wa.alloc (.cells #[.slice none 0 0, .slice none 0 0] 25)).alloc (.cells #[.slice al nl capl, .slice am ml capm] 41)).drew hp3.c0 hp3.c1 hp3.lt (HLa.out.below HBZA.out).rd (HMa.out.below HBZA.out).rd HLa.out.nL HMa.out.nL HLa.out.nc HMa.out.nc hnn)
  clear hp1 hp2 hp3
  go_upto_region 3 with fail
  go_cut [9, 10] (fun p e wx => JFin wa wx qA CA PA p e)
  case first =>
    go_region_held3 (fun X => X.cell? ⟨w.heap.size, 0, none⟩ = some (.slice a0 n c) ∧ X.cell? ⟨w.heap.size, 1, none⟩ = some (.slice b0 m d)) (exact box2_two (by first | exact HX3.out | exact HX3.out.alloc _ | exact (HX3.out.setOther (by simp only; omega) _).setOther (by simp only; omega) _ | exact HX2.out | exact HX2.out.alloc _ | exact HXa.out | exact HXa.out.drew | exact HXa.out.alloc _ | exact (HXa.out.alloc _).drew | exact (HXa.out.alloc _).alloc _ | exact ((HXa.out.alloc _).alloc _).drew | exact HXa.out.drew.alloc _ | exact (HXa.out.drew.alloc _).alloc _)) (first
      | (go_at_call_of 23 (Value.slice (some ⟨wa.heap.size, 0, none⟩) 2 2); refine HC1.out.mono ?_; rintro e w2 ⟨⟨v, rfl, hown⟩, hb2⟩; obtain ⟨aj, capj, rfl, hoj⟩ := ops_of_own hown (by rw [List.length_append, HLa.out.nL, HMa.out.nL]) (by omega) hopb.out hopt.out; have HOj := Hid.mk' hoj; have HB2 : Hid (Below wa.heap.size wa w2) := HBA.out.trans (hb2.mono HBA.out.size); have hs2 := HB2.out.size; have HX2 := Hid.mk' (HXa.out.below HB2.out); clear hown hb2 hoj)
      | (go_at_call_of 23 (Value.slice (some ⟨wa.heap.size, 0, none⟩) 2 2); refine HC2.out.mono ?_; rintro e w2 ⟨⟨v, rfl, hown⟩, hb2⟩; obtain ⟨aj, capj, rfl, hoj⟩ := ops_of_own hown (by rw [List.length_append, HLa.out.nL, HMa.out.nL]) (by omega) hopb.out hopt.out; have HOj := Hid.mk' hoj; have HB2 : Hid (Below wa.heap.size wa w2) := HBAZ.out.trans (hb2.mono HBAZ.out.size); have hs2 := HB2.out.size; have HX2 := Hid.mk' (HXa.out.below HB2.out); have hzb := (box2_new (wa.alloc (.cells #[.slice al nl capl, .slice am ml capm] 41)) (.slice none 0 0) (.slice none 0 0) 25).drew.below hb2; rw [size_al] at hzb; have HZ2 := Hid.mk' hzb; have hwz : wa.heap.size ≤ wa.heap.size + 1 := Nat.le_succ _; clear hown hb2 hoj hzb)
      | (go_at_call 23; refine HC3.out.mono ?_; rintro e w2 ⟨⟨v, rfl, hown⟩, hb2⟩; obtain ⟨aj, capj, rfl, hoj⟩ := ops_of_own hown (by rw [List.length_append, HLa.out.nL, HMa.out.nL]) (by omega) hopb.out hopt.out; have HOj := Hid.mk' hoj; have HB2 : Hid (Below wa.heap.size wa w2) := HBZA.out.trans (hb2.mono HBZA.out.size); have hs2 := HB2.out.size; have HX2 := Hid.mk' (HXa.out.below HB2.out); have HZ2 := Hid.mk' (((box2_new wa (.slice none 0 0) (.slice none 0 0) 25).alloc (.cells #[.slice al nl capl, .slice am ml capm] 41)).drew.below hb2); have hwz : wa.heap.size ≤ wa.heap.size := Nat.le_refl _; clear hown hb2 hoj)
      | (go_at_call 18; refine (oPlay_any a0 b0 n c m d C P aj (nl + ml) capj (l ++ M) _ (HKa.out.below HB2.out) HOj.out).mono ?_; rintro e w3 ⟨hans, hb3⟩; rw [hA.out] at hans; obtain ⟨u0, un, uc, u1, um, ud, rfl, hres⟩ := ores_of_ans hans hAok.out; have HU3 := Hid.mk' hres; have HB3 : Hid (Below wa.heap.size wa w3) := HB2.out.trans (hb3.mono HB2.out.size); have HX3 := Hid.mk' (HXa.out.below HB3.out); have HC := Hid.mk' (jfin_new HU3.out HB3.out 25); (first | (have z0 := (HZ2.out.below hb3).c0; have z1 := (HZ2.out.below hb3).c1; have z2 := (HZ2.out.below hb3).f0; have z3 := (HZ2.out.below hb3).f1; have HS := Hid.mk' (jfin_set HU3.out HB3.out (HZ2.out.below hb3) HZ2.out.lt hwz)) | skip); clear hans hb3 hres)
      | (go_at_call 18; have HB2z := HB2.out.alloc hs2 (.cells #[.slice none 0 0, .slice none 0 0] 25); refine (oPlay_any a0 b0 n c m d C P aj (nl + ml) capj (l ++ M) _ (HKa.out.below HB2z) (HOj.out.below ((Below.refl _ _).alloc (Nat.le_refl _) _))).mono ?_; rintro e w3 ⟨hans, hb3⟩; rw [hA.out] at hans; obtain ⟨u0, un, uc, u1, um, ud, rfl, hres⟩ := ores_of_ans hans hAok.out; have HU3 := Hid.mk' hres; have HB3 : Hid (Below wa.heap.size wa w3) := HB2z.trans (hb3.mono HB2z.size); have HX3 := Hid.mk' (HXa.out.below HB3.out); have HZ3 := Hid.mk' ((box2_new w2 (.slice none 0 0) (.slice none 0 0) 25).below hb3); have z0 := HZ3.out.c0; have z1 := HZ3.out.c1; have z2 := HZ3.out.f0; have z3 := HZ3.out.f1; have HS := Hid.mk' (jfin_set HU3.out HB3.out HZ3.out (box2_new w2 (.slice none 0 0) (.slice none 0 0) 25).lt hs2); clear hans hb3 hres HB2z)
      | fail)
    all_goals
      go_wp2_with fail
      go_meet
      first | exact HS.out | exact HC.out
  case rest =>
    obtain ⟨g, u0, un, uc, u1, um, ud, rfl, rfl, hbx, hdk, hbF⟩ := hcut
    have HG := Hid.mk' hbx
    have HD := Hid.mk' hdk
    have HBF := Hid.mk' hbF
    have HXF := Hid.mk' (HXa.out.below hbF)
    clear hbx hdk hbF d0 d1 hopb hopt HC1 HC2 HC3 hnn
    have d0 := HXF.out.c0
    have d1 := HXF.out.c1
    go_wp2_with fail
    refine (oPlay_any a0 b0 n c m d C P al nl capl l _ (HKa.out.below HBF.out) (HLa.out.below HBF.out)).mono ?_
    rintro e w4 ⟨hans, hb4⟩
    rw [hB.out] at hans
    obtain ⟨y0, yn, yc, y1, ym, yd, rfl, hres⟩ := ores_of_ans hans hBok.out
    have HR4 := Hid.mk' hres
    have HB4 : Hid (Below wa.heap.size wa w4) := HBF.out.trans (hb4.mono HBF.out.size)
    have HX4 := Hid.mk' (HXF.out.below hb4)
    have HG4 := Hid.mk' (HG.out.below hb4)
    have HD4 := Hid.mk' (HD.out.below hb4)
    clear hans hb4 hres d0 d1
    have g0 := HG4.out.c0
    have g1 := HG4.out.c1
    have hgl : g < w4.heap.size := HG4.out.lt
    by_cases hq0 : qB = 0
    · subst hq0
      have hym : PB.length = ym := (HR4.out.yes rfl).mP
      have HOk := Hid.mk' (hBok.out rfl)
      have hym4 : ym ≤ 400 := by rw [← hym]; exact HOk.out.m
      have hAB : Hid (playE CB PB M = (qA, CA, PA)) := (join_ok hB.out HOk.out).symm.trans hA.out
      have HM := Hid.mk' hym
      clear hym g0 g1 hgl
      go_wp2_with fail
      obtain ⟨wb, hwb⟩ : ∃ W, Hid (w4.alloc (.cells #[.slice y0 yn yc, .slice y1 ym yd] 25) = W) := ⟨_, Hid.mk' rfl⟩
      have HBb : Hid (Below w4.heap.size w4 wb) := by rw [← hwb.out]; exact (Below.refl _ _).alloc (Nat.le_refl _) _
      have HYb : Hid (Box2 wb w4.heap.size (.slice y0 yn yc) (.slice y1 ym yd)) := by rw [← hwb.out]; exact box2_new w4 _ _ _
      have HRb := Hid.mk' ((HR4.out.yes rfl).below HBb.out)
      have HGb := Hid.mk' (HG4.out.below HBb.out)
      have HDb := Hid.mk' (HD4.out.below HBb.out)
      have HXb := Hid.mk' (HX4.out.below HBb.out)
      have HBbw := Hid.mk' (HB4.out.trans (HBb.out.mono HB4.out.size))
      rw [hwb.out]
      refine (oPlay_any y0 y1 yn yc ym yd CB PB am ml capm M wb HRb.out (HMa.out.below HBbw.out)).mono ?_
      rintro e w5 ⟨hans, hb5⟩
      rw [hAB.out] at hans
      obtain ⟨v0, vn, vc, v1, vm, vd, rfl, hres⟩ := ores_of_ans hans hAok.out
      have HV5 := Hid.mk' hres
      have HB5 : Hid (Below wa.heap.size wa w5) := HBbw.out.trans (hb5.mono HBbw.out.size)
      have HX5 := Hid.mk' (HXb.out.below hb5)
      have HG5 := Hid.mk' (HGb.out.below hb5)
      have HD5 := Hid.mk' (HDb.out.below hb5)
      have HY5 := Hid.mk' (HYb.out.below hb5)
      have HR5 := Hid.mk' (HRb.out.below hb5)
      clear hans hb5 hres
      have g0 := HG5.out.c0
      have g1 := HG5.out.c1
      have hgl : g < w5.heap.size := HG5.out.lt
      have tqq : (qA != qA) = false := by simp
      go_wp2_with fail
      refine (sameDk_any u0 u1 un uc um ud _ _ v0 v1 vn vc vm vd _ _ _ (HD5.out.below ((Below.refl _ _).alloc (Nat.le_refl _) _)) (HV5.out.below ((Below.refl _ _).alloc (Nat.le_refl _) _)).dk).mono ?_
      rintro e w6 ⟨⟨b, rfl, hb⟩, hb6⟩
      obtain rfl := hb.yes ⟨rfl, rfl⟩
      have HB56 : Hid (Below w5.heap.size w5 w6) := ((Below.refl _ _).alloc (Nat.le_refl _) _).trans (hb6.mono (by rw [size_al]; omega))
      have HB6 : Hid (Below wa.heap.size wa w6) := HB5.out.trans (HB56.out.mono HB5.out.size)
      have HX6 := Hid.mk' (HX5.out.below HB56.out)
      have HY6 := Hid.mk' (HY5.out.below HB56.out)
      have HR6 := Hid.mk' (HR5.out.below HB56.out)
      have h0 := HY6.out.c0
      have h1 := HY6.out.c1
      have hmk := fun w => make_bos ym (by omega) w
      have HRo : Hid (RowBo (w6.alloc (.cells (madeCells #[.bool false] ym) 4)) w6.heap.size ym (fun j => decide (j < 0))) := (rowBo_made w6 ym _).congr fun i _ => by simp
      have HBo1 : Hid (Below w6.heap.size w6 (w6.alloc (.cells (madeCells #[.bool false] ym) 4))) := (Below.refl _ _).alloc (Nat.le_refl _) _
      clear hb hb6 g0 g1 hgl tqq
      go_wp2_with fail
      clear hmk h0 h1
      go_loopw [81] (fun i wv => ∃ k : Nat, k ≤ ym ∧ i = .int .i64 k ∧ RowBo wv w6.heap.size ym (fun j => decide (j < k)) ∧ Below w6.heap.size w6 wv) (fun i _ => ym - (intOf i).toNat)
      case atStart => exact ⟨0, Nat.zero_le _, rfl, HRo.out, HBo1.out⟩
      case round =>
        obtain ⟨j, hj, rfl, hrow, hbel⟩ := hrel
        by_cases hlt2 : j < ym
        · have c := hrow.cell j hlt2
          have fz := hrow.open' j hlt2
          have HR : Hid (RowBo (wr.setCell ⟨w6.heap.size, j, none⟩ (.bool true)) w6.heap.size ym (fun t => decide (t < j + 1))) := (hrow.set j hlt2 true).congr fun i hi => by
            by_cases e : i = j
            · subst e; rw [if_pos rfl]; simp
            · rw [if_neg e]
              by_cases h : i < j
              · rw [decide_eq_true h, decide_eq_true (by omega)]
              · rw [decide_eq_false h, decide_eq_false (by omega)]
          have HBx := Hid.mk' (hbel.setCell (p := ⟨w6.heap.size, j, none⟩) (Nat.le_refl _) (.bool true))
          clear hrow hbel
          go_wp2_with fail
          go_roundw
          case rel => exact ⟨j + 1, by omega, by go_num, HR.out, HBx.out⟩
          case measure => simp [intOf]; omega
        · have HEv : Hid (Bos wr (some ⟨w6.heap.size, 0, none⟩) ym (List.replicate ym true)) := (hrow.congr fun i hi => by rw [decide_eq_true (by omega)]).bos (by omega)
          have HBv : Hid (Below wa.heap.size wa wr) := HB6.out.trans (hbel.mono HB6.out.size)
          have HXv := Hid.mk' (HX6.out.below hbel)
          have HYv := Hid.mk' (HY6.out.below hbel)
          have HRv := Hid.mk' (HR6.out.below hbel)
          have v0' := HXv.out.c0
          have v1' := HXv.out.c1
          have HU : Hid (untE C P l (nl : Int) (List.replicate ym true) = (0, landL allL PB 0 CB, [])) := by
            show _ = _
            have ht : l.take ((nl : Int)).toNat = l := by rw [Int.toNat_natCast]; exact List.take_of_length_le (by rw [HLw.out.nL]; omega)
            rw [untE_ok (C' := CB) (P' := PB) (by omega) (by rw [ht]; exact hB.out), ← HM.out, land_every]
          obtain ⟨Cs, hCs⟩ : ∃ Cs, Hid (landL allL PB 0 CB = Cs) := ⟨_, Hid.mk' rfl⟩
          have HOs : Hid (OkD Cs []) := by rw [← hCs.out]; exact ok_land HOk.out allL
          rw [hCs.out] at HU
          clear hrow hbel
          go_wp2_with fail
          refine (ountil_any a0 b0 n c m d C P al nl capl l (nl : Int) (some ⟨w6.heap.size, 0, none⟩) ym ym (List.replicate ym true) wr (HKa.out.below HBv.out) (HLa.out.below HBv.out) HEv.out).mono ?_
          rintro e w7 ⟨hans, hb7⟩
          rw [HU.out] at hans
          obtain ⟨p0, pn, pc, p1, pm, pd, rfl, hres⟩ := ores_of_ans hans (fun _ => HOs.out)
          have HP7 := Hid.mk' (hres.yes rfl)
          have HB7 : Hid (Below wa.heap.size wa w7) := HBv.out.trans (hb7.mono HBv.out.size)
          have HY7 := Hid.mk' (HYv.out.below hb7)
          have HR7 := Hid.mk' (HRv.out.below hb7)
          clear hans hb7 hres v0' v1'
          have h0 := HY7.out.c0
          have h1 := HY7.out.c1
          have hz7 : w4.heap.size < w7.heap.size := HY7.out.lt
          go_wp2_with fail
          obtain ⟨W8, hW8⟩ : ∃ W, Hid (w7.alloc (.cells #[.slice p0 pn pc, .slice p1 pm pd] 25) = W) := ⟨_, Hid.mk' rfl⟩
          have HBa8 : Hid (Below w7.heap.size w7 W8) := by rw [← hW8.out]; exact (Below.refl _ _).alloc (Nat.le_refl _) _
          have HQ8 : Hid (Box2 W8 w7.heap.size (.slice p0 pn pc) (.slice p1 pm pd)) := by rw [← hW8.out]; exact box2_new w7 _ _ _
          have HP8 := Hid.mk' (HP7.out.below HBa8.out)
          have HB8 := Hid.mk' (HB7.out.trans (HBa8.out.mono HB7.out.size))
          rw [hW8.out]
          clear h0 h1 hz7
          refine (dsync_any y0 y1 yn yc ym yd CB PB W8 (HR7.out.below HBa8.out)).mono ?_
          rintro e w9 ⟨hans, hb9⟩
          rw [hCs.out, ok_chkD HOk.out] at hans
          obtain ⟨r0, rn, rc, r1, rm, rd, rfl, hres⟩ := ores_of_ans hans (fun _ => HOs.out)
          have HR9 := Hid.mk' (hres.yes rfl)
          have HB9 := Hid.mk' (HB8.out.trans (hb9.mono HB8.out.size))
          have HQ9 := Hid.mk' (HQ8.out.below hb9)
          have HP9 := Hid.mk' (HP8.out.below hb9)
          clear hans hb9 hres
          have h0 := HQ9.out.c0
          have h1 := HQ9.out.c1
          have hz9 : w7.heap.size < w9.heap.size := HQ9.out.lt
          go_wp2_with fail
          refine (sameDk_any p0 p1 pn pc pm pd Cs [] r0 r1 rn rc rm rd Cs [] _ (HP9.out.below ((Below.refl _ _).alloc (Nat.le_refl _) _)) (HR9.out.below ((Below.refl _ _).alloc (Nat.le_refl _) _))).mono ?_
          rintro e w10 ⟨⟨b, rfl, hb⟩, hb10⟩
          obtain rfl := hb.yes ⟨rfl, rfl⟩
          have HB10 : Hid (Below wa.heap.size wa w10) := HB9.out.trans ((((Below.refl _ w9).alloc (Nat.le_refl _) (.cells #[.slice r0 rn rc, .slice r1 rm rd] 25)).trans (hb10.mono (by rw [size_al]; omega))).mono HB9.out.size)
          clear hb hb10
          go_wp2_with fail
          go_ret
          exact ⟨rfl, HBaw.out.trans (HB10.out.mono HBaw.out.size)⟩
    · have tq : (qB != 0) = true := by rw [bne_iff_ne]; exact hq0
      have hbad : playE C P (l ++ M) = (qB, CB, PB) := join_bad hB.out hq0
      have hqa : qA = qB := congrArg Prod.fst (hA.out.symm.trans hbad)
      subst hqa
      have HDn : Hid (Dk w4 u0 un u1 um [] []) := by have h := HD4.out; rw [if_neg hq0, if_neg hq0] at h; exact h
      have HRn := Hid.mk' (HR4.out.no hq0)
      have tqe : (qA == qA) = true := by simp
      clear hbad hq0
      go_wp2_with fail
      refine (sameDk_any u0 u1 un uc um ud [] [] y0 y1 yn yc ym yd [] [] _ (HDn.out.below ((Below.refl _ _).alloc (Nat.le_refl _) _)) (HRn.out.below ((Below.refl _ _).alloc (Nat.le_refl _) _))).mono ?_
      rintro e w6 ⟨⟨b, rfl, hb⟩, hb6⟩
      obtain rfl := hb.yes ⟨rfl, rfl⟩
      have HB6 : Hid (Below wa.heap.size wa w6) := HB4.out.trans ((((Below.refl _ w4).alloc (Nat.le_refl _) (.cells #[.slice y0 yn yc, .slice y1 ym yd] 25)).trans (hb6.mono (by rw [size_al]; omega))).mono HB4.out.size)
      clear hb hb6
      go_wp2_with fail
      go_ret
      exact ⟨rfl, HBaw.out.trans (HB6.out.mono HBaw.out.size)⟩
end Go.Proofs.Ytlcfccnkplmpgab
