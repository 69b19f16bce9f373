import Derived.Test.YtbakgobgjfhhhaaDoorPmaj
import Derived.Test.YtbakgobgjfhhhaaDoorPmab
import Derived.Test.YtbakgobgjfhhhaaDoorPmaf
import Derived.Test.YtbakgobgjfhhhaaDoorGetWalks
import Derived.BigRegion

/- What imap.Read answers. -/
namespace Go.Proofs.YtbakgobgjfhhhaaDoor
open Go.RowKit

theorem empty_isM (b : ByteArray) : b.toList.isEmpty = decide (b.size = 0) := by
  rw [ByteArray.toList_eq]
  have h : b.data.toList.length = b.size := by rw [Array.length_toList]; rfl
  rw [← h]
  cases b.data.toList with
  | nil => rfl
  | cons x t => rfl
/-- a list's block is not below -/
def LowA (N : Nat) (a : Option Addr) : Prop := ∀ q, a = some q → N ≤ q.block
theorem LowA.mono {N M : Nat} {a : Option Addr} (h : LowA N a) (hm : M ≤ N) : LowA M a := fun q hq => Nat.le_trans hm (h q hq)
theorem LowA.none (N : Nat) : LowA N Option.none := fun q hq => by cases hq
theorem low_own {w : World} {N size n c m : Nat} {e : TypeId} {a : Option Addr} {xs : List Value} (h : w.ownsRow N e size (.slice a n c) m xs) : LowA N a := by
  intro q hq
  rcases h.2 with ⟨h1, _⟩ | ⟨g, cap, cur, h1, h2, _⟩
  · cases h1; cases hq
  · cases h1; cases hq; exact h2
/-- what Read answers -/
def RdMA (w' : World) (s : List UInt8) (z : Ending) : Prop := ∃ a c b e, z = .returned (.tuple #[.agg #[.slice a (rdP s).length c, .slice b (rdG s).length e], .int .i64 (rdME s)]) ∧ Pls w' a (rdP s).length c (rdP s) ∧ Its w' b (rdG s).length e (rdG s)
/-- and the lists are new -/
def RdMB (N : Nat) (w' : World) (s : List UInt8) (z : Ending) : Prop := ∃ a c b e, z = .returned (.tuple #[.agg #[.slice a (rdP s).length c, .slice b (rdG s).length e], .int .i64 (rdME s)]) ∧ Pls w' a (rdP s).length c (rdP s) ∧ Its w' b (rdG s).length e (rdG s) ∧ LowA N a ∧ LowA N b
theorem RdMB.ans {N : Nat} {w' : World} {s : List UInt8} {z : Ending} (h : RdMB N w' s z) : RdMA w' s z := by
  obtain ⟨a, c, b, e, h1, h2, h3, _, _⟩ := h
  exact ⟨a, c, b, e, h1, h2, h3⟩
theorem rdMB_no {N : Nat} {w' : World} {s : List UInt8} {z : Ending} (h : readM s = none) (hz : z = .returned (.tuple #[.agg #[.slice none 0 0, .slice none 0 0], .int .i64 4])) : RdMB N w' s z := by
  obtain ⟨h1, h2, h3⟩ := rdM_no h
  refine ⟨none, 0, none, 0, ?_, ?_, ?_, LowA.none _, LowA.none _⟩
  · rw [h1, h2, h3]; exact hz
  · rw [h1]; exact pls_none w'
  · rw [h2]; exact its_none w'
theorem rdMB_yes {N : Nat} {w' : World} {s : List UInt8} {P : List Pla} {G : List Int} {a b : Option Addr} {n m c e : Nat} {z : Ending} (h : readM s = some (P, G)) (hn : P.length = n) (hm : G.length = m) (hz : z = .returned (.tuple #[.agg #[.slice a n c, .slice b m e], .int .i64 0])) (hp : Pls w' a n c P) (hg : Its w' b m e G) (ha : LowA N a) (hb : LowA N b) : RdMB N w' s z := by
  subst hn hm
  obtain ⟨h1, h2, h3⟩ := rdM_yes h
  refine ⟨a, c, b, e, ?_, ?_, ?_, ha, hb⟩
  · rw [h1, h2, h3]; exact hz
  · rw [h1]; exact hp
  · rw [h2]; exact hg
/-- the rows, as far as they have been read -/
def fillA (A : List Pla) (k : Nat) : List Pla := A ++ List.replicate (48 - k) noPl
def fillB (B : List Int) (k : Nat) : List Int := B ++ List.replicate (48 - k) 0
theorem fillA_set {A : List Pla} {k : Nat} (hA : A.length = k) (hk : k < 48) (p : Pla) : (fillA A k).set k p = fillA (A ++ [p]) (k + 1) := by
  unfold fillA
  rw [show 48 - k = (48 - (k + 1)) + 1 by omega, List.replicate_succ, List.set_append_right _ _ (by omega), hA, Nat.sub_self, List.set_cons_zero]
  simp
theorem fillB_set {B : List Int} {k : Nat} (hB : B.length = k) (hk : k < 48) (g : Int) : (fillB B k).set k g = fillB (B ++ [g]) (k + 1) := by
  unfold fillB
  rw [show 48 - k = (48 - (k + 1)) + 1 by omega, List.replicate_succ, List.set_append_right _ _ (by omega), hB, Nat.sub_self, List.set_cons_zero]
  simp
theorem fillA_full (A : List Pla) : fillA A 48 = A := by simp [fillA]
theorem fillB_full (B : List Int) : fillB B 48 = B := by simp [fillB]
structure RdS (A : List Pla) (B : List Int) (k : Nat) : Prop where
  la : A.length = k
  lb : B.length = k
  r : ∀ p ∈ A, rtB p = true
  n : ∀ g ∈ B, 0 ≤ g ∧ g ≤ 2147483647
theorem RdS.snoc {A : List Pla} {B : List Int} {k : Nat} (h : RdS A B k) {p : Pla} {g : Int} (hp : rtB p = true) (hg : 0 ≤ g ∧ g ≤ 2147483647) : RdS (A ++ [p]) (B ++ [g]) (k + 1) := by
  refine ⟨by rw [List.length_append, h.la]; rfl, by rw [List.length_append, h.lb]; rfl, fun q hq => ?_, fun x hx => ?_⟩
  · rcases List.mem_append.1 hq with h1 | h1
    · exact h.r q h1
    · rw [List.mem_singleton.1 h1]; exact hp
  · rcases List.mem_append.1 hx with h1 | h1
    · exact h.n x h1
    · rw [List.mem_singleton.1 h1]; exact hg
theorem RdS.ok {A : List Pla} {B : List Int} (h : RdS A B 48) : OkM A B := by
  refine ⟨h.la, h.lb, fun k hk => h.r _ ?_, fun k hk => h.n _ ?_⟩
  · rw [List.getD_eq_getElem?_getD, List.getElem?_eq_getElem (by rw [h.la]; exact hk)]; exact List.getElem_mem _
  · rw [List.getD_eq_getElem?_getD, List.getElem?_eq_getElem (by rw [h.lb]; exact hk)]; exact List.getElem_mem _
def sizeOfM (v : Value) : Nat := match v with
  | .string b => b.size
  | _ => 0
set_option maxRecDepth 20000 in
set_option maxHeartbeats 12800000 in
theorem imread_low (s : ByteArray) (w : World) (hs : s.size ≤ 140737488355328) :
    Calls Tryd.prog 30 #[.string s] w fun z w' => RdMB w.heap.size w' s.data.toList z ∧ Below w.heap.size w w' := by
  have HXr := boxV_new w [.slice none 0 0, .slice none 0 0] 25
  have hbr := below_boxP (w := w) #[.slice none 0 0, .slice none 0 0] 25
  have hsr : (w.alloc (.cells #[.slice none 0 0, .slice none 0 0] 25)).heap.size = w.heap.size + 1 := by simp
  obtain ⟨W0, hW0⟩ : ∃ W, Hid (w.alloc (.cells #[.slice none 0 0, .slice none 0 0] 25) = W) := ⟨_, Hid.mk' rfl⟩
  have e0 : (w.alloc (.cells [.slice none 0 0, .slice none 0 0].toArray 25)) = W0 := hW0.out
  rw [e0] at HXr
  rw [hW0.out] at hbr hsr
  have HR0 := Hid.mk' HXr
  have HB0 := Hid.mk' hbr
  have hs0 := Hid.mk' hsr
  clear HXr hbr hsr e0
  obtain ⟨L, hL⟩ : ∃ L, Hid (s.data.toList = L) := ⟨_, Hid.mk' rfl⟩
  rw [hL.out]
  go_enter Tryd.func30, Tryd.ntmps30
  go_wp2_with fail
  rw [hW0.out]
  refine (fresh_any W0).mono ?_
  rintro z w1 ⟨⟨ga, gb, rfl, ho⟩, hb⟩
  have hga := ho.rp.lt ga rfl
  have hgb := ho.rg.lt gb rfl
  have hab : ga ≠ gb := by
    rcases ho.ap with h | h
    · simp [Value.ownBlock] at h
    · simpa [Value.ownBlock] using h
  have hbx := below_boxP (w := w1) #[.slice (some ⟨ga, 0, none⟩) 48 48, .slice (some ⟨gb, 0, none⟩) 48 48] 25
  have hbm := boxV_new w1 [.slice (some ⟨ga, 0, none⟩) 48 48, .slice (some ⟨gb, 0, none⟩) 48 48] 25
  have ho1 := ho.below hbx
  have hr1 := (HR0.out.below hb).below hbx
  have hb1 := HB0.out.trans ((hb.trans (hbx.mono hb.size)).mono HB0.out.size)
  have hsm : (w1.alloc (.cells #[.slice (some ⟨ga, 0, none⟩) 48 48, .slice (some ⟨gb, 0, none⟩) 48 48] 25)).heap.size = w1.heap.size + 1 := by simp
  obtain ⟨W1, hW1⟩ : ∃ W, Hid (w1.alloc (.cells #[.slice (some ⟨ga, 0, none⟩) 48 48, .slice (some ⟨gb, 0, none⟩) 48 48] 25) = W) := ⟨_, Hid.mk' rfl⟩
  have e1 : (w1.alloc (.cells [.slice (some ⟨ga, 0, none⟩) 48 48, .slice (some ⟨gb, 0, none⟩) 48 48].toArray 25)) = W1 := hW1.out
  rw [e1] at hbm
  rw [hW1.out] at ho1 hr1 hb1 hsm
  have HO1 := Hid.mk' ho1
  have HR1 := Hid.mk' hr1
  have HB1 := Hid.mk' hb1
  have HM1 := Hid.mk' hbm
  obtain ⟨gm, hgm⟩ : ∃ g, Hid (w1.heap.size = g) := ⟨_, Hid.mk' rfl⟩
  have hs00 := hs0.out
  have hga1 : w.heap.size + 1 ≤ ga := by have := hga.1; omega
  have hgb1 : w.heap.size + 1 ≤ gb := by have := hgb.1; omega
  have hga2 : ga < w1.heap.size := hga.2
  have hgb2 : gb < w1.heap.size := hgb.2
  have c0 := HM1.out.c 0 _ rfl
  rw [hgm.out] at hga2 hgb2 hsm
  clear ho hb hbx hbm ho1 hr1 hb1 e1 hga hgb hs00
  go_wp2_with fail
  rw [hW1.out, hgm.out]
  rw [hgm.out] at c0 HM1
  go_wp2_with fail
  clear c0
  go_loopw [0, 16] (fun t i wr => ∃ (k : Nat) (B : ByteArray) (A : List Pla) (D : List Int), k ≤ 48 ∧ i = .int .i64 k ∧ t = .string B ∧ readM L = contM A D (48 - k) B.data.toList ∧ B.size ≤ s.size ∧ RdS A D k ∧ OwnIm wr (w.heap.size + 1) (.slice (some ⟨ga, 0, none⟩) 48 48) (.slice (some ⟨gb, 0, none⟩) 48 48) 48 48 (fillA A k) (fillB D k) ∧ BoxV wr gm [.slice (some ⟨ga, 0, none⟩) 48 48, .slice (some ⟨gb, 0, none⟩) 48 48] ∧ BoxV wr w.heap.size [.slice none 0 0, .slice none 0 0] ∧ Below w.heap.size w wr ∧ gm < wr.heap.size) (fun _ i _ => 48 - (intOf i).toNat)
  case atStart => exact ⟨0, s, [], [], by omega, rfl, rfl, by rw [hL.out]; rfl, Nat.le_refl _, ⟨rfl, rfl, (fun p hp => by cases hp), (fun g hg => by cases hg)⟩, HO1.out.mono (by have := hs0.out; omega), HM1.out, HR1.out, HB1.out, by omega⟩
  case round =>
    obtain ⟨k, B, A, D, hk, rfl, rfl, hrd, hBs, hst, hO, hM, hR, hB, hgr⟩ := hrel
    have HRD := Hid.mk' hrd
    have HST := Hid.mk' hst
    have HO := Hid.mk' hO
    have HM := Hid.mk' hM
    have HR := Hid.mk' hR
    have HB := Hid.mk' hB
    have hBl : Hid (B.data.toList.length = B.size) := by show _ = _; rw [Array.length_toList]; rfl
    have r0 := hR.c 0 _ rfl
    have r1 := hR.c 1 _ rfl
    have rf0 := hR.f 0 (by simp)
    have rf1 := hR.f 1 (by simp)
    have hRS := Hid.mk' (hR.set2M (.slice none 0 0) (.slice none 0 0))
    have hBS : Hid (Below w.heap.size w ((wr.setCell ⟨w.heap.size, 0, none⟩ (.slice none 0 0)).setCell ⟨w.heap.size, 1, none⟩ (.slice none 0 0))) := (hB.setCell (Nat.le_refl _) _).setCell (Nat.le_refl _) _
    clear hrd hst hO hM hR hB
    by_cases hlt : k < 48
    · have HG := Hid.mk' (fun X => get_any B X)
      obtain ⟨n, hn⟩ : ∃ n, Hid (48 - k = n + 1) := ⟨48 - k - 1, by show _ = _; omega⟩
      rw [hn.out] at HRD
      obtain ⟨E, hE⟩ : ∃ E, Hid (getE B.data.toList = E) := ⟨_, Hid.mk' rfl⟩
      obtain ⟨Z, hZ⟩ : ∃ E, Hid (getA B.data.toList = E) := ⟨_, Hid.mk' rfl⟩
      obtain ⟨K, hK⟩ : ∃ E, Hid (getK B.data.toList = E) := ⟨_, Hid.mk' rfl⟩
      rw [hE.out, hZ.out, hK.out] at HG
      by_cases hE0 : E = 0
      rotate_left
      · have hno : Hid (readM L = none) := by show _ = _; rw [HRD.out]; exact contM_none (oneR_bad (fun h => hE0 (by rw [← hE.out]; exact h.1)))
        have tE : (E != 0) = true := by rw [bne_iff_ne]; exact hE0
        clear hE0
        go_wp2_with fail
        refine (HG.out _).mono ?_
        rintro z w2 ⟨rfl, rfl⟩
        go_wp2_with fail
        refine bodyPost_ret (results_boxV2M rfl _ _ w.heap.size 2 _ _ rfl rfl hRS.out rfl infoSzIm (aggIm _)) rfl ⟨rdMB_no hno.out rfl, hBS.out⟩
      subst hE0
      by_cases hZ0 : 2147483647 < Z
      · have hno : Hid (readM L = none) := by show _ = _; rw [HRD.out]; exact contM_none (oneR_bad (fun h => by have := h.2; rw [hZ.out] at this; omega))
        have tZ : decide ((2147483647 : Int) < (Z : Int)) = true := decide_eq_true (by omega)
        clear hZ0
        go_wp2_with fail
        refine (HG.out _).mono ?_
        rintro z w2 ⟨rfl, rfl⟩
        go_wp2_with fail
        refine bodyPost_ret (results_boxV2M rfl _ _ w.heap.size 2 _ _ rfl rfl hRS.out rfl infoSzIm (aggIm _)) rfl ⟨rdMB_no hno.out rfl, hBS.out⟩
      have tZ : decide ((2147483647 : Int) < (Z : Int)) = false := decide_eq_false (by omega)
      have hgood : Hid (getE B.data.toList = 0 ∧ getA B.data.toList ≤ 2147483647) := ⟨hE.out, by rw [hZ.out]; omega⟩
      have hZb : Z ≤ 2147483647 := by omega
      have hKB : K ≤ B.size := by
        have := (put_get B.data.toList hE.out).2.1
        rw [hK.out, hBl.out] at this; exact this
      have iK : (K : Int) ≤ (B.size : Int) := by omega
      have iK0 : (0 : Int) ≤ (K : Int) := by omega
      obtain ⟨T, hT⟩ : ∃ T, Hid (B.extract K B.size = T) := ⟨_, Hid.mk' rfl⟩
      have hT' := hT.out
      have hTl : Hid (T.data.toList = B.data.toList.drop (getK B.data.toList)) := by show _ = _; rw [hK.out, ← hT.out, ext_listP]
      have hTz : T.size ≤ B.size := by rw [← hT.out, ext_sizeP]; omega
      have eZ : IntKind.i64.wrap (Z : Int) = Z := by rw [IntKind.wrap_i64]; omega
      clear hZ0
      go_wp2_with fail
      refine (HG.out _).mono ?_
      rintro z w2 ⟨rfl, rfl⟩
      go_wp2_with fail
      refine (rdplace_any T w2 (by omega)).mono ?_
      rintro z w3 ⟨hrp, hb⟩
      have HO3 := Hid.mk' (HO.out.below hb)
      have HM3 := Hid.mk' (HM.out.below hb)
      have HR3 := Hid.mk' (HR.out.below hb)
      have HB3 := Hid.mk' (HB.out.trans (hb.mono HB.out.size))
      have hg3 : gm < w3.heap.size := Nat.lt_of_lt_of_le hgr hb.size
      clear hb r0 r1 rf0 rf1 hRS hBS
      rcases hrp with ⟨x, y, r, htl, hrt, rfl⟩ | ⟨hbad, rfl⟩
      · rw [hTl.out] at htl
        have hone := oneR_some hgood.out htl
        rw [hZ.out] at hone
        have hrd2 : Hid (readM L = contM (A ++ [rpl x y]) (D ++ [(Z : Int)]) n r.data.toList) := by show _ = _; rw [HRD.out, contM_step hone]
        have hst2 := Hid.mk' (HST.out.snoc (p := rpl x y) (g := (Z : Int)) hrt ⟨by omega, by omega⟩)
        have hrz : r.size ≤ B.size := by
          have e := oneR_len hone
          have e2 : r.data.toList.length = r.size := by rw [Array.length_toList]; rfl
          rw [e2, hBl.out] at e; omega
        have hfa := Hid.mk' (fillA_set HST.out.la hlt (rpl x y))
        have hfb := Hid.mk' (fillB_set HST.out.lb hlt (Z : Int))
        obtain ⟨p, hp⟩ : ∃ p, Hid (rpl x y = p) := ⟨_, Hid.mk' rfl⟩
        have ex : (x.toNat : Int) = p.cl := by rw [← hp.out]; rfl
        have ey : (y.toNat : Int) = p.nh := by rw [← hp.out]; rfl
        rw [hp.out] at hrd2 hst2 hfa
        rw [ex, ey]
        obtain ⟨pc, pn⟩ := p
        simp only at *
        have hbx := below_boxP (w := w3) #[.int .i64 pc, .int .i64 pn] 67
        have hxp := bxPl w3 ⟨pc, pn⟩ 67
        simp only at hxp
        have HO4 := Hid.mk' (HO3.out.below hbx)
        have HM4 := Hid.mk' (HM3.out.below hbx)
        have HR4 := Hid.mk' (HR3.out.below hbx)
        have HB4 := Hid.mk' (HB3.out.trans (hbx.mono HB3.out.size))
        have hs4 : (w3.alloc (.cells #[.int .i64 pc, .int .i64 pn] 67)).heap.size = w3.heap.size + 1 := by simp
        obtain ⟨W4, hW4⟩ : ∃ W, Hid (w3.alloc (.cells #[.int .i64 pc, .int .i64 pn] 67) = W) := ⟨_, Hid.mk' rfl⟩
        rw [hW4.out] at HO4 HM4 HR4 HB4 hxp hs4
        clear hbx hone htl hrt ex ey
        go_wp2_with fail
        rw [hW4.out]
        have m0 := HM4.out.c 0 _ rfl
        have m1 := HM4.out.c 1 _ rfl
        have x0 := hxp.c0
        have x1 := hxp.c1
        obtain ⟨p0, p1, pf0, pf1⟩ := HO4.out.cellP (k := k) hlt
        obtain ⟨g0, gf0⟩ := HO4.out.cellG (k := k) hlt
        have n1 : gm ≠ ga := by omega
        have n2 : gm ≠ gb := by omega
        have n3 : ga ≠ gm := by omega
        have n4 : gb ≠ gm := by omega
        have n5 : gb ≠ ga := fun h => hab h.symm
        have n6 : w3.heap.size ≠ ga := by omega
        have n7 : w3.heap.size ≠ gb := by omega
        have n8 : ga ≠ w3.heap.size := by omega
        have n9 : gb ≠ w3.heap.size := by omega
        have ik0 : (0 : Int) ≤ (k : Int) := by omega
        have ik1 : (k : Int) < 48 := by omega
        have ik2 : (k : Int) < ((48 : Nat) : Int) := by omega
        go_region
        have hO5 := (HO4.out.setG (k := k) (Z : Int)).setP hlt ⟨pc, pn⟩
        simp only at hO5
        rw [hfa.out, hfb.out] at hO5
        have HO5 := Hid.mk' (hO5.below (below_d1 _))
        have HM5 := Hid.mk' ((((HM4.out.other ⟨gb, k, none⟩ (.int .i64 (Z : Int)) n4).other ⟨ga, k * 2, none⟩ (.int .i64 pc) n3).other ⟨ga, k * 2 + 1, none⟩ (.int .i64 pn) n3).drew)
        have HR5 := Hid.mk' ((((HR4.out.other ⟨gb, k, none⟩ (.int .i64 (Z : Int)) (by show gb ≠ w.heap.size; omega)).other ⟨ga, k * 2, none⟩ (.int .i64 pc) (by show ga ≠ w.heap.size; omega)).other ⟨ga, k * 2 + 1, none⟩ (.int .i64 pn) (by show ga ≠ w.heap.size; omega)).drew)
        have HB5 := Hid.mk' ((((HB4.out.setCell (p := ⟨gb, k, none⟩) (by show w.heap.size ≤ gb; omega) (.int .i64 (Z : Int))).setCell (p := ⟨ga, k * 2, none⟩) (by show w.heap.size ≤ ga; omega) (.int .i64 pc)).setCell (p := ⟨ga, k * 2 + 1, none⟩) (by show w.heap.size ≤ ga; omega) (.int .i64 pn)).drew)
        have hg5 : gm < ((((W4.setCell ⟨gb, k, none⟩ (.int .i64 (Z : Int))).setCell ⟨ga, k * 2, none⟩ (.int .i64 pc)).setCell ⟨ga, k * 2 + 1, none⟩ (.int .i64 pn)).drew).heap.size := by
          have : gm < W4.heap.size := by omega
          simpa [World.setCell, World.drew] using this
        clear m0 m1 x0 x1 p0 p1 pf0 pf1 g0 gf0 hO5 hxp
        go_wp2_with fail
        go_roundw
        case rel => exact ⟨k + 1, r, _, _, by omega, by go_num, rfl, by rw [hrd2.out, show 48 - (k + 1) = n by have := hn.out; omega], by omega, hst2.out, HO5.out, HM5.out, HR5.out, HB5.out, hg5⟩
        case measure => simp [intOf]; omega
      · have hno : Hid (readM L = none) := by
          show _ = _
          rw [HRD.out]
          match hd : B.data.toList.drop (getK B.data.toList) with
          | [] => exact contM_none (oneR_short (by rw [hd]; simp))
          | [x] => exact contM_none (oneR_short (by rw [hd]; simp))
          | x :: y :: r => exact contM_wrong (by rw [HST.out.la]; have := hn.out; omega) (oneR_some hgood.out hd) (hbad x y r (by rw [hTl.out]; exact hd))
        have hbx := below_boxP (w := w3) #[.int .i64 0, .int .i64 0] 67
        have HR4 := Hid.mk' (HR3.out.below hbx)
        have HB4 := Hid.mk' (HB3.out.trans (hbx.mono HB3.out.size))
        have r0 := HR4.out.c 0 _ rfl
        have r1 := HR4.out.c 1 _ rfl
        have rf0 := HR4.out.f 0 (by simp)
        have rf1 := HR4.out.f 1 (by simp)
        have hRS := Hid.mk' (HR4.out.set2M (.slice none 0 0) (.slice none 0 0))
        have hBS := Hid.mk' ((HB4.out.setCell (p := ⟨w.heap.size, 0, none⟩) (Nat.le_refl _) (.slice none 0 0)).setCell (p := ⟨w.heap.size, 1, none⟩) (Nat.le_refl _) (.slice none 0 0))
        clear hbx hbad
        go_wp2_with fail
        refine bodyPost_ret (results_boxV2M rfl _ _ w.heap.size 2 _ _ rfl rfl hRS.out rfl infoSzIm (aggIm _)) rfl ⟨rdMB_no hno.out rfl, hBS.out⟩
    · obtain rfl : k = 48 := by omega
      rw [Nat.sub_self] at HRD
      have m0 := HM.out.c 0 _ rfl
      have m1 := HM.out.c 1 _ rfl
      by_cases hBe : B.size = 0
      · have te : B.toList.isEmpty = true := by rw [empty_isM]; exact decide_eq_true hBe
        have hnil : B.data.toList = [] := List.length_eq_zero_iff.1 (by rw [hBl.out, hBe])
        have hok := HST.out.ok
        have hyes : Hid (readM L = some (A, D)) := by show _ = _; rw [HRD.out, hnil, contM_zero_nil, if_pos (chkM_yes hok)]
        have hOf := (HO.out.setLow (a := ⟨w.heap.size, 0, none⟩) (by show w.heap.size < w.heap.size + 1; omega) (.slice (some ⟨ga, 0, none⟩) 48 48)).setLow (a := ⟨w.heap.size, 1, none⟩) (by show w.heap.size < w.heap.size + 1; omega) (.slice (some ⟨gb, 0, none⟩) 48 48)
        rw [fillA_full, fillB_full] at hOf
        have hl1 := (low_own hOf.rp).mono (Nat.le_succ _)
        have hl2 := (low_own hOf.rg).mono (Nat.le_succ _)
        have HLa := Hid.mk' hl1
        have HLb := Hid.mk' hl2
        clear hl1 hl2
        obtain ⟨a', c', b', e', h1, h2, h3, h4⟩ := hOf.pls (by omega) (by omega) (fun p hp => by have := rtB_b (HST.out.r p hp); exact ⟨⟨by omega, by omega⟩, ⟨by omega, by omega⟩⟩) (fun g hg => by have := HST.out.n g hg; exact ⟨by omega, by omega⟩)
        cases h1
        cases h2
        have H3 := Hid.mk' h3
        have H4 := Hid.mk' h4
        have hla := Hid.mk' HST.out.la
        have hlb := Hid.mk' HST.out.lb
        have hRS2 := Hid.mk' (HR.out.set2M (.slice (some ⟨ga, 0, none⟩) 48 48) (.slice (some ⟨gb, 0, none⟩) 48 48))
        have hBS2 := Hid.mk' ((HB.out.setCell (p := ⟨w.heap.size, 0, none⟩) (Nat.le_refl _) (.slice (some ⟨ga, 0, none⟩) 48 48)).setCell (p := ⟨w.heap.size, 1, none⟩) (Nat.le_refl _) (.slice (some ⟨gb, 0, none⟩) 48 48))
        clear hBe hnil hok hOf h3 h4
        go_wp2_with fail
        refine bodyPost_ret (results_boxV2M rfl _ _ w.heap.size 2 _ _ rfl rfl hRS2.out rfl infoSzIm (aggIm _)) rfl ⟨rdMB_yes hyes.out hla.out hlb.out rfl H3.out H4.out HLa.out HLb.out, hBS2.out⟩
      · have te : B.toList.isEmpty = false := by rw [empty_isM]; exact decide_eq_false hBe
        have hno : Hid (readM L = none) := by
          show _ = _
          rw [HRD.out]
          match hd : B.data.toList with
          | [] => exact absurd (by rw [← hBl.out, hd]; rfl) hBe
          | x :: t => exact contM_zero_cons
        clear hBe
        go_wp2_with fail
        refine bodyPost_ret (results_boxV2M rfl _ _ w.heap.size 2 _ _ rfl rfl hRS.out rfl infoSzIm (aggIm _)) rfl ⟨rdMB_no hno.out rfl, hBS.out⟩
theorem imread_any (s : ByteArray) (w : World) (hs : s.size ≤ 140737488355328) :
    Calls Tryd.prog 30 #[.string s] w fun z w' => RdMA w' s.data.toList z ∧ Below w.heap.size w w' :=
  (imread_low s w hs).mono fun _ _ h => ⟨h.1.ans, h.2⟩
end Go.Proofs.YtbakgobgjfhhhaaDoor
