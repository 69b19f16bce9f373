import Derived.Test.YtcalbicfnhoklaaDoorRowM3
import Derived.Test.YtcalbicfnhoklaaDoorMsbk
import Derived.Maps.OwnOps
import Derived.BigRegion

/- What lz.copiesOf answers. -/
namespace Go.Proofs.YtcalbicfnhoklaaDoor
open Go.RowKit Go.WideMaps Go.Maps

theorem zeroI (w : World) : (zeroValue 3).run Tryd.prog w = .ok (.int .i64 0) w := by kernel_rfl
theorem ne_two (w : World) : (w.heap.size + 2) ≠ w.heap.size + 1 := by omega
theorem grown_row {w w' : World} {g len h : Nat} {f : Nat → Int} (hr : Row64 w g len f) (hg : w.grownBy w' (some h)) (hne : g ≠ h) : Row64 w' g len f := hr.block (hg.block _ hr.lt (by simpa using hne)) hg.size
theorem sz_listC (s : ByteArray) : s.data.toList.length = s.size := by rw [Array.length_toList]; rfl

set_option maxRecDepth 20000 in
set_option maxHeartbeats 2000000 in
theorem copies_any (s : ByteArray) (w : World) (hs : s.size ≤ 512) :
    Calls Tryd.prog 33 #[.string s] w fun e w' => (∃ g L D, e = .returned (.slice (some ⟨g, 0, none⟩) s.size s.size) ∧ w.heap.size ≤ g ∧ RowM3 w' g s.size L D ∧ ∀ i, i < s.size → CopOk s.data.toList i (L i) (D i)) ∧ Below w.heap.size w w' := by
  have HSl := Hid.mk' (sz_listC s)
  have hmk1 := make_marks s.size (by omega) w
  have hr1 := rowM3_made w s.size 66
  obtain ⟨w1, hw1⟩ : ∃ w1, Hid (w.alloc (.cells (madeCells #[.int .i64 0, .int .i64 0, .int .u8 0] (s.size * 3)) 66) = w1) := ⟨_, Hid.mk' rfl⟩
  have HB1 : Hid (Below w.heap.size w w1) := by rw [← hw1.out]; exact (Below.refl _ _).alloc (Nat.le_refl _) _
  have hs1 : w1.heap.size = w.heap.size + 1 := by rw [← hw1.out]; simp
  rw [hw1.out] at hmk1 hr1
  have hmm := run_makeMap (P := Tryd.prog) 87 w1
  have hm1 := World.ownsMap_made w1 Tryd.prog 88 (plainElem (H := Unit) Tryd.prog 3)
  obtain ⟨w2, hw2⟩ : ∃ w2, Hid (w1.alloc (.map #[] 0) = w2) := ⟨_, Hid.mk' rfl⟩
  have HB12 : Hid (Below w1.heap.size w1 w2) := by rw [← hw2.out]; exact (Below.refl _ _).alloc (Nat.le_refl _) _
  have hs2 : w2.heap.size = w.heap.size + 2 := by rw [← hw2.out]; simp; omega
  rw [hw2.out, hs1] at hmm hm1
  have hmk3 := make_intsZ s.size (by omega) w2
  have hr3 := row64_made w2 s.size 3
  obtain ⟨w3, hw3⟩ : ∃ w3, Hid (w2.alloc (.cells (madeCells #[.int .i64 0] s.size) 3) = w3) := ⟨_, Hid.mk' rfl⟩
  have HB23 : Hid (Below w2.heap.size w2 w3) := by rw [← hw3.out]; exact (Below.refl _ _).alloc (Nat.le_refl _) _
  have hs3 : w3.heap.size = w.heap.size + 3 := by rw [← hw3.out]; simp; omega
  have hm3 : w3.ownsMap Tryd.prog 88 (plainElem (H := Unit) Tryd.prog 3) (w.heap.size + 1) 0 (.map []) := by rw [← hw3.out]; exact hm1.alloc _
  rw [hw3.out, hs2] at hmk3 hr3
  have HR1 : Hid (RowM3 w3 w.heap.size s.size (fun _ => 0) (fun _ => 0)) := (hr1.block (HB12.out.block _ hr1.lt) HB12.out.size).block (HB23.out.block _ (by omega)) HB23.out.size
  have HR3 := Hid.mk' hr3
  have HM3 := Hid.mk' hm3
  have HB3 : Hid (Below w.heap.size w w3) := (HB1.out.trans (HB12.out.mono (by omega))).trans (HB23.out.mono (by omega))
  clear hr1 hm1 hr3 hm3
  go_enter Tryd.func33, Tryd.ntmps33
  go_wp2_with fail
  clear hmk1 hmm hmk3
  go_loopw [20] (fun iv wr => ∃ (k : Nat) (L D : Nat → Nat) (A : Nat → Int) (E : DataW Unit), (k = 0 ∨ k + 2 ≤ s.size) ∧ iv = .int .i64 (k : Int) ∧ RowM3 wr w.heap.size s.size L D ∧ Row64 wr (w.heap.size + 2) s.size A ∧ wr.ownsMap Tryd.prog 88 (plainElem (H := Unit) Tryd.prog 3) (w.heap.size + 1) k E ∧ LastM s.data.toList k E ∧ (∀ j, j < k → Chain s.data.toList A j) ∧ (∀ j, j < k → CopOk s.data.toList j (L j) (D j)) ∧ (∀ j, k ≤ j → L j = 0 ∧ D j = 0) ∧ Below w.heap.size w wr ∧ w.heap.size + 3 ≤ wr.heap.size) (fun iv _ => s.size - (intOf iv).toNat)
  case atStart => exact ⟨0, fun _ => 0, fun _ => 0, fun _ => 0, .map [], .inl rfl, rfl, HR1.out, HR3.out, HM3.out, last_start _, fun j hj => by omega, fun j hj => by omega, fun j _ => ⟨rfl, rfl⟩, HB3.out, by omega⟩
  case round =>
    obtain ⟨k, L, D, A, E, hk, rfl, hr1, hr3, hm, hlast, hch, hcop, hzero, hbl, hsz⟩ := hrel
    have HR := Hid.mk' hr1
    have HA := Hid.mk' hr3
    have HM := Hid.mk' hm
    have HLa := Hid.mk' hlast
    have HCh := Hid.mk' hch
    have HCo := Hid.mk' hcop
    have HZ := Hid.mk' hzero
    have HB := Hid.mk' hbl
    clear hr1 hr3 hm hlast hch hcop hzero hbl
    by_cases hlt : k + 2 < s.size
    · have tlt : decide ((k : Int) < (s.size : Int) - 2) = true := decide_eq_true (by omega)
      have hk0 : k < s.size := by omega
      have hk1 : k + 1 < s.size := by omega
      have hk2 : k + 2 < s.size := by omega
      have x1 : (k : Int) + 1 = ((k + 1 : Nat) : Int) := by omega
      have x2 : (k : Int) + 2 = ((k + 2 : Nat) : Int) := by omega
      obtain ⟨m1, hm1⟩ : ∃ m1, k + 1 = m1 := ⟨_, rfl⟩
      obtain ⟨m2, hm2⟩ : ∃ m2, k + 2 = m2 := ⟨_, rfl⟩
      rw [hm1] at x1 hk1
      rw [hm2] at x2 hk2
      have y1 : IntKind.i64.wrap (m1 : Int) = (m1 : Int) := by rw [IntKind.wrap_i64]; omega
      have y2 : IntKind.i64.wrap (m2 : Int) = (m2 : Int) := by rw [IntKind.wrap_i64]; omega
      have i0 : (k : Int) < (s.size : Int) := by omega
      have i1 : (m1 : Int) < (s.size : Int) := by omega
      have i2 : (m2 : Int) < (s.size : Int) := by omega
      have hlc := last_chain HLa.out A
      have hls := last_step HLa.out
      rw [getD_byteL s k hk0, hm1, hm2, getD_byteL s m1 hk1, getD_byteL s m2 hk2] at hlc hls
      have HLa2 : Hid (LastM s.data.toList (k + 1) (E.put (k3 s[k] s[m1] s[m2]) (.lit (.int .i64 (k : Int))))) := by rw [hm1]; exact hls
      clear hls hm1 hm2
      go_wp2_with fail
      go_region
      obtain ⟨W, hW⟩ : ∃ W, Hid ((wr.alloc (.cells #[.int .u8 (s[k].toNat : Int), .int .u8 (s[m1].toNat : Int), .int .u8 (s[m2].toNat : Int)] 88)).drew = W) := ⟨_, Hid.mk' rfl⟩
      have HMW : Hid (W.ownsMap Tryd.prog 88 (plainElem (H := Unit) Tryd.prog 3) (w.heap.size + 1) k E) := by rw [← hW.out]; exact (HM.out.alloc _).drew
      have hbW : Hid (Below wr.heap.size wr W) := by rw [← hW.out]; exact ((Below.refl _ _).alloc (Nat.le_refl _) _).drew
      have HBW : Hid (Below w.heap.size w W) := HB.out.trans (hbW.out.mono (by omega))
      have HRW : Hid (RowM3 W w.heap.size s.size L D) := HR.out.block (hbW.out.block _ HR.out.lt) hbW.out.size
      have HAW : Hid (Row64 W (w.heap.size + 2) s.size A) := HA.out.belowR hbW.out
      have kc0 : W.cell? ⟨wr.heap.size, 0, none⟩ = some (.int .u8 (s[k].toNat : Int)) := by rw [← hW.out]; exact (World.cell?_alloc_new wr _ _ _).trans rfl
      have kc1 : W.cell? ⟨wr.heap.size, 1, none⟩ = some (.int .u8 (s[m1].toNat : Int)) := by rw [← hW.out]; exact (World.cell?_alloc_new wr _ _ _).trans rfl
      have kc2 : W.cell? ⟨wr.heap.size, 2, none⟩ = some (.int .u8 (s[m2].toNat : Int)) := by rw [← hW.out]; exact (World.cell?_alloc_new wr _ _ _).trans rfl
      have hsW := hbW.out.size
      rw [hW.out]
      rcases hlc with ⟨hhas, hck⟩ | ⟨p, hpk, hhas, hatk, hck⟩
      · have HCk := Hid.mk' hck
        clear hck
        go_wp2_with (first | (at_lookup; refine wpList_lookup_own_ok_int _ rfl _ _ 87 rfl 88 3 .i64 law3 Tryd.underlying87 Tryd.underlying3 (zeroI _) (w.heap.size + 1) k E rfl HMW.out _ _ rfl (key3 s[k] s[m1] s[m2]) ?_; intro c hat hwc) | (at_mapUpdate; refine wpList_mapUpdate_own _ rfl _ _ _ 87 rfl 88 3 law3 Tryd.underlying87 _ (w.heap.size + 1) k _ rfl HMW.out (by unfold maxLen; omega) _ _ _ rfl rfl (key3 s[k] s[m1] s[m2]) (.lit (.int .i64 (k : Int))) [] (plainElem_int Tryd.underlying3 (WalkArith.wf_i64 (by omega))) ?_; intro w5 hown5 hgrow5; have HA5 := Hid.mk' (grown_row HAW.out hgrow5 (ne_two w)); have ca := HA5.out.cell k hk0; have fa := HA5.out.open' k hk0) | fail)
        clear hat hwc
        have hs5 := hgrow5.size
        have HM5 := Hid.mk' hown5
        have HB5 : Hid (Below w.heap.size w w5) := HBW.out.grown hgrow5 HBW.out.size fun j hj => by cases hj; omega
        have HR5 : Hid (RowM3 w5 w.heap.size s.size L D) := HRW.out.block (hgrow5.block _ HRW.out.lt (by simp)) hs5
        clear hown5 hgrow5 ca fa
        have HA6 : Hid (Row64 (w5.setCell ⟨w.heap.size + 2, k, none⟩ (.int .i64 (-1))) (w.heap.size + 2) s.size (fun i => if i = k then (-1) else A i)) := HA5.out.set k (by omega) (-1)
        have HB6 : Hid (Below w.heap.size w (w5.setCell ⟨w.heap.size + 2, k, none⟩ (.int .i64 (-1)))) := HB5.out.setCell (by show w.heap.size ≤ w.heap.size + 2; omega) _
        have HM6 : Hid ((w5.setCell ⟨w.heap.size + 2, k, none⟩ (.int .i64 (-1))).ownsMap Tryd.prog 88 (plainElem (H := Unit) Tryd.prog 3) (w.heap.size + 1) (k + 1) (E.put (k3 s[k] s[m1] s[m2]) (.lit (.int .i64 (k : Int))))) := HM5.out.setCell (by simp) _
        have HR6 : Hid (RowM3 (w5.setCell ⟨w.heap.size + 2, k, none⟩ (.int .i64 (-1))) w.heap.size s.size L D) := HR5.out.block (heap_setCell_other _ _ _ _ (by simp)) (by simp [World.setCell])
        have HC6 : Hid (∀ j, j ≤ k → Chain s.data.toList (fun i => if i = k then (-1) else A i) j) := fun j hj => by
          by_cases e : j = k
          · subst e; exact HCk.out
          · exact chain_congr (HCh.out j (by omega)) (by rw [if_neg e])
        have hs6 : w.heap.size + 3 ≤ (w5.setCell ⟨w.heap.size + 2, k, none⟩ (.int .i64 (-1))).heap.size := by simp [World.setCell]; omega
        obtain ⟨W6, hW6⟩ : ∃ W6, Hid (w5.setCell ⟨w.heap.size + 2, k, none⟩ (.int .i64 (-1)) = W6) := ⟨_, Hid.mk' rfl⟩
        rw [hW6.out]
        rw [hW6.out] at HA6 HB6 HM6 HR6 hs6
        refine (longest_any s k (w.heap.size + 2) s.size _ _ hk0 hs rfl HA6.out HC6.out).mono ?_
        rintro e w7 ⟨⟨l, d, rfl, hlg⟩, hb7⟩
        have hs7 := hb7.size
        have HR7 : Hid (RowM3 w7 w.heap.size s.size L D) := HR6.out.block (hb7.block _ HR6.out.lt) hs7
        have HA7 : Hid (Row64 w7 (w.heap.size + 2) s.size (fun i => if i = k then (-1) else A i)) := HA6.out.belowR hb7
        have HM7 : Hid (w7.ownsMap Tryd.prog 88 (plainElem (H := Unit) Tryd.prog 3) (w.heap.size + 1) (k + 1) (E.put (k3 s[k] s[m1] s[m2]) (.lit (.int .i64 (k : Int))))) := HM6.out.kept (row := none) ⟨hb7.os, hb7.tape, hb7.output, hb7.size, fun j hj _ => hb7.block j hj⟩ (by simp)
        have HB7 := Hid.mk' (HB6.out.trans (hb7.mono HB6.out.size))
        have HLg : Hid (CopOk s.data.toList k l d) := cop_of (by rw [HSl.out]; omega) (by rw [HSl.out]; exact hlg)
        have z0 := HR7.out.c0 k (by omega)
        have z1 := HR7.out.c1 k (by omega)
        have z2 := HR7.out.c2 k (by omega)
        have q0 := HR7.out.fz (k * 3) (by omega)
        have q1 := HR7.out.fz (k * 3 + 1) (by omega)
        have q2 := HR7.out.fz (k * 3 + 2) (by omega)
        have HR8 := Hid.mk' (HR7.out.set k (by omega) l d)
        clear hb7 hlg
        go_wp2_with fail
        go_roundw
        case rel =>
          refine ⟨k + 1, _, _, _, _, .inr (by omega), by go_num, HR8.out, ?_, ?_, HLa2.out, fun j hj => HC6.out j (by omega), fun j hj => ?_, fun j hj => ?_, ?_, ?_⟩
          · exact HA7.out.block ((heap_setCell_other _ _ _ _ (by simp)).trans ((heap_setCell_other _ _ _ _ (by simp)).trans (heap_setCell_other _ _ _ _ (by simp)))) (by simp [World.setCell])
          · exact ((HM7.out.setCell (by simp) _).setCell (by simp) _).setCell (by simp) _
          · by_cases e : j = k
            · subst e; rw [if_pos rfl, if_pos rfl]; exact HLg.out
            · rw [if_neg e, if_neg e]; exact HCo.out j (by omega)
          · rw [if_neg (by omega), if_neg (by omega)]; exact HZ.out j (by omega)
          · exact ((HB7.out.setCell (Nat.le_refl _) _).setCell (Nat.le_refl _) _).setCell (Nat.le_refl _) _
          · simp [World.setCell]; omega
        case measure => simp [intOf]; omega
      · have HCk := Hid.mk' hck
        have HAt := Hid.mk' (hatk (.lit (.int .i64 0)))
        clear hck hatk
        go_wp2_with (first | (at_lookup; refine wpList_lookup_own_ok_int _ rfl _ _ 87 rfl 88 3 .i64 law3 Tryd.underlying87 Tryd.underlying3 (zeroI _) (w.heap.size + 1) k E rfl HMW.out _ _ rfl (key3 s[k] s[m1] s[m2]) ?_; intro c hat hwc) | (at_mapUpdate; refine wpList_mapUpdate_own _ rfl _ _ _ 87 rfl 88 3 law3 Tryd.underlying87 _ (w.heap.size + 1) k _ rfl HMW.out (by unfold maxLen; omega) _ _ _ rfl rfl (key3 s[k] s[m1] s[m2]) (.lit (.int .i64 (k : Int))) [] (plainElem_int Tryd.underlying3 (WalkArith.wf_i64 (by omega))) ?_; intro w5 hown5 hgrow5; have HA5 := Hid.mk' (grown_row HAW.out hgrow5 (ne_two w)); have ca := HA5.out.cell k hk0; have fa := HA5.out.open' k hk0) | fail)
        have hcp : c = (p : Int) := by
          rw [HAt.out] at hat
          simp only [DataW.lit.injEq, Lit.int.injEq, true_and] at hat
          exact hat.symm
        clear hat hwc
        subst hcp
        have hs5 := hgrow5.size
        have HM5 := Hid.mk' hown5
        have HB5 : Hid (Below w.heap.size w w5) := HBW.out.grown hgrow5 HBW.out.size fun j hj => by cases hj; omega
        have HR5 : Hid (RowM3 w5 w.heap.size s.size L D) := HRW.out.block (hgrow5.block _ HRW.out.lt (by simp)) hs5
        clear hown5 hgrow5 ca fa
        have HA6 : Hid (Row64 (w5.setCell ⟨w.heap.size + 2, k, none⟩ (.int .i64 (p : Int))) (w.heap.size + 2) s.size (fun i => if i = k then (p : Int) else A i)) := HA5.out.set k (by omega) (p : Int)
        have HB6 : Hid (Below w.heap.size w (w5.setCell ⟨w.heap.size + 2, k, none⟩ (.int .i64 (p : Int)))) := HB5.out.setCell (by show w.heap.size ≤ w.heap.size + 2; omega) _
        have HM6 : Hid ((w5.setCell ⟨w.heap.size + 2, k, none⟩ (.int .i64 (p : Int))).ownsMap Tryd.prog 88 (plainElem (H := Unit) Tryd.prog 3) (w.heap.size + 1) (k + 1) (E.put (k3 s[k] s[m1] s[m2]) (.lit (.int .i64 (k : Int))))) := HM5.out.setCell (by simp) _
        have HR6 : Hid (RowM3 (w5.setCell ⟨w.heap.size + 2, k, none⟩ (.int .i64 (p : Int))) w.heap.size s.size L D) := HR5.out.block (heap_setCell_other _ _ _ _ (by simp)) (by simp [World.setCell])
        have HC6 : Hid (∀ j, j ≤ k → Chain s.data.toList (fun i => if i = k then (p : Int) else A i) j) := fun j hj => by
          by_cases e : j = k
          · subst e; exact HCk.out
          · exact chain_congr (HCh.out j (by omega)) (by rw [if_neg e])
        have hs6 : w.heap.size + 3 ≤ (w5.setCell ⟨w.heap.size + 2, k, none⟩ (.int .i64 (p : Int))).heap.size := by simp [World.setCell]; omega
        obtain ⟨W6, hW6⟩ : ∃ W6, Hid (w5.setCell ⟨w.heap.size + 2, k, none⟩ (.int .i64 (p : Int)) = W6) := ⟨_, Hid.mk' rfl⟩
        rw [hW6.out]
        rw [hW6.out] at HA6 HB6 HM6 HR6 hs6
        refine (longest_any s k (w.heap.size + 2) s.size _ _ hk0 hs rfl HA6.out HC6.out).mono ?_
        rintro e w7 ⟨⟨l, d, rfl, hlg⟩, hb7⟩
        have hs7 := hb7.size
        have HR7 : Hid (RowM3 w7 w.heap.size s.size L D) := HR6.out.block (hb7.block _ HR6.out.lt) hs7
        have HA7 : Hid (Row64 w7 (w.heap.size + 2) s.size (fun i => if i = k then (p : Int) else A i)) := HA6.out.belowR hb7
        have HM7 : Hid (w7.ownsMap Tryd.prog 88 (plainElem (H := Unit) Tryd.prog 3) (w.heap.size + 1) (k + 1) (E.put (k3 s[k] s[m1] s[m2]) (.lit (.int .i64 (k : Int))))) := HM6.out.kept (row := none) ⟨hb7.os, hb7.tape, hb7.output, hb7.size, fun j hj _ => hb7.block j hj⟩ (by simp)
        have HB7 := Hid.mk' (HB6.out.trans (hb7.mono HB6.out.size))
        have HLg : Hid (CopOk s.data.toList k l d) := cop_of (by rw [HSl.out]; omega) (by rw [HSl.out]; exact hlg)
        have z0 := HR7.out.c0 k (by omega)
        have z1 := HR7.out.c1 k (by omega)
        have z2 := HR7.out.c2 k (by omega)
        have q0 := HR7.out.fz (k * 3) (by omega)
        have q1 := HR7.out.fz (k * 3 + 1) (by omega)
        have q2 := HR7.out.fz (k * 3 + 2) (by omega)
        have HR8 := Hid.mk' (HR7.out.set k (by omega) l d)
        clear hb7 hlg
        go_wp2_with fail
        go_roundw
        case rel =>
          refine ⟨k + 1, _, _, _, _, .inr (by omega), by go_num, HR8.out, ?_, ?_, HLa2.out, fun j hj => HC6.out j (by omega), fun j hj => ?_, fun j hj => ?_, ?_, ?_⟩
          · exact HA7.out.block ((heap_setCell_other _ _ _ _ (by simp)).trans ((heap_setCell_other _ _ _ _ (by simp)).trans (heap_setCell_other _ _ _ _ (by simp)))) (by simp [World.setCell])
          · exact ((HM7.out.setCell (by simp) _).setCell (by simp) _).setCell (by simp) _
          · by_cases e : j = k
            · subst e; rw [if_pos rfl, if_pos rfl]; exact HLg.out
            · rw [if_neg e, if_neg e]; exact HCo.out j (by omega)
          · rw [if_neg (by omega), if_neg (by omega)]; exact HZ.out j (by omega)
          · exact ((HB7.out.setCell (Nat.le_refl _) _).setCell (Nat.le_refl _) _).setCell (Nat.le_refl _) _
          · simp [World.setCell]; omega
        case measure => simp [intOf]; omega
    · have tlt : decide ((k : Int) < (s.size : Int) - 2) = false := decide_eq_false (by omega)
      have HF : Hid (∀ j, j < s.size → CopOk s.data.toList j (L j) (D j)) := fun j hj => by
        by_cases hjk : j < k
        · exact HCo.out j hjk
        · rw [(HZ.out j (by omega)).1, (HZ.out j (by omega)).2]
          exact cop_none (by rw [HSl.out]; omega)
      go_wp2_with fail
      go_ret
      exact ⟨⟨w.heap.size, L, D, rfl, Nat.le_refl _, HR.out, HF.out⟩, HB.out⟩
end Go.Proofs.YtcalbicfnhoklaaDoor
