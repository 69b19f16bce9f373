import Derived.Test.YtbakgobgjfhhhaaDoorImReadWalks
import Derived.Test.YtbakgobgjfhhhaaDoorRImChkWalks
import Derived.Test.YtbakgobgjfhhhaaDoorRGetWalks
import Derived.Test.YtbakgobgjfhhhaaDoorPmai
import Derived.Test.YtbakgobgjfhhhaaDoorInReadKit
import Derived.Deep.RegionHeld3

/- What linenref.ReadImap answers. -/
namespace Go.Proofs.YtbakgobgjfhhhaaDoor
open Go.RowKit

theorem infoInR : (Tryd.prog.info? 3).map (fun i => (i.zero, i.size, i.bytes)) = some (some (.int .i64 0), 1, 8) := by kernel_rfl
theorem apart_at {u v v' : Value} {X : Nat} (h : Apart u v) (hu : ∀ b, u.ownBlock = some b → b < X) (hat : v'.ownBlock = v.ownBlock ∨ v'.ownBlock = some X) : Apart u v' := by
  rcases h with h | h
  · exact .inl h
  · refine .inr fun he => ?_
    rcases hat with h1 | h1
    · exact h (he.trans h1)
    · have := hu X (he.trans h1); omega
theorem cell_int1 (w : World) (x : Int) (t : TypeId) : ∀ j u, [Value.int .i64 x][j]? = some u → (w.alloc (.cells #[.int .i64 x] t)).cell? ((⟨w.heap.size, 0, none⟩ : Addr).add j) = some u := by
  intro j u hj
  have h := (boxV_new w [.int .i64 x] t).c j u hj
  rw [addR, Nat.zero_add]; exact h
theorem one_intM (x : Int) : ∀ u ∈ [Value.int .i64 x], u.oneCell' = true := by
  intro u hu
  rw [List.mem_singleton.1 hu]; rfl
theorem contM_nil {A : List Pla} {D : List Int} {k : Nat} (hk : k ≤ 48) (hA : A.length = k) : contM A D (48 - k) [] = if chkM A D = 0 then some (A, D) else none := by
  by_cases h : k = 48
  · subst h; rw [Nat.sub_self, contM_zero_nil]
  · obtain ⟨n, hn⟩ : ∃ n, 48 - k = n + 1 := ⟨48 - k - 1, by omega⟩
    rw [hn, contM_succ_nil, if_neg]
    rw [chkM_len (by rw [hA]; omega)]
    decide
set_option maxRecDepth 20000 in
set_option maxHeartbeats 12800000 in
theorem rreadimap_low (s : ByteArray) (w : World) (hs : s.size ≤ 140737488355328) :
    Calls Tryd.prog 32 #[.string s] w fun z w' => RdMB w.heap.size w' s.data.toList z ∧ Below w.heap.size w w' := by
  have hr0 := (boxV_new w [.slice none 0 0, .slice none 0 0] 25).alloc (.cells #[.slice none 0 0, .slice none 0 0] 25)
  have hm0 := boxV_new (w.alloc (.cells #[.slice none 0 0, .slice none 0 0] 25)) [.slice none 0 0, .slice none 0 0] 25
  rw [show (w.alloc (.cells #[.slice none 0 0, .slice none 0 0] 25)).heap.size = w.heap.size + 1 by simp] at hm0
  have hb0 := (below_boxP (w := w) #[.slice none 0 0, .slice none 0 0] 25).alloc (by simp) (.cells #[.slice none 0 0, .slice none 0 0] 25)
  have hs0 : ((w.alloc (.cells #[.slice none 0 0, .slice none 0 0] 25)).alloc (.cells #[.slice none 0 0, .slice none 0 0] 25)).heap.size = w.heap.size + 2 := by simp
  obtain ⟨W0, hW0⟩ : ∃ W, Hid ((w.alloc (.cells #[.slice none 0 0, .slice none 0 0] 25)).alloc (.cells #[.slice none 0 0, .slice none 0 0] 25) = W) := ⟨_, Hid.mk' rfl⟩
  have HR0 : Hid (BoxV W0 w.heap.size [.slice none 0 0, .slice none 0 0]) := by rw [← hW0.out]; exact hr0
  have HM0 : Hid (BoxV W0 (w.heap.size + 1) [.slice none 0 0, .slice none 0 0]) := by rw [← hW0.out]; exact hm0
  have HB0 : Hid (Below w.heap.size w W0) := by rw [← hW0.out]; exact hb0
  rw [hW0.out] at hs0
  have hz0 := Hid.mk' hs0
  obtain ⟨L, hL⟩ : ∃ L, Hid (s.data.toList = L) := ⟨_, Hid.mk' rfl⟩
  rw [hL.out]
  obtain ⟨ip, hip, hp0, hp1, hp2⟩ := info_parts infoPlR
  have KP := Hid.mk' hip
  have KP0 := Hid.mk' hp0
  have KP1 := Hid.mk' hp1
  have KP2 := Hid.mk' hp2
  obtain ⟨ii, hii, hi0, hi1, hi2⟩ := info_parts infoInR
  have KI := Hid.mk' hii
  have KI0 := Hid.mk' hi0
  have KI1 := Hid.mk' hi1
  have KI2 := Hid.mk' hi2
  clear hr0 hm0 hb0 hs0 hip hp0 hp1 hp2 hii hi0 hi1 hi2
  go_enter Tryd.func32, Tryd.ntmps32
  go_wp2_with fail
  rw [hW0.out]
  go_loopw [5] (fun t wr => ∃ (k : Nat) (B : ByteArray) (A : List Pla) (D : List Int) (u v : Value), k ≤ 48 ∧ t = .string B ∧ readM L = contM A D (48 - k) B.data.toList ∧ B.size ≤ s.size ∧ (∀ p ∈ A, PlaB p) ∧ (∀ g ∈ D, I64 g) ∧ OwnIm wr (w.heap.size + 2) u v k k A D ∧ BoxV wr (w.heap.size + 1) [u, v] ∧ BoxV wr w.heap.size [.slice none 0 0, .slice none 0 0] ∧ Below w.heap.size w wr ∧ w.heap.size + 2 ≤ wr.heap.size) (fun t _ => sizeOfM t)
  case atStart => exact ⟨0, s, [], [], _, _, by omega, rfl, by rw [hL.out]; rfl, Nat.le_refl _, (fun p hp => by cases hp), (fun g hg => by cases hg), OwnIm.nil _ _, HM0.out, HR0.out, HB0.out, by have := hz0.out; omega⟩
  case round =>
    obtain ⟨k, B, A, D, u, v, hk, rfl, hrd, hBs, hPB, hIB, hO, hM, hR, hB, hzr⟩ := hrel
    obtain ⟨ua, uc, rfl⟩ := own_slice' hO.rp
    obtain ⟨va, vc, rfl⟩ := own_slice' hO.rg
    have HRD := Hid.mk' hrd
    have HPB := Hid.mk' hPB
    have HIB := Hid.mk' hIB
    have HO := Hid.mk' hO
    have HM := Hid.mk' hM
    have HR := Hid.mk' hR
    have HB := Hid.mk' hB
    have hBl : Hid (B.data.toList.length = B.size) := by show _ = _; rw [Array.length_toList]; rfl
    have hRS := Hid.mk' (hR.set2M (.slice none 0 0) (.slice none 0 0))
    have hBS : Hid (Below w.heap.size w ((wr.setCell ⟨w.heap.size, 0, none⟩ (.slice none 0 0)).setCell ⟨w.heap.size, 1, none⟩ (.slice none 0 0))) := (hB.setCell (Nat.le_refl _) _).setCell (Nat.le_refl _) _
    have r0 := hR.c 0 _ rfl
    have r1 := hR.c 1 _ rfl
    have rf0 := hR.f 0 (by simp)
    have rf1 := hR.f 1 (by simp)
    have m0 := hM.c 0 _ rfl
    have m1 := hM.c 1 _ rfl
    clear hrd hPB hIB hO hM hR hB
    by_cases hBe : B.size = 0
    · have te : B.toList.isEmpty = true := by rw [empty_isM]; exact decide_eq_true hBe
      have hnil : B.data.toList = [] := List.length_eq_zero_iff.1 (by rw [hBl.out, hBe])
      have hre : Hid (readM L = if chkM A D = 0 then some (A, D) else none) := by show _ = _; rw [HRD.out, hnil, contM_nil hk HO.out.lp]
      obtain ⟨a', c', b', e', h1, h2, h3, h4⟩ := HO.out.pls hk hk HPB.out HIB.out
      cases h1
      cases h2
      have hck := Hid.mk' (fun w h h' => rimap_any ua k uc va k vc A D w h h')
      obtain ⟨q, hq⟩ : ∃ q, Hid (chkM A D = q) := ⟨_, Hid.mk' rfl⟩
      rw [hq.out] at hck hre
      have H3 := Hid.mk' h3
      have H4 := Hid.mk' h4
      clear hnil h3 h4 hBe
      go_wp2_with fail
      refine (hck.out wr H3.out H4.out).mono ?_
      rintro z w2 ⟨rfl, hb⟩
      have HR2 := Hid.mk' (HR.out.below hb)
      have HM2 := Hid.mk' (HM.out.below hb)
      have HB2 := Hid.mk' (HB.out.trans (hb.mono HB.out.size))
      have HO2 := Hid.mk' (HO.out.below hb)
      have r0 := HR2.out.c 0 _ rfl
      have r1 := HR2.out.c 1 _ rfl
      have rf0 := HR2.out.f 0 (by simp)
      have rf1 := HR2.out.f 1 (by simp)
      have m0 := HM2.out.c 0 _ rfl
      have m1 := HM2.out.c 1 _ rfl
      have hRS2 := Hid.mk' (fun a b => HR2.out.set2M a b)
      have hBS2 : Hid (∀ a b, Below w.heap.size w ((w2.setCell ⟨w.heap.size, 0, none⟩ a).setCell ⟨w.heap.size, 1, none⟩ b)) := fun a b => (HB2.out.setCell (Nat.le_refl _) _).setCell (Nat.le_refl _) _
      clear hb
      by_cases h0 : q = 0
      · subst h0
        have hyes : Hid (readM L = some (A, D)) := by show _ = _; rw [hre.out, if_pos rfl]
        have hOf := (HO2.out.setLow (a := ⟨w.heap.size, 0, none⟩) (by show w.heap.size < w.heap.size + 2; omega) (.slice ua k uc)).setLow (a := ⟨w.heap.size, 1, none⟩) (by show w.heap.size < w.heap.size + 2; omega) (.slice va k vc)
        have HLa := Hid.mk' ((low_own hOf.rp).mono (M := w.heap.size) (by omega))
        have HLb := Hid.mk' ((low_own hOf.rg).mono (M := w.heap.size) (by omega))
        obtain ⟨a', c', b', e', h1, h2, h3, h4⟩ := hOf.pls hk hk HPB.out HIB.out
        cases h1
        cases h2
        have H5 := Hid.mk' h3
        have H6 := Hid.mk' h4
        have hla := Hid.mk' HO2.out.lp
        have hlb := Hid.mk' HO2.out.lg
        clear h3 h4 hOf
        go_wp2_with fail
        refine bodyPost_ret (results_boxV2M rfl _ _ w.heap.size 2 _ _ rfl rfl (hRS2.out (.slice ua k uc) (.slice va k vc)) rfl infoSzIm (aggIm _)) rfl ⟨rdMB_yes hyes.out hla.out hlb.out rfl H5.out H6.out HLa.out HLb.out, hBS2.out _ _⟩
      · have hno : Hid (readM L = none) := by show _ = _; rw [hre.out, if_neg h0]
        have tq : (q != 0) = true := by rw [bne_iff_ne]; exact h0
        clear h0
        go_wp2_with fail
        refine bodyPost_ret (results_boxV2M rfl _ _ w.heap.size 2 _ _ rfl rfl (hRS2.out (.slice none 0 0) (.slice none 0 0)) rfl infoSzIm (aggIm _)) rfl ⟨rdMB_no hno.out rfl, hBS2.out _ _⟩
    have te : B.toList.isEmpty = false := by rw [empty_isM]; exact decide_eq_false hBe
    have HG := Hid.mk' (fun X => rget_any B X)
    obtain ⟨E, hE⟩ : ∃ E, Hid (getE B.data.toList = E) := ⟨_, Hid.mk' rfl⟩
    obtain ⟨Z, hZ⟩ : ∃ E, Hid (getA B.data.toList = E) := ⟨_, Hid.mk' rfl⟩
    obtain ⟨K, hK⟩ : ∃ E, Hid (getK B.data.toList = E) := ⟨_, Hid.mk' rfl⟩
    rw [hE.out, hZ.out, hK.out] at HG
    -- what is wrong
    have HW : Hid (∀ (_ : readM L = none) (X : World), X = wr → bodyPost Tryd.prog Tryd.f32 (fun z w' => RdMB w.heap.size w' L z ∧ Below w.heap.size w w') .ret { tmps := #[], defers := [] } X → True) := fun _ _ _ _ => trivial
    clear HW
    by_cases hE0 : E = 0
    rotate_left
    · have hno : Hid (readM L = none) := by
        show _ = _
        rw [HRD.out]
        by_cases h48 : k = 48
        · subst h48
          rw [Nat.sub_self]
          match hd : B.data.toList with
          | [] => exact absurd (by rw [← hBl.out, hd]; rfl) hBe
          | x :: t => exact contM_zero_cons
        · rw [show 48 - k = (48 - k - 1) + 1 by omega]
          exact contM_none (oneR_bad (fun h => hE0 (by rw [← hE.out]; exact h.1)))
      have tE : (E != 0) = true := by rw [bne_iff_ne]; exact hE0
      clear hE0 hBe
      go_wp2_with fail
      refine (HG.out _).mono ?_
      rintro z w2 ⟨rfl, rfl⟩
      go_wp2_with fail
      refine bodyPost_ret (results_boxV2M rfl _ _ w.heap.size 2 _ _ rfl rfl hRS.out rfl infoSzIm (aggIm _)) rfl ⟨rdMB_no hno.out rfl, hBS.out⟩
    subst hE0
    by_cases hZ0 : 2147483647 < Z
    · have hno : Hid (readM L = none) := by
        show _ = _
        rw [HRD.out]
        by_cases h48 : k = 48
        · subst h48
          rw [Nat.sub_self]
          match hd : B.data.toList with
          | [] => exact absurd (by rw [← hBl.out, hd]; rfl) hBe
          | x :: t => exact contM_zero_cons
        · rw [show 48 - k = (48 - k - 1) + 1 by omega]
          exact contM_none (oneR_bad (fun h => by have := h.2; rw [hZ.out] at this; omega))
      have tZ : decide ((2147483647 : Int) < (Z : Int)) = true := decide_eq_true (by omega)
      clear hZ0 hBe
      go_wp2_with fail
      refine (HG.out _).mono ?_
      rintro z w2 ⟨rfl, rfl⟩
      go_wp2_with fail
      refine bodyPost_ret (results_boxV2M rfl _ _ w.heap.size 2 _ _ rfl rfl hRS.out rfl infoSzIm (aggIm _)) rfl ⟨rdMB_no hno.out rfl, hBS.out⟩
    have tZ : decide ((2147483647 : Int) < (Z : Int)) = false := decide_eq_false (by omega)
    have hgood : Hid (getE B.data.toList = 0 ∧ getA B.data.toList ≤ 2147483647) := ⟨hE.out, by rw [hZ.out]; omega⟩
    have hZb : Z ≤ 2147483647 := by omega
    have hKB : K ≤ B.size := by
      have := (put_get B.data.toList hE.out).2.1
      rw [hK.out, hBl.out] at this; exact this
    have eZ : IntKind.i64.wrap (Z : Int) = Z := by rw [IntKind.wrap_i64]; omega
    have eK2 : IntKind.i64.wrap ((K : Int) + 2) = (K : Int) + 2 := by rw [IntKind.wrap_i64]; omega
    clear hZ0
    by_cases hK2 : B.size < K + 2
    · have hno : Hid (readM L = none) := by
        show _ = _
        rw [HRD.out]
        by_cases h48 : k = 48
        · subst h48
          rw [Nat.sub_self]
          match hd : B.data.toList with
          | [] => exact absurd (by rw [← hBl.out, hd]; rfl) hBe
          | x :: t => exact contM_zero_cons
        · rw [show 48 - k = (48 - k - 1) + 1 by omega]
          exact contM_none (oneR_short (by rw [List.length_drop, hBl.out, hK.out]; omega))
      have tK : decide ((B.size : Int) < (K : Int) + 2) = true := decide_eq_true (by omega)
      clear hBe hK2
      go_wp2_with fail
      refine (HG.out _).mono ?_
      rintro z w2 ⟨rfl, rfl⟩
      go_wp2_with fail
      refine bodyPost_ret (results_boxV2M rfl _ _ w.heap.size 2 _ _ rfl rfl hRS.out rfl infoSzIm (aggIm _)) rfl ⟨rdMB_no hno.out rfl, hBS.out⟩
    have tK : decide ((B.size : Int) < (K : Int) + 2) = false := decide_eq_false (by omega)
    by_cases h48 : k = 48
    · subst h48
      have hno : Hid (readM L = none) := by
        show _ = _
        rw [HRD.out, Nat.sub_self]
        match hd : B.data.toList with
        | [] => exact absurd (by rw [← hBl.out, hd]; rfl) hBe
        | x :: t => exact contM_zero_cons
      clear hBe hK2
      go_wp2_with fail
      refine (HG.out _).mono ?_
      rintro z w2 ⟨rfl, rfl⟩
      go_wp2_with fail
      refine bodyPost_ret (results_boxV2M rfl _ _ w.heap.size 2 _ _ rfl rfl hRS.out rfl infoSzIm (aggIm _)) rfl ⟨rdMB_no hno.out rfl, hBS.out⟩
    have t48 : ((k : Int) == 48) = false := by rw [beq_eq_false_iff_ne]; omega
    have hk1 : K < B.size := by omega
    have hk2 : K + 1 < B.size := by omega
    have hk48 : k < 48 := by omega
    obtain ⟨n, hn⟩ : ∃ n, Hid (48 - k = n + 1) := ⟨48 - k - 1, by show _ = _; omega⟩
    rw [hn.out] at HRD
    obtain ⟨x, hx⟩ : ∃ x, Hid (B[K]'hk1 = x) := ⟨_, Hid.mk' rfl⟩
    obtain ⟨y, hy⟩ : ∃ x, Hid (B[K + 1]'hk2 = x) := ⟨_, Hid.mk' rfl⟩
    obtain ⟨R, hR'⟩ : ∃ T, Hid (B.extract (K + 2) B.size = T) := ⟨_, Hid.mk' rfl⟩
    have hRl : R.data.toList = B.data.toList.drop (K + 2) := by rw [← hR'.out, ext_listP]
    have hRz : R.size = B.size - (K + 2) := by rw [← hR'.out, ext_sizeP]
    have hd : B.data.toList.drop (getK B.data.toList) = x :: y :: R.data.toList := by
      rw [hK.out, List.drop_eq_getElem_cons (by rw [hBl.out]; exact hk1), List.drop_eq_getElem_cons (by rw [hBl.out]; exact hk2), hRl]
      have e1 : B.data.toList[K]'(by rw [hBl.out]; exact hk1) = x := hx.out
      have e2 : B.data.toList[K + 1]'(by rw [hBl.out]; exact hk2) = y := hy.out
      rw [e1, e2]
    have hone := oneR_some hgood.out hd
    rw [hZ.out] at hone
    have hrd2 : Hid (readM L = contM (A ++ [rpl x y]) (D ++ [(Z : Int)]) n R.data.toList) := by show _ = _; rw [HRD.out, contM_step hone]
    have hPB2 : Hid (∀ p ∈ A ++ [rpl x y], PlaB p) := fun p hp => by
      rcases List.mem_append.1 hp with h | h
      · exact HPB.out p h
      · rw [List.mem_singleton.1 h]; exact plaB_rpl x y
    have hIB2 : Hid (∀ g ∈ D ++ [(Z : Int)], I64 g) := fun g hg => by
      rcases List.mem_append.1 hg with h | h
      · exact HIB.out g h
      · rw [List.mem_singleton.1 h]; exact ⟨by omega, by omega⟩
    have hx' := hx.out
    have hy' := hy.out
    have hR2 := hR'.out
    have hlx := x.toNat_lt
    have hly := y.toNat_lt
    obtain ⟨p, hp⟩ : ∃ p, Hid (rpl x y = p) := ⟨_, Hid.mk' rfl⟩
    have ep : (⟨(x.toNat : Int), (y.toNat : Int)⟩ : Pla) = p := hp.out
    rw [hp.out] at hrd2 hPB2
    obtain ⟨xn, hxn⟩ : ∃ u, Hid (x.toNat = u) := ⟨_, Hid.mk' rfl⟩
    obtain ⟨yn, hyn⟩ : ∃ u, Hid (y.toNat = u) := ⟨_, Hid.mk' rfl⟩
    rw [hxn.out] at ep hlx
    rw [hyn.out] at ep hly
    have hxn' := hxn.out
    have hyn' := hyn.out
    subst ep
    have ex0 : IntKind.i64.wrap (xn : Int) = xn := by rw [IntKind.wrap_i64]; omega
    have ey0 : IntKind.i64.wrap (yn : Int) = yn := by rw [IntKind.wrap_i64]; omega
    have ew : IntKind.i64.wrap ((K : Int) + 1) = (K : Int) + 1 := by rw [IntKind.wrap_i64]; omega
    have et : ((K : Int) + 1).toNat = K + 1 := by omega
    have et2 : ((K : Int) + 2).toNat = K + 2 := by omega
    have ii0 : (0 : Int) ≤ (K : Int) := by omega
    have ii1 : (K : Int) < (B.size : Int) := by omega
    have ii3 : (0 : Int) ≤ (K : Int) + 1 := by omega
    have ii4 : (K : Int) + 1 < (B.size : Int) := by omega
    have ii5 : (0 : Int) ≤ (K : Int) + 2 := by omega
    have ii6 : (K : Int) + 2 ≤ (B.size : Int) := by omega
    have hnM : Hid ((Value.slice va k vc).ownBlock ≠ some (w.heap.size + 1)) := fun h => by have := (HO.out.rg.lt _ h).1; omega
    have hnR : Hid ((Value.slice va k vc).ownBlock ≠ some w.heap.size) := fun h => by have := (HO.out.rg.lt _ h).1; omega
    have huM : Hid ((Value.slice ua k uc).ownBlock ≠ some (w.heap.size + 1)) := fun h => by have := (HO.out.rp.lt _ h).1; omega
    have huR : Hid ((Value.slice ua k uc).ownBlock ≠ some w.heap.size) := fun h => by have := (HO.out.rp.lt _ h).1; omega
    have hb1 : k + 1 ≤ maxLen := by unfold maxLen; omega
    have hb2 : (k + 1) * 8 ≤ 140737488355328 := by omega
    have hb3 : (k + 1) * 16 ≤ 140737488355328 := by omega
    clear hBe hK2 hd hone hRl r0 r1 rf0 rf1 hRS hBS
    go_wp2_with fail
    refine (HG.out _).mono ?_
    rintro z w2 ⟨rfl, rfl⟩
    go_wp2_with (at_builtin; refine wpList_append_at rfl (.tmp 39) (.tmp 42) 23 rfl (w.heap.size + 2) 3 ii (.int .i64 0) 1 8 Tryd.underlying23 KI.out KI0.out KI1.out KI2.out rfl (by decide) (.slice va k vc) k (inC D) rfl (HO.out.rg.alloc _) ⟨w2.heap.size, 0, none⟩ 1 1 [.int .i64 (Z : Int)] rfl rfl (by exact cell_int1 w2 _ _) (one_intM _) hb1 hb2 (by simp; omega) ?_; intro v5 w5 hown5 hgrow5 hat5; obtain ⟨va2, vc2, hv5⟩ := own_slice' hown5; subst hv5; have HM5 := Hid.mk' ((HM.out.alloc (.cells #[.int .i64 (Z : Int)] 3)).grown hgrow5 hnM.out); have mm0 := HM5.out.c 0 _ rfl; have mm1 := HM5.out.c 1 _ rfl; have mf1 := HM5.out.f 1 (by simp))
    have hgrow5' : (w2.alloc (.cells #[.int .i64 (Z : Int)] 3)).grownBy w5 (Value.slice va k vc).ownBlock := hgrow5
    have hz5 := hgrow5'.size
    have hz5' : w.heap.size + 2 ≤ w5.heap.size := by simp at hz5; omega
    have hU5 := ((HO.out.rp.alloc (.cells #[.int .i64 (Z : Int)] 3)).kept hgrow5' HO.out.ap)
    have hAp5 : Apart (.slice ua k uc) (.slice va2 (k + 1) vc2) := apart_at HO.out.ap (fun b hb => (((HO.out.rp.alloc (.cells #[.int .i64 (Z : Int)] 3)).lt b hb).2)) hat5
    have hR5 := (HR.out.alloc (.cells #[.int .i64 (Z : Int)] 3)).grown hgrow5' hnR.out
    have hB5 := (HB.out.alloc (by omega) (.cells #[.int .i64 (Z : Int)] 3)).grown hgrow5' (by simp; omega) fun i hi => by have := (HO.out.rg.lt i hi).1; omega
    have HU6 := Hid.mk' (ownsRow_setCell_below hU5 (a := ⟨w.heap.size + 1, 1, none⟩) (by show w.heap.size + 1 < w.heap.size + 2; omega) (.slice va2 (k + 1) vc2))
    have HV6 : Hid ((w5.setCell ⟨w.heap.size + 1, 1, none⟩ (.slice va2 (k + 1) vc2)).ownsRow (w.heap.size + 2) 3 1 (.slice va2 (k + 1) vc2) (k + 1) (inC (D ++ [(Z : Int)]))) := by
      show World.ownsRow _ _ _ _ _ _ _
      rw [inC_snoc]
      exact ownsRow_setCell_below hown5 (a := ⟨w.heap.size + 1, 1, none⟩) (by show w.heap.size + 1 < w.heap.size + 2; omega) (.slice va2 (k + 1) vc2)
    have HM6 := Hid.mk' (HM5.out.set 1 (.slice va2 (k + 1) vc2) (by simp))
    have HR6 := Hid.mk' (hR5.other ⟨w.heap.size + 1, 1, none⟩ (.slice va2 (k + 1) vc2) (by show w.heap.size + 1 ≠ w.heap.size; omega))
    have HB6 : Hid (Below w.heap.size w (w5.setCell ⟨w.heap.size + 1, 1, none⟩ (.slice va2 (k + 1) vc2))) := hB5.setCell (by show w.heap.size ≤ w.heap.size + 1; omega) _
    have HAp5 := Hid.mk' hAp5
    have hz6 : (w5.setCell ⟨w.heap.size + 1, 1, none⟩ (.slice va2 (k + 1) vc2)).heap.size = w5.heap.size := by simp [World.setCell]
    obtain ⟨W6, hW6⟩ : ∃ W, Hid (w5.setCell ⟨w.heap.size + 1, 1, none⟩ (.slice va2 (k + 1) vc2) = W) := ⟨_, Hid.mk' rfl⟩
    rw [hW6.out] at HU6 HV6 HM6 HR6 HB6 hz6
    have hlt1 : w.heap.size + 1 < W6.heap.size := by omega
    have hW6z : w.heap.size + 2 ≤ W6.heap.size := by omega
    clear hz6
    have HCA : Hid (∀ o : Obj, (W6.alloc o).cell? ⟨w.heap.size + 1, 0, none⟩ = some (.slice ua k uc)) := fun o => (HM6.out.alloc o).c 0 _ rfl
    have HFA : Hid (∀ o : Obj, (W6.alloc o).frozen? ⟨w.heap.size + 1, 0, none⟩ = false) := fun o => (HM6.out.alloc o).f 0 (by simp)
    have HB3 : Hid (∀ o : Obj, w.heap.size + 2 ≤ (W6.alloc o).heap.size) := fun o => by simp; omega
    have hc0 := HM6.out.c 0 _ rfl
    have hcD : ∀ o : Obj, (W6.drew.alloc o).cell? ⟨w.heap.size + 1, 0, none⟩ = some (.slice ua k uc) := fun o => HCA.out o
    clear hgrow5 hgrow5' hown5 hat5 hU5 hAp5 hR5 hB5 hz5 mm0 mm1 mf1 m0 m1
    rw [hW6.out]
    go_region_law (first | (refine step_append_at rfl (.tmp 46) (.tmp 57) 22 rfl (w.heap.size + 2) 67 ip (.agg #[.int .i64 0, .int .i64 0]) 2 16 Tryd.underlying22 KP.out KP0.out KP1.out KP2.out rfl (by decide) (.slice ua k uc) k (plC A) rfl (by exact HU6.out.alloc _) ⟨W6.heap.size, 0, none⟩ 1 1 (pl2 ⟨(xn : Int), (yn : Int)⟩) rfl rfl (by exact cells_pl2 W6.drew ⟨(xn : Int), (yn : Int)⟩ _) (pl2_one _) hb1 hb3 (by exact HB3.out _) ?_; intro v' w7 hown7 hgrow7 hat7; obtain ⟨ao', cp', rfl⟩ := own_slice' hown7; have hcy2 := (cell_grown_own (by exact HU6.out.alloc _) hgrow7 (by exact HB3.out _) (p := ⟨w.heap.size + 1, 0, none⟩) (Nat.lt_succ_self _)).trans (by exact HCA.out _); have hfy2 := (frozen_grown_own (by exact HU6.out.alloc _) hgrow7 (by exact HB3.out _) (p := ⟨w.heap.size + 1, 0, none⟩) (Nat.lt_succ_self _)).trans (by exact HFA.out _)) | fail)
    all_goals
      have hgr7 : (W6.alloc (.cells #[.int .i64 (xn : Int), .int .i64 (yn : Int)] 67)).grownBy w7 (Value.slice ua k uc).ownBlock := ⟨hgrow7.os, hgrow7.tape, hgrow7.output, hgrow7.size, hgrow7.block⟩
      have hV7 := (HV6.out.alloc (.cells #[.int .i64 (xn : Int), .int .i64 (yn : Int)] 67)).kept hgr7 HAp5.out.symm
      have hAp7 : Apart (.slice va2 (k + 1) vc2) (.slice ao' (k + 1) cp') := apart_at HAp5.out.symm (fun b hb => (((HV6.out.alloc (.cells #[.int .i64 (xn : Int), .int .i64 (yn : Int)] 67)).lt b hb).2)) hat7
      have hM7 := (HM6.out.alloc (.cells #[.int .i64 (xn : Int), .int .i64 (yn : Int)] 67)).grown hgr7 huM.out
      have hR7 := (HR6.out.alloc (.cells #[.int .i64 (xn : Int), .int .i64 (yn : Int)] 67)).grown hgr7 huR.out
      have hB7 := (HB6.out.alloc (by omega) (.cells #[.int .i64 (xn : Int), .int .i64 (yn : Int)] 67)).grown hgr7 (by simp; omega) fun i hi => by have := (HU6.out.lt i hi).1; omega
      have hz7 := hgr7.size
      have hU7 : w7.ownsRow (w.heap.size + 2) 67 2 (.slice ao' (k + 1) cp') (k + 1) (plC (A ++ [⟨(xn : Int), (yn : Int)⟩])) := by rw [plC_snoc]; exact hown7
      have hO8 : OwnIm w7 (w.heap.size + 2) (.slice ao' (k + 1) cp') (.slice va2 (k + 1) vc2) (k + 1) (k + 1) (A ++ [⟨(xn : Int), (yn : Int)⟩]) (D ++ [(Z : Int)]) := ⟨hU7, hV7, hAp7.symm, by rw [List.length_append, HO.out.lp]; rfl, by rw [List.length_append, HO.out.lg]; rfl⟩
      have HO8 := Hid.mk' (hO8.setLow (a := ⟨w.heap.size + 1, 0, none⟩) (by show w.heap.size + 1 < w.heap.size + 2; omega) (.slice ao' (k + 1) cp'))
      have HM8 := Hid.mk' (hM7.set 0 (.slice ao' (k + 1) cp') (by simp))
      have HR8 := Hid.mk' (hR7.other ⟨w.heap.size + 1, 0, none⟩ (.slice ao' (k + 1) cp') (by show w.heap.size + 1 ≠ w.heap.size; omega))
      have HB8 : Hid (Below w.heap.size w (w7.setCell ⟨w.heap.size + 1, 0, none⟩ (.slice ao' (k + 1) cp'))) := hB7.setCell (by show w.heap.size ≤ w.heap.size + 1; omega) _
      have hz8 : w.heap.size + 2 ≤ (w7.setCell ⟨w.heap.size + 1, 0, none⟩ (.slice ao' (k + 1) cp')).heap.size := by simp at hz7; simp [World.setCell]; omega
      clear hgrow7 hown7 hat7 hgr7 hcy2 hfy2 hcD hc0 hV7 hAp7 hM7 hR7 hB7 hz7 hU7 hO8
      go_wp2_with fail
      go_roundw
      case rel => exact ⟨k + 1, R, _, _, _, _, by omega, rfl, by rw [hrd2.out, show 48 - (k + 1) = n by have := hn.out; omega], by omega, hPB2.out, hIB2.out, HO8.out, HM8.out, HR8.out, HB8.out, hz8⟩
      case measure => simp [sizeOfM]; omega
theorem rreadimap_any (s : ByteArray) (w : World) (hs : s.size ≤ 140737488355328) :
    Calls Tryd.prog 32 #[.string s] w fun z w' => RdMA w' s.data.toList z ∧ Below w.heap.size w w' :=
  (rreadimap_low s w hs).mono fun _ _ h => ⟨h.1.ans, h.2⟩
end Go.Proofs.YtbakgobgjfhhhaaDoor
