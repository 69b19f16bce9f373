/- What linenref.FewestCells answers. -/
import Derived.Test.YtjfmpnphlpeikaaBlCellsMath
import Derived.Test.YtjfmpnphlpeikaaBlSplitWalks
import Derived.Test.YtjfmpnphlpeikaaRBlobsWalks
import Derived.Test.YtjfmpnphlpeikaaBoxV
import Derived.BigRegion
import Derived.Laws.OwnMore
namespace Go.Proofs.Ytjfmpnphlpeikaa
open Go.RowKit

theorem natC_at (X : List Nat) (j : Nat) (h : j < X.length) : (natC X)[j]? = some (.int .i64 (X.getD j 0 : Nat)) := by
  unfold natC
  rw [List.getElem?_map, List.getD_eq_getElem?_getD, List.getElem?_eq_getElem h]; rfl
theorem natC_set (X : List Nat) (i v : Nat) : (natC X).set i (.int .i64 (v : Int)) = natC (X.set i v) := by unfold natC; rw [List.map_set]
theorem getD_set (X : List Nat) (i v j : Nat) (hi : i < X.length) : (X.set i v).getD j 0 = if j = i then v else X.getD j 0 := by
  simp only [List.getD_eq_getElem?_getD, List.getElem?_set]
  by_cases h : j = i
  · subst h; simp [hi]
  · simp [h, show ¬ i = j by omega]
/-- the row of the least numbers, up to i; at i what was found so far -/
structure FcSt (l : List Blb) (n i v : Nat) (X : List Nat) : Prop where
  len : X.length = n + 1
  low : ∀ j, j < i → X.getD j 0 = lev (splN l) j
  at' : X.getD i 0 = v
theorem FcSt.set {l : List Blb} {n i v : Nat} {X : List Nat} (h : FcSt l n i v X) (hi : i ≤ n) (u : Nat) : FcSt l n i u (X.set i u) := by
  have hl := h.len
  refine ⟨by rw [List.length_set]; exact h.len, fun j hj => ?_, ?_⟩
  · rw [getD_set X i u j (by omega), if_neg (by omega)]; exact h.low j hj
  · rw [getD_set X i u i (by omega), if_pos rfl]
theorem seg_len {l : List Blb} {k i : Nat} (hi : i ≤ l.length) : (seg l k i).length = i - k := by unfold seg; rw [List.length_take, List.length_drop]; omega
theorem seg_wr {l : List Blb} {k i : Nat} (hc : chkL l = 0) (hi : i ≤ l.length) : wrB (seg l k i) = 0 ↔ SegOk l k i := by
  have hl := seg_len (k := k) hi
  unfold SegOk
  constructor
  · intro h
    have := wrB_ok h
    rw [hl] at this
    exact ⟨this.1, this.2.2⟩
  · rintro ⟨h1, h2⟩
    exact wrB_of (by omega) (chkL_take (chkL_drop hc k) (i - k)) h2
set_option maxRecDepth 20000 in
set_option maxHeartbeats 3200000 in
theorem fewest_any (a0 : Option Addr) (n c : Nat) (l : List Blb) (w : World) (h : Bls w a0 n c l) (hok : chkL l = 0) (hn60 : n ≤ 60) :
    Calls Try.prog 19 #[.slice a0 n c] w fun e w' => e = .returned (.int .i64 ((splN l).length : Nat)) ∧ Below w.heap.size w w' := by
  have HL := Hid.mk' h
  have hnL := Hid.mk' h.nL
  have hOk := Hid.mk' hok
  have hcm : c ≤ 9223372036854775807 := by have := h.km; unfold maxLen at this; omega
  have hnc := h.kc
  have hfin := Hid.mk' (lev_all l.length l (Nat.le_refl _) hok)
  have hstep := Hid.mk' (lev_step l.length l (Nat.le_refl _) hok)
  have hsome := Hid.mk' (lev_some l.length l (Nat.le_refl _) hok)
  have hlevB : Hid (∀ j, lev (splN l) j ≤ 60) := fun j => by
    have h1 := lev_le (splN l) j
    have h2 : (splN l).length ≤ l.length := by
      have : ∀ f (m : List Blb), chkL m = 0 → (splF f m).length ≤ m.length := by
        intro f
        induction f with
        | zero => intro m _; exact Nat.zero_le _
        | succ f ih =>
          intro m hm
          cases m with
          | nil => exact Nat.le_refl _
          | cons b r =>
            have hp := fit_pos (r := r) (chkL_all hm b (by simp))
            have h3 := ih _ (chkL_drop hm (fitN 2 0 (b :: r)))
            rw [List.length_drop] at h3
            rw [splF, List.length_cons]
            simp only [List.length_cons] at h3 ⊢
            omega
      exact this _ l hok
    rw [h.nL] at h2
    omega
  obtain ⟨M, hM⟩ : ∃ M, Hid (n + 1 = M) := ⟨_, Hid.mk' rfl⟩
  have eM : (n : Int) + 1 = (M : Int) := by have := hM.out; omega
  have hM61 : M ≤ 61 := by have := hM.out; omega
  have hmk := run_make_row' (P := Try.prog) 34 3 (.int .i64 0) 8 Try.underlying34 infoI64 rfl .i64 .i64 M (by omega) (by omega) w
  have hbx : Hid (BoxV (w.alloc (.cells (madeCells #[.int .i64 0] M) 3)) w.heap.size (natC (List.replicate M 0))) := by
    have h := boxV_new w (natC (List.replicate M 0)) 3
    have e : natC (List.replicate M 0) = (madeCells #[.int .i64 0] M).toList := by rw [toList_madeCells_one]; unfold natC; rw [List.map_replicate]; rfl
    rw [e, Array.toArray_toList] at h
    rw [e]; exact h
  have HB0 : Hid (Below w.heap.size w (w.alloc (.cells (madeCells #[.int .i64 0] M) 3))) := (Below.refl _ w).alloc (Nat.le_refl _) _
  generalize madeCells #[.int .i64 0] M = MC at *
  clear h hok
  go_enter Try.func19, Try.ntmps19
  go_wp2_with fail
  go_loopw [4] (fun t wr => ∃ (i : Nat) (X : List Nat), 1 ≤ i ∧ i ≤ n + 1 ∧ t = .int .i64 (i : Int) ∧ X.length = n + 1 ∧ (∀ j, j < i → X.getD j 0 = lev (splN l) j) ∧ BoxV wr w.heap.size (natC X) ∧ Below w.heap.size w wr) (fun t _ => n + 1 - (intOf t).toNat)
  case atStart =>
    refine ⟨1, List.replicate M 0, Nat.le_refl _, by omega, rfl, by rw [List.length_replicate]; exact hM.out.symm, fun j hj => ?_, hbx.out, HB0.out⟩
    have h0 : j = 0 := by omega
    subst h0
    rw [lev_zero]
    have h1 : 0 < M := by have := hM.out; omega
    rw [List.getD_eq_getElem?_getD, List.getElem?_replicate, if_pos h1]; rfl
  case round =>
    obtain ⟨i, X, hi1, hin, rfl, hXl, hXlow, hbv, hbl⟩ := hrel
    have HV := Hid.mk' hbv
    have HB := Hid.mk' hbl
    have HXl := Hid.mk' hXl
    have HXlow := Hid.mk' hXlow
    clear hbv hbl hXl hXlow
    by_cases hlt : i ≤ n
    · have hst0 := Hid.mk' ((FcSt.mk (v := X.getD i 0) HXl.out HXlow.out rfl).set hlt 1073741824)
      have hi2 : i < (natC X).length := by rw [natC_length, HXl.out]; omega
      have a0' := HV.out.c i _ (natC_at X i (by rw [HXl.out]; omega))
      have f0' := HV.out.f i hi2
      have hset := HV.out.set i (.int .i64 ((1073741824 : Nat) : Int)) hi2
      rw [natC_set] at hset
      have HV1 : Hid (BoxV (wr.setCell ⟨w.heap.size, i, none⟩ (.int .i64 1073741824)) w.heap.size (natC (X.set i 1073741824))) := hset
      have HB1 : Hid (Below w.heap.size w (wr.setCell ⟨w.heap.size, i, none⟩ (.int .i64 1073741824))) := HB.out.setCell (Nat.le_refl _) _
      have iM : (i : Int) < (M : Int) := by have := hM.out; omega
      have i0 : (0 : Int) ≤ (i : Int) := by omega
      clear hset hi2
      go_wp2_with fail
      generalize wr.setCell ⟨w.heap.size, i, none⟩ (.int .i64 1073741824) = w1 at *
      clear a0' f0' HV HB
      go_loopw [5] (fun t wr => ∃ (k v : Nat) (X : List Nat), k ≤ i ∧ i ≤ k + 40 ∧ t = .int .i64 ((k : Int) - 1) ∧ FcSt l n i v X ∧ lev (splN l) i ≤ v ∧ v ≤ 1073741824 ∧ (∀ k', k ≤ k' → k' < i → SegOk l k' i → v ≤ lev (splN l) k' + 1) ∧ BoxV wr w.heap.size (natC X) ∧ Below w.heap.size w wr) (fun t _ => (intOf t + 1).toNat)
      case atStart => exact ⟨i, 1073741824, X.set i 1073741824, Nat.le_refl _, by omega, rfl, hst0.out, by have := hlevB.out i; omega, Nat.le_refl _, (fun k' h1 h2 => by omega), HV1.out, HB1.out⟩
      case round =>
        obtain ⟨k, v, Y, hki, hi40, rfl, hfc, hlv, hvB, hall, hbv, hbl⟩ := hrel
        have HFc := Hid.mk' hfc
        have HAll := Hid.mk' hall
        have HLv := Hid.mk' hlv
        have HV2 := Hid.mk' hbv
        have HB2 := Hid.mk' hbl
        clear hfc hall hbv hbl hlv
        have hexit : Hid ((∀ k', k' < i → SegOk l k' i → k ≤ k') → v = lev (splN l) i) := by
          show _ → _
          intro hk
          obtain ⟨k', h1, h2, h3⟩ := hsome.out i (by omega) (by rw [hnL.out]; exact hlt)
          have h4 := HAll.out k' (hk k' h1 h2) h1 h2
          have h5 := HLv.out
          omega
        have hdone : Hid (v = lev (splN l) i → ∀ j, j < i + 1 → Y.getD j 0 = lev (splN l) j) := by
          show _ → _
          intro hv j hj
          by_cases hji : j = i
          · subst hji; rw [HFc.out.at', hv]
          · exact HFc.out.low j (by omega)
        rcases Nat.eq_zero_or_pos k with h0 | h0
        · subst h0
          have hv := hexit.out (fun k' _ _ => Nat.zero_le _)
          have e0 : ((0 : Nat) : Int) - 1 = -1 := rfl
          rw [e0]
          have HD := Hid.mk' (hdone.out hv)
          clear hv e0
          go_wp2_with fail
          go_roundw
          case rel => exact ⟨i + 1, Y, by omega, by omega, by go_num, HFc.out.len, HD.out, HV2.out, HB2.out⟩
          case measure => simp [intOf]; omega
        · obtain ⟨m, rfl⟩ : ∃ m, k = m + 1 := ⟨k - 1, by omega⟩
          have em : ((m + 1 : Nat) : Int) - 1 = (m : Int) := by omega
          rw [em]
          have hmi : m < i := by omega
          by_cases h40 : i - m ≤ 40
          · have t40 : decide ((i : Int) - (m : Int) ≤ 40) = true := decide_eq_true (by omega)
            have tm : decide ((0 : Int) ≤ (m : Int)) = true := decide_eq_true (by omega)
            clear em
            have hbs : Hid (Bls wr (a0.map (·.add (m * 4))) (i - m) (c - m) (seg l m i)) := by
              have h1 := (HL.out.below HB2.out).reslice m (by omega)
              rw [if_neg (by omega)] at h1
              exact h1.pre (i - m) (by omega)
            have hsw := Hid.mk' (seg_wr (l := l) (k := m) hOk.out (show i ≤ l.length by rw [hnL.out]; exact hlt))
            obtain ⟨q, hq⟩ : ∃ q, Hid (wrB (seg l m i) = q) := ⟨_, Hid.mk' rfl⟩
            obtain ⟨T, hT⟩ : ∃ T, Hid (wrT (seg l m i) false = T) := ⟨_, Hid.mk' rfl⟩
            rw [hq.out] at hsw
            go_wp2_with fail
            refine (rblobs_any _ (i - m) (c - m) (seg l m i) false wr hbs.out).mono ?_
            rintro e w3 ⟨he, hb3⟩
            rw [wr_ans he, hq.out, hT.out]
            have HB3 := Hid.mk' (HB2.out.trans (hb3.mono HB2.out.size))
            have HV3 := Hid.mk' (HV2.out.below hb3)
            clear hb3 he
            by_cases h0q : q = 0
            · subst h0q
              have hsok : Hid (SegOk l m i) := hsw.out.1 rfl
              have hYl := HFc.out.len
              have cm := HV3.out.c m _ (natC_at Y m (by omega))
              have ci := HV3.out.c i _ (natC_at Y i (by omega))
              have fi := HV3.out.f i (by rw [natC_length]; omega)
              rw [HFc.out.low m hmi] at cm
              rw [HFc.out.at'] at ci
              obtain ⟨lm, hlm⟩ : ∃ x, Hid (lev (splN l) m = x) := ⟨_, Hid.mk' rfl⟩
              rw [hlm.out] at cm
              have hlm60 : lm ≤ 60 := by have := hlevB.out m; rw [hlm.out] at this; exact this
              obtain ⟨u, hu⟩ : ∃ u, Hid (min v (lm + 1) = u) := ⟨_, Hid.mk' rfl⟩
              have hu1 := hu.out
              have hmin : (if (lm : Int) + 1 < (v : Int) then (lm : Int) + 1 else (v : Int)) = (u : Int) := by split <;> omega
              have hset := HV3.out.set i (.int .i64 (u : Int)) (by rw [natC_length]; omega)
              rw [natC_set] at hset
              have HV4 := Hid.mk' hset
              have HB4 : Hid (Below w.heap.size w (w3.setCell ⟨w.heap.size, i, none⟩ (.int .i64 (u : Int)))) := HB3.out.setCell (Nat.le_refl _) _
              have HF4 := Hid.mk' (HFc.out.set hlt u)
              have hL4 : Hid (lev (splN l) i ≤ u) := by
                have h1 := HLv.out
                have h2 := hstep.out m i hmi (by rw [hnL.out]; exact hlt) hsok.out
                rw [hlm.out] at h2
                show _ ≤ _
                omega
              have hA4 : Hid (∀ k', m ≤ k' → k' < i → SegOk l k' i → u ≤ lev (splN l) k' + 1) := by
                show ∀ k', _
                intro k' h1 h2 h3
                by_cases hkm : k' = m
                · subst hkm; rw [hlm.out]; omega
                · have := HAll.out k' (by omega) h2 h3
                  omega
              have mM : (m : Int) < (M : Int) := by have := hM.out; omega
              have hu2 : u ≤ 1073741824 := by omega
              clear hset hYl hu1
              go_wp2_with fail
              go_region
              all_goals
                go_wp2_with fail
                go_roundw
                case rel => exact ⟨m, u, Y.set i u, by omega, by omega, by go_num, HF4.out, hL4.out, hu2, hA4.out, HV4.out.drew, HB4.out.drew⟩
                case measure => simp [intOf]
            · have tq : (q == 0) = false := by rw [beq_eq_false_iff_ne]; exact h0q
              have hA4 : Hid (∀ k', m ≤ k' → k' < i → SegOk l k' i → v ≤ lev (splN l) k' + 1) := by
                show ∀ k', _
                intro k' h1 h2 h3
                by_cases hkm : k' = m
                · subst hkm; exact absurd (hsw.out.2 h3) h0q
                · exact HAll.out k' (by omega) h2 h3
              clear h0q
              go_wp2_with fail
              go_roundw
              case rel => exact ⟨m, v, Y, by omega, by omega, by go_num, HFc.out, HLv.out, hvB, hA4.out, HV3.out, HB3.out⟩
              case measure => simp [intOf]
          · have t40 : decide ((i : Int) - (m : Int) ≤ 40) = false := decide_eq_false (by omega)
            have hv := hexit.out (fun k' h1 h2 => by have := h2.1; omega)
            have HD := Hid.mk' (hdone.out hv)
            clear hv em
            go_wp2_with fail
            go_roundw
            case rel => exact ⟨i + 1, Y, by omega, by omega, by go_num, HFc.out.len, HD.out, HV2.out, HB2.out⟩
            case measure => simp [intOf]; omega
    · have hin1 : i = n + 1 := by omega
      have hq : Hid (X.getD n 0 = (splN l).length) := by
        show _ = _
        rw [HXlow.out n (by omega), ← hfin.out, hnL.out]
      have hcell := HV.out.c n _ (natC_at X n (by rw [HXl.out]; omega))
      rw [hq.out] at hcell
      have nM : (n : Int) < (M : Int) := by have := hM.out; omega
      go_wp2_with fail
      go_ret
      exact ⟨rfl, HB.out⟩
end Go.Proofs.Ytjfmpnphlpeikaa
