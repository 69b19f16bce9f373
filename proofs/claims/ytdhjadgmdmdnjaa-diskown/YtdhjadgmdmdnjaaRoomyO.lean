/- What linenkeep.roomy answers of a list of ops: a list of its own, with three marks behind it. -/
import Derived.Test.YtdhjadgmdmdnjaaRoomKit
import Derived.Test.YtdhjadgmdmdnjaaOps
import Derived.Test.YtdhjadgmdmdnjaaOpsOpen
import Derived.Deep.QuietTactic
import Derived.Deep.RegionHeld3
namespace Go.Proofs.Ytdhjadgmdmdnjaa
open Go.RowKit

theorem infoOpR : (Try.prog.info? 29).map (fun i => (i.zero, i.size, i.bytes)) = some (some (.agg #[.int .i64 0, .int .i64 0, .string ⟨#[]⟩]), 3, 32) := by kernel_rfl
def mk3O (o : Opp) (k : Nat) : List Value := (List.replicate k [.int .i64 o.kd, .int .i64 o.pl, .string o.tx]).flatten
theorem mk3O_length (o : Opp) (k : Nat) : (mk3O o k).length = k * 3 := by
  induction k with
  | zero => rfl
  | succ k ih => simp [mk3O] at ih ⊢
/-- the k-th mark is written -/
theorem mk3O_set (cs rest : List Value) (o : Opp) (k n : Nat) (hcs : cs.length = n * 3) (hk : k < 3) (hr : (cs ++ mk3O o k ++ rest).length = (n + 3) * 3) :
    ∃ rest', (cs ++ mk3O o (k + 1) ++ rest').length = (n + 3) * 3 ∧ (((cs ++ mk3O o k ++ rest).set ((n + k) * 3) (.int .i64 o.kd)).set ((n + k) * 3 + 1) (.int .i64 o.pl)).set ((n + k) * 3 + 2) (.string o.tx) = cs ++ mk3O o (k + 1) ++ rest' := by
  have hl : (cs ++ mk3O o k).length = (n + k) * 3 := by rw [List.length_append, hcs, mk3O_length, Nat.add_mul]
  have hrl : rest.length = (3 - k) * 3 := by rw [List.length_append, hl] at hr; omega
  match rest, hrl with
  | a :: b :: c :: rest', hrl =>
    have e : cs ++ mk3O o (k + 1) ++ rest' = (cs ++ mk3O o k) ++ ((.int .i64 o.kd) :: (.int .i64 o.pl) :: (.string o.tx) :: rest') := by
      have : mk3O o (k + 1) = mk3O o k ++ [.int .i64 o.kd, .int .i64 o.pl, .string o.tx] := by
        unfold mk3O
        rw [List.replicate_succ', List.flatten_append]
        simp
      rw [this]
      simp
    refine ⟨rest', ?_, ?_⟩
    · rw [e, List.length_append, hl]; simp only [List.length_cons] at hrl ⊢; omega
    · rw [e, ← hl]
      generalize cs ++ mk3O o k = B
      have h0 := set_app B (a :: b :: c :: rest') 0 (.int .i64 o.kd)
      rw [Nat.add_zero] at h0
      rw [h0, set_app, set_app]
      rfl
  | [], hrl => simp at hrl; omega
  | [_], hrl => simp at hrl; omega
  | [_, _], hrl => simp at hrl; omega
set_option maxRecDepth 20000 in
set_option maxHeartbeats 3200000 in
theorem roomyO_any (a0 : Option Addr) (n cap : Nat) (l : List Opp) (o : Opp) (w : World) (h : Ops w a0 n cap l) (hnM : n ≤ 4398046511103) :
    Calls Try.prog 29 #[.slice a0 n cap, .agg #[.int .i64 o.kd, .int .i64 o.pl, .string o.tx]] w fun e w' => (∃ g, e = .returned (.slice (some ⟨g, 0, none⟩) n (n + 3)) ∧ BoxV w' g (opC l ++ mk3O o 3) ∧ w.heap.size ≤ g) ∧ Below w.heap.size w w' := by
  have hx := boxV_new w [.int .i64 o.kd, .int .i64 o.pl, .string o.tx] 29
  have hb := (Below.refl _ w).alloc (Nat.le_refl _) (.cells [.int .i64 o.kd, .int .i64 o.pl, .string o.tx].toArray 29)
  obtain ⟨W0, hW0⟩ : ∃ W, Hid (w.alloc (.cells #[.int .i64 o.kd, .int .i64 o.pl, .string o.tx] 29) = W) := ⟨_, Hid.mk' rfl⟩
  have e0 : w.alloc (.cells [.int .i64 o.kd, .int .i64 o.pl, .string o.tx].toArray 29) = W0 := hW0.out
  rw [e0] at hx hb
  have HK := Hid.mk' (h.below hb)
  have HX := Hid.mk' hx
  have HB := Hid.mk' hb
  obtain ⟨i0, hi, hz0, hz1, hz2⟩ := info_parts infoOpR
  have KI := Hid.mk' hi
  have KZ0 := Hid.mk' hz0
  have KZ1 := Hid.mk' hz1
  have KZ2 := Hid.mk' hz2
  clear h hx hb e0 hi hz0 hz1 hz2
  have HNone : Hid (a0 = none → n = 0 ∧ cap = 0) := fun e => ⟨by have := HK.out.rd; rw [e] at this; exact this.of_none, HK.out.nc e⟩
  have HN3 : Hid ((opC l).length = n * 3) := by show _ = _; rw [opC_length, HK.out.nL]
  go_enter Try.func29, Try.ntmps29
  go_wp2_with (first
    | (at_make; refine wpList_make_own _ rfl _ _ 26 rfl w.heap.size 29 i0 (.agg #[.int .i64 0, .int .i64 0, .string ⟨#[]⟩]) 3 Try.underlying26 KI.out KZ0.out KZ1.out .i64 .i64 _ (n + 3) rfl rfl (by omega) (by rw [KZ2.out]; omega) (by unfold maxLen; omega) (by rw [hW0.out]; exact HB.out.size) ?_; rw [hW0.out]; intro w1 hown1 hgrow1; have HO1 := Hid.mk' hown1; have HG1 := Hid.mk' hgrow1; clear hown1 hgrow1; have hb1 : Below W0.heap.size W0 w1 := (Below.refl _ W0).grown HG1.out (Nat.le_refl _) (fun k e => by cases e); have HK1 := Hid.mk' (HK.out.below hb1); have HX1 := Hid.mk' (HX.out.below hb1); have HB1 := Hid.mk' (HB.out.trans (hb1.mono HB.out.size)); clear hb1)
    | (at_builtin; refine wpList_append_fits_any _ rfl (.tmp 10) (.tmp 11) 26 rfl w.heap.size 29 i0 3 Try.underlying26 KI.out KZ1.out W0.heap.size 0 (n + 3) [] rfl HO1.out a0 n cap (opC l) rfl HN3.out HNone.out (fun ad e => by cases e; exact HK1.out.rd.news) (opC_one _) (by omega) ?_; intro w2 hown2 hgrow2; have HO2 := Hid.mk' hown2; have HG2 := Hid.mk' hgrow2; clear hown2 hgrow2)
    | fail)
  have hs0 : W0.heap.size = w.heap.size + 1 := by rw [← hW0.out]; simp
  obtain ⟨rest, hrl, hbx, hNg, _⟩ := box_of_own HO2.out
  rw [List.nil_append] at hrl hbx
  have hb2 : Below w.heap.size w w2 := HB1.out.grown HG2.out HB1.out.size (fun k e => by cases e; exact hNg)
  have hX2 := HX1.out.grown HG2.out (fun e => by have := Option.some.inj e; omega)
  obtain ⟨s, hs⟩ : ∃ s, Hid (w.heap.size = s) := ⟨_, Hid.mk' rfl⟩
  obtain ⟨g, hg⟩ : ∃ g, Hid (W0.heap.size = g) := ⟨_, Hid.mk' rfl⟩
  have hne : g ≠ s := by rw [← hg.out, ← hs.out]; omega
  have hsg : s ≤ g := by rw [← hg.out, ← hs.out]; omega
  rw [hg.out] at hbx ⊢
  rw [hs.out] at hX2 hb2 ⊢
  have HB2 := Hid.mk' hb2
  have HX2 := Hid.mk' hX2
  have HV2 := Hid.mk' hbx
  have HL2 := Hid.mk' hrl
  clear hbx hb2 hX2 hrl hNg hs0 HO2 HO1 HG1 HG2 HX1 HB1 HK1 KI KZ0 KZ1 KZ2 HX HB HK
  go_loopw [13] (fun i wr => ∃ k : Nat, k ≤ 3 ∧ i = .int .i64 k ∧ BoxV wr s [.int .i64 o.kd, .int .i64 o.pl, .string o.tx] ∧ (∃ r : List Value, (opC l ++ mk3O o k ++ r).length = (n + 3) * 3 ∧ BoxV wr g (opC l ++ mk3O o k ++ r)) ∧ Below s w wr) (fun i _ => 3 - (intOf i).toNat)
  case atStart => exact ⟨0, by omega, rfl, HX2.out, ⟨rest, by simpa [mk3O] using HL2.out, by simpa [mk3O] using HV2.out⟩, HB2.out⟩
  case round =>
    obtain ⟨k, hk, rfl, hx, ⟨r, hul, hu⟩, hb⟩ := hrel
    have HX1 := Hid.mk' hx
    have HV1 := Hid.mk' hu
    have HB1 := Hid.mk' hb
    have HL1 := Hid.mk' hul
    have c0 := hx.c 0 _ rfl
    have c1 := hx.c 1 _ rfl
    have c2 := hx.c 2 _ rfl
    clear hx hu hb hul
    by_cases hlt : k < 3
    · have HS := Hid.mk' (mk3O_set (opC l) r o k n HN3.out hlt HL1.out)
      obtain ⟨us, hus⟩ : ∃ us, Hid (opC l ++ mk3O o k ++ r = us) := ⟨_, Hid.mk' rfl⟩
      rw [hus.out] at HL1 HV1 HS
      have b0 : (n + k) * 3 < us.length := by rw [HL1.out]; omega
      have b1 : (n + k) * 3 + 1 < us.length := by rw [HL1.out]; omega
      have b2 : (n + k) * 3 + 2 < us.length := by rw [HL1.out]; omega
      have d0 := HV1.out.c ((n + k) * 3) _ (List.getElem?_eq_getElem b0)
      have d1 := HV1.out.c ((n + k) * 3 + 1) _ (List.getElem?_eq_getElem b1)
      have d2 := HV1.out.c ((n + k) * 3 + 2) _ (List.getElem?_eq_getElem b2)
      have f0 := HV1.out.f ((n + k) * 3) b0
      have f1 := HV1.out.f ((n + k) * 3 + 1) b1
      have f2 := HV1.out.f ((n + k) * 3 + 2) b2
      generalize us[(n + k) * 3] = u0 at d0
      generalize us[(n + k) * 3 + 1] = u1 at d1
      generalize us[(n + k) * 3 + 2] = u2 at d2
      have HVn := Hid.mk' (((HV1.out.set ((n + k) * 3) (.int .i64 o.kd) b0).set ((n + k) * 3 + 1) (.int .i64 o.pl) (by rw [List.length_set]; exact b1)).set ((n + k) * 3 + 2) (.string o.tx) (by rw [List.length_set, List.length_set]; exact b2))
      have HXn := Hid.mk' (((HX1.out.other ⟨g, (n + k) * 3, none⟩ (.int .i64 o.kd) hne).other ⟨g, (n + k) * 3 + 1, none⟩ (.int .i64 o.pl) hne).other ⟨g, (n + k) * 3 + 2, none⟩ (.string o.tx) hne)
      have HBn := Hid.mk' (((HB1.out.setCell (p := ⟨g, (n + k) * 3, none⟩) hsg (.int .i64 o.kd)).setCell (p := ⟨g, (n + k) * 3 + 1, none⟩) hsg (.int .i64 o.pl)).setCell (p := ⟨g, (n + k) * 3 + 2, none⟩) hsg (.string o.tx))
      clear b0 b1 b2
      go_wp2_with fail
      go_region
      go_wp2_with fail
      go_roundw
      case rel =>
        obtain ⟨r', h1, h2⟩ := HS.out
        exact ⟨k + 1, by omega, by go_num, HXn.out.drew, ⟨r', h1, by rw [← h2]; exact HVn.out.drew⟩, HBn.out.drew⟩
      case measure => simp [intOf]; omega
    · obtain rfl : k = 3 := by omega
      go_wp2_with fail
      go_ret
      have hr0 : r = [] := by
        have := HL1.out
        rw [List.length_append, List.length_append, HN3.out, mk3O_length] at this
        exact List.length_eq_zero_iff.1 (by omega)
      subst hr0
      have hv := HV1.out
      rw [List.append_nil] at hv
      exact ⟨⟨g, rfl, hv, by rw [hs.out]; exact hsg⟩, by rw [hs.out]; exact HB1.out⟩
end Go.Proofs.Ytdhjadgmdmdnjaa
