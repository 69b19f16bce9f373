/- What linenkeep.roomy answers (string): a list of its own, with three marks behind it. -/
import Derived.Test.YtdhjadgmdmdnjaaRoomKit
import Derived.Test.YtdhjadgmdmdnjaaDk
import Derived.Deep.QuietTactic
import Derived.Deep.RegionHeld3
namespace Go.Proofs.Ytdhjadgmdmdnjaa
open Go.RowKit

theorem infoRS : (Try.prog.info? 9).map (fun i => (i.zero, i.size, i.bytes)) = some (some (.string ⟨#[]⟩), 1, 16) := by kernel_rfl
def mk3S (o : ByteArray) (k : Nat) : List Value := (List.replicate k [.string o]).flatten
theorem mk3S_length (o : ByteArray) (k : Nat) : (mk3S o k).length = k := by
  induction k with
  | zero => rfl
  | succ k ih => simp [mk3S] at ih ⊢
/-- the k-th mark is written -/
theorem mk3S_set (cs rest : List Value) (o : ByteArray) (k n : Nat) (hcs : cs.length = n) (hk : k < 3) (hr : (cs ++ mk3S o k ++ rest).length = n + 3) :
    ∃ rest', (cs ++ mk3S o (k + 1) ++ rest').length = n + 3 ∧ ((cs ++ mk3S o k ++ rest).set (n + k) (.string o)) = cs ++ mk3S o (k + 1) ++ rest' := by
  have hl : (cs ++ mk3S o k).length = n + k := by rw [List.length_append, hcs, mk3S_length]
  have hrl : rest.length = 3 - k := by rw [List.length_append, hl] at hr; omega
  match rest, hrl with
  | a :: rest', hrl =>
    have e : cs ++ mk3S o (k + 1) ++ rest' = (cs ++ mk3S o k) ++ ((.string o) :: rest') := by
      have : mk3S o (k + 1) = mk3S o k ++ [.string o] := by
        unfold mk3S
        rw [List.replicate_succ', List.flatten_append]
        simp
      rw [this]
      simp
    refine ⟨rest', ?_, ?_⟩
    · rw [e, List.length_append, hl]; simp only [List.length_cons] at hrl ⊢; omega
    · rw [e, ← hl]
      generalize cs ++ mk3S o k = B
      have h0 := set_app B (a :: rest') 0 (.string o)
      rw [Nat.add_zero] at h0
      rw [h0]
      rfl
  | [], hrl => simp at hrl; omega
set_option maxRecDepth 20000 in
set_option maxHeartbeats 3200000 in
theorem roomyS_any (a0 : Option Addr) (n cap : Nat) (l : List ByteArray) (o : ByteArray) (w : World) (h : Rd w a0 n 1 (stC l)) (hn : l.length = n) (hnc : a0 = none → cap = 0) (hnM : n ≤ 8796093022208) :
    Calls Try.prog 17 #[.slice a0 n cap, .string o] w fun e w' => (∃ g, e = .returned (.slice (some ⟨g, 0, none⟩) n (n + 3)) ∧ BoxV w' g (stC l ++ mk3S o 3) ∧ w.heap.size ≤ g) ∧ Below w.heap.size w w' := by
  have HK := Hid.mk' h
  have HB := Hid.mk' (Below.refl w.heap.size w)
  obtain ⟨i0, hi, hz0, hz1, hz2⟩ := info_parts infoRS
  have KI := Hid.mk' hi
  have KZ0 := Hid.mk' hz0
  have KZ1 := Hid.mk' hz1
  have KZ2 := Hid.mk' hz2
  clear hi hz0 hz1 hz2
  have HNone : Hid (a0 = none → n = 0 ∧ cap = 0) := fun e => ⟨by have := HK.out; rw [e] at this; exact this.of_none, hnc e⟩
  have HN3 : Hid ((stC l).length = n) := by show _ = _; rw [stC_length, hn]
  have HN4 : Hid ((stC l).length = n * 1) := by show _ = _; rw [HN3.out]; omega
  clear h hn hnc
  go_enter Try.func17, Try.ntmps17
  go_wp2_with (first
    | (at_make; refine wpList_make_own _ rfl _ _ 22 rfl w.heap.size 9 i0 (.string ⟨#[]⟩) 1 Try.underlying22 KI.out KZ0.out KZ1.out .i64 .i64 _ (n + 3) rfl rfl (by omega) (by rw [KZ2.out]; omega) (by unfold maxLen; omega) (by exact HB.out.size) ?_; intro w1 hown1 hgrow1; have HO1 := Hid.mk' hown1; have HG1 := Hid.mk' hgrow1; clear hown1 hgrow1; have hb1 : Below w.heap.size w w1 := (Below.refl _ w).grown HG1.out (Nat.le_refl _) (fun k e => by cases e); have HK1 := Hid.mk' (HK.out.below hb1); have HB1 := Hid.mk' (HB.out.trans (hb1.mono HB.out.size)); clear hb1)
    | (at_builtin; refine wpList_append_fits_any _ rfl (.tmp 10) (.tmp 11) 22 rfl w.heap.size 9 i0 1 Try.underlying22 KI.out KZ1.out w.heap.size 0 (n + 3) [] rfl HO1.out a0 n cap (stC l) rfl HN4.out HNone.out (fun ad e => by cases e; exact HK1.out.news) (stC_one _) (by omega) ?_; intro w2 hown2 hgrow2; have HO2 := Hid.mk' hown2; have HG2 := Hid.mk' hgrow2; clear hown2 hgrow2)
    | fail)
  obtain ⟨rest, hrl, hbx, hNg, _⟩ := box_of_own HO2.out
  rw [List.nil_append] at hrl hbx
  have hb2 : Below w.heap.size w w2 := HB1.out.grown HG2.out HB1.out.size (fun k e => by cases e; exact hNg)
  obtain ⟨g, hg⟩ : ∃ g, Hid (w.heap.size = g) := ⟨_, Hid.mk' rfl⟩
  rw [hg.out] at hbx hb2 ⊢
  have HB2 := Hid.mk' hb2
  have HV2 := Hid.mk' hbx
  have HL2 : Hid ((stC l ++ rest).length = n + 3) := by show _ = _; omega
  clear hbx hb2 hrl hNg HO2 HO1 HG1 HG2 HB1 HK1 KI KZ0 KZ1 KZ2 HB HK
  go_loopw [13] (fun i wr => ∃ k : Nat, k ≤ 3 ∧ i = .int .i64 k ∧ (∃ r : List Value, (stC l ++ mk3S o k ++ r).length = n + 3 ∧ BoxV wr g (stC l ++ mk3S o k ++ r)) ∧ Below g w wr) (fun i _ => 3 - (intOf i).toNat)
  case atStart => exact ⟨0, by omega, rfl, ⟨rest, by simpa [mk3S] using HL2.out, by simpa [mk3S] using HV2.out⟩, HB2.out⟩
  case round =>
    obtain ⟨k, hk, rfl, ⟨r, hul, hu⟩, hb⟩ := hrel
    have HV1 := Hid.mk' hu
    have HB1 := Hid.mk' hb
    have HL1 := Hid.mk' hul
    clear hu hb hul
    by_cases hlt : k < 3
    · have HS := Hid.mk' (mk3S_set (stC l) r o k n HN3.out hlt HL1.out)
      obtain ⟨us, hus⟩ : ∃ us, Hid (stC l ++ mk3S o k ++ r = us) := ⟨_, Hid.mk' rfl⟩
      rw [hus.out] at HL1 HV1 HS
      have b0 : n + k < us.length := by rw [HL1.out]; omega
      have d0 := HV1.out.c (n + k) _ (List.getElem?_eq_getElem b0)
      have f0 := HV1.out.f (n + k) b0
      generalize us[n + k] = u0 at d0
      have HVn := Hid.mk' (HV1.out.set (n + k) (.string o) (b0))
      have HBn := Hid.mk' (HB1.out.setCell (p := ⟨g, n + k, none⟩) (Nat.le_refl g) (.string o))
      clear b0
      go_wp2_with fail
      go_roundw
      case rel =>
        obtain ⟨r', h1, h2⟩ := HS.out
        exact ⟨k + 1, by omega, by go_num, ⟨r', h1, by rw [← h2]; exact HVn.out⟩, HBn.out⟩
      case measure => simp [intOf]; omega
    · obtain rfl : k = 3 := by omega
      go_wp2_with fail
      go_ret
      have hr0 : r = [] := by
        have := HL1.out
        rw [List.length_append, List.length_append, HN3.out, mk3S_length] at this
        exact List.length_eq_zero_iff.1 (by omega)
      subst hr0
      have hv := HV1.out
      rw [List.append_nil] at hv
      exact ⟨⟨g, rfl, hv, Nat.le_of_eq hg.out⟩, by rw [hg.out]; exact HB1.out⟩
end Go.Proofs.Ytdhjadgmdmdnjaa
