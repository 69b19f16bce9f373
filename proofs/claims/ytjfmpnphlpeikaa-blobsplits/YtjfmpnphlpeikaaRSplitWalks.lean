/- What linenref.Split answers. -/
import Derived.Test.YtjfmpnphlpeikaaBlSplitWalks
import Derived.Test.YtjfmpnphlpeikaaRBlobsWalks
namespace Go.Proofs.Ytjfmpnphlpeikaa
open Go.RowKit

/-- so many have room together -/
def Has (l : List Blb) (j : Nat) : Prop := j ≤ fitN 2 0 l
theorem has_iff {l : List Blb} (h : chkL l = 0) {j : Nat} (hj : j ≤ l.length) : wrB (l.take j) = 0 ↔ Has l j := by
  have hl : (l.take j).length = j := by rw [List.length_take, Nat.min_eq_left hj]
  unfold Has
  rw [fit_iff l j hj]
  constructor
  · intro h1
    have h2 := wrB_ok h1
    exact ⟨by omega, h2.2.2⟩
  · rintro ⟨h1, h2⟩
    exact wrB_of (by omega) (chkL_take h j) h2
set_option maxRecDepth 20000 in
set_option maxHeartbeats 3200000 in
theorem rsplit_any (a0 : Option Addr) (n c : Nat) (l : List Blb) (w : World) (h : Bls w a0 n c l) :
    Calls Try.prog 17 #[.slice a0 n c] w fun e w' => SpAns w' w.heap.size e l ∧ Below w.heap.size w w' := by
  have HL := Hid.mk' h
  have nB := h.nB
  have hnL := Hid.mk' h.nL
  have hcm : c ≤ 9223372036854775807 := by have := h.km; unfold maxLen at this; omega
  have hnc := h.kc
  clear h
  obtain ⟨i0, hi, hz0, hz1, hz2⟩ := info_parts infoI64
  have KI := Hid.mk' hi
  have KZ0 := Hid.mk' hz0
  have KZ1 := Hid.mk' hz1
  have KZ2 := Hid.mk' hz2
  clear hi hz0 hz1 hz2
  go_enter Try.func17, Try.ntmps17
  go_wp2_with fail
  go_loopw [13] (fun i wr => ∃ k : Nat, k ≤ n ∧ i = .int .i64 k ∧ chkL (l.drop k) = chkL l ∧ Below w.heap.size w wr) (fun i _ => n - (intOf i).toNat)
  case atStart => exact ⟨0, Nat.zero_le _, rfl, rfl, Below.refl _ _⟩
  case round =>
    obtain ⟨k, hk, rfl, hcel, hbl⟩ := hrel
    have HC := Hid.mk' hcel
    have HB := Hid.mk' hbl
    have hzr := hbl.size
    clear hcel hbl
    by_cases hlt : k < n
    · obtain ⟨b, off, rfl, hb, hx1, hx2, hx3, hx4⟩ := (HL.out.below HB.out).at k hlt
      have hdr := Hid.mk' (drop_at' HL.out.nL hlt)
      generalize l.getD k noBl = o at *
      have HBa := Hid.mk' (HB.out.alloc hzr (.cells #[.int .i64 o.kd, .int .i64 o.io, .int .i64 o.nt, .string o.tx] 24))
      have hsz : (wr.alloc (.cells #[.int .i64 o.kd, .int .i64 o.io, .int .i64 o.nt, .string o.tx] 24)).heap.size = wr.heap.size + 1 := by simp
      have HC1 : Hid (chkL l = if chkB o = 0 then chkL (l.drop (k + 1)) else chkB o) := by show _ = _; rw [← HC.out, hdr.out]; rfl
      clear HC
      go_wp2_with fail
      refine (rblob_any o _).mono ?_
      rintro e w2 ⟨rfl, hb2⟩
      have HB2 := Hid.mk' (HBa.out.trans (hb2.mono (by omega)))
      clear hb2
      generalize chkB o = q at *
      by_cases h0 : q = 0
      · subst h0
        have HC2 : Hid (chkL (l.drop (k + 1)) = chkL l) := by show _ = _; rw [HC1.out, if_pos rfl]
        go_wp2_with fail
        go_roundw
        case rel => exact ⟨k + 1, by omega, by go_num, HC2.out, HB2.out⟩
        case measure => simp [intOf]; omega
      · have hq : Hid (chkL l = q) := by show _ = _; rw [HC1.out, if_neg h0]
        have tq : (q != 0) = true := by rw [bne_iff_ne]; exact h0
        have H0 := Hid.mk' h0
        clear h0 HC1
        go_wp2_with fail
        go_ret2
        exact ⟨.inr ⟨q, H0.out, hq.out, rfl⟩, HB2.out⟩
    · have hq : Hid (chkL l = 0) := by
        show _ = _
        rw [← HC.out, List.drop_of_length_le (by rw [HL.out.nL]; omega)]; rfl
      have HB1 := HB
      have hz1 := HB1.out.size
      go_wp2_with fail
      clear hlt hzr HC
      generalize wr = w1 at *
      go_loopw [0, 7] (fun s v wr => ∃ (m : Nat) (a' : Option Addr) (L : List Nat), m ≤ n ∧ s = .slice a' (n - m) (c - m) ∧ Bls w a' (n - m) (c - m) (l.drop m) ∧ L.length ≤ m ∧ wr.ownsRow w.heap.size 3 1 v L.length (natC L) ∧ splN l = L ++ splN (l.drop m) ∧ Below w.heap.size w wr) (fun s _ _ => match s with | .slice _ k _ => k | _ => 0)
      case atStart => exact ⟨0, a0, [], Nat.zero_le _, rfl, HL.out, Nat.le_refl _, (by exact World.ownsRow_nil _ _ _ _), rfl, HB1.out⟩
      case round =>
        obtain ⟨m, a', L, hm, hsl, hls, hLm, hown, hsp, hbl⟩ := hrel
        obtain ⟨k, hkd⟩ : ∃ k, Hid (n - m = k) := ⟨_, Hid.mk' rfl⟩
        obtain ⟨d, hdd⟩ : ∃ d, Hid (c - m = d) := ⟨_, Hid.mk' rfl⟩
        rw [hkd.out, hdd.out] at hsl hls
        subst hsl
        have HLs := Hid.mk' hls
        have HO := Hid.mk' hown
        have HS := Hid.mk' hsp
        have HB := Hid.mk' hbl
        have hzr := hbl.size
        have hkd2 : k ≤ d := hls.kc
        have hdm : d ≤ 9223372036854775807 := by have := hdd.out; omega
        have hkB : k ≤ 8796093022208 := hls.nB
        clear hls hown hsp hbl
        by_cases hlt : 0 < k
        · have hok : Hid (chkL (l.drop m) = 0) := chkL_drop hq.out m
          have hfp : Hid (1 ≤ fitN 2 0 (l.drop m) ∧ fitN 2 0 (l.drop m) ≤ k ∧ splN (l.drop m) = fitN 2 0 (l.drop m) :: splN ((l.drop m).drop (fitN 2 0 (l.drop m)))) := by
            have hlen := HLs.out.nL
            have hle := fitN_le (l.drop m) 2 0
            cases hd : l.drop m with
            | nil => rw [hd] at hlen; simp at hlen; omega
            | cons b r =>
              have hk2 := hok.out
              rw [hd] at hk2 hlen hle
              exact ⟨fit_pos (chkL_all hk2 b (by simp)), by omega, splN_cons hk2⟩
          obtain ⟨f, hf⟩ : ∃ f, Hid (fitN 2 0 (l.drop m) = f) := ⟨_, Hid.mk' rfl⟩
          have hHas : Hid (∀ j, j ≤ k → (wrB ((l.drop m).take j) = 0 ↔ j ≤ f)) := fun j hj => by
            have h := has_iff hok.out (j := j) (by rw [HLs.out.nL]; exact hj)
            unfold Has at h
            rwa [hf.out] at h
          rw [hf.out] at hfp
          have hf1 := hfp.out.1
          have hfk := hfp.out.2.1
          have hfd : f ≤ d := by omega
          have hLf : L.length ≤ 8796093022208 := by omega
          go_wp2_with fail
          generalize wr = w2 at *
          go_loopw [8] (fun i wr => ∃ j : Nat, 1 ≤ j ∧ j ≤ f ∧ i = .int .i64 j ∧ Below w2.heap.size w2 wr) (fun i _ => f - (intOf i).toNat)
          case atStart => exact ⟨1, Nat.le_refl _, hf1, rfl, Below.refl _ _⟩
          case round =>
            obtain ⟨j, hj1, hjf, rfl, hbl⟩ := hrel
            have HB3 := Hid.mk' hbl
            have hz3 := hbl.size
            clear hbl
            have hjk2 : j ≤ k := by omega
            by_cases hjk : j < k
            · have HBls := Hid.mk' (((HLs.out.below HB.out).below HB3.out).pre (j + 1) (by omega))
              have hcall := Hid.mk' (rblobs_any a' (j + 1) d ((l.drop m).take (j + 1)) false wr HBls.out)
              have ej : ((j : Int) + 1) = ((j + 1 : Nat) : Int) := by omega
              have hjd : j + 1 ≤ d := by omega
              have hH := hHas.out (j + 1) (by omega)
              obtain ⟨q, hqq⟩ : ∃ q, Hid (wrB ((l.drop m).take (j + 1)) = q) := ⟨_, Hid.mk' rfl⟩
              obtain ⟨T, hT⟩ : ∃ T, Hid (wrT ((l.drop m).take (j + 1)) false = T) := ⟨_, Hid.mk' rfl⟩
              rw [hqq.out] at hH
              have HH := Hid.mk' hH
              clear hH ej
              go_wp2_with fail
              refine (hcall.out).mono ?_
              rintro e w4 ⟨he, hb4⟩
              rw [wr_ans he, hqq.out, hT.out]
              have HB4 := Hid.mk' (HB3.out.trans (hb4.mono hz3))
              clear hb4 he hcall
              by_cases h0 : q = 0
              · subst h0
                have hj2 : j + 1 ≤ f := HH.out.1 rfl
                go_wp2_with fail
                go_roundw
                case rel => exact ⟨j + 1, by omega, hj2, by go_num, HB4.out⟩
                case measure => simp [intOf]; omega
              · have hjf2 : f = j := by
                  have h := HH.out.2
                  have : ¬ j + 1 ≤ f := fun hh => h0 (h hh)
                  omega
                have tq : (q != 0) = true := by rw [bne_iff_ne]; exact h0
                clear h0
                subst hjf2
                have HO2 := Hid.mk' (own_below HO.out HB4.out)
                have HB2 := Hid.mk' (HB.out.trans (HB4.out.mono hzr))
                have hz2 := HB2.out.size
                go_wp2_with (at_builtin; refine wpList_append_own _ rfl (.tmp 42) (.tmp 44) 34 rfl w.heap.size 3 i0 (.int .i64 0) 1 8 Try.underlying34 KI.out KZ0.out KZ1.out KZ2.out rfl (by decide) u7 _ _ rfl (HO2.out.alloc _) ⟨w4.heap.size, 0, none⟩ 1 1 [.int .i64 (f : Int)] rfl rfl (cell_one_newS _ _ _) (int_oneS _) (by unfold maxLen; omega) (by omega) (by simp; omega) ?_; intro v' w3 hown1 hgrow1 _)
                have HB9 := Hid.mk' (below_growS HO2.out HB2.out hz2 hgrow1)
                have HO9 : Hid (w3.ownsRow w.heap.size 3 1 v' (L ++ [f]).length (natC (L ++ [f]))) := by
                  show World.ownsRow _ _ _ _ _ _ _
                  rw [natC_snoc, List.length_append]; exact hown1
                have HLn := Hid.mk' (HLs.out.reslice f hjk2)
                have e1 : Hid (n - (m + f) = k - f) := by show _ = _; have := hkd.out; omega
                have e2 : Hid (c - (m + f) = d - f) := by show _ = _; have := hdd.out; omega
                have e3 : Hid ((l.drop m).drop f = l.drop (m + f)) := by show _ = _; rw [List.drop_drop]
                have HS2 : Hid (splN l = (L ++ [f]) ++ splN (l.drop (m + f))) := by show _ = _; rw [HS.out, hfp.out.2.2, e3.out]; simp
                have hm2 : Hid (m + f ≤ n) := by have := hkd.out; show _ ≤ _; omega
                have hL2 : Hid ((L ++ [f]).length ≤ m + f) := by show _ ≤ _; rw [List.length_append, List.length_singleton]; omega
                clear hown1 hgrow1
                go_roundw
                case rel => exact ⟨m + f, _, L ++ [f], hm2.out, by rw [e1.out, e2.out], by rw [e1.out, e2.out, ← e3.out]; first | exact HLn.out | (have h := HLn.out; rw [if_neg (by omega)] at h; exact h), hL2.out, HO9.out, HS2.out, HB9.out⟩
                case measure => show k - f < k; omega
            · have hjf2 : f = j := by omega
              subst hjf2
              have HO2 := Hid.mk' (own_below HO.out HB3.out)
              have HB2 := Hid.mk' (HB.out.trans (HB3.out.mono hzr))
              have hz2 := HB2.out.size
              go_wp2_with go_loud (at_builtin; refine wpList_append_own _ rfl (.tmp 42) (.tmp 44) 34 rfl w.heap.size 3 i0 (.int .i64 0) 1 8 Try.underlying34 KI.out KZ0.out KZ1.out KZ2.out rfl (by decide) u7 _ _ rfl (HO2.out.alloc _) ⟨wr.heap.size, 0, none⟩ 1 1 [.int .i64 (f : Int)] rfl rfl (cell_one_newS _ _ _) (int_oneS _) (by unfold maxLen; omega) (by omega) (by simp; omega) ?_; intro v' w3 hown1 hgrow1 _)
              have HB9 := Hid.mk' (below_growS HO2.out HB2.out hz2 hgrow1)
              have HO9 : Hid (w3.ownsRow w.heap.size 3 1 v' (L ++ [f]).length (natC (L ++ [f]))) := by
                show World.ownsRow _ _ _ _ _ _ _
                rw [natC_snoc, List.length_append]; exact hown1
              have HLn := Hid.mk' (HLs.out.reslice f hjk2)
              have e1 : Hid (n - (m + f) = k - f) := by show _ = _; have := hkd.out; omega
              have e2 : Hid (c - (m + f) = d - f) := by show _ = _; have := hdd.out; omega
              have e3 : Hid ((l.drop m).drop f = l.drop (m + f)) := by show _ = _; rw [List.drop_drop]
              have HS2 : Hid (splN l = (L ++ [f]) ++ splN (l.drop (m + f))) := by show _ = _; rw [HS.out, hfp.out.2.2, e3.out]; simp
              have hm2 : Hid (m + f ≤ n) := by have := hkd.out; show _ ≤ _; omega
              have hL2 : Hid ((L ++ [f]).length ≤ m + f) := by show _ ≤ _; rw [List.length_append, List.length_singleton]; omega
              clear hown1 hgrow1
              go_roundw
              case rel => exact ⟨m + f, _, L ++ [f], hm2.out, by rw [e1.out, e2.out], by rw [e1.out, e2.out, ← e3.out]; exact HLn.out, hL2.out, HO9.out, HS2.out, HB9.out⟩
              case measure => show k - f < k; omega
        · have hk0 : k = 0 := by omega
          subst hk0
          have hnil : Hid (l.drop m = []) := List.length_eq_zero_iff.1 HLs.out.nL
          have hfin : Hid (splN l = L) := by show _ = _; rw [HS.out, hnil.out, splN_nil, List.append_nil]
          go_wp2_with fail
          go_ret2
          exact ⟨.inl ⟨hq.out, _, rfl, by rw [hfin.out]; exact HO.out⟩, HB.out⟩
end Go.Proofs.Ytjfmpnphlpeikaa
