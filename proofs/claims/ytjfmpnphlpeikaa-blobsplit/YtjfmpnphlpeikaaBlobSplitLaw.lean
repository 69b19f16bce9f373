/- The law BlobSplit, walked. -/
import Derived.Test.YtjfmpnphlpeikaaFewCellsWalks
import Derived.Test.YtjfmpnphlpeikaaBlWriteWalks
import Derived.Test.YtjfmpnphlpeikaaSpAnsKit
namespace Go.Proofs.Ytjfmpnphlpeikaa
open Go.RowKit

/-- what Write answers, as a text and an error -/
def wsT (l : List Blb) (last : Bool) : ByteArray := if wrB l = 0 then ⟨(txB l last).toArray⟩ else ⟨#[]⟩
theorem ws_ans {l : List Blb} {last : Bool} {e : Ending} (h : wrB l = 0 ∧ e = .returned (.tuple #[.string ⟨(txB l last).toArray⟩, .int .i64 0]) ∨ (∃ q, q ≠ 0 ∧ Hid (wrB l = q) ∧ e = .returned (.tuple #[.string ⟨#[]⟩, .int .i64 q]))) :
    e = .returned (.tuple #[.string (wsT l last), .int .i64 (wrB l)]) := by
  rcases h with ⟨h, rfl⟩ | ⟨q, hq, h, rfl⟩
  · unfold wsT; rw [h, if_pos rfl]
  · unfold wsT; rw [h.out, if_neg hq]
def gone : Blb := ⟨3, 0, 0, ⟨#[]⟩⟩
theorem gone_chk : chkL [gone, gone] = 0 := by decide +kernel
theorem gone_spl : splN [gone, gone] = [2] := by decide +kernel
theorem gone_bls (w : World) : Bls (w.alloc (.cells #[.int .i64 3, .int .i64 0, .int .i64 0, .string ⟨#[]⟩, .int .i64 3, .int .i64 0, .int .i64 0, .string ⟨#[]⟩] 24)) (some ⟨w.heap.size, 0, none⟩) 2 2 [gone, gone] := by
  have h := boxV_new w (blC [gone, gone]) 24
  refine ⟨rfl, by omega, ⟨rfl, fun _ => ⟨w.heap.size, 0, rfl, h.lt, fun j u hj => by rw [Nat.zero_add]; exact h.c j u hj⟩⟩, fun x hx => ?_, Nat.le_refl _, by unfold maxLen; omega, fun e => by cases e⟩
  have hx2 : x = gone := by
    rcases List.mem_cons.1 hx with h | h
    · exact h
    · exact List.mem_singleton.1 h
  rw [hx2]
  exact ⟨by decide, by decide, by decide, by decide⟩
theorem two_row (w : World) : I64s (w.alloc (.cells #[.int .i64 2] 3)) (.slice (some ⟨w.heap.size, 0, none⟩) 1 1) 1 (fun _ => 2) :=
  ⟨_, _, rfl, fun _ => ⟨w.heap.size, 0, rfl, by simp, fun i hi => by
    obtain rfl : i = 0 := by omega
    rw [Nat.zero_add, World.cell?_alloc_new]; rfl⟩⟩
theorem two_eq : eqI 1 1 (fun i => (([2] : List Nat).getD i 0 : Int)) (fun _ => 2) = true := by
  unfold eqI
  rw [sameI_of _ _ 1 (fun i hi => by obtain rfl : i = 0 := by omega
                                     rfl)]
  rfl
set_option maxRecDepth 20000 in
set_option maxHeartbeats 3200000 in
theorem blobSplit_walk (a0 : Option Addr) (len0 cap0 : Nat) (l : List Blb) (w : World) (h : Bls w a0 len0 cap0 l) :
    Calls Try.prog 8 #[.slice a0 len0 cap0] w fun e w' => e = .returned (.bool true) ∧ Below w.heap.size w w' := by
  have HG := Hid.mk' (gone_bls w)
  have HB0 : Hid (Below w.heap.size w (w.alloc (.cells #[.int .i64 3, .int .i64 0, .int .i64 0, .string ⟨#[]⟩, .int .i64 3, .int .i64 0, .int .i64 0, .string ⟨#[]⟩] 24))) := (Below.refl _ w).alloc (Nat.le_refl _) _
  obtain ⟨W0, hW0⟩ : ∃ W, Hid (w.alloc (.cells #[.int .i64 3, .int .i64 0, .int .i64 0, .string ⟨#[]⟩, .int .i64 3, .int .i64 0, .int .i64 0, .string ⟨#[]⟩] 24) = W) := ⟨_, Hid.mk' rfl⟩
  rw [hW0.out] at HG HB0
  have HL0 := Hid.mk' h
  have hnB := h.nB
  have hnL := Hid.mk' h.nL
  have hcm : cap0 ≤ 9223372036854775807 := by have := h.km; unfold maxLen at this; omega
  have hnc := h.kc
  clear h
  go_enter Try.func8, Try.ntmps8
  go_wp2_with fail
  rw [hW0.out]
  refine (bsplit_any (some ⟨w.heap.size, 0, none⟩) 2 2 [gone, gone] W0 HG.out).mono ?_
  rintro e w1 ⟨he, hb1⟩
  obtain ⟨v1, L1, rfl, h1, e1, b1⟩ := sp_ans he
  rw [gone_chk, if_pos rfl, gone_spl] at e1
  subst e1
  rw [gone_chk]
  have HI1 := Hid.mk' (i64s_below h1 ((Below.refl _ w1).alloc (Nat.le_refl _) (.cells #[.int .i64 2] 3)))
  have HB1 := Hid.mk' (HB0.out.trans (hb1.mono HB0.out.size))
  have HB1a := Hid.mk' (HB1.out.alloc HB1.out.size (.cells #[.int .i64 2] 3))
  have HT := Hid.mk' (two_row w1)
  clear hb1 he h1 b1
  go_wp2_with fail
  refine (equalI_any v1 _ 1 1 _ _ _ (by omega) (by omega) HI1.out HT.out).mono ?_
  rintro e w2 ⟨rfl, r2, rfl⟩
  rw [two_eq]
  have HB2 := Hid.mk' (below_drewN HB1a.out r2)
  have HL2 := Hid.mk' (HL0.out.below HB2.out)
  generalize ((w1.alloc (.cells #[.int .i64 2] 3)).drewN r2) = w2 at *
  go_wp2_with fail
  refine (bsplit_any a0 len0 cap0 l w2 HL2.out).mono ?_
  rintro e w3 ⟨he, hb3⟩
  have HB3 := Hid.mk' (HB2.out.trans (hb3.mono HB2.out.size))
  clear hb3
  rcases he with ⟨hc, v, rfl, hown⟩ | ⟨q, hq, hc, rfl⟩
  · have HC := Hid.mk' hc
    have hI := i64s_own hown
    obtain ⟨ao, cap, rfl, hcell⟩ := hI.is
    have HCell := Hid.mk' hcell
    obtain ⟨m, hm⟩ : ∃ m, Hid ((splN l).length = m) := ⟨_, Hid.mk' rfl⟩
    have hmn : m ≤ len0 := by have h1 := splF_len l.length l hc; have h2 := hm.out; have h3 := hnL.out; unfold splN at h2; omega
    rw [hm.out] at HCell ⊢
    clear hown hI hcell hc
    go_wp2_with fail
    go_loopw [7, 39] (fun tv ti wr => ∃ (j p : Nat) (P : List Nat), j ≤ m ∧ ti = .int .i64 (j : Int) ∧ tv = .int .i64 (p : Int) ∧ p ≤ len0 ∧ P.length = j ∧ splN l = P ++ splN (l.drop p) ∧ Below w3.heap.size w3 wr) (fun _ ti _ => m - (intOf ti).toNat)
    case atStart => exact ⟨0, 0, [], Nat.zero_le _, rfl, rfl, Nat.zero_le _, rfl, rfl, Below.refl _ _⟩
    case round =>
      obtain ⟨j, p, P, hjm, rfl, rfl, hpn, hPl, hsp, hbl⟩ := hrel
      have HS := Hid.mk' hsp
      have HBr := Hid.mk' (HB3.out.trans (hbl.mono HB3.out.size))
      have HBl := Hid.mk' hbl
      have HPl := Hid.mk' hPl
      clear hsp hbl hPl
      by_cases hlt : j < m
      · have hcd := chkL_drop HC.out p
        have hfd : Hid (∃ f, fitN 2 0 (l.drop p) = f ∧ 1 ≤ f ∧ f ≤ len0 - p ∧ splN (l.drop p) = f :: splN (l.drop (p + f)) ∧ wrB ((l.drop p).take f) = 0) := by
          have hlen : (l.drop p).length = len0 - p := by rw [List.length_drop, hnL.out]
          have hle := fitN_le (l.drop p) 2 0
          cases hd : l.drop p with
          | nil =>
            have h1 := HS.out
            rw [hd, splN_nil, List.append_nil] at h1
            have h2 := hm.out
            rw [h1, HPl.out] at h2
            omega
          | cons b r =>
            rw [hd] at hcd hlen hle
            have hf1 := fit_pos (r := r) (chkL_all hcd b (by simp))
            refine ⟨_, rfl, hf1, by omega, ?_, ?_⟩
            · rw [splN_cons hcd]
              congr 2
              rw [← hd, List.drop_drop]
            · have hi := (fit_iff (b :: r) (fitN 2 0 (b :: r)) (by omega)).1 (Nat.le_refl _)
              have hl2 : ((b :: r).take (fitN 2 0 (b :: r))).length = fitN 2 0 (b :: r) := by rw [List.length_take]; omega
              exact wrB_of (by rw [hl2]; exact hi.1) (chkL_take hcd _) hi.2
        obtain ⟨f, hf, hf1, hfn, hsf, hwf⟩ := hfd.out
        have HSf := Hid.mk' hsf
        have HWf := Hid.mk' hwf
        obtain ⟨g, off, rfl, hg, hcc⟩ := HCell.out (by omega)
        have hjl : (splN l).getD j 0 = f := by
          rw [HS.out, HSf.out, List.getD_eq_getElem?_getD, List.getElem?_append_right (by rw [HPl.out]; exact Nat.le_refl _), HPl.out, Nat.sub_self]; rfl
        have cj := (HBl.out.cell (p := ⟨g, off + j, none⟩) hg).trans (hcc j hlt)
        rw [hjl] at cj
        have hbs : Hid (Bls wr (a0.map (·.add (p * 4))) f (cap0 - p) ((l.drop p).take f)) := by
          have h1 := (HL0.out.below HBr.out).reslice p (by omega)
          rw [if_neg (by omega)] at h1
          exact h1.pre f (by omega)
        obtain ⟨p2, hp2⟩ : ∃ x, Hid (p + f = x) := ⟨_, Hid.mk' rfl⟩
        have ep : (p : Int) + (f : Int) = (p2 : Int) := by have := hp2.out; omega
        have bp2 : p2 ≤ len0 := by have := hp2.out; omega
        have lp2 : p ≤ p2 := by have := hp2.out; omega
        have ef : Hid (p2 - p = f) := by show _ = _; have := hp2.out; omega
        have t1 : decide ((f : Int) < 1) = false := decide_eq_false (by omega)
        have t2 : decide ((len0 : Int) - (p : Int) < (f : Int)) = false := decide_eq_false (by omega)
        obtain ⟨T, hT⟩ : ∃ T, Hid (wsT ((l.drop p).take f) true = T) := ⟨_, Hid.mk' rfl⟩
        clear hcd hf hsf hwf hjl hcc hg
        go_wp2_with fail
        rw [ef.out]
        refine (bwrite_any _ f (cap0 - p) ((l.drop p).take f) true wr hbs.out).mono ?_
        rintro e w5 ⟨he, hb5⟩
        rw [ws_ans he, HWf.out, hT.out]
        have HB5 := Hid.mk' (HBl.out.trans (hb5.mono HBl.out.size))
        clear hb5 he
        have hP2 : Hid ((P ++ [f]).length = j + 1) := by show _ = _; rw [List.length_append, HPl.out]; rfl
        have hS2 : Hid (splN l = (P ++ [f]) ++ splN (l.drop p2)) := by show _ = _; rw [← hp2.out, HS.out, HSf.out]; simp
        go_wp2_with fail
        go_roundw
        case rel => exact ⟨j + 1, p2, P ++ [f], by omega, by go_num, rfl, bp2, hP2.out, hS2.out, HB5.out⟩
        case measure => simp [intOf]; omega
      · have hjm2 : j = m := by omega
        subst hjm2
        have hnil : Hid (l.drop p = []) := by
          have h1 := congrArg List.length HS.out
          rw [hm.out, List.length_append, HPl.out] at h1
          cases hd : l.drop p with
          | nil => rfl
          | cons b r =>
            have hcd := chkL_drop HC.out p
            rw [hd] at hcd h1
            rw [splN_cons hcd, List.length_cons] at h1
            omega
        have hpe : p = len0 := by
          have h1 := congrArg List.length hnil.out
          rw [List.length_drop, hnL.out] at h1
          simp at h1
          omega
        subst hpe
        have HLr := Hid.mk' (HL0.out.below HBr.out)
        by_cases h60 : 60 < p
        · have t60 : decide ((60 : Int) < (p : Int)) = true := decide_eq_true (by omega)
          clear hlt
          go_wp2_with fail
          go_ret
          exact ⟨rfl, HBr.out⟩
        · have t60 : decide ((60 : Int) < (p : Int)) = false := decide_eq_false (by omega)
          have h60' : p ≤ 60 := by omega
          clear hlt h60
          go_wp2_with fail
          refine (fewest_any a0 p cap0 l wr HLr.out HC.out h60').mono ?_
          rintro e w5 ⟨rfl, hb5⟩
          rw [hm.out]
          have HB5 := Hid.mk' (HBr.out.trans (hb5.mono HBr.out.size))
          clear hb5
          go_wp2_with fail
          go_ret
          exact ⟨rfl, HB5.out⟩
  · have tq : (q != 0) = true := by rw [bne_iff_ne]; exact hq
    clear hq hc
    go_wp2_with fail
    go_ret
    exact ⟨rfl, HB3.out⟩
end Go.Proofs.Ytjfmpnphlpeikaa
