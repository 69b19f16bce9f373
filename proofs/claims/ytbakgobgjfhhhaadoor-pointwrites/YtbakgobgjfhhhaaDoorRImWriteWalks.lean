/- What linenref.ImapText answers. -/
import Derived.Test.YtbakgobgjfhhhaaDoorImWriteWalks
import Derived.Test.YtbakgobgjfhhhaaDoorRImChkWalks
import Derived.Test.YtbakgobgjfhhhaaDoorRFixTx
import Derived.Test.YtbakgobgjfhhhaaDoorRNumPutWalks
import Derived.Deep.RegionHeld3
namespace Go.Proofs.YtbakgobgjfhhhaaDoor
open Go.RowKit

theorem rput_txp (n : Nat) (w : World) (hn : n < 18446744073709551616) : Calls Tryd.prog 54 #[.int .u64 n] w fun e w' => e = .returned (.string (txp (putB n))) ∧ Below w.heap.size w w' := rput_num n w hn
set_option maxRecDepth 20000 in
set_option maxHeartbeats 6400000 in
theorem rimaptext_any (a0 : Option Addr) (n c : Nat) (a1 : Option Addr) (m e : Nat) (P : List Pla) (G : List Int) (w : World) (h : Pls w a0 n c P) (h' : Its w a1 m e G) :
    Calls Tryd.prog 25 #[.agg #[.slice a0 n c, .slice a1 m e]] w fun z w' => z = .returned (.tuple #[.string (wmT P G), .int .i64 (chkM P G)]) ∧ Below w.heap.size w w' := by
  have hv := boxV_new w [.slice a0 n c, .slice a1 m e] 25
  have HB : Hid (Below w.heap.size w (w.alloc (.cells #[.slice a0 n c, .slice a1 m e] 25))) := below_boxP _ _
  obtain ⟨W0, hW0⟩ : ∃ W, Hid (w.alloc (.cells #[.slice a0 n c, .slice a1 m e] 25) = W) := ⟨_, Hid.mk' rfl⟩
  have e0 : (w.alloc (.cells [.slice a0 n c, .slice a1 m e].toArray 25)) = W0 := hW0.out
  rw [e0] at hv
  rw [hW0.out] at HB
  have HL := Hid.mk' (h.below HB.out)
  have HG := Hid.mk' (h'.below HB.out)
  have hnL := Hid.mk' h.nL
  have hmL := Hid.mk' h'.nL
  have HV := Hid.mk' hv
  have hck := Hid.mk' (fun w h h' => rimap_any a0 n c a1 m e P G w h h')
  obtain ⟨q, hq⟩ : ∃ q, Hid (chkM P G = q) := ⟨_, Hid.mk' rfl⟩
  rw [hq.out] at hck ⊢
  clear h h' hv e0
  by_cases h0 : q = 0
  rotate_left
  · have tq : (q != 0) = true := by rw [bne_iff_ne]; exact h0
    have hT : Hid (wmT P G = ⟨#[]⟩) := wmT_no (by rw [hq.out]; exact h0)
    rw [hT.out]
    clear h0
    go_enter Tryd.func25, Tryd.ntmps25
    go_wp2_with fail
    rw [hW0.out]
    refine (hck.out W0 HL.out HG.out).mono ?_
    rintro z w1 ⟨rfl, hb⟩
    have HB1 := Hid.mk' (HB.out.trans (hb.mono HB.out.size))
    clear hb
    go_wp2_with fail
    go_ret2
    exact ⟨rfl, HB1.out⟩
  subst h0
  have hT : Hid (wmT P G = txp (imK P G 48)) := wmT_ok hq.out
  rw [hT.out]
  have hok := chkM_ok hq.out
  have hn : n = 48 := by rw [← hnL.out]; exact hok.p
  have hm : m = 48 := by rw [← hmL.out]; exact hok.g
  subst hn hm
  have HOk := Hid.mk' hok
  clear hok
  go_enter Tryd.func25, Tryd.ntmps25
  go_wp2_with fail
  rw [hW0.out]
  refine (hck.out W0 HL.out HG.out).mono ?_
  rintro z w1 ⟨rfl, hb⟩
  have hv1 := HV.out.below hb
  have c0 := hv1.c 0 _ rfl
  have HV1 := Hid.mk' hv1
  have HL1 := Hid.mk' (HL.out.below hb)
  have HG1 := Hid.mk' (HG.out.below hb)
  have HB1 := Hid.mk' (HB.out.trans (hb.mono HB.out.size))
  have hz1 : w.heap.size ≤ w1.heap.size := HB1.out.size
  clear hb hv1
  go_wp2_with fail
  clear c0
  go_loopw [5, 12] (fun t i wr => ∃ k : Nat, k ≤ 48 ∧ i = .int .i64 k ∧ t = .string (txp (imK P G k)) ∧ Below w1.heap.size w1 wr) (fun _ i _ => 48 - (intOf i).toNat)
  case atStart => exact ⟨0, by omega, rfl, rfl, Below.refl _ _⟩
  case round =>
    obtain ⟨k, hk, rfl, rfl, hbl⟩ := hrel
    have HBr := Hid.mk' hbl
    have hzr := hbl.size
    have HVr := Hid.mk' (HV1.out.below hbl)
    clear hbl
    by_cases hlt : k < 48
    · obtain ⟨b, off, rfl, hb, hx1, hx2⟩ := (HL1.out.below HBr.out).at k hlt
      obtain ⟨b1, off1, rfl, hb1, hy1⟩ := (HG1.out.below HBr.out).at k hlt
      have hor := HOk.out.r k hlt
      have hgr := HOk.out.n k hlt
      have hsz1 := imK_len HOk.out k hk
      have hsz2 := oneM_len HOk.out hlt
      have hsc := Hid.mk' (imK_succ P G k)
      generalize P.getD k noPl = o at *
      generalize G.getD k 0 = g at *
      obtain ⟨g, rfl⟩ := Int.eq_ofNat_of_zero_le hgr.1
      rw [Int.toNat_natCast] at hsz2 hsc
      have HX : Hid (txp (imK P G k) ++ (txp (putB g) ++ txp (plB o)) = txp (imK P G (k + 1))) := by show _ = _; rw [txp_app, txp_app, hsc.out]
      have hs1 : (txp (imK P G k)).size ≤ 336 := by rw [txp_size]; omega
      have hs2 : (txp (putB g)).size + (txp (plB o)).size ≤ 7 := by rw [txp_size, txp_size, ← List.length_append]; exact hsz2
      have eg : IntKind.u64.wrap (g : Int) = g := by rw [IntKind.wrap_u64]; omega
      have ik0 : (0 : Int) ≤ (k : Int) := by omega
      have ik1 : (k : Int) < ((48 : Nat) : Int) := by omega
      have ik2 : (k : Int) < 48 := by omega
      obtain ⟨B, hB⟩ : ∃ B, Hid (txp (imK P G k) = B) := ⟨_, Hid.mk' rfl⟩
      obtain ⟨A, hA⟩ : ∃ B, Hid (txp (putB g) = B) := ⟨_, Hid.mk' rfl⟩
      obtain ⟨O, hO⟩ : ∃ B, Hid (txp (plB o) = B) := ⟨_, Hid.mk' rfl⟩
      rw [hB.out, hA.out, hO.out] at HX
      rw [hB.out] at hs1 ⊢
      rw [hA.out, hO.out] at hs2
      have HBa := HBr
      have HVA := HVr
      have hor2 := Hid.mk' (fxI_two hor)
      have hob := rtB_b hor
      obtain ⟨oc, oh⟩ := o
      simp only at *
      obtain ⟨oc, rfl⟩ := Int.eq_ofNat_of_zero_le hob.1
      obtain ⟨oh, rfl⟩ := Int.eq_ofNat_of_zero_le hob.2.2.1
      have e9 : ((oc : Int) * 256 + (oh : Int)).toNat = oc * 256 + oh := by omega
      rw [e9] at hor2
      obtain ⟨mm, hmq⟩ : ∃ m : Nat, (oc : Int) * 256 + (oh : Int) = m := ⟨oc * 256 + oh, by omega⟩
      have hm2 : Hid (oc * 256 + oh = mm) := by show _ = _; omega
      rw [hm2.out] at hor2
      have hmm : mm < 65536 := by omega
      have e4 : IntKind.u64.wrap (mm : Int) = mm := by rw [IntKind.wrap_u64]; omega
      have e5 : IntKind.i64.wrap ((oc : Int) * 256) = (oc : Int) * 256 := by rw [IntKind.wrap_i64]; omega
      have e6 : IntKind.i64.wrap (mm : Int) = mm := by rw [IntKind.wrap_i64]; omega
      have hc2 : oc ≤ 127 := by omega
      have hc3 : oh ≤ 39 := by omega
      have ho6 : fxI mm 2 = txp (plB ⟨(oc : Int), (oh : Int)⟩) := hor2.out
      have HP := Hid.mk' (fun X => rput_txp g X (by omega))
      have HO : Hid (∀ X : World, Calls Tryd.prog 27 #[.int .u64 mm, .int .i64 2] X fun e w' => e = .returned (.string (txp (plB ⟨(oc : Int), (oh : Int)⟩))) ∧ Below X.heap.size X w') := fun X => by
        have h := rfix_txp mm 2 X (by omega) (by decide) (by decide)
        rw [ho6] at h
        exact h
      clear hob hor e9 ho6
      rw [hO.out] at HO
      go_wp2_with fail
      have r0 := HVA.out.c 0 _ rfl
      have r1 := HVA.out.c 1 _ rfl
      rw [hA.out] at HP
      skip
      have hcat1 : ¬ 9223372036854775807 < A.size + O.size := by omega
      have hcat2 : ¬ 9223372036854775807 < B.size + (A.size + O.size) := by omega
      go_region_held3 (fun X => X.cell? ⟨w.heap.size, 1, none⟩ = some (.slice (some ⟨b1, off1, none⟩) 48 e) ∧ X.cell? ⟨b1, off1 + k, none⟩ = some (.int .i64 (g : Int)) ∧ X.cell? ⟨w.heap.size, 0, none⟩ = some (.slice (some ⟨b, off, none⟩) 48 c) ∧ X.cell? ⟨b, off + k * 2, none⟩ = some (.int .i64 (oc : Int)) ∧ X.cell? ⟨b, off + k * 2 + 1, none⟩ = some (.int .i64 (oh : Int))) (first | exact ⟨p0, p1, p2, p3, p4⟩ | exact ⟨r1, hy1, r0, hx1, hx2⟩) (first
        | (go_at_call 54; refine (HP.out _).mono ?_; rintro z w6 ⟨rfl, hb6⟩; have HB6 : Hid (Below wr.heap.size wr w6) := (by first | exact HB6.out.trans (hb6.mono HB6.out.size) | exact ((Below.refl _ wr).drew).trans hb6 | fail); clear hb6; have hv := HVA.out.below HB6.out; have p0 := hv.c 1 _ rfl; have p2 := hv.c 0 _ rfl; have p1 := (HB6.out.cell (p := ⟨b1, off1 + k, none⟩) hb1).trans hy1; have p3 := (HB6.out.cell (p := ⟨b, off + k * 2, none⟩) hb).trans hx1; have p4 := (HB6.out.cell (p := ⟨b, off + k * 2 + 1, none⟩) hb).trans hx2; clear hv)
        | (go_at_call 27; refine (HO.out _).mono ?_; rintro z w6 ⟨rfl, hb6⟩; have HB6 : Hid (Below wr.heap.size wr w6) := (by first | exact HB6.out.trans (hb6.mono HB6.out.size) | exact ((Below.refl _ wr).drew).trans hb6 | fail); clear hb6; have hv := HVA.out.below HB6.out; have p0 := hv.c 1 _ rfl; have p2 := hv.c 0 _ rfl; have p1 := (HB6.out.cell (p := ⟨b1, off1 + k, none⟩) hb1).trans hy1; have p3 := (HB6.out.cell (p := ⟨b, off + k * 2, none⟩) hb).trans hx1; have p4 := (HB6.out.cell (p := ⟨b, off + k * 2 + 1, none⟩) hb).trans hx2; clear hv)
        | fail)
      all_goals
        have HB7 := Hid.mk' (HBa.out.trans (HB6.out.mono HBa.out.size))
        go_wp2_with fail
        go_roundw
        case rel => exact ⟨k + 1, by omega, by go_num, by rw [← HX.out], HB7.out⟩
        case measure => simp [intOf]; omega
    · obtain rfl : k = 48 := by omega
      go_wp2_with fail
      go_ret2
      exact ⟨rfl, HB1.out.trans (HBr.out.mono hz1)⟩
end Go.Proofs.YtbakgobgjfhhhaaDoor
