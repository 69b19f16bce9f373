/- Texts of ours, one behind the other: PBookWalks PMarkWalks -/
import Derived.Test.YtcalbicfnhoklaaDoorPReadWalks
import Derived.Test.YtcalbicfnhoklaaDoorBookWalks
import Derived.Test.YtcalbicfnhoklaaDoorRunsReadWalks
import Derived.Test.YtcalbicfnhoklaaDoorMsai

/- What press.readBook answers. -/
namespace Go.Proofs.YtcalbicfnhoklaaDoor
open Go.RowKit

theorem rdE_is (s : List UInt8) (w : Int) (h : rdRE s = w) (hw : w ≠ 0) (n : Nat) : rbk s n = none := by
  unfold rbk; rw [if_neg (fun hh => hw (h ▸ hh.1))]
def BkAns (w : World) (s : ByteArray) (n : Nat) (p : Option Addr) (t : ByteArray) (ok : Bool) : Prop :=
  (ok = true ∧ ∃ l g, rbk s.data.toList n = some (l, t.data.toList) ∧ p = some ⟨g, 0, none⟩ ∧ BookOf w g (rowQ l) n ∧ t.size ≤ s.size) ∨ (ok = false ∧ rbk s.data.toList n = none)

set_option maxRecDepth 20000 in
set_option maxHeartbeats 1000000 in
theorem pbook_any (s : ByteArray) (n : Nat) (w : World) (hs : s.size ≤ 140737488355328) :
    Calls Tryd.prog 42 #[.string s, .int .i64 (n : Int)] w fun e w' => (∃ p t ok, e = .returned (.tuple #[.pointer p, .string t, .bool ok]) ∧ BkAns w' s n p t ok) ∧ Below w.heap.size w w' := by
  by_cases h0 : rdRE s.data.toList = 0
  · have H0 := Hid.mk' h0
    by_cases hl : (rdRL s.data.toList).length = n
    · have hk : rdRN s.data.toList ≤ s.size := by
        have := (runs_one h0).2.1
        rwa [show s.data.toList.length = s.size by simp] at this
      obtain ⟨k, hk'⟩ : ∃ k, Hid (rdRN s.data.toList = k) := ⟨_, Hid.mk' rfl⟩
      rw [hk'.out] at hk
      have HL := Hid.mk' hl
      have tl : ((n : Int) != (n : Int)) = false := by simp
      have hq0 : (0 : Int) ≤ (k : Int) := by omega
      have hq1 : (k : Int) ≤ (s.size : Int) := by omega
      have hqb : k ≤ 9223372036854775807 := by omega
      clear h0 hl
      go_enter Tryd.func42, Tryd.ntmps42
      go_wp2_with fail
      refine (rread_any s _ hs).mono ?_
      rintro e w1 ⟨⟨v, rfl, hI, _, _⟩, hb1⟩
      obtain ⟨ao, cap, rfl, hW⟩ := wds_runs hI H0.out
      rw [HL.out] at hW ⊢
      rw [H0.out, hk'.out]
      have HW := Hid.mk' hW
      have HB1 := Hid.mk' hb1
      clear hI hW hb1
      go_wp2_with fail
      refine (book_any ao n cap _ _ HW.out).mono ?_
      rintro e w2 ⟨⟨p, rfl, hp⟩, hb2⟩
      have HPp := Hid.mk' hp
      have HB2 : Hid (Below w.heap.size w w2) := HB1.out.trans (hb2.mono HB1.out.size)
      have his := canE_is (rowQ (rdRL s.data.toList)) n
      clear hp hb2
      obtain ⟨x, hx⟩ : ∃ x, Hid (canE (rowQ (rdRL s.data.toList)) n = x) := ⟨_, Hid.mk' rfl⟩
      rw [hx.out] at his ⊢
      go_wp2_with fail
      go_quiet (fail)
      go_wp2_with fail
      go_ret3
      refine ⟨⟨p, s.extract k s.size, x == 0, rfl, ?_⟩, HB2.out.trans (below_dP _ _)⟩
      by_cases hx0 : x = 0
      · have hx' : canE (rowQ (rdRL s.data.toList)) n = 0 := by rw [hx.out, hx0]
        obtain ⟨g, hg, hbk⟩ := HPp.out hx'
        refine .inl ⟨by rw [hx0]; rfl, rdRL s.data.toList, g, ?_, hg, hbk.below (below_dP _ _), by rw [ext_sizeQ]; omega⟩
        unfold rbk
        rw [if_pos ⟨H0.out, HL.out, hx'⟩, ext_listQ, hk'.out]
      · refine .inr ⟨by rw [beq_eq_false_iff_ne]; exact hx0, ?_⟩
        unfold rbk
        rw [if_neg (fun hh => hx0 (by rw [← hx.out]; exact hh.2.2))]
    · have HN : Hid (rbk s.data.toList n = none) := by
        show _ = _
        unfold rbk; rw [if_neg (fun hh => hl hh.2.1)]
      have hlb := rdL_len s.data.toList
      obtain ⟨m, hm⟩ : ∃ m, Hid ((rdRL s.data.toList).length = m) := ⟨_, Hid.mk' rfl⟩
      rw [hm.out] at hl hlb
      have tl : ((m : Int) != (n : Int)) = true := by rw [bne_iff_ne]; omega
      clear h0 hl
      go_enter Tryd.func42, Tryd.ntmps42
      go_wp2_with fail
      refine (rread_any s _ hs).mono ?_
      rintro e w1 ⟨⟨v, rfl, hI, _, _⟩, hb1⟩
      obtain ⟨ao, cap, rfl, hW⟩ := wds_runs hI H0.out
      rw [hm.out]
      rw [H0.out]
      generalize rdRN s.data.toList = k
      clear hI hW
      go_wp2_with fail
      go_ret3
      exact ⟨⟨_, _, false, rfl, .inr ⟨rfl, HN.out⟩⟩, hb1⟩
  · have HN := Hid.mk' (rdE_is s.data.toList _ rfl h0 n)
    have hne : (rdRE s.data.toList != 0) = true := by rw [bne_iff_ne]; exact h0
    obtain ⟨x, hx⟩ : ∃ x, Hid (rdRE s.data.toList = x) := ⟨_, Hid.mk' rfl⟩
    rw [hx.out] at hne h0
    clear h0
    go_enter Tryd.func42, Tryd.ntmps42
    go_wp2_with fail
    refine (rread_any s _ hs).mono ?_
    rintro e w1 ⟨⟨v, rfl, _, _, _⟩, hb1⟩
    rw [hx.out]
    generalize rdRN s.data.toList = k
    go_wp2_with fail
    go_ret3
    exact ⟨⟨_, _, false, rfl, .inr ⟨rfl, HN.out⟩⟩, hb1⟩
end Go.Proofs.YtcalbicfnhoklaaDoor

/- What press.reader's mark answers. -/
namespace Go.Proofs.YtcalbicfnhoklaaDoor
open Go.RowKit

theorem Box3.blk {w w' : World} {g : Nat} {x y : Int} {z : Nat} (h : Box3 w g x y z) (hb : w'.heap[g]? = w.heap[g]?) (hs : w.heap.size ≤ w'.heap.size) : Box3 w' g x y z :=
  have hc : ∀ p, w'.cell? ⟨g, p, none⟩ = w.cell? ⟨g, p, none⟩ := fun _ => World.cell?_of_block hb
  have hf : ∀ p, w'.frozen? ⟨g, p, none⟩ = w.frozen? ⟨g, p, none⟩ := fun p => World.frozen?_of_block (w := w) (a := ⟨g, p, none⟩) hb
  ⟨(hc 0).trans h.c0, (hc 1).trans h.c1, (hc 2).trans h.c2, (hf 0).trans h.f0, (hf 1).trans h.f1, (hf 2).trans h.f2, Nat.lt_of_lt_of_le h.lt hs⟩
theorem grown_set3 {w w1 : World} {gr g : Nat} (h : w.grownBy w1 (some gr)) (hg : w.heap.size ≤ g) (x y z : Value) : w.grownBy (((w1.setCell ⟨g, 0, none⟩ x).setCell ⟨g, 1, none⟩ y).setCell ⟨g, 2, none⟩ z) (some gr) :=
  ⟨h.os, h.tape, h.output, by rw [size_set3]; exact h.size, fun k hk hne => (heap_setCell_other _ _ _ _ (by show k ≠ g; omega)).trans ((heap_setCell_other _ _ _ _ (by show k ≠ g; omega)).trans ((heap_setCell_other _ _ _ _ (by show k ≠ g; omega)).trans (h.block k hk hne)))⟩
theorem Rdr.set3 {w : World} {gr g : Nat} {s : ByteArray} {a g1 g2 : Nat} (h : Rdr w gr s a g1 g2) (hne : gr ≠ g) (x y z : Value) : Rdr (((w.setCell ⟨g, 0, none⟩ x).setCell ⟨g, 1, none⟩ y).setCell ⟨g, 2, none⟩ z) gr s a g1 g2 :=
  h.block ((heap_setCell_other _ _ _ _ hne).trans ((heap_setCell_other _ _ _ _ hne).trans (heap_setCell_other _ _ _ _ hne))) (by rw [size_set3]; exact Nat.le_refl _)
/-- what mark answers -/
def MkAns (L1 L2 : Nat → Int) (s : ByteArray) (a g1 g2 gr : Nat) (w : World) (m : Mk) (ok : Bool) : Prop :=
  (ok = true ∧ ∃ b, mk1 L1 L2 s a = some (m, b) ∧ Rdr w gr s b g1 g2) ∨ (ok = false ∧ mk1 L1 L2 s a = none)

set_option maxRecDepth 20000 in
set_option maxHeartbeats 2000000 in
theorem pmark_any (w0 w : World) (s : ByteArray) (a g1 g2 : Nat) (L1 L2 : Nat → Int) (hE1 : canE L1 320 = 0) (hE2 : canE L2 9 = 0) (hB1 : BookOf w0 g1 L1 320) (hB2 : BookOf w0 g2 L2 9) (hb : Below w0.heap.size w0 w) (hR : Rdr w w0.heap.size s a g1 g2) (hs : s.size ≤ 140737488363520) (ha : a ≤ 8 * s.size) :
    Calls Tryd.prog 43 #[.pointer (some ⟨w0.heap.size, 0, none⟩)] w fun e w' => (∃ (m : Mk) (ok : Bool), e = .returned (.tuple #[.agg #[.int .i64 m.ln, .int .i64 m.ds, .int .u8 (m.by' : Int)], .bool ok]) ∧ MkAns L1 L2 s a g1 g2 w0.heap.size w' m ok) ∧ w.grownBy w' (some w0.heap.size) := by
  have HE1 := Hid.mk' hE1
  have HE2 := Hid.mk' hE2
  have HB1 := Hid.mk' hB1
  have HB2 := Hid.mk' hB2
  have HBe := Hid.mk' hb
  have hgl := hR.lt
  have HRa : Hid (Rdr (w.alloc (.cells #[.int .i64 0, .int .i64 0, .int .u8 0] 66)) w0.heap.size s a g1 g2) := hR.block (Below.heap_alloc w _ _ hgl) (by simp)
  have HBox : Hid (Box3 (w.alloc (.cells #[.int .i64 0, .int .i64 0, .int .u8 0] 66)) w.heap.size 0 0 0) := box3_new w 0 0 0 _
  have HBa : Hid (Below w0.heap.size w0 (w.alloc (.cells #[.int .i64 0, .int .i64 0, .int .u8 0] 66))) := hb.alloc (Nat.le_of_lt hgl) _
  have HGa : Hid (w.grownBy (w.alloc (.cells #[.int .i64 0, .int .i64 0, .int .u8 0] 66)) (some w0.heap.size)) := grown_below ((Below.refl _ _).alloc (Nat.le_refl _) _)
  have hne : Hid (w0.heap.size ≠ w.heap.size) := by show _ ≠ _; omega
  have c2 := HRa.out.c2
  clear hE1 hE2 hB1 hB2 hb hR
  obtain ⟨⟨i, k, x⟩, hr⟩ : ∃ r, Hid (stpS L1 320 s a = r) := ⟨_, Hid.mk' rfl⟩
  have HS1 := Hid.mk' (psign_any w0 _ s a g1 g2 g1 320 L1 HE1.out HB1.out HBa.out HRa.out hs ha i k x hr.out)
  by_cases hx : x = 0
  · subst hx
    have hk := stp_ok (L := L1) (len := 320) (s := s) (a := a) (by rw [hr.out])
    rw [hr.out] at hk
    have hi320 : i < 320 := hk.1
    have hka : a + k ≤ 8 * s.size := by have := hk.2.2.1; simp only at this; omega
    have hnx : Hid (nxA a (i, k, 0) = a + k) := rfl
    clear hk
    by_cases hi : i < 256
    · have HM := Hid.mk' (mk1_byte (L2 := L2) hr.out hi)
      have t1 : decide (i < 256) = true := decide_eq_true hi
      have e8 : IntKind.u8.wrap (i : Int) = (i : Int) := by rw [IntKind.wrap_u8]; omega
      go_enter Tryd.func43, Tryd.ntmps43
      go_wp2_with fail
      refine HS1.out.mono ?_
      rintro e w1 ⟨rfl, hR1, hG1⟩
      rw [hnx.out] at hR1
      have HR1 := Hid.mk' hR1
      have HG1 := Hid.mk' (grown_trans HGa.out hG1)
      have HX1 : Hid (Box3 w1 w.heap.size 0 0 0) := HBox.out.blk (hG1.block _ (by simp) (fun e => hne.out (Option.some.inj e).symm)) hG1.size
      clear hR1 hG1 c2
      have b0 := HX1.out.c0
      have b1 := HX1.out.c1
      have b2 := HX1.out.c2
      have f0 := HX1.out.f0
      have f1 := HX1.out.f1
      have f2 := HX1.out.f2
      have HBx := Hid.mk' (HX1.out.set 0 0 i)
      go_wp2_with fail
      refine bodyPost_ret (results_box2 rfl _ _ w.heap.size 0 0 i (.bool true) rfl rfl HBx.out) rfl ?_
      exact ⟨⟨⟨0, 0, i⟩, true, rfl, .inl ⟨rfl, _, HM.out, HR1.out.set3 hne.out _ _ _⟩⟩, grown_set3 HG1.out (Nat.le_refl _) _ _ _⟩
    · have t1 : decide (i < 256) = false := decide_eq_false hi
      obtain ⟨⟨j, l, y⟩, hr2⟩ : ∃ r, Hid (stpS L2 9 s (a + k) = r) := ⟨_, Hid.mk' rfl⟩
      by_cases hy : y = 0
      · subst hy
        have hj := stp_ok (L := L2) (len := 9) (s := s) (a := a + k) (by rw [hr2.out])
        rw [hr2.out] at hj
        have hj9 : j < 9 := hj.1
        have hla : a + k + l ≤ 8 * s.size := by have := hj.2.2.1; simp only at this; omega
        have hnx2 : Hid (nxA (a + k) (j, l, 0) = a + k + l) := rfl
        clear hj
        obtain ⟨z, hz⟩ : ∃ z, Hid (z = i - 253) := ⟨_, Hid.mk' rfl⟩
        have ez : IntKind.i64.wrap ((i : Int) - 253) = (z : Int) := by rw [IntKind.wrap_i64, hz.out]; omega
        by_cases hok : a + k + l + j ≤ 8 * s.size
        · have HM := Hid.mk' (mk1_copy (L2 := L2) hr.out hi hr2.out hok)
          have hpg := pow_getN (txtN s.data.toList) (a + k + l) j (by omega)
          obtain ⟨u, hu⟩ : ∃ u, Hid (getN (txtN s.data.toList) (a + k + l) j = u) := ⟨_, Hid.mk' rfl⟩
          obtain ⟨d, hd⟩ : ∃ d, Hid (2 ^ j + u = d) := ⟨_, Hid.mk' rfl⟩
          rw [hu.out, hd.out, ← hz.out] at HM
          rw [hu.out, hd.out] at hpg
          obtain ⟨p, hp⟩ : ∃ p, Hid (2 ^ j = p) := ⟨_, Hid.mk' rfl⟩
          have hpb : p ≤ 256 := by rw [← hp.out]; exact pow_le8 j (by omega)
          have ep : (2 : Int) ^ j = (p : Int) := by rw [← hp.out]; simp
          rw [hp.out] at hd
          have ed : IntKind.i64.wrap ((p : Int) + (u : Int)) = (d : Int) := by rw [IntKind.wrap_i64, ← hd.out]; have := hd.out; omega
          go_enter Tryd.func43, Tryd.ntmps43
          go_wp2_with fail
          refine HS1.out.mono ?_
          rintro e w1 ⟨rfl, hR1, hG1⟩
          rw [hnx.out] at hR1
          have HR1 := Hid.mk' hR1
          have HG1 := Hid.mk' (grown_trans HGa.out hG1)
          have HX1 : Hid (Box3 w1 w.heap.size 0 0 0) := HBox.out.blk (hG1.block _ (by simp) (fun e => hne.out (Option.some.inj e).symm)) hG1.size
          have HBe1 : Hid (Below w0.heap.size w0 w1) := below_grown HBa.out hG1 (by simp; omega)
          clear hR1 hG1 c2
          have c3 := HR1.out.c3
          go_wp2_with fail
          refine (psign_any w0 _ s (a + k) g1 g2 g2 9 L2 HE2.out HB2.out HBe1.out HR1.out hs hka j l 0 hr2.out).mono ?_
          rintro e w2 ⟨rfl, hR2, hG2⟩
          rw [hnx2.out] at hR2
          have HR2 := Hid.mk' hR2
          have HG2 := Hid.mk' (grown_trans HG1.out hG2)
          have HX2 : Hid (Box3 w2 w.heap.size 0 0 0) := HX1.out.blk (hG2.block _ HX1.out.lt (fun e => hne.out (Option.some.inj e).symm)) hG2.size
          clear hR2 hG2 c3
          go_wp2_with fail
          refine (pnumber_any w0 _ s (a + k + l) g1 g2 j HR2.out hs hla (by omega)).mono ?_
          rintro e w3 ⟨h1, _, hG3⟩
          obtain ⟨rfl, hR3⟩ := h1 hok
          rw [hu.out]
          have HR3 := Hid.mk' hR3
          have HG3 := Hid.mk' (grown_trans HG2.out hG3)
          have HX3 : Hid (Box3 w3 w.heap.size 0 0 0) := HX2.out.blk (hG3.block _ HX2.out.lt (fun e => hne.out (Option.some.inj e).symm)) hG3.size
          clear hR3 hG3 h1
          have b0 := HX3.out.c0
          have b1 := HX3.out.c1
          have b2 := HX3.out.c2
          have f0 := HX3.out.f0
          have f1 := HX3.out.f1
          have f2 := HX3.out.f2
          have HBx := Hid.mk' (HX3.out.set (z : Int) (d : Int) 0)
          go_wp2_with fail
          refine bodyPost_ret (results_box2 rfl _ _ w.heap.size (z : Int) (d : Int) 0 (.bool true) rfl rfl HBx.out) rfl ?_
          exact ⟨⟨⟨(z : Int), (d : Int), 0⟩, true, rfl, .inl ⟨rfl, _, HM.out, HR3.out.set3 hne.out _ _ _⟩⟩, grown_set3 HG3.out (Nat.le_refl _) _ _ _⟩
        · have HM := Hid.mk' (mk1_short (L2 := L2) hr.out hi hr2.out hok)
          obtain ⟨p, hp⟩ : ∃ p, Hid (2 ^ j = p) := ⟨_, Hid.mk' rfl⟩
          have hpb : p ≤ 256 := by rw [← hp.out]; exact pow_le8 j (by omega)
          have ep : (2 : Int) ^ j = (p : Int) := by rw [← hp.out]; simp
          go_enter Tryd.func43, Tryd.ntmps43
          go_wp2_with fail
          refine HS1.out.mono ?_
          rintro e w1 ⟨rfl, hR1, hG1⟩
          rw [hnx.out] at hR1
          have HR1 := Hid.mk' hR1
          have HG1 := Hid.mk' (grown_trans HGa.out hG1)
          have HX1 : Hid (Box3 w1 w.heap.size 0 0 0) := HBox.out.blk (hG1.block _ (by simp) (fun e => hne.out (Option.some.inj e).symm)) hG1.size
          have HBe1 : Hid (Below w0.heap.size w0 w1) := below_grown HBa.out hG1 (by simp; omega)
          clear hR1 hG1 c2
          have c3 := HR1.out.c3
          go_wp2_with fail
          refine (psign_any w0 _ s (a + k) g1 g2 g2 9 L2 HE2.out HB2.out HBe1.out HR1.out hs hka j l 0 hr2.out).mono ?_
          rintro e w2 ⟨rfl, hR2, hG2⟩
          rw [hnx2.out] at hR2
          have HR2 := Hid.mk' hR2
          have HG2 := Hid.mk' (grown_trans HG1.out hG2)
          have HX2 : Hid (Box3 w2 w.heap.size 0 0 0) := HX1.out.blk (hG2.block _ HX1.out.lt (fun e => hne.out (Option.some.inj e).symm)) hG2.size
          clear hR2 hG2 c3
          go_wp2_with fail
          refine (pnumber_any w0 _ s (a + k + l) g1 g2 j HR2.out hs hla (by omega)).mono ?_
          rintro e w3 ⟨_, h1, hG3⟩
          obtain rfl := h1 hok
          have HG3 := Hid.mk' (grown_trans HG2.out hG3)
          have HX3 : Hid (Box3 w3 w.heap.size 0 0 0) := HX2.out.blk (hG3.block _ HX2.out.lt (fun e => hne.out (Option.some.inj e).symm)) hG3.size
          clear hG3 h1
          have b0 := HX3.out.c0
          have b1 := HX3.out.c1
          have b2 := HX3.out.c2
          have f0 := HX3.out.f0
          have f1 := HX3.out.f1
          have f2 := HX3.out.f2
          have HBx := Hid.mk' (HX3.out.set (z : Int) (p : Int) 0)
          go_wp2_with fail
          refine bodyPost_ret (results_box2 rfl _ _ w.heap.size (z : Int) (p : Int) 0 (.bool false) rfl rfl HBx.out) rfl ?_
          exact ⟨⟨⟨(z : Int), (p : Int), 0⟩, false, rfl, .inr ⟨rfl, HM.out⟩⟩, grown_set3 HG3.out (Nat.le_refl _) _ _ _⟩
      · have HM := Hid.mk' (mk1_bad2 (L2 := L2) hr.out hi hr2.out hy)
        have ty : (y == 0) = false := by rw [beq_eq_false_iff_ne]; exact hy
        go_enter Tryd.func43, Tryd.ntmps43
        go_wp2_with fail
        refine HS1.out.mono ?_
        rintro e w1 ⟨rfl, hR1, hG1⟩
        rw [hnx.out] at hR1
        have HR1 := Hid.mk' hR1
        have HG1 := Hid.mk' (grown_trans HGa.out hG1)
        have HX1 : Hid (Box3 w1 w.heap.size 0 0 0) := HBox.out.blk (hG1.block _ (by simp) (fun e => hne.out (Option.some.inj e).symm)) hG1.size
        have HBe1 : Hid (Below w0.heap.size w0 w1) := below_grown HBa.out hG1 (by simp; omega)
        clear hR1 hG1 c2
        have c3 := HR1.out.c3
        go_wp2_with fail
        refine (psign_any w0 _ s (a + k) g1 g2 g2 9 L2 HE2.out HB2.out HBe1.out HR1.out hs hka j l y hr2.out).mono ?_
        rintro e w2 ⟨rfl, _, hG2⟩
        rw [ty]
        have HG2 := Hid.mk' (grown_trans HG1.out hG2)
        have HX2 : Hid (Box3 w2 w.heap.size 0 0 0) := HX1.out.blk (hG2.block _ HX1.out.lt (fun e => hne.out (Option.some.inj e).symm)) hG2.size
        clear hG2 c3
        have b0 := HX2.out.c0
        have b1 := HX2.out.c1
        have b2 := HX2.out.c2
        have f0 := HX2.out.f0
        have f1 := HX2.out.f1
        have f2 := HX2.out.f2
        have HBx := Hid.mk' (HX2.out.set 0 0 0)
        go_wp2_with fail
        refine bodyPost_ret (results_box2 rfl _ _ w.heap.size 0 0 0 (.bool false) rfl rfl HBx.out) rfl ?_
        exact ⟨⟨⟨0, 0, 0⟩, false, rfl, .inr ⟨rfl, HM.out⟩⟩, grown_set3 HG2.out (Nat.le_refl _) _ _ _⟩
  · have HM := Hid.mk' (mk1_bad (L2 := L2) hr.out hx)
    have tx : (x == 0) = false := by rw [beq_eq_false_iff_ne]; exact hx
    go_enter Tryd.func43, Tryd.ntmps43
    go_wp2_with fail
    refine HS1.out.mono ?_
    rintro e w1 ⟨rfl, _, hG1⟩
    rw [tx]
    have HG1 := Hid.mk' (grown_trans HGa.out hG1)
    have HX1 : Hid (Box3 w1 w.heap.size 0 0 0) := HBox.out.blk (hG1.block _ (by simp) (fun e => hne.out (Option.some.inj e).symm)) hG1.size
    clear hG1 c2
    have b0 := HX1.out.c0
    have b1 := HX1.out.c1
    have b2 := HX1.out.c2
    have f0 := HX1.out.f0
    have f1 := HX1.out.f1
    have f2 := HX1.out.f2
    have HBx := Hid.mk' (HX1.out.set 0 0 0)
    go_wp2_with fail
    refine bodyPost_ret (results_box2 rfl _ _ w.heap.size 0 0 0 (.bool false) rfl rfl HBx.out) rfl ?_
    exact ⟨⟨⟨0, 0, 0⟩, false, rfl, .inr ⟨rfl, HM.out⟩⟩, grown_set3 HG1.out (Nat.le_refl _) _ _ _⟩
end Go.Proofs.YtcalbicfnhoklaaDoor
