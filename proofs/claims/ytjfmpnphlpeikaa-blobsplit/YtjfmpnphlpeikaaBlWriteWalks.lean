/- What blob.Write answers. -/
import Derived.Test.YtjfmpnphlpeikaaBlAllWalks
import Derived.Test.YtjfmpnphlpeikaaBlFitWalks
import Derived.Test.YtjfmpnphlpeikaaGrowAt
import Derived.Lib.AppendStr
namespace Go.Proofs.Ytjfmpnphlpeikaa
open Go.RowKit

/-- what was written of the first k -/
def preL (z : UInt8) (n : Nat) (l : List Blb) (k : Nat) : List UInt8 := z :: UInt8.ofNat n :: bodL (l.take k)
theorem preL_len (z : UInt8) (m : Nat) (l : List Blb) (k : Nat) {n : Nat} (h : (bodL l).length ≤ n) : (preL z m l k).length ≤ n + 2 := by
  unfold preL
  simp only [List.length_cons]
  have h1 : l.take k = l.take (min k l.length) := by
    by_cases h : k ≤ l.length
    · rw [Nat.min_eq_left h]
    · rw [Nat.min_eq_right (by omega), List.take_length, List.take_of_length_le (by omega)]
  have := bodL_mono l (m := min k l.length) (n := l.length) (by omega)
  rw [List.take_length, ← h1] at this
  omega
theorem preL_succ (z : UInt8) (n : Nat) (l : List Blb) (k : Nat) (h : k < l.length) : preL z n l (k + 1) = preL z n l k ++ oneL (l.getD k noBl) := by
  unfold preL
  rw [List.take_succ_eq_append_getElem h, bodL_snoc, List.getD_eq_getElem?_getD, List.getElem?_eq_getElem h]
  rfl
theorem preL_all {l : List Blb} {b : Bool} {k : Nat} (h : l.length = k) : preL (if b then 1 else 0) k l k = txB l b := by
  unfold preL txB
  rw [List.take_of_length_le (by omega), h]
theorem cellsB_app (a b : List UInt8) : cellsB (a ++ b) = cellsB a ++ cellsB b := by simp [cellsB]
theorem pre_row (a : List UInt8) (o : Blb) : cellsB (a ++ oneL o) = cellsB a ++ Go.Lib.strCells ⟨(hedL o).toArray⟩ ++ Go.Lib.strCells o.tx := by
  unfold oneL
  rw [← List.append_assoc, cellsB_app, cellsB_app]
  rfl
theorem BxB.grown {w w' : World} {g : Nat} {b : Blb} {r : Option Nat} (h : BxB w g b) (hg : w.grownBy w' r) (hr : r ≠ some g) : BxB w' g b := by
  have hb : w'.heap[g]? = w.heap[g]? := hg.block g h.lt (fun e => hr e.symm)
  exact ⟨(World.cell?_of_block (w := w) (w' := w') (a := ⟨g, 0, none⟩) hb).trans h.c0, (World.cell?_of_block (w := w) (w' := w') (a := ⟨g, 1, none⟩) hb).trans h.c1, (World.cell?_of_block (w := w) (w' := w') (a := ⟨g, 2, none⟩) hb).trans h.c2, (World.cell?_of_block (w := w) (w' := w') (a := ⟨g, 3, none⟩) hb).trans h.c3, Nat.lt_of_lt_of_le h.lt hg.size⟩
theorem lit_bytes2 (w : World) (z : UInt8) (n : Nat) (hn : n < 256) : (w.alloc (.cells #[.int .u8 (z.toNat : Int), .int .u8 (n : Int)] 5)).ownsRow w.heap.size 5 1 (.slice (some ⟨w.heap.size, 0, none⟩) 2 2) 2 (cellsB [z, UInt8.ofNat n]) := by
  refine ⟨rfl, .inr ⟨w.heap.size, 2, _, rfl, Nat.le_refl _, heap_alloc_new w _, Nat.le_refl _, by unfold maxLen; omega, rfl, ?_⟩⟩
  have e : ((UInt8.ofNat n).toNat : Int) = n := by rw [UInt8.toNat_ofNat']; omega
  simp only [cellsB, List.map_cons, List.map_nil, e]
  rfl

set_option maxRecDepth 20000 in
set_option maxHeartbeats 1600000 in
theorem bwrite_any (a0 : Option Addr) (n c : Nat) (l : List Blb) (last : Bool) (w : World) (h : Bls w a0 n c l) :
    Calls Try.prog 9 #[.slice a0 n c, .bool last] w fun e w' => (wrB l = 0 ∧ e = .returned (.tuple #[.string ⟨(txB l last).toArray⟩, .int .i64 0]) ∨ (∃ q, q ≠ 0 ∧ Hid (wrB l = q) ∧ e = .returned (.tuple #[.string ⟨#[]⟩, .int .i64 q]))) ∧ Below w.heap.size w w' := by
  have HL := Hid.mk' h
  have nB := h.nB
  have hnL := Hid.mk' h.nL
  clear h
  by_cases h40 : 40 < n
  · have hq : Hid (wrB l = 2) := by show _ = _; unfold wrB; rw [hnL.out, if_pos h40]
    go_enter Try.func9, Try.ntmps9
    go_wp2_with fail
    go_ret2
    exact ⟨.inr ⟨2, by decide, hq.out, rfl⟩, Below.refl _ _⟩
  · have h40' : n ≤ 40 := by omega
    have hdef : Hid (wrB l = if chkL l = 0 then (if 998 < (bodL l).length then 2 else 0) else chkL l) := by show _ = _; unfold wrB; rw [hnL.out, if_neg h40]
    clear h40
    go_enter Try.func9, Try.ntmps9
    go_wp2_with fail
    refine (ball_any a0 n c l w HL.out).mono ?_
    rintro e w1 ⟨rfl, hb1⟩
    have HB1 := Hid.mk' hb1
    clear hb1
    obtain ⟨q, hq⟩ : ∃ q, Hid (chkL l = q) := ⟨_, Hid.mk' rfl⟩
    rw [hq.out] at hdef ⊢
    by_cases h0 : q = 0
    · subst h0
      rw [if_pos rfl] at hdef
      go_wp2_with fail
      refine (bfit_any a0 n c l w1 (HL.out.below HB1.out) hq.out).mono ?_
      rintro e w2 ⟨rfl, hb2⟩
      have HB2 := Hid.mk' (HB1.out.trans (hb2.mono HB1.out.size))
      clear hb2
      have hfl := fitN_le l 2 0
      have hfa := Hid.mk' (fit_all l)
      obtain ⟨f, hf⟩ : ∃ f, Hid (fitN 2 0 l = f) := ⟨_, Hid.mk' rfl⟩
      rw [hf.out] at hfl hfa ⊢
      rw [hnL.out] at hfl hfa
      by_cases hfn : f < n
      · have HW : Hid (wrB l = 2) := by
          show _ = _
          rw [hdef.out, if_pos]
          refine Classical.byContradiction fun hh => ?_
          have := hfa.out.2 ⟨h40', by omega⟩
          omega
        go_wp2_with fail
        go_ret2
        exact ⟨.inr ⟨2, by decide, HW.out, rfl⟩, HB2.out⟩
      · have hfe : f = n := by omega
        subst hfe
        have h998 := (hfa.out.1 rfl).2
        have HW : Hid (wrB l = 0) := by show _ = _; rw [hdef.out, if_neg (by omega)]
        have e1 : IntKind.u8.wrap (f : Int) = f := by rw [IntKind.wrap_u8]; omega
        clear hfn hfa hfl hdef
        cases last with
        | true =>
          go_wp2_with fail
          have HO0 : Hid ((w2.alloc (.cells #[.int .u8 1, .int .u8 (f : Int)] 5)).ownsRow w2.heap.size 5 1 (.slice (some ⟨w2.heap.size, 0, none⟩) 2 2) 2 (cellsB [1, UInt8.ofNat f])) := lit_bytes2 w2 1 f (by omega)
          have HL2 := Hid.mk' (HL.out.below HB2.out)
          obtain ⟨W0, hW0⟩ : ∃ W, Hid (w2.alloc (.cells #[.int .u8 1, .int .u8 (f : Int)] 5) = W) := ⟨_, Hid.mk' rfl⟩
          have HB0 : Hid (Below w2.heap.size w2 W0) := by rw [← hW0.out]; exact below_box _ _
          rw [hW0.out] at HO0 ⊢
          have hN2 := HB0.out.size
          obtain ⟨i0, hi, hz0, hz1, hz2⟩ := info_parts infoByteP
          have KI := Hid.mk' hi
          have KZ0 := Hid.mk' hz0
          have KZ1 := Hid.mk' hz1
          have KZ2 := Hid.mk' hz2
          clear hi hz0 hz1 hz2
          go_loopw [7, 32] (fun v i wr => ∃ k : Nat, k ≤ f ∧ i = .int .i64 k ∧ wr.ownsRow w2.heap.size 5 1 v (preL 1 f l k).length (cellsB (preL 1 f l k)) ∧ Below w2.heap.size w2 wr) (fun _ i _ => f - (intOf i).toNat)
          case atStart => exact ⟨0, Nat.zero_le _, rfl, HO0.out, HB0.out⟩
          case round =>
            obtain ⟨k, hk, rfl, hown, hbl⟩ := hrel
            have HO := Hid.mk' hown
            have HB := Hid.mk' hbl
            have hzr := hbl.size
            clear hown hbl
            by_cases hlt : k < f
            · obtain ⟨b, off, rfl, hb, hx1, hx2, hx3, hx4⟩ := (HL2.out.below HB.out).at k hlt
              have hdr := Hid.mk' (drop_at' hnL.out hlt)
              have hcb := chkL_all hq.out _ (getD_memB hnL.out hlt)
              have hpl := preL_len 1 f l k (n := 998) h998
              have hps := Hid.mk' (preL_succ 1 f l k (by rw [hnL.out]; exact hlt))
              generalize l.getD k noBl = o at *
              have HOk := Hid.mk' (chkB_ok hcb)
              have hsz := hedL_len (chkB_ok hcb).tz
              have htz := (chkB_ok hcb).tz
              obtain ⟨W1, hW1⟩ : ∃ W, Hid (wr.alloc (.cells #[.int .i64 o.kd, .int .i64 o.io, .int .i64 o.nt, .string o.tx] 24) = W) := ⟨_, Hid.mk' rfl⟩
              have hBx := Hid.mk' (bxB wr o 24)
              have HBa := Hid.mk' (HB.out.alloc hzr (.cells #[.int .i64 o.kd, .int .i64 o.io, .int .i64 o.nt, .string o.tx] 24))
              have HOa := Hid.mk' (HO.out.alloc (.cells #[.int .i64 o.kd, .int .i64 o.io, .int .i64 o.nt, .string o.tx] 24))
              have hnB : Hid (u7.ownBlock ≠ some wr.heap.size) := fun h => by have := (HO.out.lt _ h).2; omega
              rw [hW1.out] at hBx HBa HOa
              clear hcb
              go_wp2_with fail
              rw [hW1.out]
              refine (bhed_any o W1 HOk.out).mono ?_
              rintro e w3 ⟨rfl, hb3⟩
              have HB3 := Hid.mk' (HBa.out.trans (hb3.mono HBa.out.size))
              have HO3 := Hid.mk' (own_below HOa.out hb3)
              have hx3' := hBx.out.below hb3
              have HX3 := Hid.mk' hx3'
              have hz3 : w2.heap.size ≤ w3.heap.size := HB3.out.size
              have hs1 : (⟨(hedL o).toArray⟩ : ByteArray).size = (hedL o).length := rfl
              clear hx3' hb3
              go_wp2_with (first
                | (at_builtin; refine Go.Lib.wpList_append_own_string _ rfl (.tmp 36) (.tmp 38) 43 9 rfl w2.heap.size 5 i0 Try.underlying43 Try.underlying9 KI.out KZ0.out KZ1.out KZ2.out u7 _ _ rfl HO3.out ⟨(hedL o).toArray⟩ rfl (by rw [hs1]; unfold maxLen; omega) (by rw [hs1]; omega) hz3 ?_; intro v4 w4 hown4 hgrow4 _; have HX4 := Hid.mk' (HX3.out.grown hgrow4 hnB.out); have c3 := HX4.out.c3; have HB4 := Hid.mk' (HB3.out.grown hgrow4 hz3 fun i hi => (HO3.out.lt i hi).1); have hz4 : w2.heap.size ≤ w4.heap.size := HB4.out.size; have HO4 := Hid.mk' hown4; clear hown4 hgrow4)
                | (at_builtin; refine Go.Lib.wpList_append_own_string _ rfl (.tmp 40) (.tmp 42) 43 9 rfl w2.heap.size 5 i0 Try.underlying43 Try.underlying9 KI.out KZ0.out KZ1.out KZ2.out v4 _ _ rfl HO4.out o.tx rfl (by rw [hs1]; unfold maxLen; omega) (by rw [hs1]; omega) hz4 ?_; intro v5 w5 hown5 hgrow5 _))
              have HB5 := Hid.mk' (HB4.out.grown hgrow5 hz4 fun i hi => (HO4.out.lt i hi).1)
              have HO5 : Hid (w5.ownsRow w2.heap.size 5 1 v5 (preL 1 f l (k + 1)).length (cellsB (preL 1 f l (k + 1)))) := by
                show World.ownsRow _ _ _ _ _ _ _
                rw [hps.out, pre_row]
                have e : ((preL 1 f l k ++ oneL o).length) = (preL 1 f l k).length + (⟨(hedL o).toArray⟩ : ByteArray).size + o.tx.size := by rw [List.length_append, oneL_len, hs1]; omega
                rw [e]; exact hown5
              clear hown5 hgrow5
              go_wp2_with fail
              go_roundw
              case rel => exact ⟨k + 1, by omega, by go_num, HO5.out, HB5.out⟩
              case measure => simp [intOf]; omega
            · have hkf : k = f := by omega
              subst hkf
              have hfin : Hid (preL 1 k l k = txB l true) := preL_all (b := true) hnL.out
              have HOF := HO.out
              have hcs := own_string HOF
              rw [hfin.out] at hcs
              clear HOF
              go_wp2_with fail
              go_ret2
              exact ⟨.inl ⟨HW.out, rfl⟩, HB2.out.trans (HB.out.mono HB2.out.size)⟩
        | false =>
          go_wp2_with fail
          have HO0 : Hid ((w2.alloc (.cells #[.int .u8 0, .int .u8 (f : Int)] 5)).ownsRow w2.heap.size 5 1 (.slice (some ⟨w2.heap.size, 0, none⟩) 2 2) 2 (cellsB [0, UInt8.ofNat f])) := lit_bytes2 w2 0 f (by omega)
          have HL2 := Hid.mk' (HL.out.below HB2.out)
          obtain ⟨W0, hW0⟩ : ∃ W, Hid (w2.alloc (.cells #[.int .u8 0, .int .u8 (f : Int)] 5) = W) := ⟨_, Hid.mk' rfl⟩
          have HB0 : Hid (Below w2.heap.size w2 W0) := by rw [← hW0.out]; exact below_box _ _
          rw [hW0.out] at HO0 ⊢
          have hN2 := HB0.out.size
          obtain ⟨i0, hi, hz0, hz1, hz2⟩ := info_parts infoByteP
          have KI := Hid.mk' hi
          have KZ0 := Hid.mk' hz0
          have KZ1 := Hid.mk' hz1
          have KZ2 := Hid.mk' hz2
          clear hi hz0 hz1 hz2
          go_loopw [7, 32] (fun v i wr => ∃ k : Nat, k ≤ f ∧ i = .int .i64 k ∧ wr.ownsRow w2.heap.size 5 1 v (preL 0 f l k).length (cellsB (preL 0 f l k)) ∧ Below w2.heap.size w2 wr) (fun _ i _ => f - (intOf i).toNat)
          case atStart => exact ⟨0, Nat.zero_le _, rfl, HO0.out, HB0.out⟩
          case round =>
            obtain ⟨k, hk, rfl, hown, hbl⟩ := hrel
            have HO := Hid.mk' hown
            have HB := Hid.mk' hbl
            have hzr := hbl.size
            clear hown hbl
            by_cases hlt : k < f
            · obtain ⟨b, off, rfl, hb, hx1, hx2, hx3, hx4⟩ := (HL2.out.below HB.out).at k hlt
              have hdr := Hid.mk' (drop_at' hnL.out hlt)
              have hcb := chkL_all hq.out _ (getD_memB hnL.out hlt)
              have hpl := preL_len 0 f l k (n := 998) h998
              have hps := Hid.mk' (preL_succ 0 f l k (by rw [hnL.out]; exact hlt))
              generalize l.getD k noBl = o at *
              have HOk := Hid.mk' (chkB_ok hcb)
              have hsz := hedL_len (chkB_ok hcb).tz
              have htz := (chkB_ok hcb).tz
              obtain ⟨W1, hW1⟩ : ∃ W, Hid (wr.alloc (.cells #[.int .i64 o.kd, .int .i64 o.io, .int .i64 o.nt, .string o.tx] 24) = W) := ⟨_, Hid.mk' rfl⟩
              have hBx := Hid.mk' (bxB wr o 24)
              have HBa := Hid.mk' (HB.out.alloc hzr (.cells #[.int .i64 o.kd, .int .i64 o.io, .int .i64 o.nt, .string o.tx] 24))
              have HOa := Hid.mk' (HO.out.alloc (.cells #[.int .i64 o.kd, .int .i64 o.io, .int .i64 o.nt, .string o.tx] 24))
              have hnB : Hid (u7.ownBlock ≠ some wr.heap.size) := fun h => by have := (HO.out.lt _ h).2; omega
              rw [hW1.out] at hBx HBa HOa
              clear hcb
              go_wp2_with fail
              rw [hW1.out]
              refine (bhed_any o W1 HOk.out).mono ?_
              rintro e w3 ⟨rfl, hb3⟩
              have HB3 := Hid.mk' (HBa.out.trans (hb3.mono HBa.out.size))
              have HO3 := Hid.mk' (own_below HOa.out hb3)
              have hx3' := hBx.out.below hb3
              have HX3 := Hid.mk' hx3'
              have hz3 : w2.heap.size ≤ w3.heap.size := HB3.out.size
              have hs1 : (⟨(hedL o).toArray⟩ : ByteArray).size = (hedL o).length := rfl
              clear hx3' hb3
              go_wp2_with (first
                | (at_builtin; refine Go.Lib.wpList_append_own_string _ rfl (.tmp 36) (.tmp 38) 43 9 rfl w2.heap.size 5 i0 Try.underlying43 Try.underlying9 KI.out KZ0.out KZ1.out KZ2.out u7 _ _ rfl HO3.out ⟨(hedL o).toArray⟩ rfl (by rw [hs1]; unfold maxLen; omega) (by rw [hs1]; omega) hz3 ?_; intro v4 w4 hown4 hgrow4 _; have HX4 := Hid.mk' (HX3.out.grown hgrow4 hnB.out); have c3 := HX4.out.c3; have HB4 := Hid.mk' (HB3.out.grown hgrow4 hz3 fun i hi => (HO3.out.lt i hi).1); have hz4 : w2.heap.size ≤ w4.heap.size := HB4.out.size; have HO4 := Hid.mk' hown4; clear hown4 hgrow4)
                | (at_builtin; refine Go.Lib.wpList_append_own_string _ rfl (.tmp 40) (.tmp 42) 43 9 rfl w2.heap.size 5 i0 Try.underlying43 Try.underlying9 KI.out KZ0.out KZ1.out KZ2.out v4 _ _ rfl HO4.out o.tx rfl (by rw [hs1]; unfold maxLen; omega) (by rw [hs1]; omega) hz4 ?_; intro v5 w5 hown5 hgrow5 _))
              have HB5 := Hid.mk' (HB4.out.grown hgrow5 hz4 fun i hi => (HO4.out.lt i hi).1)
              have HO5 : Hid (w5.ownsRow w2.heap.size 5 1 v5 (preL 0 f l (k + 1)).length (cellsB (preL 0 f l (k + 1)))) := by
                show World.ownsRow _ _ _ _ _ _ _
                rw [hps.out, pre_row]
                have e : ((preL 0 f l k ++ oneL o).length) = (preL 0 f l k).length + (⟨(hedL o).toArray⟩ : ByteArray).size + o.tx.size := by rw [List.length_append, oneL_len, hs1]; omega
                rw [e]; exact hown5
              clear hown5 hgrow5
              go_wp2_with fail
              go_roundw
              case rel => exact ⟨k + 1, by omega, by go_num, HO5.out, HB5.out⟩
              case measure => simp [intOf]; omega
            · have hkf : k = f := by omega
              subst hkf
              have hfin : Hid (preL 0 k l k = txB l false) := preL_all (b := false) hnL.out
              have HOF := HO.out
              have hcs := own_string HOF
              rw [hfin.out] at hcs
              clear HOF
              go_wp2_with fail
              go_ret2
              exact ⟨.inl ⟨HW.out, rfl⟩, HB2.out.trans (HB.out.mono HB2.out.size)⟩
    · have HW : Hid (wrB l = q) := by show _ = _; rw [hdef.out, if_neg h0]
      have tq : (q != 0) = true := by rw [bne_iff_ne]; exact h0
      go_wp2_with fail
      go_ret2
      exact ⟨.inr ⟨q, h0, HW.out, rfl⟩, HB1.out⟩
end Go.Proofs.Ytjfmpnphlpeikaa
