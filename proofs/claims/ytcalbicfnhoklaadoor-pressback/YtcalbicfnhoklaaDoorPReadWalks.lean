import Derived.Test.YtcalbicfnhoklaaDoorNextWalks
import Derived.Test.YtcalbicfnhoklaaDoorUnpackWalks
import Derived.Test.YtcalbicfnhoklaaDoorMsad
import Derived.Test.YtcalbicfnhoklaaDoorMsai
import Derived.Deep.RegionHeld3
import Derived.BigRegion
import Derived.Deep.QuietTactic
import Derived.BigQuiet

/- What press.reader's sign, number, atEnd answer. -/
namespace Go.Proofs.YtcalbicfnhoklaaDoor
open Go.RowKit

/-- the reader of marks, where it lies -/
structure Rdr (w : World) (gr : Nat) (s : ByteArray) (a g1 g2 : Nat) : Prop where
  c0 : w.cell? ⟨gr, 0, none⟩ = some (.string s)
  c1 : w.cell? ⟨gr, 1, none⟩ = some (.int .i64 (a : Int))
  c2 : w.cell? ⟨gr, 2, none⟩ = some (.pointer (some ⟨g1, 0, none⟩))
  c3 : w.cell? ⟨gr, 3, none⟩ = some (.pointer (some ⟨g2, 0, none⟩))
  f1 : w.frozen? ⟨gr, 1, none⟩ = false
  lt : gr < w.heap.size
theorem Rdr.set {w : World} {gr : Nat} {s : ByteArray} {a g1 g2 : Nat} (h : Rdr w gr s a g1 g2) (b : Nat) : Rdr (w.setCell ⟨gr, 1, none⟩ (.int .i64 (b : Int))) gr s b g1 g2 := by
  refine ⟨?_, World.cell?_setCell_same _ _ _ h.c1, ?_, ?_, ?_, by simpa [World.setCell] using h.lt⟩
  · rw [World.cell?_setCell_other _ _ _ _ (by simp)]; exact h.c0
  · rw [World.cell?_setCell_other _ _ _ _ (by simp)]; exact h.c2
  · rw [World.cell?_setCell_other _ _ _ _ (by simp)]; exact h.c3
  · rw [World.frozen?_setCell]; exact h.f1
theorem Rdr.block {w w' : World} {gr : Nat} {s : ByteArray} {a g1 g2 : Nat} (h : Rdr w gr s a g1 g2) (hb : w'.heap[gr]? = w.heap[gr]?) (hs : w.heap.size ≤ w'.heap.size) : Rdr w' gr s a g1 g2 :=
  ⟨(World.cell?_of_block (w := w) (w' := w') (a := ⟨gr, 0, none⟩) hb).trans h.c0, (World.cell?_of_block (w := w) (w' := w') (a := ⟨gr, 1, none⟩) hb).trans h.c1, (World.cell?_of_block (w := w) (w' := w') (a := ⟨gr, 2, none⟩) hb).trans h.c2, (World.cell?_of_block (w := w) (w' := w') (a := ⟨gr, 3, none⟩) hb).trans h.c3, (World.frozen?_of_block (w := w) (w' := w') (a := ⟨gr, 1, none⟩) hb).trans h.f1, Nat.lt_of_lt_of_le h.lt hs⟩
theorem grown_setP (w : World) (a : Addr) (u : Value) : w.grownBy (w.setCell a u) (some a.block) :=
  ⟨rfl, rfl, rfl, by simp [World.setCell], fun k _ hk => heap_setCell_other w a k u (fun e => hk (by rw [e]))⟩
theorem grown_below {w w' : World} {r : Option Nat} (h : Below w.heap.size w w') : w.grownBy w' r := ⟨h.os, h.tape, h.output, h.size, fun k hk _ => h.block k hk⟩
theorem below_grown {w0 w w' : World} {g : Nat} (h : Below g w0 w) (hg : w.grownBy w' (some g)) (hs : g ≤ w.heap.size) : Below g w0 w' :=
  ⟨hg.os.trans h.os, hg.tape.trans h.tape, hg.output.trans h.output, Nat.le_trans h.size hg.size, fun k hk => (hg.block k (by omega) (fun e => by cases e; omega)).trans (h.block k hk)⟩

set_option maxRecDepth 20000 in
set_option maxHeartbeats 1000000 in
theorem psign_any (w0 w : World) (s : ByteArray) (a g1 g2 g len : Nat) (L : Nat → Int) (hE : canE L len = 0) (hB : BookOf w0 g L len) (hb : Below w0.heap.size w0 w) (hR : Rdr w w0.heap.size s a g1 g2) (hs : s.size ≤ 140737488363520) (ha : a ≤ 8 * s.size) (i k : Nat) (x : Int) (hr : stpS L len s a = (i, k, x)) :
    Calls Tryd.prog 62 #[.pointer (some ⟨w0.heap.size, 0, none⟩), .pointer (some ⟨g, 0, none⟩)] w fun e w' => e = .returned (.tuple #[.int .i64 (i : Int), .bool (x == 0)]) ∧ Rdr w' w0.heap.size s (nxA a (i, k, x)) g1 g2 ∧ w.grownBy w' (some w0.heap.size) := by
  have HE := Hid.mk' hE
  have HBk := Hid.mk' hB
  have HBe := Hid.mk' hb
  have HR := Hid.mk' hR
  have HS := Hid.mk' hr
  have c0 := hR.c0
  have c1 := hR.c1
  have f1 := hR.f1
  clear hE hB hb hR hr
  obtain ⟨y, hy⟩ : ∃ y, Hid (nxA a (i, k, x) = y) := ⟨_, Hid.mk' rfl⟩
  rw [hy.out]
  go_enter Tryd.func62, Tryd.ntmps62
  go_wp2_with fail
  go_region_held3 (fun X => X.cell? ⟨w0.heap.size, 0, none⟩ = some (.string s) ∧ X.cell? ⟨w0.heap.size, 1, none⟩ = some (.int .i64 (a : Int))) (exact ⟨c0, c1⟩) ((go_at_call 80; refine (bnext_any g L len s a _ HE.out (HBk.out.below HBe.out.drew) hs ha _ HS.out).mono ?_; rintro e w1 ⟨rfl, q, rfl⟩; rw [hy.out]))
  obtain ⟨w2, hw2⟩ : ∃ w2, Hid (w.drewN (1 + q) = w2) := ⟨_, Hid.mk' rfl⟩
  have HR2 : Hid (Rdr w2 w0.heap.size s a g1 g2) := by rw [← hw2.out]; exact ⟨HR.out.c0, HR.out.c1, HR.out.c2, HR.out.c3, HR.out.f1, HR.out.lt⟩
  have HG2 : Hid (w.grownBy w2 (some w0.heap.size)) := by rw [← hw2.out]; exact ⟨rfl, rfl, rfl, Nat.le_refl _, fun _ _ _ => rfl⟩
  rw [hw2.out]
  have d1 := HR2.out.c1
  have d2 := HR2.out.f1
  clear c0 c1 f1
  go_wp2_with fail
  go_ret2
  exact ⟨rfl, HR2.out.set y, grown_trans HG2.out (grown_setP _ _ _)⟩

theorem txtN_dropQ (l : List UInt8) (q : Nat) (h : q ≤ l.length) : txtN (l.drop q) = txtN l / 2 ^ (8 * q) := by
  induction q generalizing l with
  | zero => simp
  | succ q ih =>
    cases l with
    | nil => simp at h
    | cons b l =>
      have hb := b.toNat_lt
      rw [List.drop_succ_cons, ih l (by simpa using h), txtN, show 8 * (q + 1) = 8 + 8 * q by omega, Nat.pow_add, ← Nat.div_div_eq_div_mul]
      congr 1
      show txtN l = (b.toNat + 256 * txtN l) / 256
      omega
theorem ext_listQ (s : ByteArray) (a : Nat) : (s.extract a s.size).data.toList = s.data.toList.drop a := by
  rw [ByteArray.data_extract]
  simp only [Array.toList_extract, List.extract_eq_take_drop]
  exact List.take_of_length_le (by simp)
theorem ext_sizeQ (s : ByteArray) (a : Nat) : (s.extract a s.size).size = s.size - a := by simp
theorem wds_two (w : World) (x y : Nat) (hx : x ≤ 64) (hy : y ≤ 64) (t : TypeId) : Wds (w.alloc (.cells #[.int .i64 (x : Int), .int .i64 (y : Int)] t)) (some ⟨w.heap.size, 0, none⟩) 2 (fun i => if i = 0 then (x : Int) else (y : Int)) := by
  refine ⟨by omega, fun _ => ⟨w.heap.size, 0, rfl, by simp, fun i hi => ?_⟩, fun i hi => by split <;> omega⟩
  rw [Nat.zero_add, World.cell?_alloc_new]
  rcases (by omega : i = 0 ∨ i = 1) with rfl | rfl <;> rfl
theorem unp_two (s : ByteArray) (o k : Nat) (ho : o < 8) (hk : k ≤ 8) : (o + k ≤ 8 * s.size → unpE s 2 (fun i => if i = 0 then (o : Int) else (k : Int)) = 0 ∧ unpL s 2 (fun i => if i = 0 then (o : Int) else (k : Int)) = 2) ∧ (¬ o + k ≤ 8 * s.size → unpE s 2 (fun i => if i = 0 then (o : Int) else (k : Int)) = 3 ∧ unpL s 2 (fun i => if i = 0 then (o : Int) else (k : Int)) = 0) := by
  have hw : ∀ i, i < 2 → widB (if i = 0 then (o : Int) else (k : Int)) = true := fun i hi => by
    unfold widB
    rcases (by omega : i = 0 ∨ i = 1) with rfl | rfl
    · exact decide_eq_true (by simp; omega)
    · exact decide_eq_true (by simp; omega)
  have hsum : widSum (fun i => if i = 0 then (o : Int) else (k : Int)) 2 = o + k := by simp [widSum]
  exact ⟨fun h => unp_ok s 2 _ hw (by rw [hsum]; exact h), fun h => unp_short s 2 _ hw (by rw [hsum]; omega)⟩
theorem unp_val (s : ByteArray) (a q o k : Nat) (hq : q = a / 8) (ho : o = a % 8) (hs : q ≤ s.size) : unpF (s.extract q s.size) (fun i => if i = 0 then (o : Int) else (k : Int)) 1 = getN (txtN s.data.toList) a k := by
  unfold unpF getN
  rw [ext_listQ, txtN_dropQ _ _ (by simpa using hs)]
  have e : widSum (fun i => if i = 0 then (o : Int) else (k : Int)) 1 = o := by simp [widSum]
  rw [e, Nat.div_div_eq_div_mul, ← Nat.pow_add, show 8 * q + o = a by omega]
  simp

set_option maxRecDepth 20000 in
set_option maxHeartbeats 1000000 in
theorem pnumber_any (w0 w : World) (s : ByteArray) (a g1 g2 k : Nat) (hR : Rdr w w0.heap.size s a g1 g2) (hs : s.size ≤ 140737488363520) (ha : a ≤ 8 * s.size) (hk : k ≤ 8) :
    Calls Tryd.prog 63 #[.pointer (some ⟨w0.heap.size, 0, none⟩), .int .i64 (k : Int)] w fun e w' => (a + k ≤ 8 * s.size → e = .returned (.tuple #[.int .i64 (getN (txtN s.data.toList) a k : Nat), .bool true]) ∧ Rdr w' w0.heap.size s (a + k) g1 g2) ∧ (¬ a + k ≤ 8 * s.size → e = .returned (.tuple #[.int .i64 0, .bool false])) ∧ w.grownBy w' (some w0.heap.size) := by
  have HR := Hid.mk' hR
  have c0 := hR.c0
  have c1 := hR.c1
  have hgl := hR.lt
  clear hR
  obtain ⟨q, hq⟩ : ∃ q, Hid (q = a / 8) := ⟨_, Hid.mk' rfl⟩
  obtain ⟨o, ho⟩ : ∃ o, Hid (o = a % 8) := ⟨_, Hid.mk' rfl⟩
  have e1 : (a : Int) / 8 = (q : Int) := by rw [hq.out]; omega
  have e2 : (a : Int) % 8 = (o : Int) := by rw [ho.out]; omega
  have e1t : (a : Int).tdiv 8 = (q : Int) := by rw [Int.tdiv_eq_ediv_of_nonneg (by omega)]; exact e1
  have e2t : (a : Int).tmod 8 = (o : Int) := by rw [Int.tmod_eq_emod_of_nonneg (by omega)]; exact e2
  have hqs : q ≤ s.size := by rw [hq.out]; omega
  have hqb : q ≤ 9223372036854775807 := by omega
  have hq0 : (0 : Int) ≤ (q : Int) := by omega
  have e3 : IntKind.i64.wrap (q : Int) = (q : Int) := by rw [IntKind.wrap_i64]; omega
  have e4 : IntKind.i64.wrap (o : Int) = (o : Int) := by rw [IntKind.wrap_i64]; have := ho.out; omega
  have hq1 : (q : Int) ≤ (s.size : Int) := by omega
  have ho8 : o < 8 := by rw [ho.out]; omega
  have HU := Hid.mk' (unp_two (s.extract q s.size) o k ho8 hk)
  rw [ext_sizeQ] at HU
  have HV := Hid.mk' (unp_val s a q o k hq.out ho.out hqs)
  have hes : (s.extract q s.size).size ≤ 140737488363520 := by rw [ext_sizeQ]; omega
  have HWd : ∀ wx : World, Hid (Wds (wx.alloc (.cells #[.int .i64 (o : Int), .int .i64 (k : Int)] 3)) (some ⟨wx.heap.size, 0, none⟩) 2 (fun i => if i = 0 then (o : Int) else (k : Int))) := fun wx => wds_two wx o k (by omega) (by omega) _
  have HBa : Hid (Below w.heap.size w (w.alloc (.cells #[.int .i64 (o : Int), .int .i64 (k : Int)] 3)).drew) := ((Below.refl _ _).alloc (Nat.le_refl _) _).drew
  have HWn : Hid (Wds (w.alloc (.cells #[.int .i64 (o : Int), .int .i64 (k : Int)] 3)).drew (some ⟨w.heap.size, 0, none⟩) 2 (fun i => if i = 0 then (o : Int) else (k : Int))) := wds_below (HWd w).out (Below.refl _ _).drew
  clear HWd
  by_cases hok : a + k ≤ 8 * s.size
  · have HUo := Hid.mk' (HU.out.1 (by have := hq.out; have := ho.out; omega))
    have hgb : Hid (getN (txtN s.data.toList) a k < 256) := getN_low _ _ _ hk
    obtain ⟨z, hz⟩ : ∃ z, Hid (getN (txtN s.data.toList) a k = z) := ⟨_, Hid.mk' rfl⟩
    rw [hz.out] at HV hgb
    have hzb : z < 256 := hgb.out
    go_enter Tryd.func63, Tryd.ntmps63
    go_wp2_with fail
    go_region_held3 (fun X => X.cell? ⟨w0.heap.size, 0, none⟩ = some (.string s) ∧ X.cell? ⟨w0.heap.size, 1, none⟩ = some (.int .i64 (a : Int))) (first | exact ⟨c0, c1⟩ | exact ⟨(HBa.out.cell (p := ⟨w0.heap.size, 0, none⟩) hgl).trans c0, (HBa.out.cell (p := ⟨w0.heap.size, 1, none⟩) hgl).trans c1⟩ | exact ⟨(HB1.out.cell (p := ⟨w0.heap.size, 0, none⟩) hgl).trans c0, (HB1.out.cell (p := ⟨w0.heap.size, 1, none⟩) hgl).trans c1⟩ | fail) ((go_at_call 81; refine (unpack_any (s.extract q s.size) _ 2 2 _ _ hes HWn.out).mono ?_; rintro e w1 ⟨⟨v, rfl, hU⟩, hb⟩; have HB1 : Hid (Below w.heap.size w w1) := HBa.out.trans (hb.mono HBa.out.size); rw [HUo.out.1]; rw [HUo.out.2] at hU; obtain ⟨ao, cap, rfl, hcc⟩ := hU.is; obtain ⟨gu, offu, rfl, hgu, hcu⟩ := hcc (by omega); have cu := hcu 1 (by omega); rw [HV.out] at cu; clear hU hcc hcu hb))
    have HR1 : Hid (Rdr w1 w0.heap.size s a g1 g2) := HR.out.block (HB1.out.block _ hgl) HB1.out.size
    have d1 := HR1.out.c1
    have d2 := HR1.out.f1
    obtain ⟨y, hy⟩ : ∃ y, Hid (a + k = y) := ⟨_, Hid.mk' rfl⟩
    have e5 : IntKind.i64.wrap ((a : Int) + (k : Int)) = (y : Int) := by rw [IntKind.wrap_i64, ← hy.out]; omega
    have HRy := Hid.mk' (HR1.out.set y)
    have HGy : Hid (w.grownBy (w1.setCell ⟨w0.heap.size, 1, none⟩ (.int .i64 (y : Int))) (some w0.heap.size)) := grown_trans (grown_below HB1.out) (grown_setP _ _ _)
    have cu2 : (w1.setCell ⟨w0.heap.size, 1, none⟩ (.int .i64 (y : Int))).cell? ⟨gu, offu + 1, none⟩ = some (.int .u64 (z : Int)) := by
      rw [World.cell?_setCell_other _ _ _ _ (fun h => by rw [← h, d1] at cu; cases cu)]
      exact cu
    clear c0 c1 cu
    go_wp2_with fail
    go_ret2
    exact ⟨fun _ => ⟨by rw [hz.out]; rfl, by rw [hy.out]; exact HRy.out⟩, fun h => absurd hok h, HGy.out⟩
  · have HUo := Hid.mk' (HU.out.2 (by have := hq.out; have := ho.out; omega))
    go_enter Tryd.func63, Tryd.ntmps63
    go_wp2_with fail
    go_region_held3 (fun X => X.cell? ⟨w0.heap.size, 0, none⟩ = some (.string s) ∧ X.cell? ⟨w0.heap.size, 1, none⟩ = some (.int .i64 (a : Int))) (first | exact ⟨c0, c1⟩ | exact ⟨(HBa.out.cell (p := ⟨w0.heap.size, 0, none⟩) hgl).trans c0, (HBa.out.cell (p := ⟨w0.heap.size, 1, none⟩) hgl).trans c1⟩ | exact ⟨(HB1.out.cell (p := ⟨w0.heap.size, 0, none⟩) hgl).trans c0, (HB1.out.cell (p := ⟨w0.heap.size, 1, none⟩) hgl).trans c1⟩ | fail) ((go_at_call 81; refine (unpack_any (s.extract q s.size) _ 2 2 _ _ hes HWn.out).mono ?_; rintro e w1 ⟨⟨v, rfl, hU⟩, hb⟩; have HB1 : Hid (Below w.heap.size w w1) := HBa.out.trans (hb.mono HBa.out.size); rw [HUo.out.1]; clear hU hb))
    go_wp2_with fail
    go_ret2
    exact ⟨fun h => absurd h hok, fun _ => rfl, grown_below HB1.out⟩

theorem below_dP (w : World) (q : Nat) {B : Nat} : Below B w (w.drewN q) := ⟨rfl, rfl, rfl, Nat.le_refl _, fun _ _ => rfl⟩
theorem end_byte (s : ByteArray) (a q o : Nat) (hq : q = a / 8) (ho : o = a % 8) (hs : q < s.size) (h1 : s.size - q = 1) : txtN s.data.toList / 2 ^ a = s[q].toNat / 2 ^ o := by
  have e := txtN_dropQ s.data.toList q (by have : s.data.toList.length = s.size := by simp
                                           omega)
  have hd : s.data.toList.drop q = [s[q]] := by
    have hl : s.data.toList.length = s.size := by simp
    rw [List.drop_eq_getElem_cons (by omega), List.drop_of_length_le (by omega)]
    rfl
  rw [hd] at e
  have e2 : txtN [s[q]] = s[q].toNat := by simp [txtN]
  rw [e2] at e
  rw [show a = 8 * q + o by omega, Nat.pow_add, ← Nat.div_div_eq_div_mul, ← e]

set_option maxRecDepth 20000 in
set_option maxHeartbeats 1000000 in
theorem pend_any (w : World) (gr : Nat) (s : ByteArray) (a g1 g2 : Nat) (hR : Rdr w gr s a g1 g2) (hs : s.size ≤ 140737488363520) (ha : a ≤ 8 * s.size) :
    Calls Tryd.prog 45 #[.pointer (some ⟨gr, 0, none⟩)] w fun e w' => e = .returned (.bool (endB s a)) ∧ Below w.heap.size w w' := by
  have c0 := hR.c0
  have c1 := hR.c1
  clear hR
  obtain ⟨q, hq⟩ : ∃ q, Hid (q = a / 8) := ⟨_, Hid.mk' rfl⟩
  obtain ⟨o, ho⟩ : ∃ o, Hid (o = a % 8) := ⟨_, Hid.mk' rfl⟩
  have e1 : (a : Int) / 8 = (q : Int) := by rw [hq.out]; omega
  have e2 : (a : Int) % 8 = (o : Int) := by rw [ho.out]; omega
  have e1t : (a : Int).tdiv 8 = (q : Int) := by rw [Int.tdiv_eq_ediv_of_nonneg (by omega)]; exact e1
  have e2t : (a : Int).tmod 8 = (o : Int) := by rw [Int.tmod_eq_emod_of_nonneg (by omega)]; exact e2
  have hqs : q ≤ s.size := by rw [hq.out]; omega
  have hqb : q ≤ 9223372036854775807 := by omega
  have hq0 : (0 : Int) ≤ (q : Int) := by omega
  have e3 : IntKind.i64.wrap (q : Int) = (q : Int) := by rw [IntKind.wrap_i64]; omega
  have e4 : IntKind.i64.wrap (o : Int) = (o : Int) := by rw [IntKind.wrap_i64]; have := ho.out; omega
  have hq1 : (q : Int) ≤ (s.size : Int) := by omega
  have ho8 : o < 8 := by rw [ho.out]; omega
  by_cases h0 : o = 0
  · have HEn : Hid (endB s a = ((s.extract q s.size).size == 0)) := by
      show _ = _
      unfold endB
      rw [ext_sizeQ]
      have hlt := txtN_lt s.data.toList
      have hl : s.data.toList.length = s.size := by simp
      rw [hl] at hlt
      by_cases h : s.size - q = 0
      · have ea : a = 8 * s.size := by have := hq.out; have := ho.out; omega
        rw [decide_eq_true ⟨by omega, by rw [ea]; exact Nat.div_eq_of_lt hlt⟩, h]; rfl
      · rw [decide_eq_false (by have := hq.out; have := ho.out; omega)]
        symm; rw [beq_eq_false_iff_ne]; exact h
    go_enter Tryd.func45, Tryd.ntmps45
    go_wp2_with fail
    go_region_held3 (fun X => X.cell? ⟨gr, 0, none⟩ = some (.string s) ∧ X.cell? ⟨gr, 1, none⟩ = some (.int .i64 (a : Int))) (exact ⟨c0, c1⟩) (fail)
    have t0 : ((o : Int) == 0) = true := by rw [beq_iff_eq]; omega
    have c1d : w.drew.cell? ⟨gr, 1, none⟩ = _ := c1
    obtain ⟨T, hT⟩ : ∃ T, Hid (s.extract q s.size = T) := ⟨_, Hid.mk' rfl⟩
    rw [hT.out] at HEn ⊢
    have HE2 : Hid (endB s a = T.toList.isEmpty) := by
      show _ = _
      rw [HEn.out]
      have e : T.size = T.toList.length := by rw [ByteArray.toList_eq]; simp
      rw [e]
      cases T.toList <;> rfl
    clear c0 c1
    go_wp2_with fail
    go_ret
    exact ⟨by rw [HE2.out]; rfl, (Below.refl _ _).drew⟩
  · have t0 : ((o : Int) == 0) = false := by rw [beq_eq_false_iff_ne]; omega
    have c1d : w.drew.cell? ⟨gr, 1, none⟩ = some (.int .i64 (a : Int)) := c1
    obtain ⟨T, hT⟩ : ∃ T, Hid (s.extract q s.size = T) := ⟨_, Hid.mk' rfl⟩
    have hTs : T.size = s.size - q := by rw [← hT.out, ext_sizeQ]
    have hTb : T.size ≤ 140737488363520 := by omega
    have HTs := Hid.mk' hTs
    clear hTs
    by_cases h1 : T.size = 1
    · have t1 : ((T.size : Int) == 1) = true := by rw [beq_iff_eq]; omega
      have hqs' : q < s.size := by have := HTs.out; omega
      have h0T : 0 < T.size := by omega
      have hb : T[0].toNat = s[q].toNat := by
        have e1 : T.data.toList = s.data.toList.drop q := by rw [← hT.out]; exact ext_listQ s q
        have e2 := byte_at T 0 h0T
        have e3 := byte_at s q hqs'
        rw [e1, List.getD_eq_getElem?_getD, List.getElem?_drop, Nat.add_zero, ← List.getD_eq_getElem?_getD, e3] at e2
        rw [e2]
      have HEn : Hid (endB s a = ((T[0].toNat : Int) / 2 ^ o == 0)) := by
        show _ = _
        unfold endB
        rw [end_byte s a q o hq.out ho.out hqs' (by have := HTs.out; omega), hb, cast_div_pow]
        by_cases h : s[q].toNat / 2 ^ o = 0
        · rw [decide_eq_true ⟨by have := hq.out; have := HTs.out; omega, h⟩, h]; rfl
        · rw [decide_eq_false (fun hh => h hh.2)]
          symm; rw [beq_eq_false_iff_ne]; omega
      clear hb
      go_enter Tryd.func45, Tryd.ntmps45
      go_wp2_with fail
      go_region_held3 (fun X => X.cell? ⟨gr, 0, none⟩ = some (.string s) ∧ X.cell? ⟨gr, 1, none⟩ = some (.int .i64 (a : Int))) (exact ⟨c0, c1⟩) (fail)
      rw [hT.out]
      obtain ⟨W2, hW2⟩ : ∃ W2, Hid (w.drew = W2) := ⟨_, Hid.mk' rfl⟩
      have HB2 : Hid (Below w.heap.size w W2) := by rw [← hW2.out]; exact (Below.refl _ _).drew
      rw [hW2.out] at c1d ⊢
      clear c0 c1
      go_wp2_with fail
      go_quiet (fail)
      go_wp2_with fail
      go_ret
      exact ⟨by rw [HEn.out]; rfl, HB2.out.trans (below_dP _ _)⟩
    · have t1 : ((T.size : Int) == 1) = false := by rw [beq_eq_false_iff_ne]; omega
      have HEn : Hid (endB s a = false) := by
        show _ = _
        unfold endB
        rw [decide_eq_false (fun hh => h1 (by have := HTs.out; have := hq.out; have := ho.out; omega))]
      go_enter Tryd.func45, Tryd.ntmps45
      go_wp2_with fail
      go_region_held3 (fun X => X.cell? ⟨gr, 0, none⟩ = some (.string s) ∧ X.cell? ⟨gr, 1, none⟩ = some (.int .i64 (a : Int))) (exact ⟨c0, c1⟩) (fail)
      rw [hT.out]
      obtain ⟨W2, hW2⟩ : ∃ W2, Hid (w.drew = W2) := ⟨_, Hid.mk' rfl⟩
      have HB2 : Hid (Below w.heap.size w W2) := by rw [← hW2.out]; exact (Below.refl _ _).drew
      rw [hW2.out] at c1d ⊢
      clear c0 c1
      go_wp2_with fail
      go_quiet (fail)
      go_wp2_with fail
      go_ret
      exact ⟨by rw [HEn.out]; rfl, HB2.out.trans (below_dP _ _)⟩
end Go.Proofs.YtcalbicfnhoklaaDoor
