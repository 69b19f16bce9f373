/- What linenref.Least answers. -/
import Derived.Test.YthdgfanecfdlkaaHuffLeastMath
import Derived.Test.YthdgfanecfdlkaaRowV
import Derived.Test.YthdgfanecfdlkaaI64s
import Derived.BigRegion
namespace Go.Proofs.Ythdgfanecfdlkaa
open Go.RowKit

/-- what Least answers -/
def leastW (ws : List Nat) (most : Nat) : Nat := if ws.length = 0 then 0 else if ws.length = 1 then ws.getD 0 0 else bestW ws (most + 1) 1 0
theorem leftW_step (ws : List Nat) (i : Nat) (h : i < ws.length) : leftW ws i = leftW ws (i + 1) + ws.getD i 0 := by
  unfold leftW
  rw [List.drop_eq_getElem_cons h, List.getD_eq_getElem?_getD, List.getElem?_eq_getElem h, Option.getD_some]
  simp only [sm]; omega
theorem leftW_end (ws : List Nat) (i : Nat) (h : ws.length ≤ i) : leftW ws i = 0 := by
  unfold leftW; rw [List.drop_of_length_le h]; rfl
theorem leftW_le (ws : List Nat) (hb : ∀ v ∈ ws, v ≤ 1048576) (i : Nat) : leftW ws i ≤ 1048576 * (ws.length - i) := by
  unfold leftW
  have h1 : ∀ l : List Nat, (∀ v ∈ l, v ≤ 1048576) → sm (fun f => f) l ≤ 1048576 * l.length := by
    intro l
    induction l with
    | nil => intro _; simp [sm]
    | cons a l ih =>
      intro h
      have h1 := ih fun v hv => h v (by simp [hv])
      have h2 := h a (by simp)
      simp only [sm, List.length_cons]; omega
  have h2 := h1 (ws.drop i) (fun v hv => hb v (List.mem_of_mem_drop hv))
  rw [List.length_drop] at h2
  exact h2
theorem bestW_nv (ws : List Nat) (j e k : Nat) : bestW ws j e k ≤ nv := by
  cases j with
  | zero => simp only [bestW]; split; exact Nat.le_refl _; exact Nat.zero_le _
  | succ j => simp only [bestW]; split; exact mF_nv _ _; exact Nat.zero_le _
theorem Row64.block {w w' : World} {g n : Nat} {f : Nat → Int} (h : Row64 w g n f) (hb : w'.heap[g]? = w.heap[g]?) (hs : w.heap.size ≤ w'.heap.size) : Row64 w' g n f :=
  ⟨fun i hi => (World.cell?_of_block (w := w) (w' := w') (a := ⟨g, i, none⟩) hb).trans (h.cell i hi), fun i hi => (World.frozen?_of_block (w := w) (w' := w') (a := ⟨g, i, none⟩) hb).trans (h.open' i hi), Nat.lt_of_lt_of_le h.lt hs⟩
theorem infoSlI : (Try.prog.info? 22).map (fun i => (i.zero, i.size, i.bytes)) = some (some (.slice none 0 0), 1, 24) := by kernel_rfl
theorem size_set (w : World) (a : Addr) (v : Value) : (w.setCell a v).heap.size = w.heap.size := by simp [World.setCell]
/-- rows of a table, the first E of them laid -/
def tabV (g N1 E : Nat) : Nat → Value := fun e => if e < E then .slice (some ⟨g + 1 + e, 0, none⟩) N1 N1 else .slice none 0 0
structure TabP (w : World) (g N1 E : Nat) (B : Nat → Nat → Nat) : Prop where
  out : RowV w g N1 (tabV g N1 E)
  row : ∀ e, e < E → Row64 w (g + 1 + e) N1 (fun k => ((B e k : Nat) : Int))
theorem TabP.below {w w' : World} {g N1 E b : Nat} {B : Nat → Nat → Nat} (h : TabP w g N1 E B) (hb : Below b w w') (hg : g + 1 + E ≤ b) : TabP w' g N1 E B :=
  ⟨h.out.block (hb.block _ (by omega)) hb.size, fun e he => (h.row e he).block (hb.block _ (by omega)) hb.size⟩
theorem tab_zero {w : World} {g N1 : Nat} {B : Nat → Nat → Nat} (h : RowV w g N1 (fun _ => .slice none 0 0)) : TabP w g N1 0 B :=
  ⟨⟨fun i hi => by rw [h.cell i hi]; unfold tabV; rw [if_neg (by omega)], h.open', h.lt⟩, fun e he => by omega⟩
/-- the world in which one more row is laid -/
def nextW (w : World) (g E N1 : Nat) (t : TypeId) : World := (w.setCell ⟨g, E, none⟩ (.slice (some ⟨w.heap.size, 0, none⟩) N1 N1)).alloc (.cells (madeCells #[.int .i64 0] N1) t)
theorem nextW_size (w : World) (g E N1 : Nat) (t : TypeId) : (nextW w g E N1 t).heap.size = w.heap.size + 1 := by unfold nextW; simp [World.setCell]
theorem nextW_heap (w : World) (g E N1 : Nat) (t : TypeId) (k : Nat) (hk : k < w.heap.size) : (nextW w g E N1 t).heap[k]? = (w.setCell ⟨g, E, none⟩ (.slice (some ⟨w.heap.size, 0, none⟩) N1 N1)).heap[k]? := by
  unfold nextW
  exact Below.heap_alloc _ _ k (by rw [size_set]; exact hk)
theorem nextW_row (w : World) (g E N1 : Nat) (t : TypeId) : Row64 (nextW w g E N1 t) w.heap.size N1 (fun _ => 0) := by
  have := row64_made (w.setCell ⟨g, E, none⟩ (.slice (some ⟨w.heap.size, 0, none⟩) N1 N1)) N1 t
  rw [size_set] at this
  exact this
/-- one more row is laid and then written -/
theorem TabP.next {w w' : World} {g N1 E : Nat} {B : Nat → Nat → Nat} {t : TypeId} (h : TabP w g N1 E B) (hE : E < N1) (hs : w.heap.size = g + 1 + E)
    (hb : Below w.heap.size (nextW w g E N1 t) w') (hr : Row64 w' w.heap.size N1 (fun k => ((B E k : Nat) : Int))) : TabP w' g N1 (E + 1) B := by
  have hg : g < w.heap.size := h.out.lt
  have h1 := h.out.set E hE (.slice (some ⟨w.heap.size, 0, none⟩) N1 N1)
  have hz : w.heap.size ≤ w'.heap.size := by have := hb.size; rw [nextW_size] at this; omega
  have h2 := h1.block ((hb.block g hg).trans (nextW_heap w g E N1 t g hg)) (by rw [size_set]; exact hz)
  refine ⟨⟨fun i hi => ?_, h2.open', h2.lt⟩, fun e he => ?_⟩
  · rw [h2.cell i hi]
    unfold tabV
    by_cases e : i = E
    · subst e
      rw [if_pos rfl, if_pos (by omega), hs]
    · rw [if_neg e]
      by_cases hi2 : i < E
      · rw [if_pos hi2, if_pos (by omega)]
      · rw [if_neg hi2, if_neg (by omega)]
  · by_cases e' : e = E
    · subst e'
      rw [← hs]; exact hr
    · have hl : g + 1 + e < w.heap.size := by omega
      refine (h.row e (by omega)).block ?_ hz
      rw [hb.block _ hl, nextW_heap _ _ _ _ _ _ hl, heap_setCell_other _ _ _ _ (by show g + 1 + e ≠ g; omega)]
theorem nextW_cell {w : World} {g E N1 : Nat} {t : TypeId} {v : Value} (hg : g < w.heap.size) (h : w.cell? ⟨g, E, none⟩ = some v) : (nextW w g E N1 t).cell? ⟨g, E, none⟩ = some (.slice (some ⟨w.heap.size, 0, none⟩) N1 N1) := by
  rw [World.cell?_of_block (w := w.setCell ⟨g, E, none⟩ (.slice (some ⟨w.heap.size, 0, none⟩) N1 N1)) (nextW_heap w g E N1 t g hg)]
  exact World.cell?_setCell_same _ _ _ h
theorem nextW_below {a w : World} {g E N1 b : Nat} {t : TypeId} (h : Below b a w) (hg : b ≤ g) (hs : b ≤ w.heap.size) : Below b a (nextW w g E N1 t) := by
  unfold nextW
  exact (h.setCell (p := ⟨g, E, none⟩) hg _).alloc (by rw [size_set]; exact hs) _
theorem mF_step (ws : List Nat) (B : Nat → Nat → Nat) (e k t y : Nat) (hy : B (min ws.length (2 * (e - t))) (k + t) = y) : mF (pickW ws B e k) (t + 1) = if y < nv then min (mF (pickW ws B e k) t) (y + leftW ws (k + t)) else mF (pickW ws B e k) t := by
  simp only [mF]
  unfold pickW
  rw [hy]
  have := mF_nv (pickW ws B e k) t
  unfold pickW at this
  by_cases h : y < nv
  · rw [if_pos h, if_pos h]
  · rw [if_neg h, if_neg h, Nat.min_eq_left this]

set_option maxRecDepth 20000 in
set_option maxHeartbeats 4000000 in
theorem least_any (a0 : Option Addr) (n cap : Nat) (ws : List Nat) (most : Nat) (w : World) (hP : Wds w a0 n (fun i => ((ws.getD i 0 : Nat) : Int))) (hl : ws.length = n) (hn : n ≤ 24) (hb : ∀ v ∈ ws, v ≤ 1048576) (hm : most ≤ 15) :
    Calls Try.prog 8 #[.slice a0 n cap, .int .i64 (most : Int)] w fun e w' => e = .returned (.int .i64 (leastW ws most : Nat)) ∧ Below w.heap.size w w' := by
  have HP := Hid.mk' hP
  have HL := Hid.mk' hl
  have HBd := Hid.mk' hb
  clear hP hl hb
  by_cases h0 : n = 0
  · subst h0
    have HA : Hid (leastW ws most = 0) := by show _ = _; unfold leastW; rw [if_pos HL.out]
    go_enter Try.func8, Try.ntmps8
    go_wp2_with fail
    go_ret
    exact ⟨by rw [HA.out]; rfl, Below.refl _ _⟩
  · by_cases h1 : n = 1
    · subst h1
      have HA : Hid (leastW ws most = ws.getD 0 0) := by show _ = _; unfold leastW; rw [if_neg (by rw [HL.out]; omega), if_pos HL.out]
      obtain ⟨b0, off0, rfl, hb0, hc0⟩ := HP.out.at' (by omega)
      have c0 := hc0 0 (by omega)
      rw [Nat.add_zero] at c0
      have hbx := HP.out.wB 0 (by omega)
      clear hc0
      generalize ws.getD 0 0 = y at *
      go_enter Try.func8, Try.ntmps8
      go_wp2_with fail
      go_ret
      exact ⟨by rw [HA.out]; rfl, Below.refl _ _⟩
    · obtain ⟨N1, hN1⟩ : ∃ N1, Hid (N1 = n + 1) := ⟨_, Hid.mk' rfl⟩
      have HA : Hid (leastW ws most = bestW ws (most + 1) 1 0) := by show _ = _; unfold leastW; rw [if_neg (by rw [HL.out]; omega), if_neg (by rw [HL.out]; omega)]
      have eN : IntKind.i64.wrap ((n : Int) + 1) = (N1 : Int) := by rw [IntKind.wrap_i64, hN1.out]; omega
      have hNb : n < N1 ∧ N1 ≤ 25 := by have := hN1.out; omega
      have hNn : n < N1 := hNb.1
      have hN25 : N1 ≤ 25 := hNb.2
      have hn2 : 2 ≤ n := by omega
      have t0 : decide (n = 0) = false := decide_eq_false h0
      have t1 : decide (n = 1) = false := decide_eq_false h1
      have hmk1 := fun w => run_make_row' (P := Try.prog) 22 3 (.int .i64 0) 8 Try.underlying22 infoI64 rfl .i64 .i64 N1 (by omega) (by omega) w
      have hmk2 := fun w => run_make_row' (P := Try.prog) 37 22 (.slice none 0 0) 24 Try.underlying37 infoSlI rfl .i64 .i64 N1 (by omega) (by omega) w
      clear hNb
      go_enter Try.func8, Try.ntmps8
      go_wp2_with fail
      go_loopw [7] (fun iv wr => ∃ (k : Nat) (z : Int), k ≤ n ∧ z = (k : Int) - 1 ∧ iv = .int .i64 z ∧ Row64 wr w.heap.size N1 (fun i => if k ≤ i then ((leftW ws i : Nat) : Int) else 0) ∧ Below w.heap.size w wr ∧ wr.heap.size = w.heap.size + 1) (fun iv _ => (intOf iv + 1).toNat)
      case atStart =>
        refine ⟨n, _, Nat.le_refl _, rfl, rfl, (row64_made w N1 3).congr fun i hi => ?_, (Below.refl _ _).alloc (Nat.le_refl _) _, by simp⟩
        by_cases h : n ≤ i
        · rw [if_pos h, leftW_end ws i (by rw [HL.out]; exact h)]; rfl
        · rw [if_neg h]
      case round =>
        obtain ⟨k, z, hk, hz, rfl, hrow, hbl, hsz⟩ := hrel
        have HR := Hid.mk' hrow
        have HB := Hid.mk' hbl
        have HS := Hid.mk' hsz
        clear hrow hbl hsz
        by_cases hk0 : k = 0
        · subst hk0
          obtain rfl : z = -1 := by omega
          have HRL : Hid (Row64 wr w.heap.size N1 (fun i => ((leftW ws i : Nat) : Int))) := HR.out.congr fun i hi => by rw [if_pos (Nat.zero_le _)]
          clear hz hk HR
          obtain ⟨w1, hw1⟩ : ∃ w1 : World, w1 = wr := ⟨wr, rfl⟩
          subst hw1
          have hg1 : w.heap.size < w1.heap.size := HRL.out.lt
          go_wp2_with fail
          go_loopw [52] (fun iv wx => ∃ e : Nat, e ≤ N1 ∧ iv = .int .i64 (e : Int) ∧ TabP wx w1.heap.size N1 e (bestW ws 0) ∧ Below w1.heap.size w1 wx ∧ wx.heap.size = w1.heap.size + 1 + e) (fun iv _ => N1 - (intOf iv).toNat)
          case atStart => exact ⟨0, Nat.zero_le _, rfl, tab_zero (rowV_made w1 N1 _ _), (Below.refl _ _).alloc (Nat.le_refl _) _, by simp⟩
          case round =>
            obtain ⟨w2, hw2⟩ : ∃ w2 : World, w2 = wr := ⟨wr, rfl⟩
            subst hw2
            obtain ⟨e, he, rfl, htab, hbl, hsz⟩ := hrel
            have HT := Hid.mk' htab
            have HB2 := Hid.mk' hbl
            have HS2 := Hid.mk' hsz
            have hg2 : w1.heap.size < w2.heap.size := by omega
            clear htab hbl hsz
            by_cases hlt : e < N1
            · have cO := HT.out.out.cell e hlt
              have fO := HT.out.out.open' e hlt
              rw [show tabV w1.heap.size N1 e e = .slice none 0 0 by unfold tabV; rw [if_neg (by omega)]] at cO
              have HcB := Hid.mk' (nextW_cell (N1 := N1) (t := 3) hg2 cO)
              have HBA : Hid (Below w1.heap.size w1 (nextW w2 w1.heap.size e N1 3)) := nextW_below HB2.out (Nat.le_refl _) (by omega)
              go_wp2_with fail
              clear cO fO
              go_loopw [62] (fun iv wx => ∃ k : Nat, k ≤ n ∧ iv = .int .i64 (k : Int) ∧ Row64 wx w2.heap.size N1 (fun i => if i < k then 1152921504606846976 else 0) ∧ Below w2.heap.size (nextW w2 w1.heap.size e N1 3) wx ∧ wx.heap.size = w2.heap.size + 1) (fun iv _ => n - (intOf iv).toNat)
              case atStart => exact ⟨0, Nat.zero_le _, rfl, (nextW_row w2 w1.heap.size e N1 3).congr fun i hi => by rw [if_neg (by omega)], Below.refl _ _, nextW_size _ _ _ _ _⟩
              case round =>
                obtain ⟨w3, hw3⟩ : ∃ w3 : World, w3 = wr := ⟨wr, rfl⟩
                subst hw3
                obtain ⟨k, hk, rfl, hrow, hbl, hsz⟩ := hrel
                have HR3 := Hid.mk' hrow
                have HB3 := Hid.mk' hbl
                have HS3 := Hid.mk' hsz
                clear hrow hbl hsz
                by_cases hkn : k < n
                · have cB := (HB3.out.cell (p := ⟨w1.heap.size, e, none⟩) hg2).trans HcB.out
                  have cR := HR3.out.cell k (by omega)
                  have fR := HR3.out.open' k (by omega)
                  rw [if_neg (by omega)] at cR
                  have hkN : k < N1 := by omega
                  go_wp2_with fail
                  go_roundw
                  case rel =>
                    refine ⟨k + 1, by omega, by go_num, (HR3.out.set k hkN 1152921504606846976).congr fun i hi => ?_, HB3.out.setCell (p := ⟨w2.heap.size, k, none⟩) (Nat.le_refl _) _, by rw [size_set]; exact HS3.out⟩
                    by_cases h : i = k
                    · rw [if_pos h, if_pos (by omega)]
                    · rw [if_neg h]
                      by_cases h2 : i < k
                      · rw [if_pos h2, if_pos (by omega)]
                      · rw [if_neg h2, if_neg (by omega)]
                  case measure => simp [intOf]; omega
                · have hkn' : k = n := by omega
                  have HTn : Hid (TabP w3 w1.heap.size N1 (e + 1) (bestW ws 0)) := by
                    refine HT.out.next hlt HS2.out HB3.out (HR3.out.congr fun i hi => ?_)
                    simp only [bestW]
                    rw [HL.out, hkn']
                    by_cases h : i < n
                    · rw [if_pos h, if_pos h]; rfl
                    · rw [if_neg h, if_neg h]; rfl
                  have HBn : Hid (Below w1.heap.size w1 w3) := HBA.out.trans (HB3.out.mono (by omega))
                  have HSn : Hid (w3.heap.size = w1.heap.size + 1 + (e + 1)) := by show _ = _; rw [HS3.out, HS2.out]; omega
                  clear hkn'
                  go_wp2_with fail
                  go_roundw
                  case rel => exact ⟨e + 1, by omega, by go_num, HTn.out, HBn.out, HSn.out⟩
                  case measure => simp [intOf]; omega
            · obtain rfl : N1 = e := by omega
              obtain ⟨M1, hM1⟩ : ∃ M1, Hid (M1 = most + 1) := ⟨_, Hid.mk' rfl⟩
              have eM : IntKind.i64.wrap ((most : Int) + 1) = (M1 : Int) := by rw [IntKind.wrap_i64, hM1.out]; omega
              have hMb : M1 ≤ 16 := by have := hM1.out; omega
              have HBw : Hid (Below w.heap.size w w2) := HB.out.trans (HB2.out.mono (by omega))
              have HLw : Hid (Row64 w2 w.heap.size N1 (fun i => ((leftW ws i : Nat) : Int))) := HRL.out.block (HB2.out.block _ hg1) HB2.out.size
              have HLe : Hid (∀ k, leftW ws k ≤ 26214400) := fun k => by
                have h1 := leftW_le ws HBd.out k
                rw [HL.out] at h1; omega
              clear hlt
              go_wp2_with fail
              go_loopw [8, 75] (fun bv iv wx => ∃ j g : Nat, j ≤ M1 ∧ iv = .int .i64 (j : Int) ∧ bv = .slice (some ⟨g, 0, none⟩) N1 N1 ∧ TabP wx g N1 N1 (bestW ws j) ∧ w.heap.size < g ∧ g + 1 + N1 ≤ wx.heap.size ∧ Row64 wx w.heap.size N1 (fun i => ((leftW ws i : Nat) : Int)) ∧ Below w.heap.size w wx) (fun _ iv _ => M1 - (intOf iv).toNat)
              case atStart => exact ⟨0, w1.heap.size, Nat.zero_le _, rfl, rfl, HT.out, hg1, by rw [HS2.out]; omega, HLw.out, HBw.out⟩
              case round =>
                obtain ⟨w4, hw4⟩ : ∃ w4 : World, w4 = wr := ⟨wr, rfl⟩
                subst hw4
                obtain ⟨j, g, hj, rfl, rfl, htab, hgw, hgs, hlf, hbl⟩ := hrel
                have HT4 := Hid.mk' htab
                have HL4 := Hid.mk' hlf
                have HB4 := Hid.mk' hbl
                clear htab hlf hbl HT HB2 HS2 HLw HBw
                by_cases hjm : j < M1
                · go_wp2_with fail
                  go_loopw [82] (fun iv wx => ∃ e : Nat, e ≤ N1 ∧ iv = .int .i64 (e : Int) ∧ TabP wx w4.heap.size N1 e (bestW ws (j + 1)) ∧ Below w4.heap.size w4 wx ∧ wx.heap.size = w4.heap.size + 1 + e) (fun iv _ => N1 - (intOf iv).toNat)
                  case atStart => exact ⟨0, Nat.zero_le _, rfl, tab_zero (rowV_made w4 N1 _ _), (Below.refl _ _).alloc (Nat.le_refl _) _, by simp⟩
                  case round =>
                    obtain ⟨w5, hw5⟩ : ∃ w5 : World, w5 = wr := ⟨wr, rfl⟩
                    subst hw5
                    obtain ⟨e, he, rfl, htab, hbl, hsz⟩ := hrel
                    have HT5 := Hid.mk' htab
                    have HB5 := Hid.mk' hbl
                    have HS5 := Hid.mk' hsz
                    have hg5 : w4.heap.size < w5.heap.size := by omega
                    clear htab hbl hsz
                    by_cases hlt : e < N1
                    · have cO := HT5.out.out.cell e hlt
                      have fO := HT5.out.out.open' e hlt
                      rw [show tabV w4.heap.size N1 e e = .slice none 0 0 by unfold tabV; rw [if_neg (by omega)]] at cO
                      have HcB := Hid.mk' (nextW_cell (N1 := N1) (t := 3) hg5 cO)
                      have HBA : Hid (Below w4.heap.size w4 (nextW w5 w4.heap.size e N1 3)) := nextW_below HB5.out (Nat.le_refl _) (by omega)
                      go_wp2_with fail
                      clear cO fO
                      go_loopw [92] (fun iv wx => ∃ k : Nat, k ≤ n ∧ iv = .int .i64 (k : Int) ∧ Row64 wx w5.heap.size N1 (fun i => if i < k then ((bestW ws (j + 1) e i : Nat) : Int) else 0) ∧ Below w5.heap.size (nextW w5 w4.heap.size e N1 3) wx ∧ wx.heap.size = w5.heap.size + 1) (fun iv _ => n - (intOf iv).toNat)
                      case atStart => exact ⟨0, Nat.zero_le _, rfl, (nextW_row w5 w4.heap.size e N1 3).congr fun i hi => by rw [if_neg (by omega)], Below.refl _ _, nextW_size _ _ _ _ _⟩
                      case round =>
                        obtain ⟨w6, hw6⟩ : ∃ w6 : World, w6 = wr := ⟨wr, rfl⟩
                        subst hw6
                        obtain ⟨k, hk, rfl, hrow, hbl, hsz⟩ := hrel
                        have HR6 := Hid.mk' hrow
                        have HB6 := Hid.mk' hbl
                        have HS6 := Hid.mk' hsz
                        clear hrow hbl hsz
                        by_cases hkn : k < n
                        · have cB := (HB6.out.cell (p := ⟨w4.heap.size, e, none⟩) hg5).trans HcB.out
                          have cR := HR6.out.cell k (by omega)
                          have fR := HR6.out.open' k (by omega)
                          rw [if_neg (by omega)] at cR
                          have hkN : k < N1 := by omega
                          obtain ⟨T, hT⟩ : ∃ T, Hid (T = min e (n - k) + 1) := ⟨_, Hid.mk' rfl⟩
                          have HBest : Hid (bestW ws (j + 1) e k = mF (pickW ws (bestW ws j) e k) T) := by show _ = _; simp only [bestW]; rw [if_pos (by rw [HL.out]; exact hkn), hT.out, HL.out]
                          obtain ⟨P, hPk⟩ : ∃ P : Nat → Nat, Hid (P = mF (pickW ws (bestW ws j) e k)) := ⟨_, Hid.mk' rfl⟩
                          rw [← hPk.out] at HBest
                          have HRs := Hid.mk' (HR6.out.set k hkN 1152921504606846976)
                          have HBs := Hid.mk' (HB6.out.setCell (p := ⟨w5.heap.size, k, none⟩) (Nat.le_refl _) (.int .i64 1152921504606846976))
                          go_wp2_with fail
                          clear cB cR fR
                          go_loopw [14] (fun tv wx => ∃ t : Nat, t ≤ T ∧ tv = .int .i64 (t : Int) ∧ Row64 wx w5.heap.size N1 (fun i => if i = k then ((P t : Nat) : Int) else if i < k then ((bestW ws (j + 1) e i : Nat) : Int) else 0) ∧ Below w5.heap.size (nextW w5 w4.heap.size e N1 3) wx ∧ wx.heap.size = w5.heap.size + 1) (fun tv _ => T - (intOf tv).toNat)
                          case atStart => exact ⟨0, Nat.zero_le _, rfl, HRs.out.congr fun i hi => by by_cases h : i = k; (rw [if_pos h, if_pos h, hPk.out]; rfl); (rw [if_neg h, if_neg h]), HBs.out, by rw [size_set]; exact HS6.out⟩
                          case round =>
                            obtain ⟨w7, hw7⟩ : ∃ w7 : World, w7 = wr := ⟨wr, rfl⟩
                            subst hw7
                            obtain ⟨t, ht, rfl, hrow, hbl, hsz⟩ := hrel
                            have HR7 := Hid.mk' hrow
                            have HB7 := Hid.mk' hbl
                            have HS7 := Hid.mk' hsz
                            clear hrow hbl hsz HRs HBs
                            obtain ⟨kt, hkt⟩ : ∃ kt, Hid (kt = k + t) := ⟨_, Hid.mk' rfl⟩
                            have htb : t ≤ 26 := by have := hT.out; omega
                            have hktb : kt ≤ 60 := by have := hkt.out; omega
                            have ekt : IntKind.i64.wrap ((k : Int) + (t : Int)) = (kt : Int) := by rw [IntKind.wrap_i64, hkt.out]; omega
                            by_cases htT : t < T
                            · have d1 : decide (t ≤ e) = true := decide_eq_true (by have := hT.out; omega)
                              have d2 : decide (kt ≤ n) = true := decide_eq_true (by have := hT.out; have := hkt.out; omega)
                              have hkn2 : kt ≤ n := of_decide_eq_true d2
                              have hte2 : t ≤ e := of_decide_eq_true d1
                              have hkN2 : kt < N1 := by omega
                              obtain ⟨d, hd⟩ : ∃ d, Hid (d = e - t) := ⟨_, Hid.mk' rfl⟩
                              have ed : IntKind.i64.wrap ((e : Int) - (t : Int)) = (d : Int) := by rw [IntKind.wrap_i64, hd.out]; omega
                              have hdb : d ≤ 25 := by have := hd.out; omega
                              obtain ⟨q, hq⟩ : ∃ q, Hid (q = 2 * d) := ⟨_, Hid.mk' rfl⟩
                              have eq : IntKind.i64.wrap (2 * (d : Int)) = (q : Int) := by rw [IntKind.wrap_i64, hq.out]; omega
                              have hqb : q ≤ 50 := by have := hq.out; omega
                              obtain ⟨mi, hmi⟩ : ∃ mi, Hid (mi = min n q) := ⟨_, Hid.mk' rfl⟩
                              have emi : (if (q : Int) < (n : Int) then (q : Int) else (n : Int)) = (mi : Int) := by rw [hmi.out]; split <;> omega
                              have emj : (if q < n then (q : Int) else (n : Int)) = (mi : Int) := by rw [hmi.out]; split <;> omega
                              have hmN : mi < N1 := by have := hmi.out; omega
                              have hB47 : Below w4.heap.size w4 w7 := HBA.out.trans (HB7.out.mono (by omega))
                              have cA := (hB47.cell (p := ⟨g, mi, none⟩) (by show g < _; omega)).trans (HT4.out.out.cell mi hmN)
                              rw [show tabV g N1 N1 mi = .slice (some ⟨g + 1 + mi, 0, none⟩) N1 N1 by unfold tabV; rw [if_pos hmN]] at cA
                              have cY := (hB47.cell (p := ⟨g + 1 + mi, kt, none⟩) (by show g + 1 + mi < _; omega)).trans ((HT4.out.row mi hmN).cell kt hkN2)
                              have hyb := bestW_nv ws j mi kt
                              obtain ⟨gm, hgm⟩ : ∃ gm, Hid (g + 1 + mi = gm) := ⟨_, Hid.mk' rfl⟩
                              obtain ⟨y, hy⟩ : ∃ y, Hid (bestW ws j mi kt = y) := ⟨_, Hid.mk' rfl⟩
                              rw [hgm.out] at cA cY
                              rw [hy.out] at cY hyb
                              have hybb : y ≤ 1152921504606846976 := hyb
                              have HStep := Hid.mk' (mF_step ws (bestW ws j) e k t y (by rw [HL.out, ← hd.out, ← hq.out, ← hmi.out, ← hkt.out]; exact hy.out))
                              rw [← hPk.out, ← hkt.out] at HStep
                              clear hyb
                              by_cases hynv : y < 1152921504606846976
                              · have dy : decide ((y : Int) < 1152921504606846976) = true := decide_eq_true (by omega)
                                have dy2 : decide (y < 1152921504606846976) = true := decide_eq_true hynv
                                have cB := (HB7.out.cell (p := ⟨w4.heap.size, e, none⟩) hg5).trans HcB.out
                                have cR := HR7.out.cell k hkN
                                have fR := HR7.out.open' k hkN
                                rw [if_pos rfl] at cR
                                have cL := (hB47.cell (p := ⟨w.heap.size, kt, none⟩) (by show w.heap.size < _; omega)).trans (HL4.out.cell kt hkN2)
                                have hlb := HLe.out kt
                                have hPb : P t ≤ nv := by rw [hPk.out]; exact mF_nv _ _
                                obtain ⟨p, hp⟩ : ∃ p, Hid (P t = p) := ⟨_, Hid.mk' rfl⟩
                                obtain ⟨l, hl⟩ : ∃ l, Hid (leftW ws kt = l) := ⟨_, Hid.mk' rfl⟩
                                obtain ⟨s, hs⟩ : ∃ s, Hid (s = y + l) := ⟨_, Hid.mk' rfl⟩
                                obtain ⟨m, hmm⟩ : ∃ m, Hid (m = min p s) := ⟨_, Hid.mk' rfl⟩
                                rw [hp.out] at cR hPb
                                rw [hl.out] at cL hlb
                                have hPb2 : p ≤ 1152921504606846976 := hPb
                                have es : IntKind.i64.wrap ((y : Int) + (l : Int)) = (s : Int) := by rw [IntKind.wrap_i64, hs.out]; omega
                                have hsb : s ≤ 1152921504633061376 := by have := hs.out; omega
                                have em : (if (s : Int) < (p : Int) then (s : Int) else (p : Int)) = (m : Int) := by rw [hmm.out]; split <;> omega
                                have em2 : (if s < p then (s : Int) else (p : Int)) = (m : Int) := by rw [hmm.out]; split <;> omega
                                have hPn : Hid (P (t + 1) = m) := by
                                  show _ = _
                                  have h := HStep.out
                                  rw [if_pos (show y < nv from hynv), hp.out, hl.out, ← hs.out, ← hmm.out] at h
                                  exact h
                                clear hB47 hPb
                                go_wp2_with fail
                                go_region
                                go_wp2_with fail
                                go_roundw
                                case rel =>
                                  have hr2 := (HR7.out.set k hkN (m : Int)).congr (f' := fun i => if i = k then ((P (t + 1) : Nat) : Int) else if i < k then ((bestW ws (j + 1) e i : Nat) : Int) else 0) fun i hi => by
                                    by_cases h : i = k
                                    · rw [if_pos h, if_pos h, hPn.out]
                                    · rw [if_neg h, if_neg h, if_neg h]
                                  exact ⟨t + 1, htT, by go_num, ⟨hr2.cell, hr2.open', hr2.lt⟩, (HB7.out.setCell (p := ⟨w5.heap.size, k, none⟩) (Nat.le_refl _) _).drew, by show (w7.setCell _ _).heap.size = _; rw [size_set]; exact HS7.out⟩
                                case measure => simp [intOf]; omega
                              · have dy : decide ((y : Int) < 1152921504606846976) = false := decide_eq_false (by omega)
                                have dy2 : decide (y < 1152921504606846976) = false := decide_eq_false hynv
                                have hPn : Hid (P (t + 1) = P t) := by
                                  show _ = _
                                  have h := HStep.out
                                  rw [if_neg (show ¬ y < nv from hynv)] at h
                                  exact h
                                clear hB47
                                go_wp2_with fail
                                go_roundw
                                case rel => exact ⟨t + 1, htT, by go_num, by rw [hPn.out]; exact HR7.out, HB7.out, HS7.out⟩
                                case measure => simp [intOf]; omega
                            · have hTt : Hid (t = T) := by show _ = _; omega
                              have HRn : Hid (Row64 w7 w5.heap.size N1 (fun i => if i < k + 1 then ((bestW ws (j + 1) e i : Nat) : Int) else 0)) := HR7.out.congr fun i hi => by
                                by_cases h : i = k
                                · subst h
                                  rw [if_pos rfl, if_pos (by omega), HBest.out, hTt.out]
                                · rw [if_neg h]
                                  by_cases h2 : i < k
                                  · rw [if_pos h2, if_pos (by omega)]
                                  · rw [if_neg h2, if_neg (by omega)]
                              by_cases hte : t ≤ e
                              · have d1 : decide (t ≤ e) = true := decide_eq_true hte
                                have d2 : decide (kt ≤ n) = false := decide_eq_false (by have := hT.out; have := hkt.out; omega)
                                go_wp2_with fail
                                go_roundw
                                case rel => exact ⟨k + 1, by omega, by go_num, HRn.out, HB7.out, HS7.out⟩
                                case measure => simp [intOf]; omega
                              · have d1 : decide (t ≤ e) = false := decide_eq_false hte
                                go_wp2_with fail
                                go_roundw
                                case rel => exact ⟨k + 1, by omega, by go_num, HRn.out, HB7.out, HS7.out⟩
                                case measure => simp [intOf]; omega
                        · have hkn' : Hid (k = n) := by show _ = _; omega
                          have HTn : Hid (TabP w6 w4.heap.size N1 (e + 1) (bestW ws (j + 1))) := by
                            refine HT5.out.next hlt HS5.out HB6.out (HR6.out.congr fun i hi => ?_)
                            by_cases h : i < k
                            · rw [if_pos h]
                            · rw [if_neg h]
                              simp only [bestW]
                              rw [if_neg (by rw [HL.out, ← hkn'.out]; exact h)]; rfl
                          have HBn : Hid (Below w4.heap.size w4 w6) := HBA.out.trans (HB6.out.mono (by omega))
                          have HSn : Hid (w6.heap.size = w4.heap.size + 1 + (e + 1)) := by show _ = _; rw [HS6.out, HS5.out]; omega
                          go_wp2_with fail
                          go_roundw
                          case rel => exact ⟨e + 1, by omega, by go_num, HTn.out, HBn.out, HSn.out⟩
                          case measure => simp [intOf]; omega
                    · obtain rfl : N1 = e := by omega
                      have HLn : Hid (Row64 w5 w.heap.size N1 (fun i => ((leftW ws i : Nat) : Int))) := HL4.out.block (HB5.out.block _ (by omega)) HB5.out.size
                      have HBn : Hid (Below w.heap.size w w5) := HB4.out.trans (HB5.out.mono (by omega))
                      clear hlt
                      go_wp2_with fail
                      go_roundw
                      case rel => exact ⟨j + 1, w4.heap.size, hjm, by go_num, rfl, HT5.out, by omega, by rw [HS5.out]; omega, HLn.out, HBn.out⟩
                      case measure => simp [intOf]; omega
                · have hjM : Hid (j = most + 1) := by show _ = _; rw [← hM1.out]; omega
                  have c1 := HT4.out.out.cell 1 (by omega)
                  rw [show tabV g N1 N1 1 = .slice (some ⟨g + 1 + 1, 0, none⟩) N1 N1 by unfold tabV; rw [if_pos (by omega)]] at c1
                  have c2 := (HT4.out.row 1 (by omega)).cell 0 (by omega)
                  obtain ⟨y, hy⟩ : ∃ y, Hid (bestW ws j 1 0 = y) := ⟨_, Hid.mk' rfl⟩
                  have HAn : Hid (leastW ws most = y) := by show _ = _; rw [HA.out, ← hjM.out, hy.out]
                  rw [hy.out] at c2
                  obtain ⟨gm, hgm⟩ : ∃ gm, Hid (g + 1 + 1 = gm) := ⟨_, Hid.mk' rfl⟩
                  rw [hgm.out] at c1 c2
                  have h1N : 1 < N1 := by omega
                  have h0N : 0 < N1 := by omega
                  go_wp2_with fail
                  go_ret
                  exact ⟨by rw [HAn.out]; rfl, HB4.out⟩
        · obtain ⟨i, hi⟩ : ∃ i, k = i + 1 := ⟨k - 1, by omega⟩
          obtain rfl : z = (i : Int) := by omega
          have hstep : Hid (leftW ws i = leftW ws k + ws.getD i 0) := by show _ = _; rw [hi]; exact leftW_step ws i (by rw [HL.out]; omega)
          have hle := leftW_le ws HBd.out i
          have hle2 : leftW ws i ≤ 26214400 := by rw [HL.out] at hle; omega
          obtain ⟨b0, off0, rfl, hb0, hc0⟩ := HP.out.at' (by omega)
          have c0 := (HB.out.cell (p := ⟨b0, off0 + i, none⟩) hb0).trans (hc0 i (by omega))
          have c1 := HR.out.cell k (by omega)
          rw [if_pos (Nat.le_refl _)] at c1
          have c2 := HR.out.cell i (by omega)
          have f2 := HR.out.open' i (by omega)
          have e1 : IntKind.i64.wrap ((i : Int) + 1) = (k : Int) := by rw [IntKind.wrap_i64]; omega
          have hkN : k < N1 := by omega
          have hiN : i < N1 := by omega
          have hin : i < n := by omega
          have HK := Hid.mk' hi
          rw [if_neg (by omega)] at c2
          obtain ⟨x, hx⟩ : ∃ x, Hid (leftW ws i = x) := ⟨_, Hid.mk' rfl⟩
          rw [hx.out] at hstep hle2
          clear hc0 hi hk0 hz hle
          generalize leftW ws k = y at *
          generalize ws.getD i 0 = u at *
          have e2 : IntKind.i64.wrap ((y : Int) + (u : Int)) = (x : Int) := by rw [IntKind.wrap_i64]; have := hstep.out; omega
          go_wp2_with fail
          go_region
          go_wp2_with fail
          go_roundw
          case rel =>
            have hr2 := (HR.out.set i hiN (x : Int)).congr (f' := fun i' => if i ≤ i' then ((leftW ws i' : Nat) : Int) else 0) fun i' hi' => by
              have hk' := HK.out
              by_cases h : i' = i
              · subst h
                rw [if_pos rfl, if_pos (Nat.le_refl _), hx.out]
              · rw [if_neg h]
                by_cases h2 : k ≤ i'
                · rw [if_pos h2, if_pos (by omega)]
                · rw [if_neg h2, if_neg (by omega)]
            exact ⟨i, (i : Int) - 1, by omega, rfl, by go_num, ⟨hr2.cell, hr2.open', hr2.lt⟩, (HB.out.setCell (p := ⟨w.heap.size, i, none⟩) (Nat.le_refl _) _).drew, by show (wr.setCell _ _).heap.size = _; rw [size_set]; exact HS.out⟩
          case measure => simp [intOf]
end Go.Proofs.Ythdgfanecfdlkaa
