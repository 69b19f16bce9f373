/- What slices.Clone, Grow and Concat answer over pieces. -/
import Derived.Test.YtjfkbkhfnnmbnabPackWalks
import Derived.Test.YtjfkbkhfnnmbnabCatMath
import Derived.Test.YtjfkbkhfnnmbnabGrow
import Derived.Lib.AppendZeros
import Derived.Lib.LazyBuf
import Derived.Laws.AppendOwnNone
import Derived.Deep.DeepAppendRoom
namespace Go.Proofs.Ytjfkbkhfnnmbnab
open Go.RowKit

theorem infoPiece : (Try.prog.info? 30).map (fun i => (i.zero, i.size, i.bytes)) = some (some (.agg #[.int .u64 0, .int .i64 0]), 2, 16) := by kernel_rfl
/-- the cells of pieces -/
def cellsP (V : Nat → Nat) (W : Nat → Int) (k : Nat) : List Value := (List.range (k * 2)).map fun j => if j % 2 = 0 then .int .u64 (V (j / 2) : Int) else .int .i64 (W (j / 2))
theorem cellsP_length (V : Nat → Nat) (W : Nat → Int) (k : Nat) : (cellsP V W k).length = k * 2 := by simp [cellsP]
theorem cellsP_even (V : Nat → Nat) (W : Nat → Int) (k i : Nat) (h : i < k) : (cellsP V W k)[i * 2]? = some (.int .u64 (V i : Int)) := by
  unfold cellsP
  rw [List.getElem?_map, List.getElem?_range (by omega)]
  simp
theorem cellsP_odd (V : Nat → Nat) (W : Nat → Int) (k i : Nat) (h : i < k) : (cellsP V W k)[i * 2 + 1]? = some (.int .i64 (W i)) := by
  unfold cellsP
  rw [List.getElem?_map, List.getElem?_range (by omega)]
  simp only [Option.map_some]
  rw [if_neg (by omega), show (i * 2 + 1) / 2 = i by omega]
theorem cellsP_one (V : Nat → Nat) (W : Nat → Int) (k : Nat) : ∀ u ∈ cellsP V W k, u.oneCell' = true := by
  intro u hu
  unfold cellsP at hu
  obtain ⟨j, _, rfl⟩ := List.mem_map.1 hu
  split <;> rfl
theorem cellsP_cat (V1 V2 : Nat → Nat) (W1 W2 : Nat → Int) (n k : Nat) : cellsP V1 W1 n ++ cellsP V2 W2 k = cellsP (cat n V1 V2) (cat n W1 W2) (n + k) := by
  have l1 := cellsP_length V1 W1 n
  have l2 := cellsP_length V2 W2 k
  have l3 := cellsP_length (cat n V1 V2) (cat n W1 W2) (n + k)
  apply List.ext_getElem?
  intro j
  by_cases hj : j < (n + k) * 2
  · obtain ⟨i, r, hr, rfl⟩ : ∃ i r, r < 2 ∧ j = i * 2 + r := ⟨j / 2, j % 2, by omega, by omega⟩
    by_cases hi : i < n
    · rw [List.getElem?_append_left (by omega)]
      rcases (by omega : r = 0 ∨ r = 1) with rfl | rfl
      · rw [Nat.add_zero, cellsP_even _ _ _ _ hi, cellsP_even _ _ _ _ (by omega), cat_lo _ _ _ _ hi]
      · rw [cellsP_odd _ _ _ _ hi, cellsP_odd _ _ _ _ (by omega), cat_lo _ _ _ _ hi]
    · obtain ⟨m, rfl⟩ : ∃ m, i = n + m := ⟨i - n, by omega⟩
      rw [List.getElem?_append_right (by omega), l1, show (n + m) * 2 + r - n * 2 = m * 2 + r by omega]
      rcases (by omega : r = 0 ∨ r = 1) with rfl | rfl
      · rw [Nat.add_zero, Nat.add_zero, cellsP_even _ _ _ _ (by omega), cellsP_even _ _ _ _ (by omega), cat_hi]
      · rw [cellsP_odd _ _ _ _ (by omega), cellsP_odd _ _ _ _ (by omega), cat_hi]
  · rw [List.getElem?_eq_none (by rw [List.length_append]; omega), List.getElem?_eq_none (by omega)]
theorem add_plain (b off k : Nat) : (⟨b, off, none⟩ : Addr).add k = ⟨b, off + k, none⟩ := by unfold Addr.add; split <;> simp_all
theorem pcs_news {w : World} {ad : Addr} {len : Nat} {V : Nat → Nat} {W : Nat → Int} (h : Pcs w (some ad) len V W) : ∀ j u, (cellsP V W len)[j]? = some u → w.cell? (ad.add j) = some u := by
  intro j u hj
  have hlt : j < len * 2 := by
    have h1 := (List.getElem?_eq_some_iff.1 hj).1
    rwa [cellsP_length] at h1
  obtain ⟨b, off, e, _, hc⟩ := h.at' (by omega)
  cases e
  obtain ⟨i, r, hr, rfl⟩ : ∃ i r, r < 2 ∧ j = i * 2 + r := ⟨j / 2, j % 2, by omega, by omega⟩
  rw [add_plain]
  rcases (by omega : r = 0 ∨ r = 1) with rfl | rfl
  · rw [Nat.add_zero, cellsP_even _ _ _ _ (by omega)] at hj
    rw [Nat.add_zero, (hc i (by omega)).1]; exact hj
  · rw [cellsP_odd _ _ _ _ (by omega)] at hj
    rw [← Nat.add_assoc, (hc i (by omega)).2]; exact hj
theorem pcs_of_own {w : World} {N n : Nat} {v : Value} {V : Nat → Nat} {W : Nat → Int} (h : w.ownsRow N 30 2 v n (cellsP V W n)) (hn : n ≤ 17592186044416) (hV : ∀ i, i < n → V i < 18446744073709551616) (hW : ∀ i, i < n → -9223372036854775808 ≤ W i ∧ W i ≤ 9223372036854775807) :
    ∃ ao cap, v = .slice ao n cap ∧ (ao = none → cap = 0) ∧ Pcs w ao n V W := by
  rcases h.2 with ⟨rfl, rfl⟩ | ⟨g, cap, cur, rfl, _, hg, _, _, _, hx⟩
  · exact ⟨none, 0, rfl, (fun _ => rfl), ⟨by omega, fun hp => by omega, hV, hW⟩⟩
  · refine ⟨some ⟨g, 0, none⟩, cap, rfl, (fun e => by cases e), ⟨hn, fun _ => ⟨g, 0, rfl, (Array.getElem?_eq_some_iff.1 hg).1, fun i hi => ?_⟩, hV, hW⟩⟩
    have c0 := h.cells (g := g) rfl (i * 2) _ (cellsP_even V W n i hi)
    have c1 := h.cells (g := g) rfl (i * 2 + 1) _ (cellsP_odd V W n i hi)
    rw [add_plain] at c0 c1
    exact ⟨c0, c1⟩
theorem below_grow2 {w wr w1 : World} {N k e s : Nat} {v : Value} {xs : List Value} (hown : wr.ownsRow N e s v k xs) (hbl : Below N w wr) (hN : N ≤ wr.heap.size) (hg : wr.grownBy w1 v.ownBlock) : Below N w w1 :=
  hbl.grown hg hN fun j hj => (hown.lt j hj).1
theorem own_empty (w : World) : (w.alloc (.cells #[] 30)).ownsRow w.heap.size 30 2 (.slice (some ⟨w.heap.size, 0, none⟩) 0 0) 0 [] :=
  ⟨rfl, .inr ⟨w.heap.size, 0, #[], rfl, Nat.le_refl _, heap_alloc_new w _, Nat.le_refl _, Nat.zero_le _, rfl, rfl⟩⟩

set_option maxHeartbeats 400000 in
theorem clone_any (ad : Addr) (len cap : Nat) (V : Nat → Nat) (W : Nat → Int) (w : World) (hP : Pcs w (some ad) len V W) (hlen : len ≤ 8796093022208) :
    Calls Try.prog 7 #[.slice (some ad) len cap] w fun e w' => (∃ v, e = .returned v ∧ w'.ownsRow w.heap.size 30 2 v len (cellsP V W len)) ∧ Below w.heap.size w w' := by
  have HP := Hid.mk' hP
  clear hP
  obtain ⟨i0, hi, hz0, hz1, hz2⟩ := info_parts infoPiece
  have KI := Hid.mk' hi
  have KZ0 := Hid.mk' hz0
  have KZ1 := Hid.mk' hz1
  have KZ2 := Hid.mk' hz2
  clear hi hz0 hz1 hz2
  go_enter Try.func7, Try.ntmps7
  have heq : ∀ w, (binOp .eql 22 (.slice (some ad) len cap) (.slice none 0 0)).run Try.prog w = .ok (.bool false) w := fun w => Go.run_eql_slice_nil w 22 30 (some ad) len cap Try.underlying22
  go_wp2_with (at_builtin; refine wpList_append_own _ rfl (.tmp 5) (.tmp 6) 22 rfl w.heap.size 30 i0 (.agg #[.int .u64 0, .int .i64 0]) 2 16 Try.underlying22 KI.out KZ0.out KZ1.out KZ2.out rfl (by decide) _ _ _ rfl (own_empty w) ad len cap (cellsP V W len) rfl (cellsP_length _ _ _) (pcs_news (pcs_below HP.out ((Below.refl _ _).alloc (Nat.le_refl _) _))) (cellsP_one _ _ _) (by unfold maxLen; omega) (by omega) (by simp) ?_; intro v' w1 hown1 hgrow1 _)
  have HB4 := Hid.mk' (below_grow2 (own_empty w) ((Below.refl _ _).alloc (Nat.le_refl _) _) (by simp) hgrow1)
  have HO4 : Hid (w1.ownsRow w.heap.size 30 2 v' len (cellsP V W len)) := by
    rw [Nat.zero_add, List.nil_append] at hown1; exact hown1
  clear hown1 hgrow1
  go_wp2_with fail
  go_ret
  exact ⟨⟨_, rfl, HO4.out⟩, HB4.out⟩

/-- room for so many pieces -/
def Room (v : Value) (tot : Nat) : Prop := (v = .slice none 0 0 ∧ tot = 0) ∨ ∃ g n cap, v = .slice (some ⟨g, 0, none⟩) n cap ∧ tot ≤ cap

set_option maxHeartbeats 400000 in
theorem grow_any (n : Nat) (w : World) (hn : n ≤ 17592186044416) :
    Calls Try.prog 16 #[.slice none 0 0, .int .i64 n] w fun e w' => (∃ v, e = .returned v ∧ w'.ownsRow w.heap.size 30 2 v 0 [] ∧ Room v n) ∧ Below w.heap.size w w' := by
  obtain ⟨i0, hi, hz0, hz1, hz2⟩ := info_parts infoPiece
  by_cases h0 : n = 0
  · subst h0
    go_enter Try.func16, Try.ntmps16
    go_wp2_with fail
    go_ret
    exact ⟨⟨_, rfl, World.ownsRow_nil _ _ _ _, .inl ⟨rfl, rfl⟩⟩, Below.refl _ _⟩
  · have hr := Hid.mk' (Lib.run_append_nil_zeros (P := Try.prog) w 22 3 22 30 i0 _ .i64 .i64 Try.underlying22 Try.underlying3 hi hz0 n (by omega) (by omega) (by omega) (by rw [hz2]; omega))
    have hge := grownCap_ge w n 0 30
    have hle : Hid (grownCap w n 0 30 ≤ maxLen) := grownCap_le_maxLen w n 0 30 (by unfold maxLen; omega)
    have ht : decide ((0 : Int) < (n : Int)) = true := decide_eq_true (by omega)
    clear hi hz0 hz1 hz2
    generalize grownCap w n 0 30 = nc at *
    go_enter Try.func16, Try.ntmps16
    go_wp2_with (at_builtin; refine Lib.wpList_append_run _ rfl _ _ _ _ rfl _ _ rfl rfl _ _ hr.out ?_)
    go_ret
    exact ⟨⟨_, rfl, World.ownsRow_made w _ nc (Nat.le_refl _) hle.out (by simp [size_zeroCells]; omega), .inr ⟨_, _, _, rfl, hge⟩⟩, ((Below.refl _ _).alloc (Nat.le_refl _) _).drew⟩
theorem pcs_nil {w : World} {len : Nat} {V : Nat → Nat} {W : Nat → Int} (h : Pcs w none len V W) : len = 0 := by
  refine Classical.byContradiction fun hn => ?_
  obtain ⟨b, off, e, _⟩ := h.at' (by omega)
  cases e
theorem run_append_pcs {w : World} {base n tot : Nat} {v : Value} {xs : List Value} (hown : w.ownsRow base 30 2 v n xs) (hr : Room v tot) (a : Option Addr) (len cap : Nat) (V : Nat → Nat) (W : Nat → Int) (hP : Pcs w a len V W) (hc : a = none → cap = 0) (hn : n + len ≤ tot) (hb : base ≤ w.heap.size) :
    ∃ v' w', (Builtin.append_ #[22, 22] 22 #[v, .slice a len cap]).run Try.prog w = .ok v' w' ∧ w'.ownsRow base 30 2 v' (n + len) (xs ++ cellsP V W len) ∧ w.grownBy w' v.ownBlock ∧ Room v' tot := by
  obtain ⟨i0, hi, hz0, hz1, hz2⟩ := info_parts infoPiece
  cases a with
  | none =>
    obtain rfl := pcs_nil hP
    obtain rfl := hc rfl
    refine ⟨v, w, run_append_owned_none (P := Try.prog) (w := w) base _ _ 30 i0 2 Try.underlying22 hi v n xs hown, ?_, ⟨rfl, rfl, rfl, Nat.le_refl _, fun _ _ _ => rfl⟩, hr⟩
    simpa [cellsP] using hown
  | some ad =>
    rcases hr with ⟨rfl, rfl⟩ | ⟨g, n', cp, rfl, hcp⟩
    · obtain ⟨v', w', h1, h2, h3, h4⟩ := run_append_own (P := Try.prog) w base 22 22 30 i0 _ 2 16 Try.underlying22 hi hz0 hz1 hz2 rfl (by decide) _ n xs hown ad len cap (cellsP V W len) (cellsP_length _ _ _) (pcs_news hP) (cellsP_one _ _ _) (by unfold maxLen; omega) (by omega) hb
      exact ⟨v', w', h1, h2, h3, .inl ⟨h4.2 ⟨rfl, by omega⟩, rfl⟩⟩
    · have hnn : n' = n := by
        rcases hown.2 with ⟨h0, _⟩ | ⟨_, _, _, hv, _⟩
        · cases h0
        · cases hv; rfl
      subst hnn
      obtain ⟨w', h1, h2, h3⟩ := run_append_own_spare (P := Try.prog) w base 22 22 30 i0 2 Try.underlying22 hi hz1 g n' cp xs hown ad len cap (cellsP V W len) (cellsP_length _ _ _) (pcs_news hP) (cellsP_one _ _ _) (by omega)
      exact ⟨_, w', h1, h2, h3, .inr ⟨_, _, _, rfl, hcp⟩⟩

set_option maxHeartbeats 800000 in
theorem concat_any (g : Nat) (a0 a1 : Option Addr) (l0 c0 l1 c1 : Nat) (V0 V1 : Nat → Nat) (W0 W1 : Nat → Int) (w : World)
    (h0 : w.cell? ⟨g, 0, none⟩ = some (.slice a0 l0 c0)) (h1 : w.cell? ⟨g, 1, none⟩ = some (.slice a1 l1 c1)) (hg : g < w.heap.size) (P0 : Pcs w a0 l0 V0 W0) (P1 : Pcs w a1 l1 V1 W1)
    (n0 : a0 = none → c0 = 0) (n1 : a1 = none → c1 = 0) (hl0 : l0 + l1 ≤ 17592186044416) :
    Calls Try.prog 9 #[.slice (some ⟨g, 0, none⟩) 2 2] w fun e w' =>
      (∃ v, e = .returned v ∧ w'.ownsRow w.heap.size 30 2 v (l0 + l1) (cellsP (cat l0 V0 V1) (cat l0 W0 W1) (l0 + l1))) ∧ Below w.heap.size w w' := by
  have K0 := Hid.mk' P0
  have K1 := Hid.mk' P1
  have N0 := Hid.mk' n0
  have N1 := Hid.mk' n1
  have C0 := Hid.mk' h0
  have C1 := Hid.mk' h1
  clear P0 P1 n0 n1 h0 h1
  go_enter Try.func9, Try.ntmps9
  go_wp2_with fail
  go_loop [3, 11] (fun z i => ∃ k : Nat, (k = 0 ∧ z = .int .i64 0 ∨ k = 1 ∧ z = .int .i64 l0 ∨ k = 2 ∧ z = .int .i64 ((l0 + l1 : Nat) : Int)) ∧ i = .int .i64 k) (fun _ i => 2 - (intOf i).toNat)
  case atStart => exact ⟨0, .inl ⟨rfl, rfl⟩, rfl⟩
  case round =>
    obtain ⟨k, hk, rfl⟩ := hrel
    rcases hk with ⟨rfl, rfl⟩ | ⟨rfl, rfl⟩ | ⟨rfl, rfl⟩
    · have c := C0.out
      have t : decide ((l0 : Int) < 0) = false := decide_eq_false (by omega)
      go_wp2_with fail
      go_round
      case rel => exact ⟨1, .inr (.inl ⟨rfl, by go_num⟩), by go_num⟩
      case measure => simp [intOf]
    · have c := C1.out
      have t : decide ((l0 : Int) + (l1 : Int) < 0) = false := decide_eq_false (by omega)
      go_wp2_with fail
      go_round
      case rel => exact ⟨2, .inr (.inr ⟨rfl, by go_num⟩), by go_num⟩
      case measure => simp [intOf]
    · obtain ⟨n, en⟩ : ∃ n, Hid (l0 + l1 = n) := ⟨_, Hid.mk' rfl⟩
      have hnb : n ≤ 17592186044416 := by rw [← en.out]; omega
      rw [en.out]
      go_wp2_with fail
      refine (grow_any n _ hnb).mono ?_
      rintro e w1 ⟨⟨v, rfl, hown, hroom⟩, hb1⟩
      have HRm := Hid.mk' hroom
      have HB1 := Hid.mk' hb1
      have HO1 := Hid.mk' hown
      have hs1 := hb1.size
      clear hb1 hown hroom
      go_wp2_with fail
      go_loopw [6, 27] (fun u i wr => ∃ k : Nat, i = .int .i64 k ∧ Below w.heap.size w wr ∧ Room u n ∧ (k = 0 ∧ wr.ownsRow w.heap.size 30 2 u 0 [] ∨ k = 1 ∧ wr.ownsRow w.heap.size 30 2 u l0 (cellsP V0 W0 l0) ∨ k = 2 ∧ wr.ownsRow w.heap.size 30 2 u (l0 + l1) (cellsP V0 W0 l0 ++ cellsP V1 W1 l1))) (fun _ i _ => 2 - (intOf i).toNat)
      case atStart => exact ⟨0, rfl, HB1.out, HRm.out, .inl ⟨rfl, HO1.out⟩⟩
      case round =>
        obtain ⟨k, rfl, hbl, hrm, hk⟩ := hrel
        have HB2 := Hid.mk' hbl
        have hs2 := hbl.size
        clear hbl
        rcases hk with ⟨rfl, hown⟩ | ⟨rfl, hown⟩ | ⟨rfl, hown⟩
        · obtain ⟨v', w2, hr, ho, hgr, hrm'⟩ := run_append_pcs hown hrm a0 l0 c0 V0 W0 (pcs_below K0.out HB2.out) N0.out (by have := en.out; omega) hs2
          have HRm' := Hid.mk' hrm'
          have HR := Hid.mk' hr
          have HO2 : Hid (w2.ownsRow w.heap.size 30 2 v' l0 (cellsP V0 W0 l0)) := by rw [Nat.zero_add, List.nil_append] at ho; exact ho
          have HB3 := Hid.mk' (below_grow2 hown HB2.out hs2 hgr)
          have c := (HB2.out.cell (p := ⟨g, 0, none⟩) hg).trans C0.out
          clear hr ho hgr hown hrm hrm'
          go_wp2_with (at_builtin; refine Lib.wpList_append_run _ rfl _ _ _ _ rfl _ _ rfl rfl _ _ HR.out ?_)
          go_roundw
          case rel => exact ⟨1, by go_num, HB3.out, HRm'.out, .inr (.inl ⟨rfl, HO2.out⟩)⟩
          case measure => simp [intOf]
        · obtain ⟨v', w2, hr, ho, hgr, hrm'⟩ := run_append_pcs hown hrm a1 l1 c1 V1 W1 (pcs_below K1.out HB2.out) N1.out (by have := en.out; omega) hs2
          have HRm' := Hid.mk' hrm'
          have HR := Hid.mk' hr
          have HO2 := Hid.mk' ho
          have HB3 := Hid.mk' (below_grow2 hown HB2.out hs2 hgr)
          have c := (HB2.out.cell (p := ⟨g, 1, none⟩) hg).trans C1.out
          clear hr ho hgr hown hrm hrm'
          go_wp2_with (at_builtin; refine Lib.wpList_append_run _ rfl _ _ _ _ rfl _ _ rfl rfl _ _ HR.out ?_)
          go_roundw
          case rel => exact ⟨2, by go_num, HB3.out, HRm'.out, .inr (.inr ⟨rfl, HO2.out⟩)⟩
          case measure => simp [intOf]
        · have HO2 := Hid.mk' hown
          clear hown hrm
          go_wp2_with fail
          go_ret
          exact ⟨⟨_, rfl, by rw [← cellsP_cat]; exact HO2.out⟩, HB2.out⟩
end Go.Proofs.Ytjfkbkhfnnmbnab
