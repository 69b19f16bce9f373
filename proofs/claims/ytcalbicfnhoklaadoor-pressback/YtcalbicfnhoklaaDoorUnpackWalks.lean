import Derived.Test.YtcalbicfnhoklaaDoorMsac
import Derived.Deep.OwnRows
import Derived.Laws.Rows

/- What bits.Unpack answers. -/
namespace Go.Proofs.YtcalbicfnhoklaaDoor
open Go.RowKit

/-- numbers of 64 bits that are answered as a slice -/
structure U64s (w : World) (v : Value) (n : Nat) (f : Nat → Nat) : Prop where
  is : ∃ ao cap, v = .slice ao n cap ∧ (0 < n → ∃ g off, ao = some ⟨g, off, none⟩ ∧ g < w.heap.size ∧ ∀ i, i < n → w.cell? ⟨g, off + i, none⟩ = some (.int .u64 (f i : Int)))
theorem u64s_nil (w : World) (f : Nat → Nat) : U64s w (.slice none 0 0) 0 f := ⟨none, 0, rfl, fun h => by omega⟩
theorem u64s_below {w w' : World} {v : Value} {n : Nat} {f : Nat → Nat} (h : U64s w v n f) (hb : Below w.heap.size w w') : U64s w' v n f := by
  obtain ⟨ao, cap, hv, hc⟩ := h.is
  refine ⟨ao, cap, hv, fun hp => ?_⟩
  obtain ⟨g, off, h1, h2, h3⟩ := hc hp
  exact ⟨g, off, h1, Nat.lt_of_lt_of_le h2 hb.size, fun i hi => (hb.cell (p := ⟨g, off + i, none⟩) h2).trans (h3 i hi)⟩

/-- the error that Unpack tells -/
def unpE (s : ByteArray) (len : Nat) (W : Nat → Int) : Int := if (List.range len).all (fun i => widB (W i)) = true then (if 8 * s.size < widSum W len then 3 else 0) else 1
def unpL (s : ByteArray) (len : Nat) (W : Nat → Int) : Nat := if unpE s len W = 0 then len else 0
/-- the numbers that it tells -/
def unpF (s : ByteArray) (W : Nat → Int) (i : Nat) : Nat := getN (txtN s.data.toList) (widSum W i) (W i).toNat
theorem unp_bad (s : ByteArray) (len : Nat) (W : Nat → Int) (k : Nat) (hk : k < len) (h : widB (W k) = false) : unpE s len W = 1 ∧ unpL s len W = 0 := by
  have h1 : unpE s len W = 1 := by
    unfold unpE
    rw [if_neg]
    intro ha
    have := List.all_eq_true.1 ha k (by simpa using hk)
    rw [h] at this; cases this
  exact ⟨h1, by unfold unpL; rw [h1]; rfl⟩
theorem unp_good (len : Nat) (W : Nat → Int) (h : ∀ i, i < len → widB (W i) = true) : (List.range len).all (fun i => widB (W i)) = true :=
  List.all_eq_true.2 fun i hi => h i (by simpa using hi)
theorem unp_short (s : ByteArray) (len : Nat) (W : Nat → Int) (h : ∀ i, i < len → widB (W i) = true) (hT : 8 * s.size < widSum W len) : unpE s len W = 3 ∧ unpL s len W = 0 := by
  have h1 : unpE s len W = 3 := by unfold unpE; rw [unp_good len W h, if_pos rfl, if_pos hT]
  exact ⟨h1, by unfold unpL; rw [h1]; rfl⟩
theorem unp_ok (s : ByteArray) (len : Nat) (W : Nat → Int) (h : ∀ i, i < len → widB (W i) = true) (hT : widSum W len ≤ 8 * s.size) : unpE s len W = 0 ∧ unpL s len W = len := by
  have h1 : unpE s len W = 0 := by unfold unpE; rw [unp_good len W h, if_pos rfl, if_neg (by omega)]
  exact ⟨h1, by unfold unpL; rw [h1]; rfl⟩
theorem wid_of {wd : Int} (h : widB wd = true) : 0 ≤ wd ∧ wd ≤ 64 := of_decide_eq_true h
theorem widSum_le' (W : Nat → Int) (k : Nat) (h : ∀ i, i < k → widB (W i) = true) : widSum W k ≤ 64 * k := by
  induction k with
  | zero => simp [widSum]
  | succ k ih =>
    have h1 := ih fun i hi => h i (by omega)
    have h2 := wid_of (h k (by omega))
    simp only [widSum]; omega

/-- what lies in memory while the numbers are read -/
structure Rd (N : Nat) (w : World) (s : ByteArray) (len a : Nat) (f : Nat → Nat) (j : Nat) : Prop where
  cs : w.cell? ⟨N, 0, none⟩ = some (.string s)
  ca : w.cell? ⟨N + 1, 0, none⟩ = some (.int .i64 (a : Int))
  fa : w.frozen? ⟨N + 1, 0, none⟩ = false
  out : ∀ i, i < len → ∃ v, w.cell? ⟨N + 2, i, none⟩ = some v
  fo : ∀ i, i < len → w.frozen? ⟨N + 2, i, none⟩ = false
  done : ∀ i, i < j → w.cell? ⟨N + 2, i, none⟩ = some (.int .u64 (f i : Int))
  sz : N + 2 < w.heap.size
theorem Rd.next {N : Nat} {w : World} {s : ByteArray} {len a : Nat} {f : Nat → Nat} {j : Nat} (h : Rd N w s len a f j) (hj : j < len) (a' : Nat) :
    Rd N ((w.setCell ⟨N + 1, 0, none⟩ (.int .i64 (a' : Int))).setCell ⟨N + 2, j, none⟩ (.int .u64 (f j : Int))) s len a' f (j + 1) := by
  have o1 : ∀ (b : Nat) (i : Nat) (x y : Value), b ≠ N + 1 → b ≠ N + 2 → ((w.setCell ⟨N + 1, 0, none⟩ x).setCell ⟨N + 2, j, none⟩ y).cell? ⟨b, i, none⟩ = w.cell? ⟨b, i, none⟩ := by
    intro b i x y h1 h2
    rw [World.cell?_setCell_other _ _ _ _ (by intro e; cases e; exact h2 rfl), World.cell?_setCell_other _ _ _ _ (by intro e; cases e; exact h1 rfl)]
  have o2 : ∀ (x y : Value), ((w.setCell ⟨N + 1, 0, none⟩ x).setCell ⟨N + 2, j, none⟩ y).cell? ⟨N + 1, 0, none⟩ = some x := by
    intro x y
    rw [World.cell?_setCell_other _ _ _ _ (by intro e; cases e)]
    exact World.cell?_setCell_same _ _ _ h.ca
  have o3 : ∀ (i : Nat) (x y : Value), i ≠ j → ((w.setCell ⟨N + 1, 0, none⟩ x).setCell ⟨N + 2, j, none⟩ y).cell? ⟨N + 2, i, none⟩ = w.cell? ⟨N + 2, i, none⟩ := by
    intro i x y hne
    rw [World.cell?_setCell_other _ _ _ _ (by intro e; cases e; exact hne rfl), World.cell?_setCell_other _ _ _ _ (by intro e; cases e)]
  have o4 : ∀ (x y : Value), ((w.setCell ⟨N + 1, 0, none⟩ x).setCell ⟨N + 2, j, none⟩ y).cell? ⟨N + 2, j, none⟩ = some y := by
    intro x y
    obtain ⟨v, hv⟩ := h.out j hj
    exact World.cell?_setCell_same _ _ _ ((World.cell?_setCell_other _ _ _ _ (by intro e; cases e)).trans hv)
  refine ⟨(o1 N 0 _ _ (by omega) (by omega)).trans h.cs, o2 _ _, by simp [h.fa], fun i hi => ?_, fun i hi => by simp [h.fo i hi], fun i hi => ?_, by simpa [World.setCell] using h.sz⟩
  · by_cases e : i = j
    · subst e; exact ⟨_, o4 _ _⟩
    · rw [o3 i _ _ e]; exact h.out i hi
  · by_cases e : i = j
    · subst e; exact o4 _ _
    · rw [o3 i _ _ e]; exact h.done i (by omega)

theorem infoU64 : (Tryd.prog.info? 29).map (fun i => (i.zero, i.size, i.bytes)) = some (some (.int .u64 0), 1, 8) := by kernel_rfl
theorem rd_start (w : World) (s : ByteArray) (len : Nat) (f : Nat → Nat) (t0 t1 t2 : TypeId) :
    Rd w.heap.size (((w.alloc (.cells #[.string s] t0)).alloc (.cells #[.int .i64 0] t1)).alloc (.cells (madeCells #[.int .u64 0] len) t2)) s len 0 f 0 := by
  have e1 : (w.alloc (.cells #[.string s] t0)).heap.size = w.heap.size + 1 := by simp
  have e2 : ((w.alloc (.cells #[.string s] t0)).alloc (.cells #[.int .i64 0] t1)).heap.size = w.heap.size + 2 := by simp
  have hh : ∀ C, (((w.alloc (.cells #[.string s] t0)).alloc (.cells #[.int .i64 0] t1)).alloc (.cells C t2)).heap[w.heap.size + 2]? = some (.cells C t2 (0, 0)) := by
    intro C
    have h := heap_alloc_new ((w.alloc (.cells #[.string s] t0)).alloc (.cells #[.int .i64 0] t1)) (.cells C t2)
    rw [e2] at h
    exact h
  have h1 : (((w.alloc (.cells #[.string s] t0)).alloc (.cells #[.int .i64 0] t1)).alloc (.cells (madeCells #[.int .u64 0] len) t2)).heap[w.heap.size + 1]? = some (.cells #[.int .i64 0] t1 (0, 0)) := by
    rw [Below.heap_alloc _ _ _ (by omega)]
    have h := heap_alloc_new (w.alloc (.cells #[.string s] t0)) (.cells #[.int .i64 0] t1)
    rw [e1] at h
    exact h
  have h0 : (((w.alloc (.cells #[.string s] t0)).alloc (.cells #[.int .i64 0] t1)).alloc (.cells (madeCells #[.int .u64 0] len) t2)).heap[w.heap.size]? = some (.cells #[.string s] t0 (0, 0)) := by
    rw [Below.heap_alloc _ _ _ (by omega), Below.heap_alloc _ _ _ (by omega)]
    exact heap_alloc_new w _
  refine ⟨?_, ?_, ?_, fun i hi => ?_, fun i hi => ?_, fun i hi => by omega, by simp⟩
  · rw [cell_of_row _ _ _ _ _ _ h0]; rfl
  · rw [cell_of_row _ _ _ _ _ _ h1]; rfl
  · exact frozen_of_row _ _ _ _ _ h1
  · rw [cell_of_row _ _ _ _ _ _ (hh _)]
    exact ⟨.int .u64 0, by simp [madeCells, hi, Nat.mod_one]⟩
  · exact frozen_of_row _ _ _ _ _ (hh _)

set_option maxHeartbeats 1000000 in
theorem unpack_any (s : ByteArray) (a0 : Option Addr) (len cap : Nat) (W : Nat → Int) (w : World) (hs : s.size ≤ 140737488363520) (hP : Wds w a0 len W) :
    Calls Tryd.prog 81 #[.string s, .slice a0 len cap] w fun e w' => (∃ v, e = .returned (.tuple #[v, .int .i64 (unpE s len W)]) ∧ U64s w' v (unpL s len W) (unpF s W)) ∧ Below w.heap.size w w' := by
  have hlen := hP.lenB
  have HP := Hid.mk' hP
  clear hP
  go_enter Tryd.func81, Tryd.ntmps81
  go_wp2_with fail
  go_loop [6, 15] (fun t i => ∃ k : Nat, k ≤ len ∧ i = .int .i64 k ∧ t = .int .i64 (widSum W k : Nat) ∧ (∀ i, i < k → widB (W i) = true)) (fun _ i => len - (intOf i).toNat)
  case atStart => exact ⟨0, Nat.zero_le _, rfl, rfl, fun i hi => by omega⟩
  case round =>
    obtain ⟨k, hk, rfl, rfl, hok⟩ := hrel
    have hws := widSum_le' W k hok
    have HO := Hid.mk' hok
    clear hok
    by_cases hlt : k < len
    · obtain ⟨b, off, rfl, hb, hc⟩ := HP.out.at' (by omega)
      have c0 := hc k hlt
      clear hc
      cases hw : widB (W k) with
      | true =>
        have hw2 := wid_of hw
        have hn : (widSum W k : Int) + W k = (widSum W (k + 1) : Nat) := by simp only [widSum]; omega
        have HO1 : Hid (∀ i, i < k + 1 → widB (W i) = true) := fun i hi => by
          rcases Nat.lt_succ_iff_lt_or_eq.1 hi with h1 | rfl
          · exact HO.out i h1
          · exact hw
        have hw0 := hw2.1
        have hw1 := hw2.2
        have HW := Hid.mk' hw
        clear hw2 hw
        go_wp2_with fail
        refine (isWidth_any _ _).mono ?_
        rintro e w1 ⟨rfl, rfl⟩
        rw [HW.out]
        go_wp2_with fail
        go_round
        case rel => exact ⟨k + 1, by omega, by go_num, rfl, HO1.out⟩
        case measure => simp [intOf]; omega
      | false =>
        have hpb := Hid.mk' (unp_bad s len W k hlt hw)
        have HW := Hid.mk' hw
        clear hw
        go_wp2_with fail
        refine (isWidth_any _ _).mono ?_
        rintro e w1 ⟨rfl, rfl⟩
        rw [HW.out]
        go_wp2_with fail
        go_ret2
        refine ⟨⟨.slice none 0 0, ?_, ?_⟩, Below.refl _ _⟩
        · rw [hpb.out.1]; rfl
        · rw [hpb.out.2]; exact u64s_nil _ _
    · have hkl : k = len := by omega
      subst hkl
      by_cases hT : 8 * s.size < widSum W k
      · have hps := Hid.mk' (unp_short s k W HO.out hT)
        have hTd : decide ((8 : Int) * s.size < (widSum W k : Int)) = true := decide_eq_true (by omega)
        go_wp2_with fail
        go_ret2
        refine ⟨⟨.slice none 0 0, ?_, ?_⟩, Below.refl _ _⟩
        · rw [hps.out.1]; rfl
        · rw [hps.out.2]; exact u64s_nil _ _
      · have hpo := Hid.mk' (unp_ok s k W HO.out (by omega))
        have hTd : decide ((8 : Int) * s.size < (widSum W k : Int)) = false := decide_eq_false (by omega)
        have hmk := fun w => run_make_row' (P := Tryd.prog) 141 29 (.int .u64 0) 8 Tryd.underlying141 infoU64 rfl .i64 .i64 k (by omega) (by omega) w
        go_wp2_with (go_in)
        clear hmk
        go_loopw [38] (fun i wr => ∃ j : Nat, j ≤ k ∧ i = .int .i64 j ∧ Below w.heap.size w wr ∧ Rd w.heap.size wr s k (widSum W j) (unpF s W) j) (fun i _ => k - (intOf i).toNat)
        case atStart => exact ⟨0, Nat.zero_le _, rfl, (((Below.refl _ _).alloc (Nat.le_refl _) _).alloc (by simp) _).alloc (by simp; omega) _, rd_start _ _ _ _ _ _ _⟩
        case round =>
          obtain ⟨j, hj, rfl, hbl, hr⟩ := hrel
          have HB2 := Hid.mk' hbl
          have HR := Hid.mk' hr
          clear hbl hr
          by_cases hlt2 : j < k
          · obtain ⟨b, off, rfl, hb, hc⟩ := HP.out.at' (by omega)
            have c0 := (HB2.out.cell (p := ⟨b, off + j, none⟩) hb).trans (hc j hlt2)
            have hw2 := wid_of (HO.out j hlt2)
            obtain ⟨wd, hwd⟩ := Int.eq_ofNat_of_zero_le hw2.1
            rw [hwd] at c0
            have hwdl : wd ≤ 64 := by omega
            have hm := widSum_mono W (j + 1) (k - (j + 1))
            rw [show j + 1 + (k - (j + 1)) = k by omega] at hm
            have hsum : Hid (widSum W (j + 1) = widSum W j + wd) := by show _ = _; simp only [widSum]; rw [hwd]; simp
            have hF : Hid (unpF s W j = getN (txtN s.data.toList) (widSum W j) wd) := by show _ = _; unfold unpF; rw [hwd]; simp
            have hat : Hid (widSum W j + wd ≤ 8 * s.size) := by rw [← hsum.out]; show _ ≤ _; omega
            clear hc hwd hm hw2
            go_wp2_with fail
            refine (next_any s (w.heap.size + 1) w.heap.size (widSum W j) wd _ hwdl hat.out hs HR.out.ca HR.out.cs HR.out.fa).mono ?_
            rintro e w2 ⟨rfl, rfl⟩
            rw [← hF.out, ← hsum.out]
            obtain ⟨v0, hv0⟩ := HR.out.out j hlt2
            have c2 : (wr.setCell ⟨w.heap.size + 1, 0, none⟩ (.int .i64 ((widSum W (j + 1) : Nat) : Int))).cell? ⟨w.heap.size + 2, j, none⟩ = some v0 :=
              (World.cell?_setCell_other _ _ _ _ (by intro e; have := congrArg Addr.block e; simp at this)).trans hv0
            have f2 : (wr.setCell ⟨w.heap.size + 1, 0, none⟩ (.int .i64 ((widSum W (j + 1) : Nat) : Int))).frozen? ⟨w.heap.size + 2, j, none⟩ = false := by
              rw [World.frozen?_setCell]; exact HR.out.fo j hlt2
            have HR2 := Hid.mk' (HR.out.next hlt2 (widSum W (j + 1)))
            clear hv0
            go_wp2_with fail
            go_roundw
            case rel => exact ⟨j + 1, by omega, by go_num, (HB2.out.setCell (by simp) _).setCell (by simp; omega) _, HR2.out⟩
            case measure => simp [intOf]; omega
          · have hjk : j = k := by omega
            go_wp2_with fail
            go_ret2
            refine ⟨⟨.slice (some ⟨w.heap.size + 1 + 1, 0, none⟩) k k, ?_, ?_⟩, HB2.out⟩
            · rw [hpo.out.1]; rfl
            · rw [hpo.out.2]
              exact ⟨_, _, rfl, fun hp => ⟨w.heap.size + 1 + 1, 0, rfl, HR.out.sz, fun i hi => by rw [Nat.zero_add]; exact HR.out.done i (by omega)⟩⟩
end Go.Proofs.YtcalbicfnhoklaaDoor
