/- Texts of ours, one behind the other: FillWalks CanonWalks BookWalks PBookWalks Box3 PMarkWalks RowMs CheckWalks BytesKit AddWalks ExpandWalks PMarksWalks CloneText POpenWalks ROpenWalks PressOpensLaw -/
import Derived.Test.YtganplceeapjcaaMob
import Derived.Deep.RegionHeld3
import Derived.Deep.OwnRows
import Derived.Laws.Rows
import Derived.OwnWalk
import Derived.WalkMore
import Derived.Laws.IdiomStrings
import Derived.Laws.BytesArg
import Derived.Lib.BufferWrite
import Derived.Lib.UnsafeStr
import Derived.Lib.Strings
import Derived.Laws.MakeOwn

/- What lens.Fill answers. -/
namespace Go.Proofs.Ytganplceeapjcaa
open Go.RowKit

theorem ret2i {a b a' b' : Int} (h1 : a = a') (h2 : b = b') : Ending.returned (.tuple #[.int .i64 a, .int .i64 b]) = .returned (.tuple #[.int .i64 a', .int .i64 b']) := by rw [h1, h2]

set_option maxRecDepth 20000 in
set_option maxHeartbeats 800000 in
theorem fill_any (a0 : Option Addr) (len cap : Nat) (W : Nat → Int) (w : World) (hP : Wds w a0 len W) :
    Calls Try.prog 40 #[.slice a0 len cap] w fun e w' => e = .returned (.tuple #[.int .i64 (fillA W len : Nat), .int .i64 (fillE W len)]) ∧ w' = w := by
  have hlen := hP.lenB
  have HP := Hid.mk' hP
  clear hP
  by_cases hL : 320 < len
  · have hf := Hid.mk' (fill_large W len hL)
    go_enter Try.func40, Try.ntmps40
    go_wp2_with fail
    go_ret2
    refine ⟨?_, rfl⟩
    rw [hf.out.1, hf.out.2]
    rfl
  · go_enter Try.func40, Try.ntmps40
    go_wp2_with fail
    go_loop [4, 12] (fun t i => ∃ k : Nat, k ≤ len ∧ i = .int .i64 k ∧ t = .int .i64 (fillN W k : Nat) ∧ (∀ i, i < k → lenB (W i) = true)) (fun _ i => len - (intOf i).toNat)
    case atStart => exact ⟨0, Nat.zero_le _, rfl, rfl, fun i hi => by omega⟩
    case round =>
      obtain ⟨k, hk, rfl, rfl, hok⟩ := hrel
      have hws := sumP_le W (fun _ _ => true) k
      rw [← fillN] at hws
      have HO := Hid.mk' hok
      clear hok
      by_cases hlt : k < len
      · obtain ⟨b, off, rfl, hb, hc⟩ := HP.out.at' (by omega)
        have c0 := hc k hlt
        clear hc
        have hS := Hid.mk' (fillN_succ W k)
        cases hw : lenB (W k) with
        | true =>
          have hw2 := len_of hw
          have HO1 : Hid (∀ i, i < k + 1 → lenB (W i) = true) := fun i hi => by
            rcases Nat.lt_succ_iff_lt_or_eq.1 hi with h1 | rfl
            · exact HO.out i h1
            · exact hw
          have hw0 := hw2.1
          have hw1 := hw2.2
          clear hw2 hw
          by_cases h0 : W k = 0
          · rw [h0] at c0
            have ht : Hid (tk (W k) = 0) := by rw [h0]; exact tk_zero
            clear h0
            go_wp2_with fail
            go_round
            case rel => exact ⟨k + 1, by omega, by go_num, by rw [hS.out, ht.out]; rfl, HO1.out⟩
            case measure => simp [intOf]; omega
          · have hr := room_shr (W k) (by omega) hw1
            have htk := tk_le (W k)
            have h0' : (W k != 0) = true := by rw [bne_iff_ne]; exact h0
            generalize W k = x at *
            generalize tk x = y at *
            go_wp2_with fail
            go_round
            case rel => exact ⟨k + 1, by omega, by go_num, by rw [hS.out]; go_num, HO1.out⟩
            case measure => simp [intOf]; omega
        | false =>
          have hpb := Hid.mk' (fill_bad W len hL (all_not k hlt hw))
          have hnw := len_not hw
          clear hw
          by_cases hneg : W k < 0
          all_goals
            go_wp2_with fail
            go_ret2
            refine ⟨?_, rfl⟩
            rw [hpb.out.1, hpb.out.2]
            rfl
      · have hkl : k = len := by omega
        have hf := Hid.mk' (fill_ok W len hL (all_mk (fun i hi => HO.out i (by omega))))
        go_wp2_with fail
        go_ret2
        refine ⟨?_, rfl⟩
        rw [hf.out.1, hf.out.2]
        rfl
end Go.Proofs.Ytganplceeapjcaa

/- What lens.Canon answers. -/
namespace Go.Proofs.Ytganplceeapjcaa
open Go.RowKit

set_option maxRecDepth 20000 in
set_option maxHeartbeats 1000000 in
theorem canon_any (a0 : Option Addr) (len cap : Nat) (W : Nat → Int) (w : World) (hP : Wds w a0 len W) :
    Calls Try.prog 39 #[.slice a0 len cap] w fun e w' => (∃ v, e = .returned (.tuple #[v, .int .i64 (canE W len)]) ∧ I64s w' v (canL W len) (fun i => (codeN W len i : Int))) ∧ Below w.heap.size w w' := by
  have hlen := hP.lenB
  have HP := Hid.mk' hP
  clear hP
  by_cases hE : fillE W len = 0
  · obtain ⟨hL, hB, hA⟩ := fillE_zero W len hE
    have HG := Hid.mk' (fun i hi => all_of hB i hi)
    clear hB
    by_cases hF : 32768 < fillN W len
    · have hco := Hid.mk' (can_over W len hE hF)
      have HE := Hid.mk' hE
      have HA := Hid.mk' hA
      have hfb := sumP_le W (fun _ _ => true) len
      rw [← fillN] at hfb
      clear hE hA
      go_enter Try.func39, Try.ntmps39
      go_wp2_with fail
      refine (fill_any a0 len cap W _ HP.out).mono ?_
      rintro e w' ⟨rfl, rfl⟩
      rw [HE.out, HA.out]
      generalize fillN W len = x at *
      go_wp2_with fail
      go_ret2
      refine ⟨⟨.slice none 0 0, ?_, ?_⟩, Below.refl _ _⟩
      · rw [hco.out.1]; rfl
      · rw [hco.out.2]; exact i64s_nil _ _
    · have hco := Hid.mk' (can_ok W len hE (by omega))
      have HE := Hid.mk' hE
      have HA := Hid.mk' hA
      have HF := Hid.mk' (show fillN W len ≤ 32768 by omega)
      clear hE hA
      have hmk := fun w => run_make_row' (P := Try.prog) 43 3 (.int .i64 0) 8 Try.underlying43 infoI64 rfl .i64 .i64 len (by omega) (by omega) w
      go_enter Try.func39, Try.ntmps39
      go_wp2_with fail
      refine (fill_any a0 len cap W _ HP.out).mono ?_
      rintro e w' ⟨rfl, rfl⟩
      rw [HE.out, HA.out]
      generalize fillN W len = x at hF ⊢
      go_wp2_with fail
      clear hmk
      go_loopw [7, 8] (fun n i wr => ∃ t : Nat, t ≤ 15 ∧ i = .int .i64 ((t + 1 : Nat) : Int) ∧ n = .int .i64 (nx W len t : Nat) ∧ Row64 wr w'.heap.size len (fun i => (stN W len (t + 1) 0 i : Int)) ∧ Below w'.heap.size w' wr) (fun _ i _ => 16 - (intOf i).toNat)
      case atStart => exact ⟨0, by omega, rfl, rfl, (row64_made _ _ _).congr fun i hi => by rw [st_start W len i (HG.out i hi)]; rfl, (Below.refl _ _).alloc (Nat.le_refl _) _⟩
      case round =>
        obtain ⟨t, ht, rfl, rfl, hrow, hbl⟩ := hrel
        have HR := Hid.mk' hrow
        have HB := Hid.mk' hbl
        have hnx := nx_le W len t (by omega) HF.out
        clear hrow hbl
        by_cases ht15 : t < 15
        · have hnn : Hid (nx W len (t + 1) = 2 * nx W len t + cnt W (t + 1) len) := rfl
          have hset := Hid.mk' (fun k i => st_set W len t k i)
          generalize nx W len t = q at *
          go_wp2_with fail
          go_loopw [7, 32] (fun n i wr => ∃ k : Nat, k ≤ len ∧ i = .int .i64 k ∧ n = .int .i64 ((2 * q + cnt W (t + 1) k : Nat) : Int) ∧ Row64 wr w'.heap.size len (fun i => (stN W len (t + 1) k i : Int)) ∧ Below w'.heap.size w' wr) (fun _ i _ => len - (intOf i).toNat)
          case atStart => exact ⟨0, Nat.zero_le _, rfl, by exact int_eq (by rw [cnt]; omega), HR.out, HB.out⟩
          case round =>
            obtain ⟨k, hk, rfl, rfl, hrow, hbl⟩ := hrel
            have HR2 := Hid.mk' hrow
            have HB2 := Hid.mk' hbl
            have hcn := cnt_le W (t + 1) k
            clear hrow hbl
            by_cases hlt : k < len
            · obtain ⟨b, off, rfl, hb, hc⟩ := HP.out.at' (by omega)
              have c0 := (HB2.out.cell (p := ⟨b, off + k, none⟩) hb).trans (hc k hlt)
              clear hc
              by_cases hw : W k = ((t + 1 : Nat) : Int)
              · rw [hw] at c0
                have hc1 := Hid.mk' (cnt_yes W (t + 1) k hw)
                have hcc := HR2.out.cell k hlt
                have hff := HR2.out.open' k hlt
                have HS : Hid (Row64 (wr.setCell ⟨w'.heap.size, k, none⟩ (.int .i64 (2 * (q : Int) + (cnt W (t + 1) k : Int)))) w'.heap.size len (fun i => (stN W len (t + 1) (k + 1) i : Int))) :=
                  (HR2.out.set k hlt _).congr fun i hi => by
                    rw [hset.out k i hw]
                    by_cases e : i = k
                    · rw [if_pos e, if_pos e]; omega
                    · rw [if_neg e, if_neg e]
                clear hw
                generalize cnt W (t + 1) k = c at *
                go_wp2_with fail
                go_roundw
                case rel => exact ⟨k + 1, by omega, by go_num, by rw [hc1.out]; exact int_eq (by omega), HS.out, HB2.out.setCell (Nat.le_refl _) _⟩
                case measure => simp [intOf]; omega
              · have hw' : (W k == ((t + 1 : Nat) : Int)) = false := by rw [beq_eq_false_iff_ne]; exact hw
                have hc1 := Hid.mk' (cnt_no W (t + 1) k hw)
                have HS : Hid (Row64 wr w'.heap.size len (fun i => (stN W len (t + 1) (k + 1) i : Int))) :=
                  HR2.out.congr fun i hi => by rw [st_skip W len (t + 1) k i hw]
                clear hw
                generalize cnt W (t + 1) k = c at *
                go_wp2_with fail
                go_roundw
                case rel => exact ⟨k + 1, by omega, by go_num, by rw [hc1.out], HS.out, HB2.out⟩
                case measure => simp [intOf]; omega
            · have hkl := Hid.mk' (show k = len by omega)
              have HS : Hid (Row64 wr w'.heap.size len (fun i => (stN W len (t + 1 + 1) 0 i : Int))) :=
                HR2.out.congr fun i hi => by rw [hkl.out, st_next W len (t + 1) i hi]
              go_wp2_with fail
              go_roundw
              case rel => exact ⟨t + 1, by omega, by go_num, by rw [hnn.out, hkl.out], HS.out, HB2.out⟩
              case measure => simp [intOf]; omega
        · have ht' := Hid.mk' (show t = 15 by omega)
          have HS : Hid (Row64 wr w'.heap.size len (fun i => (codeN W len i : Int))) :=
            HR.out.congr fun i hi => by rw [ht'.out, st_end W len i (HG.out i hi)]
          go_wp2_with fail
          go_ret2
          refine ⟨⟨.slice (some ⟨w'.heap.size, 0, none⟩) len len, ?_, ?_⟩, HB.out⟩
          · rw [hco.out.1]; rfl
          · rw [hco.out.2]; exact HS.out.i64s
  · have hce := Hid.mk' (can_err W len hE)
    go_enter Try.func39, Try.ntmps39
    go_wp2_with fail
    refine (fill_any a0 len cap W _ HP.out).mono ?_
    rintro e w' ⟨rfl, rfl⟩
    have hE' : (fillE W len != 0) = true := by rw [bne_iff_ne]; exact hE
    obtain ⟨er, eer⟩ : ∃ er, Hid (fillE W len = er) := ⟨_, Hid.mk' rfl⟩
    rw [eer.out] at hE' hE ⊢
    generalize fillA W len = x
    go_wp2_with fail
    go_ret2
    refine ⟨⟨.slice none 0 0, ?_, ?_⟩, Below.refl _ _⟩
    · rw [hce.out.1, eer.out]; rfl
    · rw [hce.out.2]; exact i64s_nil _ _
end Go.Proofs.Ytganplceeapjcaa

/- What code.bookOf answers. -/
namespace Go.Proofs.Ytganplceeapjcaa
open Go.RowKit

theorem book_new (w : World) (L : Nat → Int) (len : Nat) (x : Int) (t : TypeId) :
    BookAt (w.alloc (.cells #[.int .i64 x, .int .i64 0, .int .i64 0, .int .i64 0, .int .i64 0, .int .i64 0, .int .i64 0, .int .i64 0, .int .i64 0, .int .i64 0, .int .i64 0, .int .i64 0, .int .i64 0, .int .i64 0, .int .i64 0, .int .i64 0, .int .i64 0,
      .slice none 0 0, .slice none 0 0, .slice none 0 0, .slice none 0 0, .slice none 0 0, .slice none 0 0, .slice none 0 0, .slice none 0 0, .slice none 0 0, .slice none 0 0, .slice none 0 0, .slice none 0 0, .slice none 0 0, .slice none 0 0, .slice none 0 0, .slice none 0 0] t)) w.heap.size L len 0 x (fun _ => .slice none 0 0) := by
  have key1 : ∀ s, s ≤ 15 → (#[.int .i64 x, .int .i64 0, .int .i64 0, .int .i64 0, .int .i64 0, .int .i64 0, .int .i64 0, .int .i64 0, .int .i64 0, .int .i64 0, .int .i64 0, .int .i64 0, .int .i64 0, .int .i64 0, .int .i64 0, .int .i64 0, .int .i64 0,
      .slice none 0 0, .slice none 0 0, .slice none 0 0, .slice none 0 0, .slice none 0 0, .slice none 0 0, .slice none 0 0, .slice none 0 0, .slice none 0 0, .slice none 0 0, .slice none 0 0, .slice none 0 0, .slice none 0 0, .slice none 0 0, .slice none 0 0, .slice none 0 0] : Array Value)[1 + s]? = some (.int .i64 0) := by
    intro s hs
    match s, hs with
    | 0, _ => rfl
    | 1, _ => rfl
    | 2, _ => rfl
    | 3, _ => rfl
    | 4, _ => rfl
    | 5, _ => rfl
    | 6, _ => rfl
    | 7, _ => rfl
    | 8, _ => rfl
    | 9, _ => rfl
    | 10, _ => rfl
    | 11, _ => rfl
    | 12, _ => rfl
    | 13, _ => rfl
    | 14, _ => rfl
    | 15, _ => rfl
  have key2 : ∀ s, s ≤ 15 → (#[.int .i64 x, .int .i64 0, .int .i64 0, .int .i64 0, .int .i64 0, .int .i64 0, .int .i64 0, .int .i64 0, .int .i64 0, .int .i64 0, .int .i64 0, .int .i64 0, .int .i64 0, .int .i64 0, .int .i64 0, .int .i64 0, .int .i64 0,
      .slice none 0 0, .slice none 0 0, .slice none 0 0, .slice none 0 0, .slice none 0 0, .slice none 0 0, .slice none 0 0, .slice none 0 0, .slice none 0 0, .slice none 0 0, .slice none 0 0, .slice none 0 0, .slice none 0 0, .slice none 0 0, .slice none 0 0, .slice none 0 0] : Array Value)[17 + s]? = some (.slice none 0 0) := by
    intro s hs
    match s, hs with
    | 0, _ => rfl
    | 1, _ => rfl
    | 2, _ => rfl
    | 3, _ => rfl
    | 4, _ => rfl
    | 5, _ => rfl
    | 6, _ => rfl
    | 7, _ => rfl
    | 8, _ => rfl
    | 9, _ => rfl
    | 10, _ => rfl
    | 11, _ => rfl
    | 12, _ => rfl
    | 13, _ => rfl
    | 14, _ => rfl
    | 15, _ => rfl
  generalize hA : (#[.int .i64 x, .int .i64 0, .int .i64 0, .int .i64 0, .int .i64 0, .int .i64 0, .int .i64 0, .int .i64 0, .int .i64 0, .int .i64 0, .int .i64 0, .int .i64 0, .int .i64 0, .int .i64 0, .int .i64 0, .int .i64 0, .int .i64 0,
      .slice none 0 0, .slice none 0 0, .slice none 0 0, .slice none 0 0, .slice none 0 0, .slice none 0 0, .slice none 0 0, .slice none 0 0, .slice none 0 0, .slice none 0 0, .slice none 0 0, .slice none 0 0, .slice none 0 0, .slice none 0 0, .slice none 0 0, .slice none 0 0] : Array Value) = A at *
  have h0 : A[0]? = some (.int .i64 x) := by rw [← hA]; rfl
  clear hA
  refine ⟨by simp, fun p _ => ?_, ?_, fun s hs => ?_, fun s hs => ?_, fun s _ => ?_, fun s r _ _ _ => .inl rfl⟩
  · unfold World.frozen?
    rw [heap_alloc_new]
    rfl
  · rw [World.cell?_alloc_new]; exact h0
  · rw [World.cell?_alloc_new]; exact key1 s hs
  · rw [World.cell?_alloc_new]; exact key2 s hs
  · exact World.ownsRow_nil _ _ _ _

set_option maxRecDepth 20000 in
set_option maxHeartbeats 1000000 in
theorem book_any (a0 : Option Addr) (len cap : Nat) (L : Nat → Int) (w : World) (hP : Wds w a0 len L) :
    Calls Try.prog 32 #[.slice a0 len cap] w fun e w' => (∃ p, e = .returned (.tuple #[.pointer p, .int .i64 (canE L len)]) ∧ (canE L len = 0 → ∃ g, p = some ⟨g, 0, none⟩ ∧ BookOf w' g L len)) ∧ Below w.heap.size w w' := by
  have hlen := hP.lenB
  have HP := Hid.mk' hP
  clear hP
  by_cases hE : canE L len = 0
  · obtain ⟨h320, hg, hF, hcl⟩ := canE_ok hE
    obtain ⟨hf1, hf2, _⟩ := can_zero L len hE
    have HA : Hid (fillA L len = fillN L len) := by show _ = _; unfold fillA; rw [if_pos hf1]
    have HG := Hid.mk' hg
    have HC := Hid.mk' hcl
    have HE := Hid.mk' hE
    obtain ⟨i0, hi, hz0, hz1, hz2⟩ := info_parts infoI64
    have KI := Hid.mk' hi
    have KZ0 := Hid.mk' hz0
    have KZ1 := Hid.mk' hz1
    have KZ2 := Hid.mk' hz2
    obtain ⟨tk0, htk⟩ : ∃ t, Hid (fillN L len = t) := ⟨_, Hid.mk' rfl⟩
    have htk2 : tk0 ≤ 32768 := by rw [← htk.out]; exact hF
    clear hg hcl hi hz0 hz1 hz2 hf1 hf2
    go_enter Try.func32, Try.ntmps32
    go_wp2_with fail
    refine (canon_any a0 len cap L _ HP.out).mono ?_
    rintro e w1 ⟨⟨v, rfl, hI⟩, hb⟩
    rw [HC.out] at hI
    rw [HE.out]
    obtain ⟨ac, cc, rfl, hcod⟩ := hI.is
    have HK := Hid.mk' hcod
    have HB1 := Hid.mk' hb
    have hs1 := hb.size
    clear hI hcod hb
    go_wp2_with fail
    refine (fill_any a0 len cap L _ (wds_below HP.out (HB1.out.alloc hs1 _))).mono ?_
    rintro e w' ⟨rfl, rfl⟩
    rw [HA.out, htk.out]
    have HBK := Hid.mk' (book_new w1 L len tk0 82)
    go_wp2_with fail
    go_loopw [29] (fun i wr => ∃ (k : Nat) (R : Nat → Value), k ≤ len ∧ i = .int .i64 k ∧ BookAt wr w1.heap.size L len k tk0 R ∧ Below w1.heap.size w1 wr) (fun i _ => len - (intOf i).toNat)
    case atStart => exact ⟨0, _, Nat.zero_le _, rfl, HBK.out, (Below.refl _ _).alloc (Nat.le_refl _) _⟩
    case round =>
      clear HBK
      obtain ⟨k, R, hk, rfl, hbk, hbl⟩ := hrel
      have HBK := Hid.mk' hbk
      have HB := Hid.mk' hbl
      have HBw := Hid.mk' (HB1.out.trans (hbl.mono hs1))
      have hgl := hbk.lt
      clear hbk hbl
      by_cases hlt : k < len
      · obtain ⟨b0, off0, rfl, hb0, hc0⟩ := HP.out.at' (by omega)
        have c0 := (HBw.out.cell (p := ⟨b0, off0 + k, none⟩) hb0).trans (hc0 k hlt)
        clear hc0
        by_cases hz : L k = 0
        · have HBK2 := Hid.mk' (HBK.out.skip hz)
          rw [hz] at c0
          clear hz
          go_wp2_with fail
          go_roundw
          case rel => exact ⟨k + 1, R, by omega, by go_num, HBK2.out, HB.out⟩
          case measure => simp [intOf]; omega
        · have hlb := len_of (HG.out k hlt)
          obtain ⟨y, hy⟩ : ∃ y : Nat, L k = (y : Int) := ⟨(L k).toNat, by omega⟩
          have hy0 : 0 < y := by omega
          have hy15 : y ≤ 15 := by omega
          have HY := Hid.mk' hy
          rw [hy] at c0
          clear hz hy hlb
          have t0 : ((y : Int) == 0) = false := by rw [beq_eq_false_iff_ne]; omega
          obtain ⟨gc, oc, rfl, hgc, hcc⟩ := HK.out (by omega)
          have cc0 := (HB.out.cell (p := ⟨gc, oc + k, none⟩) hgc).trans (hcc k hlt)
          clear hcc
          have hcb := code_le L len k (HG.out k hlt) hlt hF
          obtain ⟨q, hq⟩ : ∃ q, Hid (codeN L len k = q) := ⟨_, Hid.mk' rfl⟩
          rw [hq.out] at hcb cc0
          obtain ⟨ao, cp, hRy⟩ := own_slice (HBK.out.own y hy15)
          have r2 := HBK.out.c2 y hy15
          have r1 := HBK.out.c1 y hy15
          have f1 := HBK.out.fz (1 + y) (by omega)
          have f2 := HBK.out.fz (17 + y) (by omega)
          have hnl : (sgsL L y k).length ≤ k := by rw [sgsL_cnt L y k hy0]; exact cnt_le L y k
          have y0 : (0 : Int) ≤ (y : Int) := by omega
          have y1 : (y : Int) < 16 := by omega
          have k0 : (0 : Int) ≤ (k : Int) := by omega
          have k1 : (k : Int) < (len : Int) := by omega
          rw [hRy] at r2
          have HRY := Hid.mk' hRy
          clear hRy
          obtain ⟨n, hn⟩ : ∃ n, Hid ((sgsL L y k).length = n) := ⟨_, Hid.mk' rfl⟩
          rw [hn.out] at r2 hnl
          by_cases hn0 : n = 0
          case' pos =>
            have HN : Hid ((sgsL L y k).length = 0) := by show _ = _; rw [hn.out, hn0]
            have keepC : (wr.setCell ⟨w1.heap.size, 1 + y, none⟩ (.int .i64 (q : Int))).drew.cell? ⟨gc, oc + k, none⟩ = some (.int .i64 (q : Int)) := by
              show (wr.setCell ⟨w1.heap.size, 1 + y, none⟩ (.int .i64 (q : Int))).cell? ⟨gc, oc + k, none⟩ = some (.int .i64 (q : Int))
              rw [World.cell?_setCell_other _ _ _ _ (by intro e'; simp only [Addr.mk.injEq] at e'; omega)]; exact cc0
            have hq1 := Hid.mk' (HBK.out.set1 y hy15 hy0 HY.out HN.out)
            rw [hq.out] at hq1
            have t1 : ((n : Int) == 0) = true := by rw [hn0]; rfl
            have hoth : Hid (∀ p, p ≠ 1 + y → (wr.setCell ⟨w1.heap.size, 1 + y, none⟩ (.int .i64 (q : Int))).cell? ⟨w1.heap.size, p, none⟩ = wr.cell? ⟨w1.heap.size, p, none⟩) := fun p hp =>
              World.cell?_setCell_other _ _ _ _ (by intro e'; simp only [Addr.mk.injEq] at e'; omega)
            have HX : Hid (∃ W1 : World, W1 = (wr.setCell ⟨w1.heap.size, 1 + y, none⟩ (.int .i64 (q : Int))).drew ∧ W1.heap.size = wr.heap.size ∧ (∀ p, p < 33 → W1.frozen? ⟨w1.heap.size, p, none⟩ = false) ∧ W1.cell? ⟨w1.heap.size, 0, none⟩ = some (.int .i64 (tk0 : Int)) ∧ (∀ s, s ≤ 15 → W1.cell? ⟨w1.heap.size, 1 + s, none⟩ = some (.int .i64 (fstC L len s (k + 1) : Nat))) ∧ (∀ s, s ≤ 15 → W1.cell? ⟨w1.heap.size, 17 + s, none⟩ = some (R s)) ∧ (∀ s, s ≤ 15 → W1.ownsRow (w1.heap.size + 1) 3 1 (R s) (sgsL L s k).length (cellsS (sgsL L s k))) ∧ Below w1.heap.size w1 W1) := by
              refine ⟨_, rfl, by simp [World.setCell, World.drew], fun p hp => ?_, ?_, fun s hs => ?_, fun s hs => ?_, fun s hs => ?_, ?_⟩
              · show (wr.setCell _ _).frozen? _ = _
                rw [World.frozen?_setCell]; exact HBK.out.fz p hp
              · exact (hoth.out 0 (by omega)).trans HBK.out.c0
              · exact hq1.out s hs
              · exact (hoth.out (17 + s) (by omega)).trans (HBK.out.c2 s hs)
              · exact own_set (HBK.out.own s hs) (by omega) _
              · exact (HB.out.setCell (Nat.le_refl _) _).drew
            obtain ⟨W1, hW1, hsz, hfz, hc0, hc1, hc2, hown, hbw⟩ := HX.out
            clear HX hoth hq1 HN hn0
            have HSZ := Hid.mk' hsz
            clear hsz
            go_wp2_with fail
            go_region_held3 (fun W => W.cell? ⟨gc, oc + k, none⟩ = some (.int .i64 (q : Int))) (first | exact cc0 | exact keepC) (fail)
            rw [← hW1]
          case' neg =>
            have t1 : ((n : Int) == 0) = false := by rw [beq_eq_false_iff_ne]; omega
            have HX : Hid (∃ W1 : World, W1 = wr ∧ W1.heap.size = wr.heap.size ∧ (∀ p, p < 33 → W1.frozen? ⟨w1.heap.size, p, none⟩ = false) ∧ W1.cell? ⟨w1.heap.size, 0, none⟩ = some (.int .i64 (tk0 : Int)) ∧ (∀ s, s ≤ 15 → W1.cell? ⟨w1.heap.size, 1 + s, none⟩ = some (.int .i64 (fstC L len s (k + 1) : Nat))) ∧ (∀ s, s ≤ 15 → W1.cell? ⟨w1.heap.size, 17 + s, none⟩ = some (R s)) ∧ (∀ s, s ≤ 15 → W1.ownsRow (w1.heap.size + 1) 3 1 (R s) (sgsL L s k).length (cellsS (sgsL L s k))) ∧ Below w1.heap.size w1 W1) := by
              refine ⟨_, rfl, rfl, HBK.out.fz, HBK.out.c0, fun s hs => ?_, HBK.out.c2, HBK.out.own, HB.out⟩
              by_cases e : s = y
              · subst e
                rw [fstC_later L len s k (by rw [hn.out]; exact hn0) hy0 HY.out]; exact HBK.out.c1 s hs
              · rw [fstC_skip L len s k (by rw [HY.out]; omega)]; exact HBK.out.c1 s hs
            obtain ⟨W1, hW1, hsz, hfz, hc0, hc1, hc2, hown, hbw⟩ := HX.out
            clear HX
            have HSZ := Hid.mk' hsz
            clear hsz
            go_wp2_with fail
            rw [← hW1]
          all_goals
            have hcy := hc2 y hy15
            rw [HRY.out, hn.out] at hcy
            have hfy := hfz (17 + y) (by omega)
            have HFZ := Hid.mk' hfz
            have HC0 := Hid.mk' hc0
            have HC1 := Hid.mk' hc1
            have HC2 := Hid.mk' hc2
            have HOW := Hid.mk' hown
            have HBW := Hid.mk' hbw
            have HW1 := Hid.mk' hW1
            have HOY : Hid (W1.ownsRow (w1.heap.size + 1) 3 1 (.slice ao n cp) n (cellsS (sgsL L y k))) := by have := hown y hy15; rwa [HRY.out, hn.out] at this
            clear r1 r2 f1 f2 cc0 c0 hfz hc0 hc1 hc2 hown hbw hW1
            have hb1 : n + 1 ≤ maxLen := by unfold maxLen; omega
            have hb2 : (n + 1) * 8 ≤ 140737488355328 := by omega
            have hb3 : ∀ o : Obj, w1.heap.size + 1 ≤ (W1.alloc o).heap.size := fun o => by have := HSZ.out; simp; omega
            have hcA : ∀ o : Obj, (W1.alloc o).cell? ⟨w1.heap.size, 17 + y, none⟩ = some (.slice ao n cp) := fun o => (World.cell?_alloc_lt (w := W1) (o := o) (a := ⟨w1.heap.size, 17 + y, none⟩) (by have := HSZ.out; show w1.heap.size < W1.heap.size; omega)).trans hcy
            have hfA : ∀ o : Obj, (W1.alloc o).frozen? ⟨w1.heap.size, 17 + y, none⟩ = false := fun o => (World.frozen?_of_block (w := W1) (a := ⟨w1.heap.size, 17 + y, none⟩) (Below.heap_alloc W1 o w1.heap.size (by have := HSZ.out; omega))).trans hfy
            have HCA := Hid.mk' hcA
            have HFA := Hid.mk' hfA
            have HB3 := Hid.mk' hb3
            clear hcA hfA hb3
            have hlt1 : w1.heap.size < W1.heap.size := by have := HSZ.out; omega
            have hcD : ∀ o : Obj, (W1.drew.alloc o).cell? ⟨w1.heap.size, 17 + y, none⟩ = some (.slice ao n cp) := fun o => HCA.out o
            go_wp2_with fail
            go_region_law (first | (refine step_append_at rfl (.tmp 60) (.tmp 62) 43 rfl (w1.heap.size + 1) 3 i0 (.int .i64 0) 1 8 Try.underlying43 KI.out KZ0.out KZ1.out KZ2.out rfl (by decide) (.slice ao n cp) n (cellsS (sgsL L y k)) rfl (by exact HOY.out.alloc _) ⟨W1.heap.size, 0, none⟩ 1 1 [.int .i64 (k : Int)] rfl rfl (by exact cell_one_new W1.drew _ _) (one_int _ _) hb1 hb2 (by exact HB3.out _) ?_; intro v' w2 hown2 hgrow2 hat2; obtain ⟨ao', cp', rfl⟩ := own_slice hown2; have hcy2 := (cell_grown_own (by exact HOY.out.alloc _) hgrow2 (by exact HB3.out _) (p := ⟨w1.heap.size, 17 + y, none⟩) (Nat.lt_succ_self _)).trans (by exact HCA.out _); have hfy2 := (frozen_grown_own (by exact HOY.out.alloc _) hgrow2 (by exact HB3.out _) (p := ⟨w1.heap.size, 17 + y, none⟩) (Nat.lt_succ_self _)).trans (by exact HFA.out _)) | fail)
            all_goals
              have hgr2 : (W1.alloc (.cells #[.int .i64 (k : Int)] 3)).grownBy w2 (R y).ownBlock := by
                rw [HRY.out, hn.out]; exact ⟨hgrow2.os, hgrow2.tape, hgrow2.output, hgrow2.size, hgrow2.block⟩
              have HBK2 := Hid.mk' (HBK.out.more y hy15 hy0 HY.out HSZ.out HFZ.out HC0.out HC1.out HC2.out HOW.out (by rw [hn.out]; exact hown2) hgr2 (by rw [HRY.out, hn.out]; exact hat2))
              have HB2 : Hid (Below w1.heap.size w1 (w2.setCell ⟨w1.heap.size, 17 + y, none⟩ (.slice ao' (n + 1) cp'))) :=
                ((HBW.out.alloc (by omega) _).grown hgr2 (by simp; omega) fun i hi => by have := ((HOW.out y hy15).lt i hi).1; omega).setCell (Nat.le_refl _) _
              clear hgrow2 hown2 hat2 hgr2 hcy2 hfy2 hcD hcy hfy
              go_wp2_with fail
              go_roundw
              case rel => exact ⟨k + 1, _, by omega, by go_num, HBK2.out, HB2.out⟩
              case measure => simp [intOf]; omega
      · have hkl := Hid.mk' (show k = len by omega)
        go_wp2_with fail
        go_ret2
        refine ⟨⟨some ⟨w1.heap.size, 0, none⟩, ?_, fun _ => ⟨w1.heap.size, rfl, ?_⟩⟩, HBw.out⟩
        · rw [HE.out]; rfl
        · refine BookAt.of (R := R) ?_
          have := HBK.out
          rwa [hkl.out, ← htk.out] at this
  · have hb2 := canE_is L len
    have hne : (canE L len != 0) = true := by rw [bne_iff_ne]; exact hE
    obtain ⟨y, hy⟩ : ∃ y, Hid (canE L len = y) := ⟨_, Hid.mk' rfl⟩
    have HNE := Hid.mk' hE
    rw [hy.out] at hb2 hne
    clear hE
    go_enter Try.func32, Try.ntmps32
    go_wp2_with fail
    refine (canon_any a0 len cap L _ HP.out).mono ?_
    rintro e w1 ⟨⟨v, rfl, hI⟩, hb⟩
    rw [hy.out]
    clear hI
    go_wp2_with fail
    go_ret2
    refine ⟨⟨none, ?_, fun h => absurd h HNE.out⟩, hb⟩
    rw [hy.out]; rfl
end Go.Proofs.Ytganplceeapjcaa

/- What press.readBook answers. -/
namespace Go.Proofs.Ytganplceeapjcaa
open Go.RowKit

theorem rdE_is (s : List UInt8) (w : Int) (h : rdRE s = w) (hw : w ≠ 0) (n : Nat) : rbk s n = none := by
  unfold rbk; rw [if_neg (fun hh => hw (h ▸ hh.1))]
def BkAns (w : World) (s : ByteArray) (n : Nat) (p : Option Addr) (t : ByteArray) (ok : Bool) : Prop :=
  (ok = true ∧ ∃ l g, rbk s.data.toList n = some (l, t.data.toList) ∧ p = some ⟨g, 0, none⟩ ∧ BookOf w g (rowQ l) n ∧ t.size ≤ s.size) ∨ (ok = false ∧ rbk s.data.toList n = none)

set_option maxRecDepth 20000 in
set_option maxHeartbeats 1000000 in
theorem pbook_any (s : ByteArray) (n : Nat) (w : World) (hs : s.size ≤ 140737488355328) :
    Calls Try.prog 24 #[.string s, .int .i64 (n : Int)] w fun e w' => (∃ p t ok, e = .returned (.tuple #[.pointer p, .string t, .bool ok]) ∧ BkAns w' s n p t ok) ∧ Below w.heap.size w w' := by
  by_cases h0 : rdRE s.data.toList = 0
  · have H0 := Hid.mk' h0
    by_cases hl : (rdRL s.data.toList).length = n
    · have hk : rdRN s.data.toList ≤ s.size := by
        have := (runs_one h0).2.1
        rwa [show s.data.toList.length = s.size by simp] at this
      obtain ⟨k, hk'⟩ : ∃ k, Hid (rdRN s.data.toList = k) := ⟨_, Hid.mk' rfl⟩
      rw [hk'.out] at hk
      have HL := Hid.mk' hl
      have tl : ((n : Int) != (n : Int)) = false := by simp
      have hq0 : (0 : Int) ≤ (k : Int) := by omega
      have hq1 : (k : Int) ≤ (s.size : Int) := by omega
      have hqb : k ≤ 9223372036854775807 := by omega
      clear h0 hl
      go_enter Try.func24, Try.ntmps24
      go_wp2_with fail
      refine (rread_any s _ hs).mono ?_
      rintro e w1 ⟨⟨v, rfl, hI, _, _⟩, hb1⟩
      obtain ⟨ao, cap, rfl, hW⟩ := wds_runs hI H0.out
      rw [HL.out] at hW ⊢
      rw [H0.out, hk'.out]
      have HW := Hid.mk' hW
      have HB1 := Hid.mk' hb1
      clear hI hW hb1
      go_wp2_with fail
      refine (book_any ao n cap _ _ HW.out).mono ?_
      rintro e w2 ⟨⟨p, rfl, hp⟩, hb2⟩
      have HPp := Hid.mk' hp
      have HB2 : Hid (Below w.heap.size w w2) := HB1.out.trans (hb2.mono HB1.out.size)
      have his := canE_is (rowQ (rdRL s.data.toList)) n
      clear hp hb2
      obtain ⟨x, hx⟩ : ∃ x, Hid (canE (rowQ (rdRL s.data.toList)) n = x) := ⟨_, Hid.mk' rfl⟩
      rw [hx.out] at his ⊢
      go_wp2_with fail
      go_quiet (fail)
      go_wp2_with fail
      go_ret3
      refine ⟨⟨p, s.extract k s.size, x == 0, rfl, ?_⟩, HB2.out.trans (below_dP _ _)⟩
      by_cases hx0 : x = 0
      · have hx' : canE (rowQ (rdRL s.data.toList)) n = 0 := by rw [hx.out, hx0]
        obtain ⟨g, hg, hbk⟩ := HPp.out hx'
        refine .inl ⟨by rw [hx0]; rfl, rdRL s.data.toList, g, ?_, hg, hbk.below (below_dP _ _), by rw [ext_sizeQ]; omega⟩
        unfold rbk
        rw [if_pos ⟨H0.out, HL.out, hx'⟩, ext_listQ, hk'.out]
      · refine .inr ⟨by rw [beq_eq_false_iff_ne]; exact hx0, ?_⟩
        unfold rbk
        rw [if_neg (fun hh => hx0 (by rw [← hx.out]; exact hh.2.2))]
    · have HN : Hid (rbk s.data.toList n = none) := by
        show _ = _
        unfold rbk; rw [if_neg (fun hh => hl hh.2.1)]
      have hlb := rdL_len s.data.toList
      obtain ⟨m, hm⟩ : ∃ m, Hid ((rdRL s.data.toList).length = m) := ⟨_, Hid.mk' rfl⟩
      rw [hm.out] at hl hlb
      have tl : ((m : Int) != (n : Int)) = true := by rw [bne_iff_ne]; omega
      clear h0 hl
      go_enter Try.func24, Try.ntmps24
      go_wp2_with fail
      refine (rread_any s _ hs).mono ?_
      rintro e w1 ⟨⟨v, rfl, hI, _, _⟩, hb1⟩
      obtain ⟨ao, cap, rfl, hW⟩ := wds_runs hI H0.out
      rw [hm.out]
      rw [H0.out]
      generalize rdRN s.data.toList = k
      clear hI hW
      go_wp2_with fail
      go_ret3
      exact ⟨⟨_, _, false, rfl, .inr ⟨rfl, HN.out⟩⟩, hb1⟩
  · have HN := Hid.mk' (rdE_is s.data.toList _ rfl h0 n)
    have hne : (rdRE s.data.toList != 0) = true := by rw [bne_iff_ne]; exact h0
    obtain ⟨x, hx⟩ : ∃ x, Hid (rdRE s.data.toList = x) := ⟨_, Hid.mk' rfl⟩
    rw [hx.out] at hne h0
    clear h0
    go_enter Try.func24, Try.ntmps24
    go_wp2_with fail
    refine (rread_any s _ hs).mono ?_
    rintro e w1 ⟨⟨v, rfl, _, _, _⟩, hb1⟩
    rw [hx.out]
    generalize rdRN s.data.toList = k
    go_wp2_with fail
    go_ret3
    exact ⟨⟨_, _, false, rfl, .inr ⟨rfl, HN.out⟩⟩, hb1⟩
end Go.Proofs.Ytganplceeapjcaa

/- A mark in a block of its own. -/
namespace Go.Proofs.Ytganplceeapjcaa
open Go.RowKit

/-- a mark in a block of its own -/
structure Box3 (w : World) (g : Nat) (x y : Int) (z : Nat) : Prop where
  c0 : w.cell? ⟨g, 0, none⟩ = some (.int .i64 x)
  c1 : w.cell? ⟨g, 1, none⟩ = some (.int .i64 y)
  c2 : w.cell? ⟨g, 2, none⟩ = some (.int .u8 (z : Int))
  f0 : w.frozen? ⟨g, 0, none⟩ = false
  f1 : w.frozen? ⟨g, 1, none⟩ = false
  f2 : w.frozen? ⟨g, 2, none⟩ = false
  lt : g < w.heap.size
theorem box3_new (w : World) (x y : Int) (z : Nat) (t : TypeId) : Box3 (w.alloc (.cells #[.int .i64 x, .int .i64 y, .int .u8 (z : Int)] t)) w.heap.size x y z := by
  have hf : ∀ p : Nat, (w.alloc (.cells #[.int .i64 x, .int .i64 y, .int .u8 (z : Int)] t)).frozen? ⟨w.heap.size, p, none⟩ = false := fun p => by
    unfold World.frozen?
    rw [heap_alloc_new]
    rfl
  refine ⟨?_, ?_, ?_, hf 0, hf 1, hf 2, by simp⟩ <;> (rw [World.cell?_alloc_new]; rfl)
theorem Box3.set {w : World} {g : Nat} {x y : Int} {z : Nat} (h : Box3 w g x y z) (x' y' : Int) (z' : Nat) :
    Box3 (((w.setCell ⟨g, 0, none⟩ (.int .i64 x')).setCell ⟨g, 1, none⟩ (.int .i64 y')).setCell ⟨g, 2, none⟩ (.int .u8 (z' : Int))) g x' y' z' := by
  refine ⟨?_, ?_, ?_, ?_, ?_, ?_, by simpa [World.setCell] using h.lt⟩
  · rw [World.cell?_setCell_other _ _ _ _ (by simp), World.cell?_setCell_other _ _ _ _ (by simp)]
    exact World.cell?_setCell_same _ _ _ h.c0
  · rw [World.cell?_setCell_other _ _ _ _ (by simp)]
    exact World.cell?_setCell_same _ _ _ (u := .int .i64 y) (by rw [World.cell?_setCell_other _ _ _ _ (by simp)]; exact h.c1)
  · exact World.cell?_setCell_same _ _ _ (u := .int .u8 (z : Int)) (by rw [World.cell?_setCell_other _ _ _ _ (by simp), World.cell?_setCell_other _ _ _ _ (by simp)]; exact h.c2)
  · rw [World.frozen?_setCell, World.frozen?_setCell, World.frozen?_setCell]; exact h.f0
  · rw [World.frozen?_setCell, World.frozen?_setCell, World.frozen?_setCell]; exact h.f1
  · rw [World.frozen?_setCell, World.frozen?_setCell, World.frozen?_setCell]; exact h.f2
theorem Box3.kept {w w' : World} {g : Nat} {x y : Int} {z : Nat} (h : Box3 w g x y z) (hb : Below w.heap.size w w') : Box3 w' g x y z :=
  have hc : ∀ p, w'.cell? ⟨g, p, none⟩ = w.cell? ⟨g, p, none⟩ := fun p => hb.cell (p := ⟨g, p, none⟩) h.lt
  have hf : ∀ p, w'.frozen? ⟨g, p, none⟩ = w.frozen? ⟨g, p, none⟩ := fun p => World.frozen?_of_block (w := w) (a := ⟨g, p, none⟩) (hb.block g h.lt)
  ⟨(hc 0).trans h.c0, (hc 1).trans h.c1, (hc 2).trans h.c2, (hf 0).trans h.f0, (hf 1).trans h.f1, (hf 2).trans h.f2, Nat.lt_of_lt_of_le h.lt hb.size⟩
theorem Box3.kept' {w : World} {g : Nat} {x y : Int} {z : Nat} (h : Box3 w g x y z) (g' : Nat) (hne : g ≠ g') (a b c : Value) : Box3 (((w.setCell ⟨g', 0, none⟩ a).setCell ⟨g', 1, none⟩ b).setCell ⟨g', 2, none⟩ c) g x y z := by
  have hc : ∀ p, (((w.setCell ⟨g', 0, none⟩ a).setCell ⟨g', 1, none⟩ b).setCell ⟨g', 2, none⟩ c).cell? ⟨g, p, none⟩ = w.cell? ⟨g, p, none⟩ := fun p => by
    have hn : ∀ k, (⟨g', k, none⟩ : Addr) ≠ ⟨g, p, none⟩ := fun k e => by simp only [Addr.mk.injEq] at e; omega
    rw [World.cell?_setCell_other _ _ _ _ (hn 2), World.cell?_setCell_other _ _ _ _ (hn 1), World.cell?_setCell_other _ _ _ _ (hn 0)]
  have hf : ∀ p, (((w.setCell ⟨g', 0, none⟩ a).setCell ⟨g', 1, none⟩ b).setCell ⟨g', 2, none⟩ c).frozen? ⟨g, p, none⟩ = w.frozen? ⟨g, p, none⟩ := fun p => by
    rw [World.frozen?_setCell, World.frozen?_setCell, World.frozen?_setCell]
  exact ⟨(hc 0).trans h.c0, (hc 1).trans h.c1, (hc 2).trans h.c2, (hf 0).trans h.f0, (hf 1).trans h.f1, (hf 2).trans h.f2, by simpa [World.setCell] using h.lt⟩
theorem Box3.dN {w : World} {g : Nat} {x y : Int} {z : Nat} (h : Box3 w g x y z) (q : Nat) : Box3 (w.drewN q) g x y z := ⟨h.c0, h.c1, h.c2, h.f0, h.f1, h.f2, h.lt⟩
theorem infoSzM : (Try.prog.info? 53).map (·.size) = some 3 := by kernel_rfl
theorem load_box {w : World} {g : Nat} {x y : Int} {z : Nat} (h : Box3 w g x y z) : (loadVar 53 ⟨g, 0, none⟩).run Try.prog w = .ok (.agg #[.int .i64 x, .int .i64 y, .int .u8 (z : Int)]) w := by
  have hl := run_loadCells_list (P := Try.prog) w ⟨g, 0, none⟩ [.int .i64 x, .int .i64 y, .int .u8 (z : Int)] (fun j v hv => by
    rw [show (⟨g, 0, none⟩ : Addr).add j = ⟨g, j, none⟩ by unfold Addr.add; split <;> simp_all]
    match j with
    | 0 => rw [h.c0]; exact hv
    | 1 => rw [h.c1]; exact hv
    | 2 => rw [h.c2]; exact hv
    | j + 3 => simp at hv)
  obtain ⟨i, hi, hs⟩ := Option.map_eq_some_iff.1 infoSzM
  have hagg : (isAgg 53).run Try.prog w = .ok true w := by
    unfold isAgg
    rw [Sem.run_bind, run_underlying Try.underlying53 w]
    rfl
  have hl2 : (loadCells ⟨g, 0, none⟩ 3).run Try.prog w = .ok #[.int .i64 x, .int .i64 y, .int .u8 (z : Int)] w := hl
  simp [loadVar, Sem.run_bind, hagg, sizeOf, typeInfo, hi, hs, hl2]
theorem results_box {fn : Func} {p : Tmp} (h : fn.results = #[.cell p 53]) (tmps : Array Value) (w : World) (g : Nat) (x y : Int) (z : Nat) (hp : tmps.getD p undef = .pointer (some ⟨g, 0, none⟩)) (hb : Box3 w g x y z) :
    (results fn tmps).run Try.prog w = .ok (.agg #[.int .i64 x, .int .i64 y, .int .u8 (z : Int)]) w := by
  have hp' : tmps[p]?.getD undef = .pointer (some ⟨g, 0, none⟩) := by simpa using hp
  simp [results, h, hp', asAddr, load_box hb]
theorem below_set3 {B g : Nat} {w0 w : World} (h : Below B w0 w) (hg : B ≤ g) (x y z : Value) : Below B w0 (((w.setCell ⟨g, 0, none⟩ x).setCell ⟨g, 1, none⟩ y).setCell ⟨g, 2, none⟩ z) := ((h.setCell hg _).setCell hg _).setCell hg _
theorem below_dL {B : Nat} {a w : World} (h : Below B a w) (q : Nat) : Below B a (w.drewN q) := ⟨h.os, h.tape, h.output, h.size, h.block⟩
theorem size_set3 (w : World) (a b c : Addr) (x y z : Value) : (((w.setCell a x).setCell b y).setCell c z).heap.size = w.heap.size := by simp [World.setCell]
theorem results_box2 {fn : Func} {p q : Tmp} (h : fn.results = #[.cell p 53, .tmp q]) (tmps : Array Value) (w : World) (g : Nat) (x y : Int) (z : Nat) (v : Value) (hp : tmps.getD p undef = .pointer (some ⟨g, 0, none⟩)) (hq : tmps.getD q undef = v) (hb : Box3 w g x y z) :
    (results fn tmps).run Try.prog w = .ok (.tuple #[.agg #[.int .i64 x, .int .i64 y, .int .u8 (z : Int)], v]) w := by
  have hp' : tmps[p]?.getD undef = .pointer (some ⟨g, 0, none⟩) := by simpa using hp
  have hq' : tmps[q]?.getD undef = v := by simpa using hq
  simp [results, h, hp', hq', asAddr, load_box hb]
end Go.Proofs.Ytganplceeapjcaa

/- What press.reader's mark answers. -/
namespace Go.Proofs.Ytganplceeapjcaa
open Go.RowKit

theorem Box3.blk {w w' : World} {g : Nat} {x y : Int} {z : Nat} (h : Box3 w g x y z) (hb : w'.heap[g]? = w.heap[g]?) (hs : w.heap.size ≤ w'.heap.size) : Box3 w' g x y z :=
  have hc : ∀ p, w'.cell? ⟨g, p, none⟩ = w.cell? ⟨g, p, none⟩ := fun _ => World.cell?_of_block hb
  have hf : ∀ p, w'.frozen? ⟨g, p, none⟩ = w.frozen? ⟨g, p, none⟩ := fun p => World.frozen?_of_block (w := w) (a := ⟨g, p, none⟩) hb
  ⟨(hc 0).trans h.c0, (hc 1).trans h.c1, (hc 2).trans h.c2, (hf 0).trans h.f0, (hf 1).trans h.f1, (hf 2).trans h.f2, Nat.lt_of_lt_of_le h.lt hs⟩
theorem grown_set3 {w w1 : World} {gr g : Nat} (h : w.grownBy w1 (some gr)) (hg : w.heap.size ≤ g) (x y z : Value) : w.grownBy (((w1.setCell ⟨g, 0, none⟩ x).setCell ⟨g, 1, none⟩ y).setCell ⟨g, 2, none⟩ z) (some gr) :=
  ⟨h.os, h.tape, h.output, by rw [size_set3]; exact h.size, fun k hk hne => (heap_setCell_other _ _ _ _ (by show k ≠ g; omega)).trans ((heap_setCell_other _ _ _ _ (by show k ≠ g; omega)).trans ((heap_setCell_other _ _ _ _ (by show k ≠ g; omega)).trans (h.block k hk hne)))⟩
theorem Rdr.set3 {w : World} {gr g : Nat} {s : ByteArray} {a g1 g2 : Nat} (h : Rdr w gr s a g1 g2) (hne : gr ≠ g) (x y z : Value) : Rdr (((w.setCell ⟨g, 0, none⟩ x).setCell ⟨g, 1, none⟩ y).setCell ⟨g, 2, none⟩ z) gr s a g1 g2 :=
  h.block ((heap_setCell_other _ _ _ _ hne).trans ((heap_setCell_other _ _ _ _ hne).trans (heap_setCell_other _ _ _ _ hne))) (by rw [size_set3]; exact Nat.le_refl _)
/-- what mark answers -/
def MkAns (L1 L2 : Nat → Int) (s : ByteArray) (a g1 g2 gr : Nat) (w : World) (m : Mk) (ok : Bool) : Prop :=
  (ok = true ∧ ∃ b, mk1 L1 L2 s a = some (m, b) ∧ Rdr w gr s b g1 g2) ∨ (ok = false ∧ mk1 L1 L2 s a = none)

set_option maxRecDepth 20000 in
set_option maxHeartbeats 2000000 in
theorem pmark_any (w0 w : World) (s : ByteArray) (a g1 g2 : Nat) (L1 L2 : Nat → Int) (hE1 : canE L1 320 = 0) (hE2 : canE L2 9 = 0) (hB1 : BookOf w0 g1 L1 320) (hB2 : BookOf w0 g2 L2 9) (hb : Below w0.heap.size w0 w) (hR : Rdr w w0.heap.size s a g1 g2) (hs : s.size ≤ 140737488363520) (ha : a ≤ 8 * s.size) :
    Calls Try.prog 25 #[.pointer (some ⟨w0.heap.size, 0, none⟩)] w fun e w' => (∃ (m : Mk) (ok : Bool), e = .returned (.tuple #[.agg #[.int .i64 m.ln, .int .i64 m.ds, .int .u8 (m.by' : Int)], .bool ok]) ∧ MkAns L1 L2 s a g1 g2 w0.heap.size w' m ok) ∧ w.grownBy w' (some w0.heap.size) := by
  have HE1 := Hid.mk' hE1
  have HE2 := Hid.mk' hE2
  have HB1 := Hid.mk' hB1
  have HB2 := Hid.mk' hB2
  have HBe := Hid.mk' hb
  have hgl := hR.lt
  have HRa : Hid (Rdr (w.alloc (.cells #[.int .i64 0, .int .i64 0, .int .u8 0] 53)) w0.heap.size s a g1 g2) := hR.block (Below.heap_alloc w _ _ hgl) (by simp)
  have HBox : Hid (Box3 (w.alloc (.cells #[.int .i64 0, .int .i64 0, .int .u8 0] 53)) w.heap.size 0 0 0) := box3_new w 0 0 0 _
  have HBa : Hid (Below w0.heap.size w0 (w.alloc (.cells #[.int .i64 0, .int .i64 0, .int .u8 0] 53))) := hb.alloc (Nat.le_of_lt hgl) _
  have HGa : Hid (w.grownBy (w.alloc (.cells #[.int .i64 0, .int .i64 0, .int .u8 0] 53)) (some w0.heap.size)) := grown_below ((Below.refl _ _).alloc (Nat.le_refl _) _)
  have hne : Hid (w0.heap.size ≠ w.heap.size) := by show _ ≠ _; omega
  have c2 := HRa.out.c2
  clear hE1 hE2 hB1 hB2 hb hR
  obtain ⟨⟨i, k, x⟩, hr⟩ : ∃ r, Hid (stpS L1 320 s a = r) := ⟨_, Hid.mk' rfl⟩
  have HS1 := Hid.mk' (psign_any w0 _ s a g1 g2 g1 320 L1 HE1.out HB1.out HBa.out HRa.out hs ha i k x hr.out)
  by_cases hx : x = 0
  · subst hx
    have hk := stp_ok (L := L1) (len := 320) (s := s) (a := a) (by rw [hr.out])
    rw [hr.out] at hk
    have hi320 : i < 320 := hk.1
    have hka : a + k ≤ 8 * s.size := by have := hk.2.2.1; simp only at this; omega
    have hnx : Hid (nxA a (i, k, 0) = a + k) := rfl
    clear hk
    by_cases hi : i < 256
    · have HM := Hid.mk' (mk1_byte (L2 := L2) hr.out hi)
      have t1 : decide (i < 256) = true := decide_eq_true hi
      have e8 : IntKind.u8.wrap (i : Int) = (i : Int) := by rw [IntKind.wrap_u8]; omega
      go_enter Try.func25, Try.ntmps25
      go_wp2_with fail
      refine HS1.out.mono ?_
      rintro e w1 ⟨rfl, hR1, hG1⟩
      rw [hnx.out] at hR1
      have HR1 := Hid.mk' hR1
      have HG1 := Hid.mk' (grown_trans HGa.out hG1)
      have HX1 : Hid (Box3 w1 w.heap.size 0 0 0) := HBox.out.blk (hG1.block _ (by simp) (fun e => hne.out (Option.some.inj e).symm)) hG1.size
      clear hR1 hG1 c2
      have b0 := HX1.out.c0
      have b1 := HX1.out.c1
      have b2 := HX1.out.c2
      have f0 := HX1.out.f0
      have f1 := HX1.out.f1
      have f2 := HX1.out.f2
      have HBx := Hid.mk' (HX1.out.set 0 0 i)
      go_wp2_with fail
      refine bodyPost_ret (results_box2 rfl _ _ w.heap.size 0 0 i (.bool true) rfl rfl HBx.out) rfl ?_
      exact ⟨⟨⟨0, 0, i⟩, true, rfl, .inl ⟨rfl, _, HM.out, HR1.out.set3 hne.out _ _ _⟩⟩, grown_set3 HG1.out (Nat.le_refl _) _ _ _⟩
    · have t1 : decide (i < 256) = false := decide_eq_false hi
      obtain ⟨⟨j, l, y⟩, hr2⟩ : ∃ r, Hid (stpS L2 9 s (a + k) = r) := ⟨_, Hid.mk' rfl⟩
      by_cases hy : y = 0
      · subst hy
        have hj := stp_ok (L := L2) (len := 9) (s := s) (a := a + k) (by rw [hr2.out])
        rw [hr2.out] at hj
        have hj9 : j < 9 := hj.1
        have hla : a + k + l ≤ 8 * s.size := by have := hj.2.2.1; simp only at this; omega
        have hnx2 : Hid (nxA (a + k) (j, l, 0) = a + k + l) := rfl
        clear hj
        obtain ⟨z, hz⟩ : ∃ z, Hid (z = i - 253) := ⟨_, Hid.mk' rfl⟩
        have ez : IntKind.i64.wrap ((i : Int) - 253) = (z : Int) := by rw [IntKind.wrap_i64, hz.out]; omega
        by_cases hok : a + k + l + j ≤ 8 * s.size
        · have HM := Hid.mk' (mk1_copy (L2 := L2) hr.out hi hr2.out hok)
          have hpg := pow_getN (txtN s.data.toList) (a + k + l) j (by omega)
          obtain ⟨u, hu⟩ : ∃ u, Hid (getN (txtN s.data.toList) (a + k + l) j = u) := ⟨_, Hid.mk' rfl⟩
          obtain ⟨d, hd⟩ : ∃ d, Hid (2 ^ j + u = d) := ⟨_, Hid.mk' rfl⟩
          rw [hu.out, hd.out, ← hz.out] at HM
          rw [hu.out, hd.out] at hpg
          obtain ⟨p, hp⟩ : ∃ p, Hid (2 ^ j = p) := ⟨_, Hid.mk' rfl⟩
          have hpb : p ≤ 256 := by rw [← hp.out]; exact pow_le8 j (by omega)
          have ep : (2 : Int) ^ j = (p : Int) := by rw [← hp.out]; simp
          rw [hp.out] at hd
          have ed : IntKind.i64.wrap ((p : Int) + (u : Int)) = (d : Int) := by rw [IntKind.wrap_i64, ← hd.out]; have := hd.out; omega
          go_enter Try.func25, Try.ntmps25
          go_wp2_with fail
          refine HS1.out.mono ?_
          rintro e w1 ⟨rfl, hR1, hG1⟩
          rw [hnx.out] at hR1
          have HR1 := Hid.mk' hR1
          have HG1 := Hid.mk' (grown_trans HGa.out hG1)
          have HX1 : Hid (Box3 w1 w.heap.size 0 0 0) := HBox.out.blk (hG1.block _ (by simp) (fun e => hne.out (Option.some.inj e).symm)) hG1.size
          have HBe1 : Hid (Below w0.heap.size w0 w1) := below_grown HBa.out hG1 (by simp; omega)
          clear hR1 hG1 c2
          have c3 := HR1.out.c3
          go_wp2_with fail
          refine (psign_any w0 _ s (a + k) g1 g2 g2 9 L2 HE2.out HB2.out HBe1.out HR1.out hs hka j l 0 hr2.out).mono ?_
          rintro e w2 ⟨rfl, hR2, hG2⟩
          rw [hnx2.out] at hR2
          have HR2 := Hid.mk' hR2
          have HG2 := Hid.mk' (grown_trans HG1.out hG2)
          have HX2 : Hid (Box3 w2 w.heap.size 0 0 0) := HX1.out.blk (hG2.block _ HX1.out.lt (fun e => hne.out (Option.some.inj e).symm)) hG2.size
          clear hR2 hG2 c3
          go_wp2_with fail
          refine (pnumber_any w0 _ s (a + k + l) g1 g2 j HR2.out hs hla (by omega)).mono ?_
          rintro e w3 ⟨h1, _, hG3⟩
          obtain ⟨rfl, hR3⟩ := h1 hok
          rw [hu.out]
          have HR3 := Hid.mk' hR3
          have HG3 := Hid.mk' (grown_trans HG2.out hG3)
          have HX3 : Hid (Box3 w3 w.heap.size 0 0 0) := HX2.out.blk (hG3.block _ HX2.out.lt (fun e => hne.out (Option.some.inj e).symm)) hG3.size
          clear hR3 hG3 h1
          have b0 := HX3.out.c0
          have b1 := HX3.out.c1
          have b2 := HX3.out.c2
          have f0 := HX3.out.f0
          have f1 := HX3.out.f1
          have f2 := HX3.out.f2
          have HBx := Hid.mk' (HX3.out.set (z : Int) (d : Int) 0)
          go_wp2_with fail
          refine bodyPost_ret (results_box2 rfl _ _ w.heap.size (z : Int) (d : Int) 0 (.bool true) rfl rfl HBx.out) rfl ?_
          exact ⟨⟨⟨(z : Int), (d : Int), 0⟩, true, rfl, .inl ⟨rfl, _, HM.out, HR3.out.set3 hne.out _ _ _⟩⟩, grown_set3 HG3.out (Nat.le_refl _) _ _ _⟩
        · have HM := Hid.mk' (mk1_short (L2 := L2) hr.out hi hr2.out hok)
          obtain ⟨p, hp⟩ : ∃ p, Hid (2 ^ j = p) := ⟨_, Hid.mk' rfl⟩
          have hpb : p ≤ 256 := by rw [← hp.out]; exact pow_le8 j (by omega)
          have ep : (2 : Int) ^ j = (p : Int) := by rw [← hp.out]; simp
          go_enter Try.func25, Try.ntmps25
          go_wp2_with fail
          refine HS1.out.mono ?_
          rintro e w1 ⟨rfl, hR1, hG1⟩
          rw [hnx.out] at hR1
          have HR1 := Hid.mk' hR1
          have HG1 := Hid.mk' (grown_trans HGa.out hG1)
          have HX1 : Hid (Box3 w1 w.heap.size 0 0 0) := HBox.out.blk (hG1.block _ (by simp) (fun e => hne.out (Option.some.inj e).symm)) hG1.size
          have HBe1 : Hid (Below w0.heap.size w0 w1) := below_grown HBa.out hG1 (by simp; omega)
          clear hR1 hG1 c2
          have c3 := HR1.out.c3
          go_wp2_with fail
          refine (psign_any w0 _ s (a + k) g1 g2 g2 9 L2 HE2.out HB2.out HBe1.out HR1.out hs hka j l 0 hr2.out).mono ?_
          rintro e w2 ⟨rfl, hR2, hG2⟩
          rw [hnx2.out] at hR2
          have HR2 := Hid.mk' hR2
          have HG2 := Hid.mk' (grown_trans HG1.out hG2)
          have HX2 : Hid (Box3 w2 w.heap.size 0 0 0) := HX1.out.blk (hG2.block _ HX1.out.lt (fun e => hne.out (Option.some.inj e).symm)) hG2.size
          clear hR2 hG2 c3
          go_wp2_with fail
          refine (pnumber_any w0 _ s (a + k + l) g1 g2 j HR2.out hs hla (by omega)).mono ?_
          rintro e w3 ⟨_, h1, hG3⟩
          obtain rfl := h1 hok
          have HG3 := Hid.mk' (grown_trans HG2.out hG3)
          have HX3 : Hid (Box3 w3 w.heap.size 0 0 0) := HX2.out.blk (hG3.block _ HX2.out.lt (fun e => hne.out (Option.some.inj e).symm)) hG3.size
          clear hG3 h1
          have b0 := HX3.out.c0
          have b1 := HX3.out.c1
          have b2 := HX3.out.c2
          have f0 := HX3.out.f0
          have f1 := HX3.out.f1
          have f2 := HX3.out.f2
          have HBx := Hid.mk' (HX3.out.set (z : Int) (p : Int) 0)
          go_wp2_with fail
          refine bodyPost_ret (results_box2 rfl _ _ w.heap.size (z : Int) (p : Int) 0 (.bool false) rfl rfl HBx.out) rfl ?_
          exact ⟨⟨⟨(z : Int), (p : Int), 0⟩, false, rfl, .inr ⟨rfl, HM.out⟩⟩, grown_set3 HG3.out (Nat.le_refl _) _ _ _⟩
      · have HM := Hid.mk' (mk1_bad2 (L2 := L2) hr.out hi hr2.out hy)
        have ty : (y == 0) = false := by rw [beq_eq_false_iff_ne]; exact hy
        go_enter Try.func25, Try.ntmps25
        go_wp2_with fail
        refine HS1.out.mono ?_
        rintro e w1 ⟨rfl, hR1, hG1⟩
        rw [hnx.out] at hR1
        have HR1 := Hid.mk' hR1
        have HG1 := Hid.mk' (grown_trans HGa.out hG1)
        have HX1 : Hid (Box3 w1 w.heap.size 0 0 0) := HBox.out.blk (hG1.block _ (by simp) (fun e => hne.out (Option.some.inj e).symm)) hG1.size
        have HBe1 : Hid (Below w0.heap.size w0 w1) := below_grown HBa.out hG1 (by simp; omega)
        clear hR1 hG1 c2
        have c3 := HR1.out.c3
        go_wp2_with fail
        refine (psign_any w0 _ s (a + k) g1 g2 g2 9 L2 HE2.out HB2.out HBe1.out HR1.out hs hka j l y hr2.out).mono ?_
        rintro e w2 ⟨rfl, _, hG2⟩
        rw [ty]
        have HG2 := Hid.mk' (grown_trans HG1.out hG2)
        have HX2 : Hid (Box3 w2 w.heap.size 0 0 0) := HX1.out.blk (hG2.block _ HX1.out.lt (fun e => hne.out (Option.some.inj e).symm)) hG2.size
        clear hG2 c3
        have b0 := HX2.out.c0
        have b1 := HX2.out.c1
        have b2 := HX2.out.c2
        have f0 := HX2.out.f0
        have f1 := HX2.out.f1
        have f2 := HX2.out.f2
        have HBx := Hid.mk' (HX2.out.set 0 0 0)
        go_wp2_with fail
        refine bodyPost_ret (results_box2 rfl _ _ w.heap.size 0 0 0 (.bool false) rfl rfl HBx.out) rfl ?_
        exact ⟨⟨⟨0, 0, 0⟩, false, rfl, .inr ⟨rfl, HM.out⟩⟩, grown_set3 HG2.out (Nat.le_refl _) _ _ _⟩
  · have HM := Hid.mk' (mk1_bad (L2 := L2) hr.out hx)
    have tx : (x == 0) = false := by rw [beq_eq_false_iff_ne]; exact hx
    go_enter Try.func25, Try.ntmps25
    go_wp2_with fail
    refine HS1.out.mono ?_
    rintro e w1 ⟨rfl, _, hG1⟩
    rw [tx]
    have HG1 := Hid.mk' (grown_trans HGa.out hG1)
    have HX1 : Hid (Box3 w1 w.heap.size 0 0 0) := HBox.out.blk (hG1.block _ (by simp) (fun e => hne.out (Option.some.inj e).symm)) hG1.size
    clear hG1 c2
    have b0 := HX1.out.c0
    have b1 := HX1.out.c1
    have b2 := HX1.out.c2
    have f0 := HX1.out.f0
    have f1 := HX1.out.f1
    have f2 := HX1.out.f2
    have HBx := Hid.mk' (HX1.out.set 0 0 0)
    go_wp2_with fail
    refine bodyPost_ret (results_box2 rfl _ _ w.heap.size 0 0 0 (.bool false) rfl rfl HBx.out) rfl ?_
    exact ⟨⟨⟨0, 0, 0⟩, false, rfl, .inr ⟨rfl, HM.out⟩⟩, grown_set3 HG1.out (Nat.le_refl _) _ _ _⟩
end Go.Proofs.Ytganplceeapjcaa

/- A row of marks, whatever they are, that is written. -/
namespace Go.Proofs.Ytganplceeapjcaa
open Go.RowKit

structure RowMs (w : World) (g len : Nat) (M : Nat → Mk) : Prop where
  c0 : ∀ i, i < len → w.cell? ⟨g, i * 3, none⟩ = some (.int .i64 (M i).ln)
  c1 : ∀ i, i < len → w.cell? ⟨g, i * 3 + 1, none⟩ = some (.int .i64 (M i).ds)
  c2 : ∀ i, i < len → w.cell? ⟨g, i * 3 + 2, none⟩ = some (.int .u8 ((M i).by' : Int))
  fz : ∀ p, p < len * 3 → w.frozen? ⟨g, p, none⟩ = false
  lt : g < w.heap.size
theorem RowMs.block {w w' : World} {g len : Nat} {M : Nat → Mk} (h : RowMs w g len M) (hb : w'.heap[g]? = w.heap[g]?) (hl : w.heap.size ≤ w'.heap.size) : RowMs w' g len M :=
  have hc : ∀ p, w'.cell? ⟨g, p, none⟩ = w.cell? ⟨g, p, none⟩ := fun _ => World.cell?_of_block hb
  ⟨fun i hi => (hc _).trans (h.c0 i hi), fun i hi => (hc _).trans (h.c1 i hi), fun i hi => (hc _).trans (h.c2 i hi), fun p hp => (World.frozen?_of_block (w := w) (a := ⟨g, p, none⟩) hb).trans (h.fz p hp), Nat.lt_of_lt_of_le h.lt hl⟩
theorem RowMs.set {w : World} {g len : Nat} {M : Nat → Mk} (h : RowMs w g len M) (k : Nat) (hk : k < len) (m : Mk) :
    RowMs (((w.setCell ⟨g, k * 3, none⟩ (.int .i64 m.ln)).setCell ⟨g, k * 3 + 1, none⟩ (.int .i64 m.ds)).setCell ⟨g, k * 3 + 2, none⟩ (.int .u8 (m.by' : Int))) g len (fun i => if i = k then m else M i) := by
  have ne : ∀ a b : Nat, a ≠ b → (⟨g, a, none⟩ : Addr) ≠ ⟨g, b, none⟩ := fun a b hab e => by simp only [Addr.mk.injEq] at e; omega
  refine ⟨fun i hi => ?_, fun i hi => ?_, fun i hi => ?_, fun p hp => ?_, by simpa [World.setCell] using h.lt⟩
  · rw [World.cell?_setCell_other _ _ _ _ (ne _ _ (by omega)), World.cell?_setCell_other _ _ _ _ (ne _ _ (by omega))]
    by_cases e : i = k
    · subst e; rw [if_pos rfl]; exact World.cell?_setCell_same _ _ _ (h.c0 i hi)
    · rw [if_neg e, World.cell?_setCell_other _ _ _ _ (ne _ _ (by omega))]; exact h.c0 i hi
  · rw [World.cell?_setCell_other _ _ _ _ (ne _ _ (by omega))]
    by_cases e : i = k
    · subst e; rw [if_pos rfl]
      exact World.cell?_setCell_same _ _ _ (u := .int .i64 (M i).ds) (by rw [World.cell?_setCell_other _ _ _ _ (ne _ _ (by omega))]; exact h.c1 i hi)
    · rw [if_neg e, World.cell?_setCell_other _ _ _ _ (ne _ _ (by omega)), World.cell?_setCell_other _ _ _ _ (ne _ _ (by omega))]; exact h.c1 i hi
  · by_cases e : i = k
    · subst e; rw [if_pos rfl]
      exact World.cell?_setCell_same _ _ _ (u := .int .u8 ((M i).by' : Int)) (by rw [World.cell?_setCell_other _ _ _ _ (ne _ _ (by omega)), World.cell?_setCell_other _ _ _ _ (ne _ _ (by omega))]; exact h.c2 i hi)
    · rw [if_neg e, World.cell?_setCell_other _ _ _ _ (ne _ _ (by omega)), World.cell?_setCell_other _ _ _ _ (ne _ _ (by omega)), World.cell?_setCell_other _ _ _ _ (ne _ _ (by omega))]; exact h.c2 i hi
  · rw [World.frozen?_setCell, World.frozen?_setCell, World.frozen?_setCell]; exact h.fz p hp
theorem rowMs_made (w : World) (len : Nat) (t : TypeId) : RowMs (w.alloc (.cells (madeCells #[.int .i64 0, .int .i64 0, .int .u8 0] (len * 3)) t)) w.heap.size len (fun _ => ⟨0, 0, 0⟩) := by
  have hc : ∀ p, p < len * 3 → (w.alloc (.cells (madeCells #[.int .i64 0, .int .i64 0, .int .u8 0] (len * 3)) t)).cell? ⟨w.heap.size, p, none⟩ = some (#[Value.int .i64 0, .int .i64 0, .int .u8 0][p % 3]'(by simp; omega)) := fun p hp => by
    rw [World.cell?_alloc_new]
    simp [madeCells, hp]
    rw [List.getElem?_eq_getElem (by simp; omega)]
    rfl
  refine ⟨fun i hi => ?_, fun i hi => ?_, fun i hi => ?_, fun p _ => ?_, by simp⟩
  · rw [hc _ (by omega)]; simp [Nat.mul_mod_left]
  · rw [hc _ (by omega)]; simp [Nat.mul_add_mod_self_right]
  · rw [hc _ (by omega)]; simp [Nat.mul_add_mod_self_right]
  · unfold World.frozen?
    rw [heap_alloc_new]
    rfl
theorem RowMs.congr {w : World} {g len : Nat} {M M' : Nat → Mk} (h : RowMs w g len M) (he : ∀ i, i < len → M i = M' i) : RowMs w g len M' :=
  ⟨fun i hi => by rw [← he i hi]; exact h.c0 i hi, fun i hi => by rw [← he i hi]; exact h.c1 i hi, fun i hi => by rw [← he i hi]; exact h.c2 i hi, h.fz, h.lt⟩
theorem RowMs.mks {w : World} {g len : Nat} {M : Nat → Mk} (h : RowMs w g len M) (hn : len ≤ 512) (hB : ∀ i, i < len → (-9223372036854775808 ≤ (M i).ln ∧ (M i).ln ≤ 9223372036854775807) ∧ (-9223372036854775808 ≤ (M i).ds ∧ (M i).ds ≤ 9223372036854775807) ∧ (M i).by' < 256) : Mks w (some ⟨g, 0, none⟩) len M :=
  ⟨by omega, fun _ => ⟨g, 0, rfl, h.lt, fun i hi => by rw [Nat.zero_add]; exact ⟨h.c0 i hi, h.c1 i hi, h.c2 i hi⟩⟩, fun i hi => (hB i hi).1, fun i hi => (hB i hi).2.1, fun i hi => (hB i hi).2.2⟩
end Go.Proofs.Ytganplceeapjcaa

/- What lz.Check answers. -/
namespace Go.Proofs.Ytganplceeapjcaa
open Go.RowKit

set_option maxRecDepth 20000 in
set_option maxHeartbeats 800000 in
theorem check_eq (x y : Int) (z : Nat) (w : World) :
    Calls Try.prog 35 #[.agg #[.int .i64 x, .int .i64 y, .int .u8 (z : Int)]] w fun e w' => e = .returned (.int .i64 (chkM ⟨x, y, z⟩)) ∧ w' = w.alloc (.cells #[.int .i64 x, .int .i64 y, .int .u8 (z : Int)] 53) := by
  cases hm : okM ⟨x, y, z⟩ with
  | true =>
    have hc : Hid (chkM ⟨x, y, z⟩ = 0) := by show _ = _; unfold chkM; rw [hm]; rfl
    have ho := okM_of hm
    clear hm
    simp only at ho
    rcases ho with ⟨h1, h2⟩ | ⟨h1, h2, h3, h4⟩
    · subst h1 h2
      go_enter Try.func35, Try.ntmps35
      go_wp2_with fail
      go_ret
      exact ⟨by rw [hc.out]; rfl, rfl⟩
    · subst h4
      have t0 : (x == 0) = false := by rw [beq_eq_false_iff_ne]; omega
      go_enter Try.func35, Try.ntmps35
      go_wp2_with fail
      go_ret
      exact ⟨by rw [hc.out]; rfl, rfl⟩
  | false =>
    have hc : Hid (chkM ⟨x, y, z⟩ = 4) := by show _ = _; unfold chkM; rw [hm]; rfl
    have ho := okM_not hm
    clear hm
    simp only at ho
    by_cases h0 : x = 0
    · subst h0
      have t1 : (y == 0) = false := by rw [beq_eq_false_iff_ne]; omega
      clear ho
      go_enter Try.func35, Try.ntmps35
      go_wp2_with fail
      go_ret
      exact ⟨by rw [hc.out]; rfl, rfl⟩
    · have t0 : (x == 0) = false := by rw [beq_eq_false_iff_ne]; exact h0
      by_cases h3 : x < 3
      · clear ho h0
        go_enter Try.func35, Try.ntmps35
        go_wp2_with fail
        go_ret
        exact ⟨by rw [hc.out]; rfl, rfl⟩
      · have g3 : 3 ≤ x := by omega
        by_cases h6 : 66 < x
        · clear ho h0 h3
          go_enter Try.func35, Try.ntmps35
          go_wp2_with fail
          go_ret
          exact ⟨by rw [hc.out]; rfl, rfl⟩
        · have g6 : x ≤ 66 := by omega
          by_cases h1 : y < 1
          · clear ho h0 h3 h6
            go_enter Try.func35, Try.ntmps35
            go_wp2_with fail
            go_ret
            exact ⟨by rw [hc.out]; rfl, rfl⟩
          · have g1 : 1 ≤ y := by omega
            have hz : ((z : Int) == 0) = false := by rw [beq_eq_false_iff_ne]; omega
            clear ho h0 h3 h6 h1
            go_enter Try.func35, Try.ntmps35
            go_wp2_with fail
            go_ret
            exact ⟨by rw [hc.out]; rfl, rfl⟩
theorem check_any (x y : Int) (z : Nat) (w : World) :
    Calls Try.prog 35 #[.agg #[.int .i64 x, .int .i64 y, .int .u8 (z : Int)]] w fun e w' => e = .returned (.int .i64 (chkM ⟨x, y, z⟩)) ∧ Below w.heap.size w w' :=
  (check_eq x y z w).mono fun _ _ h => ⟨h.1, by rw [h.2]; exact (Below.refl _ _).alloc (Nat.le_refl _) _⟩
end Go.Proofs.Ytganplceeapjcaa

/- Rows of bytes of the call's own, by their cells. -/
namespace Go.Proofs.Ytganplceeapjcaa
open Go.RowKit

theorem infoByteP : (Try.prog.info? 5).map (fun i => (i.zero, i.size, i.bytes)) = some (some (.int .u8 0), 1, 1) := by kernel_rfl
def cellsB (l : List UInt8) : List Value := l.map fun x : UInt8 => .int .u8 (x.toNat : Int)
theorem cellsB_snoc (l : List UInt8) (x : UInt8) : cellsB (l ++ [x]) = cellsB l ++ [.int .u8 (x.toNat : Int)] := by simp [cellsB]
theorem below_growB {w wr w1 : World} {N k : Nat} {e : TypeId} {v : Value} {xs : List Value} {o : Obj} (hown : wr.ownsRow N e 1 v k xs) (hbl : Below N w wr) (hN : N ≤ wr.heap.size) (hg : (wr.alloc o).grownBy w1 v.ownBlock) : Below N w w1 :=
  (hbl.alloc hN o).grown hg (by simp; omega) fun j hj => (hown.lt j hj).1
/-- a row of bytes of the call's own, as a text -/
theorem own_string {w : World} {N : Nat} {v : Value} {l : List UInt8} (h : w.ownsRow N 5 1 v l.length (cellsB l)) :
    (convert 33 9 v).run Try.prog w = .ok (.string ⟨l.toArray⟩) w := by
  rcases h.2 with ⟨rfl, hn⟩ | ⟨g, cap, cur, rfl, _, _, _, _, _, _⟩
  · have : l = [] := List.length_eq_zero_iff.1 hn
    subst this
    exact run_convert_bytes_nil w 33 5 Try.underlying33 Try.underlying5 0 0 9 Try.underlying9
  · refine run_convert_bytes_back w 33 9 5 ⟨g, 0, none⟩ cap l Try.underlying33 Try.underlying5 Try.underlying9 fun j hj => ?_
    have := h.cellAt j (by omega)
    rw [show (⟨g, 0, none⟩ : Addr).add j = ⟨g, j, none⟩ by unfold Addr.add; split <;> simp_all, this]
    simp [cellsB, hj]
end Go.Proofs.Ytganplceeapjcaa

/- What lz.size and lz.add answer. -/
namespace Go.Proofs.Ytganplceeapjcaa
open Go.RowKit

set_option maxHeartbeats 400000 in
theorem size_any (x y : Int) (z : Nat) (w : World) (h : okM ⟨x, y, z⟩ = true) :
    Calls Try.prog 36 #[.agg #[.int .i64 x, .int .i64 y, .int .u8 (z : Int)]] w fun e w' => e = .returned (.int .i64 (szM ⟨x, y, z⟩ : Nat)) ∧ Below w.heap.size w w' := by
  have hB : Hid (∀ o : Obj, Below w.heap.size w (w.alloc o)) := fun o => (Below.refl _ _).alloc (Nat.le_refl _) o
  have ho := okM_of h
  clear h
  simp only at ho
  by_cases h0 : x = 0
  · subst h0
    go_enter Try.func36, Try.ntmps36
    go_wp2_with fail
    go_ret
    exact ⟨rfl, hB.out _⟩
  · have hs : Hid ((szM ⟨x, y, z⟩ : Int) = x) := by
      show _ = _
      unfold szM
      rw [if_neg h0]
      simp only
      omega
    have hmx : (if x < 1 then (1 : Int) else x) = x := by rw [if_neg (by omega)]
    have h3 : 1 < x := by omega
    clear ho h0
    go_enter Try.func36, Try.ntmps36
    go_wp2_with fail
    go_ret
    exact ⟨by rw [hs.out]; first | rfl | (congr 2), hB.out _⟩

theorem cell_one_new2 (w : World) (o : Obj) (v : Value) (t : TypeId) : ∀ j u, [v][j]? = some u → ((w.alloc o).alloc (.cells #[v] t)).cell? ((⟨w.heap.size + 1, 0, none⟩ : Addr).add j) = some u := by
  have h := cell_one_new (w.alloc o) v t
  rwa [show (w.alloc o).heap.size = w.heap.size + 1 by simp] at h
theorem own_byte {w : World} {N n : Nat} {v : Value} {l : List UInt8} (h : w.ownsRow N 5 1 v n (cellsB l)) (hn : n = l.length) (j : Nat) (hj : j < l.length) :
    ∃ g cap, v = .slice (some ⟨g, 0, none⟩) n cap ∧ g < w.heap.size ∧ w.cell? ⟨g, j, none⟩ = some (.int .u8 ((l.getD j 0).toNat : Int)) := by
  obtain ⟨g, cap, hv, _, hg, hc⟩ := own_some h (by omega)
  refine ⟨g, cap, hv, hg, ?_⟩
  have := hc j (.int .u8 ((l.getD j 0).toNat : Int)) (by
    unfold cellsB
    rw [List.getElem?_map, List.getElem?_eq_getElem hj, List.getD_eq_getElem?_getD, List.getElem?_eq_getElem hj]; rfl)
  rw [show (⟨g, 0, none⟩ : Addr).add j = ⟨g, j, none⟩ by unfold Addr.add; split <;> simp_all] at this
  exact this

set_option maxRecDepth 20000 in
set_option maxHeartbeats 1000000 in
theorem add_any (N : Nat) (w0 : World) (v : Value) (l : List UInt8) (x y : Int) (z : Nat) (w : World) (hown : w.ownsRow N 5 1 v l.length (cellsB l)) (hbl : Below N w0 w) (hN : N ≤ w.heap.size) (hok : okM ⟨x, y, z⟩ = true) (hd : y ≤ l.length) (hl : l.length + szM ⟨x, y, z⟩ ≤ 512) (hz : z < 256) :
    Calls Try.prog 37 #[v, .agg #[.int .i64 x, .int .i64 y, .int .u8 (z : Int)]] w fun e w' => (∃ v', e = .returned v' ∧ w'.ownsRow N 5 1 v' (addM l ⟨x, y, z⟩).length (cellsB (addM l ⟨x, y, z⟩))) ∧ Below N w0 w' := by
  obtain ⟨i0, hi, hz0, hz1, hz2⟩ := info_parts infoByteP
  have KI := Hid.mk' hi
  have KZ0 := Hid.mk' hz0
  have KZ1 := Hid.mk' hz1
  have KZ2 := Hid.mk' hz2
  clear hi hz0 hz1 hz2
  have ho := okM_of hok
  simp only at ho
  clear hok
  have hnB : Hid (v.ownBlock ≠ some w.heap.size) := fun h => by have := (hown.lt _ h).2; omega
  have HO := Hid.mk' hown
  have HB := Hid.mk' hbl
  clear hown hbl
  by_cases h0 : x = 0
  · have had : Hid (addM l ⟨x, y, z⟩ = l ++ [UInt8.ofNat z]) := by show _ = _; unfold addM; rw [if_pos h0]
    have hzv : Hid (((UInt8.ofNat z).toNat : Int) = z) := by show _ = _; rw [UInt8.toNat_ofNat']; omega
    have hl2 : l.length ≤ 512 := by omega
    subst h0
    clear ho hl hd
    generalize UInt8.ofNat z = b at *
    go_enter Try.func37, Try.ntmps37
    go_wp2_with (at_builtin; refine wpList_append_own _ rfl (.tmp 8) (.tmp 11) 33 rfl N 5 i0 (.int .u8 0) 1 1 Try.underlying33 KI.out KZ0.out KZ1.out KZ2.out rfl (by decide) v _ _ rfl ((HO.out.alloc _).alloc _) ⟨w.heap.size + 1, 0, none⟩ 1 1 [.int .u8 (z : Int)] rfl rfl (cell_one_new2 w _ _ _) (one_int _ _) (by unfold maxLen; omega) (by omega) (by simp; omega) ?_; intro v' w1 hown1 hgrow1 _)
    have HB4 : Hid (Below N w0 w1) := ((HB.out.alloc hN _).alloc (by simp; omega) _).grown hgrow1 (by simp; omega) fun i hi => (HO.out.lt i hi).1
    have HO4 : Hid (w1.ownsRow N 5 1 v' (l ++ [b]).length (cellsB (l ++ [b]))) := by
      rw [List.length_append, cellsB_snoc, hzv.out]; exact hown1
    clear hown1 hgrow1
    go_wp2_with fail
    go_ret
    rw [had.out]
    exact ⟨⟨v', rfl, HO4.out⟩, HB4.out⟩
  · have hx3 : 3 ≤ x := by omega
    have hx6 : x ≤ 66 := by omega
    have hy1 : 1 ≤ y := by omega
    have t0 : (x == 0) = false := by rw [beq_eq_false_iff_ne]; omega
    obtain ⟨n, hn⟩ : ∃ n : Nat, x = (n : Int) := ⟨x.toNat, by omega⟩
    obtain ⟨d, hdd⟩ : ∃ d : Nat, y = (d : Int) := ⟨y.toNat, by omega⟩
    subst hn hdd
    have had : Hid (addM l ⟨(n : Int), (d : Int), z⟩ = cpy d n l) := by
      show _ = _
      unfold addM
      rw [if_neg (by simp only; omega)]
      simp only [Int.toNat_natCast]
    have hln : l.length + n ≤ 512 := by
      have : szM ⟨(n : Int), (d : Int), z⟩ = n := by unfold szM; rw [if_neg (by simp only; omega)]; simp only [Int.toNat_natCast]
      omega
    have hdl : d ≤ l.length := by omega
    have hd1 : 1 ≤ d := by omega
    clear ho hl hd h0
    go_enter Try.func37, Try.ntmps37
    go_wp2_with fail
    obtain ⟨W1, hW1⟩ : ∃ W1, Hid (w.alloc (.cells #[.int .i64 (n : Int), .int .i64 (d : Int), .int .u8 (z : Int)] 53) = W1) := ⟨_, Hid.mk' rfl⟩
    have HO1 : Hid (W1.ownsRow N 5 1 v l.length (cellsB l)) := by rw [← hW1.out]; exact HO.out.alloc _
    have HB1 : Hid (Below N w0 W1) := by rw [← hW1.out]; exact HB.out.alloc hN _
    have HC1 : Hid (W1.cell? ⟨w.heap.size, 1, none⟩ = some (.int .i64 (d : Int))) := by rw [← hW1.out]; show _ = _; rw [World.cell?_alloc_new]; rfl
    have HS1 : Hid (w.heap.size < W1.heap.size) := by rw [← hW1.out]; show _ < _; simp
    rw [hW1.out]
    go_loopw [0, 15] (fun ov iv wr => ∃ (k : Nat) (m : List UInt8), k ≤ n ∧ iv = .int .i64 (k : Int) ∧ wr.ownsRow N 5 1 ov m.length (cellsB m) ∧ m.length = l.length + k ∧ cpy d (n - k) m = cpy d n l ∧ wr.cell? ⟨w.heap.size, 1, none⟩ = some (.int .i64 (d : Int)) ∧ ov.ownBlock ≠ some w.heap.size ∧ w.heap.size < wr.heap.size ∧ Below N w0 wr) (fun _ iv _ => n - (intOf iv).toNat)
    case atStart => exact ⟨0, l, Nat.zero_le _, rfl, HO1.out, rfl, rfl, HC1.out, hnB.out, HS1.out, HB1.out⟩
    case round =>
      obtain ⟨k, m, hk, rfl, hown, hml, hcp, hcd, hne, hsz, hbl⟩ := hrel
      have HOr := Hid.mk' hown
      have HCp := Hid.mk' hcp
      have HNe := Hid.mk' hne
      have HBr := Hid.mk' hbl
      have HML := Hid.mk' hml
      clear hown hcp hne hbl
      by_cases hlt : k < n
      · obtain ⟨j, hj⟩ : ∃ j, m.length - d = j := ⟨_, rfl⟩
        obtain ⟨g, cp, rfl, hg, hcell⟩ := own_byte HOr.out rfl j (by omega)
        have HStep : Hid (cpy d (n - (k + 1)) (m ++ [m.getD j 0]) = cpy d n l) := by
          show _ = _
          rw [← HCp.out, show n - k = (n - (k + 1)) + 1 by omega, cpy, hj]
        obtain ⟨L, hL⟩ : ∃ L, m.length = L := ⟨_, rfl⟩
        have hLd : (L : Int) - (d : Int) = (j : Int) := by omega
        have hjL : j < L := by omega
        have hLb : L ≤ 512 := by omega
        generalize m.getD j 0 = b at *
        rw [hL]
        rw [hL] at HOr
        clear hml hj
        go_wp2_with (at_builtin; refine wpList_append_own_at _ rfl (.tmp 17) (.tmp 26) 33 rfl N 5 i0 (.int .u8 0) 1 1 Try.underlying33 KI.out KZ0.out KZ1.out KZ2.out rfl (by decide) (.slice (some ⟨g, 0, none⟩) L cp) _ _ rfl (HOr.out.alloc _) ⟨wr.heap.size, 0, none⟩ 1 1 [.int .u8 (b.toNat : Int)] rfl rfl (cell_one_new _ _ _) (one_int _ _) (by unfold maxLen; omega) (by omega) (by have := HBr.out.size; simp; omega) ?_; intro v5 w5 hown5 hgrow5 _ hat5)
        have HO5 : Hid (w5.ownsRow N 5 1 v5 (m ++ [b]).length (cellsB (m ++ [b]))) := by
          rw [List.length_append, cellsB_snoc, hL]; exact hown5
        have HB5 : Hid (Below N w0 w5) := (HBr.out.alloc (by have := HBr.out.size; omega) _).grown hgrow5 (by have := HBr.out.size; simp; omega) fun i hi => (HOr.out.lt i hi).1
        have hs5 := hgrow5.size
        have hs6 : w.heap.size < w5.heap.size := by simp at hs5; omega
        have HC5 : Hid (w5.cell? ⟨w.heap.size, 1, none⟩ = some (.int .i64 (d : Int))) := by
          show _ = _
          rw [World.cell?_of_block (hgrow5.block w.heap.size (by simp; omega) (fun he => HNe.out he.symm))]
          rw [World.cell?_of_block (w := wr) (heap_alloc_old wr _ hsz)]
          exact hcd
        have HN5 : Hid (v5.ownBlock ≠ some w.heap.size) := by
          intro he
          rcases hat5 with h1 | h1
          · exact HNe.out (h1 ▸ he)
          · rw [he] at h1
            simp at h1
            omega
        have HL5 : Hid ((m ++ [b]).length = l.length + (k + 1)) := by show _ = _; have := HML.out; simp; omega
        clear hown5 hgrow5 hat5
        go_wp2_with fail
        go_roundw
        case rel => exact ⟨k + 1, m ++ [b], by omega, by go_num, HO5.out, HL5.out, HStep.out, HC5.out, HN5.out, hs6, HB5.out⟩
        case measure => simp [intOf]; omega
      · have hkn : k = n := by omega
        have hend : Hid (m = cpy d n l) := by
          show _ = _
          rw [← HCp.out, hkn, Nat.sub_self]; rfl
        go_wp2_with fail
        go_ret
        rw [had.out, ← hend.out]
        exact ⟨⟨_, rfl, HOr.out⟩, HBr.out⟩
end Go.Proofs.Ytganplceeapjcaa

/- What lz.Expand answers. -/
namespace Go.Proofs.Ytganplceeapjcaa
open Go.RowKit

theorem box_cells (w : World) (x y z : Value) (t : TypeId) : (w.alloc (.cells #[x, y, z] t)).cell? ⟨w.heap.size, 0, none⟩ = some x ∧ (w.alloc (.cells #[x, y, z] t)).cell? ⟨w.heap.size, 1, none⟩ = some y ∧ (w.alloc (.cells #[x, y, z] t)).cell? ⟨w.heap.size, 2, none⟩ = some z := by
  refine ⟨?_, ?_, ?_⟩ <;> (rw [World.cell?_alloc_new]; rfl)

set_option maxRecDepth 20000 in
set_option maxHeartbeats 1000000 in
theorem expand_any (a0 : Option Addr) (len cap : Nat) (M : Nat → Mk) (w : World) (hP : Mks w a0 len M) :
    Calls Try.prog 26 #[.slice a0 len cap] w fun e w' => e = .returned (.tuple #[.string ⟨(exA (mkL M 0 len)).toArray⟩, .int .i64 (exE (mkL M 0 len) [])]) ∧ Below w.heap.size w w' := by
  have hlen := hP.lenB
  have HP := Hid.mk' hP
  clear hP
  go_enter Try.func26, Try.ntmps26
  go_wp2_with fail
  go_loopw [4, 10] (fun ov iv wr => ∃ (k : Nat) (out : List UInt8), k ≤ len ∧ iv = .int .i64 (k : Int) ∧ wr.ownsRow w.heap.size 5 1 ov out.length (cellsB out) ∧ out.length ≤ 512 ∧ exE (mkL M 0 len) [] = exE (mkL M k len) out ∧ exT (mkL M 0 len) [] = exT (mkL M k len) out ∧ Below w.heap.size w wr) (fun _ iv _ => len - (intOf iv).toNat)
  case atStart => exact ⟨0, [], Nat.zero_le _, rfl, World.ownsRow_nil _ _ _ _, by simp, rfl, rfl, Below.refl _ _⟩
  case round =>
    obtain ⟨k, out, hk, rfl, hown, hol, hE, hT, hbl⟩ := hrel
    have HO := Hid.mk' hown
    have HE := Hid.mk' hE
    have HT := Hid.mk' hT
    have HB := Hid.mk' hbl
    have hsz := hbl.size
    obtain ⟨ao, cp, rfl⟩ := own_slice' hown
    clear hown hE hT hbl
    by_cases hlt : k < len
    · obtain ⟨b, off, rfl, hb, hc⟩ := HP.out.at' (by omega)
      have c0 := (HB.out.cell (p := ⟨b, off + k * 3, none⟩) hb).trans (hc k hlt).1
      have c1 := (HB.out.cell (p := ⟨b, off + k * 3 + 1, none⟩) hb).trans (hc k hlt).2.1
      have c2 := (HB.out.cell (p := ⟨b, off + k * 3 + 2, none⟩) hb).trans (hc k hlt).2.2
      have hby := HP.out.bB k hlt
      have hlb := HP.out.lB k hlt
      have hdb := HP.out.dB k hlt
      have hcons := Hid.mk' (mkL_cons M k len hlt)
      obtain ⟨m, hm⟩ : ∃ m, Hid (M k = m) := ⟨_, Hid.mk' rfl⟩
      rw [hm.out] at c0 c1 c2 hby hlb hdb hcons
      clear hc
      obtain ⟨x, y, z⟩ := m
      simp only at c0 c1 c2 hby hlb hdb
      obtain ⟨hl1, hl2⟩ := hlb
      obtain ⟨hd1, hd2⟩ := hdb
      have hbc := box_cells wr (.int .i64 x) (.int .i64 y) (.int .u8 (z : Int)) 53
      obtain ⟨W1, hW1⟩ : ∃ W1, Hid (wr.alloc (.cells #[.int .i64 x, .int .i64 y, .int .u8 (z : Int)] 53) = W1) := ⟨_, Hid.mk' rfl⟩
      rw [hW1.out] at hbc
      have HB1 : Hid (Below w.heap.size w W1) := by rw [← hW1.out]; exact HB.out.alloc hsz _
      have HO1 : Hid (W1.ownsRow w.heap.size 5 1 (.slice ao out.length cp) out.length (cellsB out)) := by rw [← hW1.out]; exact HO.out.alloc _
      have hs1 : W1.heap.size = wr.heap.size + 1 := by rw [← hW1.out]; simp
      obtain ⟨b0, b1, b2⟩ := hbc
      go_wp2_with fail
      rw [hW1.out]
      go_wp2_with fail
      refine (check_any x y z _).mono ?_
      rintro e w2 ⟨rfl, hb2⟩
      have d0 := (hb2.cell (p := ⟨wr.heap.size, 0, none⟩) (by show wr.heap.size < _; omega)).trans b0
      have d1 := (hb2.cell (p := ⟨wr.heap.size, 1, none⟩) (by show wr.heap.size < _; omega)).trans b1
      have d2 := (hb2.cell (p := ⟨wr.heap.size, 2, none⟩) (by show wr.heap.size < _; omega)).trans b2
      have HB2 := Hid.mk' (HB1.out.trans (hb2.mono (by have := HB1.out.size; omega)))
      have HO2 := Hid.mk' (own_below HO1.out hb2)
      have hs2 := hb2.size
      clear b0 b1 b2 hb2 c0 c1 c2
      cases hok : okM ⟨x, y, z⟩ with
      | false =>
        have hc4 : chkM ⟨x, y, z⟩ = 4 := by unfold chkM; rw [hok]; rfl
        have hfe : Hid (exE (mkL M 0 len) [] = 4) := by show _ = _; rw [HE.out, hcons.out]; exact exE_form _ _ _ hok
        have hfa := Hid.mk' (exA_bad _ _ hfe.out (by decide))
        rw [hc4]
        clear hok hc4
        go_wp2_with fail
        go_ret2
        refine ⟨?_, HB2.out⟩
        rw [hfe.out, hfa.out]
        rfl
      | true =>
        have hc0 : chkM ⟨x, y, z⟩ = 0 := by unfold chkM; rw [hok]; rfl
        have HK := Hid.mk' hok
        rw [hc0]
        clear hok hc0
        by_cases hd : (out.length : Int) < y
        · have hfe : Hid (exE (mkL M 0 len) [] = 8) := by show _ = _; rw [HE.out, hcons.out]; exact exE_dist _ _ _ HK.out hd
          have hfa := Hid.mk' (exA_bad _ _ hfe.out (by decide))
          go_wp2_with fail
          go_ret2
          refine ⟨?_, HB2.out⟩
          rw [hfe.out, hfa.out]
          rfl
        · have hyl : y ≤ out.length := by omega
          clear hd
          go_wp2_with fail
          refine (size_any x y z _ HK.out).mono ?_
          rintro e w3 ⟨rfl, hb3⟩
          have f0 := (hb3.cell (p := ⟨wr.heap.size, 0, none⟩) (by show wr.heap.size < _; omega)).trans d0
          have f1 := (hb3.cell (p := ⟨wr.heap.size, 1, none⟩) (by show wr.heap.size < _; omega)).trans d1
          have f2 := (hb3.cell (p := ⟨wr.heap.size, 2, none⟩) (by show wr.heap.size < _; omega)).trans d2
          have HB3 := Hid.mk' (HB2.out.trans (hb3.mono (by have := HB2.out.size; omega)))
          have HO3 := Hid.mk' (own_below HO2.out hb3)
          have hs3 := hb3.size
          clear d0 d1 d2 hb3
          obtain ⟨n, hn⟩ : ∃ n, Hid (szM ⟨x, y, z⟩ = n) := ⟨_, Hid.mk' rfl⟩
          have hn66 : n ≤ 66 := by
            rw [← hn.out]
            have := okM_of HK.out
            unfold szM
            simp only at this ⊢
            split <;> omega
          rw [hn.out]
          by_cases hlg : 512 < out.length + n
          · have tl : decide (512 < out.length + n) = true := decide_eq_true hlg
            have hfe : Hid (exE (mkL M 0 len) [] = 2) := by show _ = _; rw [HE.out, hcons.out]; exact exE_large _ _ _ HK.out (Int.not_lt.2 hyl) (by rw [hn.out]; exact hlg)
            have hfa := Hid.mk' (exA_bad _ _ hfe.out (by decide))
            go_wp2_with fail
            go_ret2
            refine ⟨?_, HB3.out⟩
            rw [hfe.out, hfa.out]
            rfl
          · have tl : decide (512 < out.length + n) = false := decide_eq_false hlg
            have HE6 : Hid (exE (mkL M 0 len) [] = exE (mkL M (k + 1) len) (addM out ⟨x, y, z⟩)) := by show _ = _; rw [HE.out, hcons.out]; exact exE_step _ _ _ HK.out (Int.not_lt.2 hyl) (by rw [hn.out]; exact hlg)
            have HT6 : Hid (exT (mkL M 0 len) [] = exT (mkL M (k + 1) len) (addM out ⟨x, y, z⟩)) := by show _ = _; rw [HT.out, hcons.out, exT]
            have HL6 : Hid ((addM out ⟨x, y, z⟩).length ≤ 512) := by show _ ≤ _; rw [addM_len, hn.out]; omega
            go_wp2_with fail
            refine (add_any w.heap.size w _ out x y z _ HO3.out HB3.out (by omega) HK.out hyl (by rw [hn.out]; omega) hby).mono ?_
            rintro e w4 ⟨⟨v4, rfl, hown4⟩, hb4⟩
            have HO4 := Hid.mk' hown4
            have HB4 := Hid.mk' hb4
            clear hown4 hb4
            go_wp2_with fail
            go_roundw
            case rel => exact ⟨k + 1, addM out ⟨x, y, z⟩, by omega, by go_num, HO4.out, HL6.out, HE6.out, HT6.out, HB4.out⟩
            case measure => simp [intOf]; omega
    · have hkl : k = len := by omega
      have hfe : Hid (exE (mkL M 0 len) [] = 0) := by show _ = _; rw [HE.out, hkl, mkL_end]; rfl
      have hfa : Hid (exA (mkL M 0 len) = out) := by show _ = _; rw [exA_ok _ hfe.out, HT.out, hkl, mkL_end]; rfl
      have hcs := own_string HO.out
      clear hkl
      go_wp2_with fail
      go_ret2
      refine ⟨?_, HB.out⟩
      rw [hfe.out, hfa.out]
      rfl
end Go.Proofs.Ytganplceeapjcaa

/- What press.readMarks answers. -/
namespace Go.Proofs.Ytganplceeapjcaa
open Go.RowKit

theorem make_msU (n : Nat) (hn : n ≤ 512) (w : World) :
    (Instr.makeSlice 34 (.int .u64 (n : Int)) (.int .u64 (n : Int))).run Try.prog w = .ok (.slice (some ⟨w.heap.size, 0, none⟩) n n) (w.alloc (.cells (madeCells #[.int .i64 0, .int .i64 0, .int .u8 0] (n * 3)) 53)) := by
  obtain ⟨i, hi, hzz⟩ := Option.map_eq_some_iff.1 infoMk
  simp only [Prod.mk.injEq] at hzz
  obtain ⟨hz, hs, hb⟩ := hzz
  have hr := run_make (P := Try.prog) w 34 53 i _ Try.underlying34 hi hz .u64 .u64 n n (by omega) (Int.le_refl _) (by rw [hb]; omega) (by omega)
  rw [Int.toNat_natCast, hs] at hr
  exact hr
theorem rmR_num {t : List UInt8} (h : ¬ (getE t = 0 ∧ getA t ≤ 512)) : rmR t = none := by unfold rmR; rw [if_neg h]
theorem rmR_one {t : List UInt8} (h : rbk (t.drop (getK t)) 320 = none) : rmR t = none := by
  unfold rmR rmM; rw [h]; split <;> rfl
theorem rmR_two {t b1 : List UInt8} {l1 : List Nat} (h : rbk (t.drop (getK t)) 320 = some (l1, b1)) (h2 : rbk b1 9 = none) : rmR t = none := by
  unfold rmR rmM; rw [h]; simp only; rw [h2]; split <;> rfl
theorem rmR_none {t b1 b2 : List UInt8} {l1 l2 : List Nat} (h : rbk (t.drop (getK t)) 320 = some (l1, b1)) (h2 : rbk b1 9 = some (l2, b2)) (h3 : mkS (rowQ l1) (rowQ l2) ⟨b2.toArray⟩ 0 (getA t) = none) : rmR t = none := by
  unfold rmR rmM; rw [h]; simp only; rw [h2]; simp only; rw [h3]; split <;> rfl
theorem rmR_all {t b1 b2 : List UInt8} {l1 l2 : List Nat} {ms : List Mk} {e : Nat} (h0 : getE t = 0 ∧ getA t ≤ 512) (h : rbk (t.drop (getK t)) 320 = some (l1, b1)) (h2 : rbk b1 9 = some (l2, b2)) (h3 : mkS (rowQ l1) (rowQ l2) ⟨b2.toArray⟩ 0 (getA t) = some (ms, e)) :
    rmR t = if exE ms [] = 0 ∧ endB ⟨b2.toArray⟩ e = true then some (exT ms []) else none := by
  unfold rmR rmM
  rw [if_pos h0, h]; simp only; rw [h2]; simp only; rw [h3]; simp only
  by_cases hE : endB ⟨b2.toArray⟩ e = true
  · rw [if_pos hE]; simp only
    by_cases hx : exE ms [] = 0
    · rw [if_pos hx, if_pos ⟨hx, hE⟩]
    · rw [if_neg hx, if_neg (fun hh => hx hh.1)]
  · rw [if_neg hE, if_neg (fun hh => hE hh.2)]
theorem byteArr (s : ByteArray) : (⟨s.data.toList.toArray⟩ : ByteArray) = s := by cases s; simp
theorem mkL_rowM (l : List Mk) (n : Nat) (h : l.length = n) (M : Nat → Mk) (hM : ∀ i, i < n → M i = l.getD i ⟨0, 0, 0⟩) : mkL M 0 n = l := by
  apply List.ext_getElem
  · rw [mkL_length]; omega
  · intro i h1 h2
    simp only [mkL, List.getElem_map, List.getElem_range, Nat.zero_add]
    rw [hM i (by omega), List.getD_eq_getElem?_getD, List.getElem?_eq_getElem h2]; rfl
theorem rdr_new (w : World) (s : ByteArray) (g1 g2 : Nat) (t : TypeId) : Rdr (w.alloc (.cells #[.string s, .int .i64 0, .pointer (some ⟨g1, 0, none⟩), .pointer (some ⟨g2, 0, none⟩)] t)) w.heap.size s 0 g1 g2 := by
  refine ⟨?_, ?_, ?_, ?_, ?_, by simp⟩
  · rw [World.cell?_alloc_new]; rfl
  · rw [World.cell?_alloc_new]; rfl
  · rw [World.cell?_alloc_new]; rfl
  · rw [World.cell?_alloc_new]; rfl
  · unfold World.frozen?
    rw [heap_alloc_new]
    rfl
def RmAns (s x : ByteArray) (ok : Bool) : Prop := (ok = true ∧ rmR s.data.toList = some x.data.toList) ∨ (ok = false ∧ rmR s.data.toList = none)

set_option maxRecDepth 20000 in
set_option maxHeartbeats 2000000 in
theorem pmarks_any (s : ByteArray) (w : World) (hs : s.size ≤ 140737488355328) :
    Calls Try.prog 14 #[.string s] w fun e w' => (∃ x ok, e = .returned (.tuple #[.string x, .bool ok]) ∧ RmAns s x ok) ∧ Below w.heap.size w w' := by
  have hbad : Hid (rmR s.data.toList = none → ∀ wx : World, Below w.heap.size w wx → (∃ x ok, Ending.returned (.tuple #[.string ⟨#[]⟩, .bool false]) = .returned (.tuple #[.string x, .bool ok]) ∧ RmAns s x ok) ∧ Below w.heap.size w wx) := fun h wx hb => ⟨⟨_, false, rfl, .inr ⟨rfl, h⟩⟩, hb⟩
  by_cases hE : getE s.data.toList = 0
  · by_cases hA : getA s.data.toList ≤ 512
    · have H0 : Hid (getE s.data.toList = 0 ∧ getA s.data.toList ≤ 512) := ⟨hE, hA⟩
      have hk := (getK_le s.data.toList hE).1
      rw [show s.data.toList.length = s.size by simp] at hk
      obtain ⟨k, hk'⟩ : ∃ k, Hid (getK s.data.toList = k) := ⟨_, Hid.mk' rfl⟩
      obtain ⟨A, hA'⟩ : ∃ A, Hid (getA s.data.toList = A) := ⟨_, Hid.mk' rfl⟩
      rw [hk'.out] at hk
      rw [hA'.out] at hA
      have HE := Hid.mk' hE
      have hq0 : (0 : Int) ≤ (k : Int) := by omega
      have hq1 : (k : Int) ≤ (s.size : Int) := by omega
      have hqb : k ≤ 9223372036854775807 := by omega
      have t5 : decide (512 < A) = false := decide_eq_false (by omega)
      have hT0 : (s.extract k s.size).size ≤ 140737488355328 := by rw [ext_sizeQ]; omega
      have HT0 : Hid ((s.extract k s.size).data.toList = s.data.toList.drop (getK s.data.toList)) := by show _ = _; rw [ext_listQ, hk'.out]
      clear hE
      go_enter Try.func14, Try.ntmps14
      go_wp2_with fail
      refine (get_any s _).mono ?_
      rintro e w' ⟨rfl, hw'⟩; obtain rfl := hw'.symm
      rw [HE.out, hk'.out, hA'.out]
      go_wp2_with fail
      refine (pbook_any (s.extract k s.size) 320 _ hT0).mono ?_
      rintro e w1 ⟨⟨p1, t1, ok1, rfl, hans1⟩, hb1⟩
      have HBl1 := Hid.mk' hb1
      clear hb1
      rcases hans1 with ⟨rfl, l1, g1, hr1, rfl, hk1, hz1⟩ | ⟨rfl, hr1⟩
      · rw [HT0.out] at hr1
        have HR1 := Hid.mk' hr1
        have HK1 := Hid.mk' hk1
        have hzt1 : t1.size ≤ 140737488355328 := by omega
        clear hr1 hk1 hz1
        go_wp2_with fail
        refine (pbook_any t1 9 _ hzt1).mono ?_
        rintro e w2 ⟨⟨p2, t2, ok2, rfl, hans2⟩, hb2⟩
        have HBl2 : Hid (Below w.heap.size w w2) := HBl1.out.trans (hb2.mono HBl1.out.size)
        have HK1' : Hid (BookOf w2 g1 (rowQ l1) 320) := HK1.out.below hb2
        clear hb2
        rcases hans2 with ⟨rfl, l2, g2, hr2, rfl, hk2, hz2⟩ | ⟨rfl, hr2⟩
        · have HR2 := Hid.mk' hr2
          have HK2 := Hid.mk' hk2
          have hzt2 : t2.size ≤ 140737488363520 := by omega
          have HE1 : Hid (canE (rowQ l1) 320 = 0) := rbk_len HR1.out
          have HE2 : Hid (canE (rowQ l2) 9 = 0) := rbk_len HR2.out
          have hmk := make_msU A hA
          clear hr2 hk2 hz2
          go_wp2_with fail
          clear hmk
          go_loopw [52] (fun iv wr => ∃ (i b : Nat) (ms : List Mk), i ≤ A ∧ iv = .int .i64 (i : Int) ∧ mkS (rowQ l1) (rowQ l2) t2 0 i = some (ms, b) ∧ Rdr wr w2.heap.size t2 b g1 g2 ∧ RowMs wr (w2.heap.size + 1) A (fun j => ms.getD j ⟨0, 0, 0⟩) ∧ Below w2.heap.size w2 wr ∧ w2.heap.size + 2 ≤ wr.heap.size) (fun iv _ => A - (intOf iv).toNat)
          case atStart =>
            have hrd := rdr_new w2 t2 g1 g2 61
            have hrow := rowMs_made (w2.alloc (.cells #[.string t2, .int .i64 0, .pointer (some ⟨g1, 0, none⟩), .pointer (some ⟨g2, 0, none⟩)] 61)) A 53
            have hsz : (w2.alloc (.cells #[.string t2, .int .i64 0, .pointer (some ⟨g1, 0, none⟩), .pointer (some ⟨g2, 0, none⟩)] 61)).heap.size = w2.heap.size + 1 := by simp
            rw [hsz] at hrow
            exact ⟨0, 0, [], Nat.zero_le _, rfl, rfl, hrd.block (Below.heap_alloc _ _ _ (by rw [hsz]; omega)) (by simp), hrow.congr fun i _ => rfl, ((Below.refl _ _).alloc (Nat.le_refl _) _).alloc (by rw [hsz]; omega) _, by simp⟩
          case round =>
            obtain ⟨i, b, ms, hi, rfl, hmk, hrd, hrow, hbl, hsz⟩ := hrel
            have HM := Hid.mk' hmk
            have HRd := Hid.mk' hrd
            have HRw := Hid.mk' hrow
            have HBl := Hid.mk' hbl
            obtain ⟨hms, hbs, hml⟩ := mkS_ok (Nat.zero_le _) i ms b hmk
            have HMs := Hid.mk' hms
            have HMl := Hid.mk' hml
            clear hmk hrd hrow hbl hms hml
            by_cases hlt : i < A
            · go_wp2_with fail
              refine (pmark_any w2 wr t2 b g1 g2 (rowQ l1) (rowQ l2) HE1.out HE2.out HK1'.out HK2.out HBl.out HRd.out hzt2 hbs).mono ?_
              rintro e w3 ⟨⟨m, ok, rfl, hans⟩, hG⟩
              have HB3 : Hid (Below w2.heap.size w2 w3) := below_grown HBl.out hG (by omega)
              have HRw3 : Hid (RowMs w3 (w2.heap.size + 1) A (fun j => ms.getD j ⟨0, 0, 0⟩)) := HRw.out.block (hG.block _ HRw.out.lt (fun e => by have := Option.some.inj e; omega)) hG.size
              have hs3 : w2.heap.size + 2 ≤ w3.heap.size := Nat.le_trans hsz hG.size
              have k0 := HRw3.out.c0 i hlt
              have k1 := HRw3.out.c1 i hlt
              have k2 := HRw3.out.c2 i hlt
              have f0 := HRw3.out.fz (i * 3) (by omega)
              have f1 := HRw3.out.fz (i * 3 + 1) (by omega)
              have f2 := HRw3.out.fz (i * 3 + 2) (by omega)
              have HSet := Hid.mk' (HRw3.out.set i hlt m)
              have HBs : Hid (∀ x y z : Value, Below w2.heap.size w2 (((w3.setCell ⟨w2.heap.size + 1, i * 3, none⟩ x).setCell ⟨w2.heap.size + 1, i * 3 + 1, none⟩ y).setCell ⟨w2.heap.size + 1, i * 3 + 2, none⟩ z)) := fun x y z => ((HB3.out.setCell (p := ⟨w2.heap.size + 1, i * 3, none⟩) (by show w2.heap.size ≤ w2.heap.size + 1; omega) _).setCell (p := ⟨w2.heap.size + 1, i * 3 + 1, none⟩) (by show w2.heap.size ≤ w2.heap.size + 1; omega) _).setCell (p := ⟨w2.heap.size + 1, i * 3 + 2, none⟩) (by show w2.heap.size ≤ w2.heap.size + 1; omega) _
              clear hG
              rcases hans with ⟨rfl, c, hm1, hr3⟩ | ⟨rfl, hm1⟩
              · have HS := Hid.mk' (mkS_step HM.out hm1)
                have HR3 := Hid.mk' hr3
                clear hm1 hr3
                go_wp2_with fail
                go_roundw
                case rel =>
                  refine ⟨i + 1, c, ms ++ [m], by omega, by go_num, HS.out, HR3.out.block ((heap_setCell_other _ _ _ _ (by show w2.heap.size ≠ w2.heap.size + 1; omega)).trans ((heap_setCell_other _ _ _ _ (by show w2.heap.size ≠ w2.heap.size + 1; omega)).trans (heap_setCell_other _ _ _ _ (by show w2.heap.size ≠ w2.heap.size + 1; omega)))) (by rw [size_set3]; exact Nat.le_refl _), HSet.out.congr fun j hj => ?_, HBs.out _ _ _, by rw [size_set3]; exact hs3⟩
                  have hml := HMl.out
                  by_cases e : j = i
                  · subst e
                    rw [if_pos rfl, List.getD_eq_getElem?_getD, List.getElem?_append_right (by omega)]
                    simp [hml]
                  · rw [if_neg e]
                    by_cases hj2 : j < i
                    · rw [List.getD_eq_getElem?_getD, List.getD_eq_getElem?_getD, List.getElem?_append_left (by omega)]
                    · rw [List.getD_eq_getElem?_getD, List.getD_eq_getElem?_getD, List.getElem?_eq_none (by omega), List.getElem?_eq_none (by rw [List.length_append]; simp; omega)]
                case measure => simp [intOf]; omega
              · have HN : Hid (rmR s.data.toList = none) := rmR_none HR1.out HR2.out (by rw [byteArr, hA'.out]; exact mkS_stays (mkS_none HM.out hm1) (by omega))
                clear hm1
                go_wp2_with fail
                go_ret2
                exact hbad.out HN.out _ (HBl2.out.trans ((HBs.out _ _ _).mono HBl2.out.size))
            · have hiA : Hid (i = A) := by show _ = _; omega
              have HAll : Hid (rmR s.data.toList = if exE ms [] = 0 ∧ endB t2 b = true then some (exT ms []) else none) := by
                have h := rmR_all H0.out HR1.out HR2.out (ms := ms) (e := b) (by rw [byteArr, hA'.out, ← hiA.out]; exact HM.out)
                rwa [byteArr] at h
              have HMks : Hid (Mks wr (some ⟨w2.heap.size + 1, 0, none⟩) A (fun j => ms.getD j ⟨0, 0, 0⟩)) := by
                refine HRw.out.mks hA fun j hj => ?_
                have hml := HMl.out
                have hia := hiA.out
                have hm := HMs.out _ (List.getElem_mem (show j < ms.length by omega))
                rw [List.getD_eq_getElem?_getD, List.getElem?_eq_getElem (by omega), Option.getD_some]
                obtain ⟨q1, q2, q3⟩ := hm
                exact ⟨by omega, by omega, q3⟩
              have HL : Hid (mkL (fun j => ms.getD j ⟨0, 0, 0⟩) 0 A = ms) := mkL_rowM ms A (by rw [HMl.out, hiA.out]) _ (fun _ _ => rfl)
              go_wp2_with fail
              refine (expand_any (some ⟨w2.heap.size + 1, 0, none⟩) A A _ _ HMks.out).mono ?_
              rintro e w4 ⟨rfl, hb4⟩
              rw [HL.out]
              have HB4 : Hid (Below w.heap.size w w4) := HBl2.out.trans ((HBl.out.mono (Nat.le_refl _)).mono HBl2.out.size |>.trans (hb4.mono (by have := HBl2.out.size; omega)))
              have HR4 : Hid (Rdr w4 w2.heap.size t2 b g1 g2) := HRd.out.block (hb4.block _ HRd.out.lt) hb4.size
              clear hb4
              obtain ⟨x, hx⟩ : ∃ x, Hid ((⟨(exA ms).toArray⟩ : ByteArray) = x) := ⟨_, Hid.mk' rfl⟩
              obtain ⟨y, hy⟩ : ∃ y, Hid (exE ms [] = y) := ⟨_, Hid.mk' rfl⟩
              rw [hx.out, hy.out]
              rw [hy.out] at HAll
              by_cases hy0 : y = 0
              · subst hy0
                have HX : Hid (x.data.toList = exT ms []) := by
                  show _ = _
                  rw [← hx.out]
                  unfold exA
                  rw [if_pos hy.out]
                go_wp2_with fail
                refine (pend_any w4 w2.heap.size t2 b g1 g2 HR4.out hzt2 hbs).mono ?_
                rintro e w5 ⟨rfl, hb5⟩
                have HB5 : Hid (Below w.heap.size w w5) := HB4.out.trans (hb5.mono HB4.out.size)
                clear hb5
                obtain ⟨c, hc⟩ : ∃ c, Hid (endB t2 b = c) := ⟨_, Hid.mk' rfl⟩
                rw [hc.out] at HAll ⊢
                go_wp2_with fail
                go_ret2
                refine ⟨⟨x, c, rfl, ?_⟩, HB5.out⟩
                unfold RmAns
                rw [HAll.out]
                cases c with
                | true => exact .inl ⟨rfl, by rw [if_pos (by simp), HX.out]⟩
                | false => exact .inr ⟨rfl, by rw [if_neg (by simp)]⟩
              · have ty : (y == 0) = false := by rw [beq_eq_false_iff_ne]; exact hy0
                have HN : Hid (rmR s.data.toList = none) := by show _ = _; rw [HAll.out, if_neg (fun h => hy0 h.1)]
                clear HAll
                go_wp2_with fail
                go_ret2
                exact ⟨⟨x, false, rfl, .inr ⟨rfl, HN.out⟩⟩, HB4.out⟩
        · have HN := Hid.mk' (rmR_two HR1.out hr2)
          clear hr2
          go_wp2_with fail
          go_ret2
          exact hbad.out HN.out _ HBl2.out
      · have HN : Hid (rmR s.data.toList = none) := rmR_one (by rw [← HT0.out]; exact hr1)
        clear hr1
        go_wp2_with fail
        go_ret2
        exact hbad.out HN.out _ HBl1.out
    · have HN : Hid (rmR s.data.toList = none) := rmR_num (fun h => hA h.2)
      obtain ⟨k, hk'⟩ : ∃ k, Hid (getK s.data.toList = k) := ⟨_, Hid.mk' rfl⟩
      obtain ⟨A, hA'⟩ : ∃ A, Hid (getA s.data.toList = A) := ⟨_, Hid.mk' rfl⟩
      rw [hA'.out] at hA
      have HE := Hid.mk' hE
      have t5 : decide (512 < A) = true := decide_eq_true (by omega)
      clear hE
      go_enter Try.func14, Try.ntmps14
      go_wp2_with fail
      refine (get_any s _).mono ?_
      rintro e w' ⟨rfl, hw'⟩; obtain rfl := hw'.symm
      rw [HE.out, hk'.out, hA'.out]
      go_wp2_with fail
      go_ret2
      exact hbad.out HN.out _ (Below.refl _ _)
  · have HN : Hid (rmR s.data.toList = none) := rmR_num (fun h => hE h.1)
    have hne : (getE s.data.toList != 0) = true := by rw [bne_iff_ne]; exact hE
    obtain ⟨x, hx⟩ : ∃ x, Hid (getE s.data.toList = x) := ⟨_, Hid.mk' rfl⟩
    rw [hx.out] at hne hE
    obtain ⟨k, hk'⟩ : ∃ k, Hid (getK s.data.toList = k) := ⟨_, Hid.mk' rfl⟩
    obtain ⟨A, hA'⟩ : ∃ A, Hid (getA s.data.toList = A) := ⟨_, Hid.mk' rfl⟩
    clear hE
    go_enter Try.func14, Try.ntmps14
    go_wp2_with fail
    refine (get_any s _).mono ?_
    rintro e w' ⟨rfl, hw'⟩; obtain rfl := hw'.symm
    rw [hx.out, hk'.out, hA'.out]
    go_wp2_with fail
    go_ret2
    exact hbad.out HN.out _ (Below.refl _ _)
end Go.Proofs.Ytganplceeapjcaa

/- What strings.Clone answers. -/
namespace Go.Proofs.Ytganplceeapjcaa
open Go.RowKit

theorem cellsOfByte : Try.prog.cellsOf 5 = 1 := by kernel_rfl
theorem sizeOfByte : (Try.prog.info? 5).map (·.size) = some 1 := by kernel_rfl
set_option maxRecDepth 20000 in
set_option maxHeartbeats 1000000 in
theorem sclone_any (s : ByteArray) (w : World) (hs : s.size ≤ 140737488355328) :
    Calls Try.prog 23 #[.string s] w fun e w' => e = .returned (.string s) ∧ Below w.heap.size w w' := by
  by_cases h0 : s.size = 0
  · obtain rfl : s = ⟨#[]⟩ := ByteArray.ext (Array.eq_empty_of_size_eq_zero h0)
    go_enter Try.func23, Try.ntmps23
    go_wp2_with fail
    go_ret
    exact ⟨rfl, Below.refl _ _⟩
  · obtain ⟨n, hn⟩ : ∃ n, s.size = n := ⟨_, rfl⟩
    have hmk := fun w => run_make_row' (P := Try.prog) 33 5 (.int .u8 0) 1 Try.underlying33 infoByteP rfl .i64 .i64 s.size (by omega) (by omega) w
    obtain ⟨M, hM⟩ : ∃ M, M = madeCells #[Value.int .u8 0] s.size := ⟨_, rfl⟩
    have hMs : M.size = s.size := by rw [hM, size_madeCells]
    rw [← hM] at hmk
    have hcp := Lib.run_copy_row_string (P := Try.prog) (w.alloc (.cells M 5)) 33 9 3 5 w.heap.size 0 s.size s.size s M 5 Try.underlying33 sizeOfByte (heap_alloc_new w _) (Nat.le_refl _) (by omega)
    obtain ⟨Y, hY⟩ : ∃ Y, Y = (M.toList.take 0 ++ Lib.byteCells s.data.toList ++ M.toList.drop (0 + s.size)).toArray := ⟨_, rfl⟩
    rw [← hY] at hcp
    have hYl : Y.toList = Lib.byteCells s.data.toList := by
      rw [hY, List.toList_toArray, List.take_zero, List.nil_append, List.drop_of_length_le (by rw [Array.length_toList]; omega), List.append_nil]
    have hYs : Y.size = s.size := by rw [← Array.length_toList, hYl, Lib.byteCells_length, ← Lib.size_eq]
    have hrow : ((w.alloc (.cells M 5)).setRow w.heap.size Y).heap[w.heap.size]? = some (.cells Y 5 (0, 0)) := setRow_heap _ _ M _ 5 (0, 0) (heap_alloc_new w _)
    have hUS := Lib.run_unsafeString_row (P := Try.prog) ((w.alloc (.cells M 5)).setRow w.heap.size Y) 69 3 9 5 Try.underlying69 cellsOfByte w.heap.size Y.size (by unfold World.shape?; rw [hrow]) s.data.toList (fun e => h0 (by rw [Lib.size_eq, e]; rfl)) (by rw [← Lib.size_eq]; omega) (by rw [← Lib.size_eq]; omega)
      (fun j x hx => Lib.cells_of_row hrow Y.size j _ (by rw [List.take_of_length_le (by rw [Array.length_toList]; exact Nat.le_refl _), hYl]; simp [Lib.byteCells, hx]))
    rw [← Lib.size_eq] at hUS
    have hb1 : Below w.heap.size w (w.alloc (.cells M 5)) := (Below.refl _ w).alloc (Nat.le_refl _) _
    have hb2 : Below w.heap.size (w.alloc (.cells M 5)) ((w.alloc (.cells M 5)).setRow w.heap.size Y) := ⟨rfl, rfl, rfl, by simp, fun k hk => setRow_other _ _ _ _ (by omega)⟩
    have HB : Hid (Below w.heap.size w (((w.alloc (.cells M 5)).setRow w.heap.size Y).freeze ⟨w.heap.size, 0, none⟩ s.size)) := Lib.below_freeze (hb1.trans hb2) (p := ⟨w.heap.size, 0, none⟩) (Nat.le_refl _) _
    clear hb1 hb2
    clear hY hM hn
    go_enter Try.func23, Try.ntmps23
    go_wp2_with fail
    go_ret
    exact ⟨rfl, HB.out⟩
set_option maxHeartbeats 400000 in
theorem tclone_any (s : ByteArray) (w : World) (hs : s.size ≤ 140737488355328) :
    Calls Try.prog 13 #[.string s] w fun e w' => e = .returned (.string s) ∧ Below w.heap.size w w' := by
  go_enter Try.func13, Try.ntmps13
  go_wp2_with fail
  refine (sclone_any s w hs).mono ?_
  rintro e w' ⟨rfl, hb⟩
  go_wp2_with fail
  go_ret
  exact ⟨rfl, hb⟩
end Go.Proofs.Ytganplceeapjcaa

/- What press.Open answers. -/
namespace Go.Proofs.Ytganplceeapjcaa
open Go.RowKit

/-- what openBody says -/
def bodyR (f : UInt8) (n : Nat) (b : List UInt8) : Option (List UInt8) :=
  if f = 0 then (if b = [] then some (List.replicate n 0) else none)
  else if f = 1 then (if b.length = n then some b else none)
  else if f = 2 then (match rmR b with
    | some x => if x.length = n then some x else none
    | none => none)
  else none
theorem openR_cons (f : UInt8) (r : List UInt8) : openR (f :: r) = if getE r = 0 ∧ getA r ≤ 512 then bodyR f (getA r) (r.drop (getK r)) else none := by
  unfold openR bodyR; rfl
def ObAns (f : UInt8) (n : Nat) (b x : ByteArray) (ok : Bool) : Prop := (ok = true ∧ bodyR f n b.data.toList = some x.data.toList) ∨ (ok = false ∧ bodyR f n b.data.toList = none)
theorem made_string (n : Nat) (w : World) : (convert 33 9 (.slice (some ⟨w.heap.size, 0, none⟩) n n)).run Try.prog (w.alloc (.cells (madeCells #[.int .u8 0] n) 5)) = .ok (.string ⟨(List.replicate n 0).toArray⟩) (w.alloc (.cells (madeCells #[.int .u8 0] n) 5)) := by
  have h := run_convert_bytes_back (P := Try.prog) (w.alloc (.cells (madeCells #[.int .u8 0] n) 5)) 33 9 5 ⟨w.heap.size, 0, none⟩ n (List.replicate n 0) Try.underlying33 Try.underlying5 Try.underlying9 fun j hj => by
    have hj' : j < n := by simpa using hj
    rw [show (⟨w.heap.size, 0, none⟩ : Addr).add j = ⟨w.heap.size, j, none⟩ by unfold Addr.add; split <;> simp_all, World.cell?_alloc_new]
    simp [madeCells, hj', Nat.mod_one]
  rwa [List.length_replicate] at h
theorem empty_isQ (b : ByteArray) : b.toList.isEmpty = decide (b.data.toList = []) := by
  rw [ByteArray.toList_eq]
  cases b.data.toList <;> rfl

set_option maxRecDepth 20000 in
set_option maxHeartbeats 1000000 in
theorem pbody_any (f : UInt8) (n : Nat) (b : ByteArray) (w : World) (hn : n ≤ 512) (hs : b.size ≤ 140737488355328) :
    Calls Try.prog 9 #[.int .u8 (f.toNat : Int), .int .i64 (n : Int), .string b] w fun e w' => (∃ x ok, e = .returned (.tuple #[.string x, .bool ok]) ∧ ObAns f n b x ok) ∧ Below w.heap.size w w' := by
  have hbl : Hid (b.data.toList.length = b.size) := by show _ = _; simp
  by_cases f0 : f = 0
  · subst f0
    have e0 : ((0 : UInt8).toNat : Int) = 0 := rfl
    rw [e0]
    have hmk := fun w => run_make_row' (P := Try.prog) 33 5 (.int .u8 0) 1 Try.underlying33 infoByteP rfl .i64 .i64 n (by omega) (by omega) w
    have hcv := made_string n w
    go_enter Try.func9, Try.ntmps9
    go_wp2_with fail
    go_ret2
    refine ⟨⟨_, _, rfl, ?_⟩, (Below.refl _ _).alloc (Nat.le_refl _) _⟩
    unfold ObAns bodyR
    rw [empty_isQ]
    by_cases h : b.data.toList = []
    · exact .inl ⟨decide_eq_true h, by rw [if_pos rfl, if_pos h]; simp⟩
    · exact .inr ⟨decide_eq_false h, by rw [if_pos rfl, if_neg h]⟩
  · by_cases f1 : f = 1
    · subst f1
      have e0 : ((1 : UInt8).toNat : Int) = 1 := rfl
      rw [e0]
      by_cases hl : b.size = n
      · have t1 : ((b.size : Int) != (n : Int)) = false := by rw [bne_eq_false_iff_eq]; omega
        have HA : Hid (ObAns 1 n b b true) := .inl ⟨rfl, by unfold bodyR; rw [if_neg (by decide), if_pos rfl, if_pos (by rw [hbl.out]; exact hl)]⟩
        have HL := Hid.mk' hl
        clear hl
        go_enter Try.func9, Try.ntmps9
        go_wp2_with fail
        refine (tclone_any b _ hs).mono ?_
        rintro e w1 ⟨rfl, hb⟩
        have HB := Hid.mk' hb
        clear hb
        go_wp2_with fail
        go_ret2
        exact ⟨⟨_, _, rfl, HA.out⟩, HB.out⟩
      · have t1 : ((b.size : Int) != (n : Int)) = true := by rw [bne_iff_ne]; omega
        have HA : Hid (ObAns 1 n b ⟨#[]⟩ false) := .inr ⟨rfl, by unfold bodyR; rw [if_neg (by decide), if_pos rfl, if_neg (by rw [hbl.out]; exact hl)]⟩
        go_enter Try.func9, Try.ntmps9
        go_wp2_with fail
        go_ret2
        exact ⟨⟨_, _, rfl, HA.out⟩, Below.refl _ _⟩
    · by_cases f2 : f = 2
      · subst f2
        have e0 : ((2 : UInt8).toNat : Int) = 2 := rfl
        rw [e0]
        have HR : Hid (∀ x ok, RmAns b x ok → ObAns 2 n b x (ok && ((x.size : Int) == (n : Int)))) := by
          intro x ok h
          unfold ObAns bodyR
          rcases h with ⟨rfl, h⟩ | ⟨rfl, h⟩
          · rw [if_neg (by decide), if_neg (by decide), if_pos rfl, h]
            simp only
            have hx : x.data.toList.length = x.size := by simp
            by_cases hl : x.size = n
            · exact .inl ⟨by simp [hl], by rw [if_pos (by rw [hx]; exact hl)]⟩
            · exact .inr ⟨by rw [Bool.true_and, beq_eq_false_iff_ne]; omega, by rw [if_neg (by rw [hx]; exact hl)]⟩
          · rw [if_neg (by decide), if_neg (by decide), if_pos rfl, h]
            exact .inr ⟨rfl, rfl⟩
        go_enter Try.func9, Try.ntmps9
        go_wp2_with fail
        refine (pmarks_any b _ hs).mono ?_
        rintro e w1 ⟨⟨x, ok, rfl, hans⟩, hb⟩
        have HA := Hid.mk' (HR.out x ok hans)
        have HB := Hid.mk' hb
        clear hb hans
        cases ok with
        | true =>
          go_wp2_with fail
          go_ret2
          exact ⟨⟨_, _, rfl, HA.out⟩, HB.out⟩
        | false =>
          go_wp2_with fail
          go_ret2
          exact ⟨⟨_, _, rfl, HA.out⟩, HB.out⟩
      · have HA : Hid (ObAns f n b ⟨#[]⟩ false) := .inr ⟨rfl, by unfold bodyR; rw [if_neg f0, if_neg f1, if_neg f2]⟩
        have t0 : ((f.toNat : Int) == 0) = false := by rw [beq_eq_false_iff_ne]; intro h; exact f0 (UInt8.toNat_inj.1 (by show f.toNat = 0; omega))
        have t1 : ((f.toNat : Int) == 1) = false := by rw [beq_eq_false_iff_ne]; intro h; exact f1 (UInt8.toNat_inj.1 (by show f.toNat = 1; omega))
        have t2 : ((f.toNat : Int) == 2) = false := by rw [beq_eq_false_iff_ne]; intro h; exact f2 (UInt8.toNat_inj.1 (by show f.toNat = 2; omega))
        go_enter Try.func9, Try.ntmps9
        go_wp2_with fail
        go_ret2
        exact ⟨⟨_, _, rfl, HA.out⟩, Below.refl _ _⟩
/-- what Open answers -/
def OpAns (t x : ByteArray) (e : Int) : Prop := (e = 0 ∧ openR t.data.toList = some x.data.toList) ∨ (e = 4 ∧ x = ⟨#[]⟩ ∧ openR t.data.toList = none)
theorem ext_oneQ (t : ByteArray) (h : 0 < t.size) : t.data.toList = t[0] :: (t.extract 1 t.size).data.toList := by
  rw [ext_listQ]
  have hl : t.data.toList.length = t.size := by simp
  have := List.drop_eq_getElem_cons (l := t.data.toList) (i := 0) (by omega)
  rw [List.drop_zero] at this
  exact this

set_option maxRecDepth 20000 in
set_option maxHeartbeats 1000000 in
theorem popen_any (t : ByteArray) (w : World) (hs : t.size ≤ 140737488355328) :
    Calls Try.prog 5 #[.string t] w fun e w' => (∃ x e', e = .returned (.tuple #[.string x, .int .i64 e']) ∧ OpAns t x e') ∧ Below w.heap.size w w' := by
  have hbad : Hid (openR t.data.toList = none → ∀ wx : World, Below w.heap.size w wx → (∃ x e', Ending.returned (.tuple #[.string ⟨#[]⟩, .int .i64 4]) = .returned (.tuple #[.string x, .int .i64 e']) ∧ OpAns t x e') ∧ Below w.heap.size w wx) := fun h wx hb => ⟨⟨_, 4, rfl, .inr ⟨rfl, rfl, h⟩⟩, hb⟩
  by_cases h0 : t.size = 0
  · obtain rfl : t = ⟨#[]⟩ := ByteArray.ext (Array.eq_empty_of_size_eq_zero h0)
    go_enter Try.func5, Try.ntmps5
    go_wp2_with fail
    go_ret2
    exact hbad.out rfl _ (Below.refl _ _)
  · have hp : 0 < t.size := by omega
    have HOne := Hid.mk' (ext_oneQ t hp)
    have te : t.toList.isEmpty = false := by rw [empty_isQ]; exact decide_eq_false (fun h => by rw [HOne.out] at h; cases h)
    obtain ⟨r, hr⟩ : ∃ r, Hid (t.extract 1 t.size = r) := ⟨_, Hid.mk' rfl⟩
    have hrs : r.size + 1 = t.size := by rw [← hr.out, ext_sizeQ]; omega
    have HO : Hid (openR t.data.toList = if getE r.data.toList = 0 ∧ getA r.data.toList ≤ 512 then bodyR t[0] (getA r.data.toList) (r.data.toList.drop (getK r.data.toList)) else none) := by show _ = _; rw [HOne.out, hr.out, openR_cons]
    have h1s : (1 : Int) ≤ (t.size : Int) := by omega
    by_cases hE : getE r.data.toList = 0
    · obtain ⟨A, hA'⟩ : ∃ A, Hid (getA r.data.toList = A) := ⟨_, Hid.mk' rfl⟩
      have hk := (getK_le r.data.toList hE).1
      rw [show r.data.toList.length = r.size by simp] at hk
      obtain ⟨k, hk'⟩ : ∃ k, Hid (getK r.data.toList = k) := ⟨_, Hid.mk' rfl⟩
      rw [hk'.out] at hk HO
      rw [hA'.out] at HO
      by_cases hA : A ≤ 512
      · have HO2 : Hid (openR t.data.toList = bodyR t[0] A (r.data.toList.drop k)) := by show _ = _; rw [HO.out, if_pos ⟨hE, hA⟩]
        have HE := Hid.mk' hE
        have t5 : decide (512 < A) = false := decide_eq_false (by omega)
        obtain ⟨k1, hk1⟩ : ∃ k1, Hid (k1 = 1 + k) := ⟨_, Hid.mk' rfl⟩
        have ek : IntKind.i64.wrap (1 + (k : Int)) = (k1 : Int) := by rw [IntKind.wrap_i64, hk1.out]; omega
        have hq0 : (0 : Int) ≤ (k1 : Int) := by omega
        have hq1 : (k1 : Int) ≤ (t.size : Int) := by have := hk1.out; omega
        have hqb : k1 ≤ 9223372036854775807 := by omega
        have eA : IntKind.i64.wrap (A : Int) = (A : Int) := by rw [IntKind.wrap_i64]; omega
        have HBy : Hid ((t.extract k1 t.size).data.toList = r.data.toList.drop k) := by show _ = _; rw [ext_listQ, ← hr.out, ext_listQ, List.drop_drop, hk1.out]
        have hbs : (t.extract k1 t.size).size ≤ 140737488355328 := by rw [ext_sizeQ]; omega
        obtain ⟨f, hf⟩ : ∃ f, Hid (t[0] = f) := ⟨_, Hid.mk' rfl⟩
        rw [hf.out] at HO2
        have hf2 : t[0].toNat = f.toNat := by rw [hf.out]
        clear hE HO
        go_enter Try.func5, Try.ntmps5
        go_wp2_with fail
        rw [hr.out]
        refine (get_any r _).mono ?_
        rintro e w' ⟨rfl, hw'⟩; obtain rfl := hw'.symm
        rw [HE.out, hk'.out, hA'.out]
        go_wp2_with fail
        go_region_held3 (fun _ => True) (trivial) ((go_at_call 9; refine (pbody_any f A (t.extract k1 t.size) _ hA hbs).mono ?_; rintro e w1 ⟨⟨x, ok, rfl, hans⟩, hb⟩))
        have HB1 : Hid (Below w.heap.size w w1) := (Below.refl w.heap.size w).drew.trans hb
        clear hb
        rcases hans with ⟨rfl, hx⟩ | ⟨rfl, hx⟩
        · rw [HBy.out, ← HO2.out] at hx
          have HX := Hid.mk' hx
          clear hx
          go_wp2_with fail
          go_ret2
          exact ⟨⟨x, 0, rfl, .inl ⟨rfl, HX.out⟩⟩, HB1.out⟩
        · rw [HBy.out, ← HO2.out] at hx
          have HX := Hid.mk' hx
          clear hx
          go_wp2_with fail
          go_ret2
          exact hbad.out HX.out _ HB1.out
      · have HN : Hid (openR t.data.toList = none) := by show _ = _; rw [HO.out, if_neg (fun h => hA h.2)]
        have HE := Hid.mk' hE
        have t5 : decide (512 < A) = true := decide_eq_true (by omega)
        clear hE
        go_enter Try.func5, Try.ntmps5
        go_wp2_with fail
        rw [hr.out]
        refine (get_any r _).mono ?_
        rintro e w' ⟨rfl, hw'⟩; obtain rfl := hw'.symm
        rw [HE.out, hk'.out, hA'.out]
        go_wp2_with fail
        go_ret2
        exact hbad.out HN.out _ (Below.refl _ _)
    · have HN : Hid (openR t.data.toList = none) := by show _ = _; rw [HO.out, if_neg (fun h => hE h.1)]
      have hne : (getE r.data.toList != 0) = true := by rw [bne_iff_ne]; exact hE
      obtain ⟨x, hx⟩ : ∃ x, Hid (getE r.data.toList = x) := ⟨_, Hid.mk' rfl⟩
      rw [hx.out] at hne hE
      obtain ⟨k, hk'⟩ : ∃ k, Hid (getK r.data.toList = k) := ⟨_, Hid.mk' rfl⟩
      obtain ⟨A, hA'⟩ : ∃ A, Hid (getA r.data.toList = A) := ⟨_, Hid.mk' rfl⟩
      clear hE
      go_enter Try.func5, Try.ntmps5
      go_wp2_with fail
      rw [hr.out]
      refine (get_any r _).mono ?_
      rintro e w' ⟨rfl, hw'⟩; obtain rfl := hw'.symm
      rw [hx.out, hk'.out, hA'.out]
      go_wp2_with fail
      go_ret2
      exact hbad.out HN.out _ (Below.refl _ _)
end Go.Proofs.Ytganplceeapjcaa

/- What linenref.Open answers, and the law PressOpens. -/
namespace Go.Proofs.Ytganplceeapjcaa
open Go.RowKit

theorem made_stringU (n : Nat) (w : World) (hn : n ≤ 512) : (Instr.makeSlice 33 (.int .u64 (n : Int)) (.int .u64 (n : Int))).run Try.prog w = .ok (.slice (some ⟨w.heap.size, 0, none⟩) n n) (w.alloc (.cells (madeCells #[.int .u8 0] n) 5)) :=
  run_make_row' (P := Try.prog) 33 5 (.int .u8 0) 1 Try.underlying33 infoByteP rfl .u64 .u64 n (by omega) (by omega) w
theorem rmM_len {t : List UInt8} {n : Nat} {ms : List Mk} (h : rmM t n = some ms) : ms.length = n := by
  unfold rmM at h
  split at h
  · split at h
    · split at h
      · rename_i hk
        split at h
        · cases h
          exact (mkS_ok (Nat.zero_le _) _ _ _ hk).2.2
        · cases h
      · cases h
    · cases h
  · cases h
theorem rmR_is (t : List UInt8) (h : getE t = 0 ∧ getA t ≤ 512) : rmR t = match rmM (t.drop (getK t)) (getA t) with
    | some ms => if exE ms [] = 0 then some (exT ms []) else none
    | none => none := by
  unfold rmR; rw [if_pos h]; try rfl

set_option maxRecDepth 20000 in
set_option maxHeartbeats 2000000 in
theorem ropen_any (t : ByteArray) (w : World) (hs : t.size ≤ 1048576) :
    Calls Try.prog 6 #[.string t] w fun e w' => (∃ x e', e = .returned (.tuple #[.string x, .int .i64 e']) ∧ OpAns t x e') ∧ Below w.heap.size w w' := by
  have hbad : Hid (openR t.data.toList = none → ∀ wx : World, Below w.heap.size w wx → (∃ x e', Ending.returned (.tuple #[.string ⟨#[]⟩, .int .i64 4]) = .returned (.tuple #[.string x, .int .i64 e']) ∧ OpAns t x e') ∧ Below w.heap.size w wx) := fun h wx hb => ⟨⟨_, 4, rfl, .inr ⟨rfl, rfl, h⟩⟩, hb⟩
  by_cases h0 : t.size = 0
  · obtain rfl : t = ⟨#[]⟩ := ByteArray.ext (Array.eq_empty_of_size_eq_zero h0)
    go_enter Try.func6, Try.ntmps6
    go_wp2_with fail
    go_ret2
    exact hbad.out rfl _ (Below.refl _ _)
  · have hp : 0 < t.size := by omega
    have HOne := Hid.mk' (ext_oneQ t hp)
    have te : t.toList.isEmpty = false := by rw [empty_isQ]; exact decide_eq_false (fun h => by rw [HOne.out] at h; cases h)
    obtain ⟨r, hr⟩ : ∃ r, Hid (t.extract 1 t.size = r) := ⟨_, Hid.mk' rfl⟩
    have hrs : r.size + 1 = t.size := by rw [← hr.out, ext_sizeQ]; omega
    have HO : Hid (openR t.data.toList = if getE r.data.toList = 0 ∧ getA r.data.toList ≤ 512 then bodyR t[0] (getA r.data.toList) (r.data.toList.drop (getK r.data.toList)) else none) := by show _ = _; rw [HOne.out, hr.out, openR_cons]
    have h1s : (1 : Int) ≤ (t.size : Int) := by omega
    obtain ⟨f, hf⟩ : ∃ f, Hid (t[0] = f) := ⟨_, Hid.mk' rfl⟩
    rw [hf.out] at HO
    have hf2 : t[0].toNat = f.toNat := by rw [hf.out]
    have hfb := f.toNat_lt
    by_cases hf3 : 2 < f.toNat
    · have HN : Hid (openR t.data.toList = none) := by
        show _ = _
        rw [HO.out]
        split
        · unfold bodyR
          rw [if_neg (fun h => by rw [h] at hf3; revert hf3; decide), if_neg (fun h => by rw [h] at hf3; revert hf3; decide), if_neg (fun h => by rw [h] at hf3; revert hf3; decide)]
        · rfl
      have t2 : decide (2 < f.toNat) = true := decide_eq_true hf3
      go_enter Try.func6, Try.ntmps6
      go_wp2_with fail
      go_ret2
      exact hbad.out HN.out _ (Below.refl _ _)
    · have t2 : decide (2 < f.toNat) = false := decide_eq_false hf3
      by_cases hE : getE r.data.toList = 0
      · obtain ⟨A, hA'⟩ : ∃ A, Hid (getA r.data.toList = A) := ⟨_, Hid.mk' rfl⟩
        have hk := (getK_le r.data.toList hE).1
        rw [show r.data.toList.length = r.size by simp] at hk
        obtain ⟨k, hk'⟩ : ∃ k, Hid (getK r.data.toList = k) := ⟨_, Hid.mk' rfl⟩
        rw [hk'.out] at hk HO
        rw [hA'.out] at HO
        by_cases hA : A ≤ 512
        · have HO2 : Hid (openR t.data.toList = bodyR f A (r.data.toList.drop k)) := by show _ = _; rw [HO.out, if_pos ⟨hE, hA⟩]
          have HE := Hid.mk' hE
          have t5 : decide (512 < A) = false := decide_eq_false (by omega)
          obtain ⟨k1, hk1⟩ : ∃ k1, Hid (k1 = 1 + k) := ⟨_, Hid.mk' rfl⟩
          have ek : IntKind.i64.wrap (1 + (k : Int)) = (k1 : Int) := by rw [IntKind.wrap_i64, hk1.out]; omega
          have hq0 : (0 : Int) ≤ (k1 : Int) := by omega
          have hq1 : (k1 : Int) ≤ (t.size : Int) := by have := hk1.out; omega
          have hqb : k1 ≤ 9223372036854775807 := by omega
          have eA : IntKind.i64.wrap (A : Int) = (A : Int) := by rw [IntKind.wrap_i64]; omega
          have HBy : Hid ((t.extract k1 t.size).data.toList = r.data.toList.drop k) := by show _ = _; rw [ext_listQ, ← hr.out, ext_listQ, List.drop_drop, hk1.out]
          have hbs : (t.extract k1 t.size).size ≤ 1048576 := by rw [ext_sizeQ]; omega
          obtain ⟨b, hb⟩ : ∃ b, t.extract k1 t.size = b := ⟨_, rfl⟩
          rw [hb] at HBy hbs
          rw [← HBy.out] at HO2
          have hbl : Hid (b.data.toList.length = b.size) := by show _ = _; simp
          clear hE HO
          by_cases f0 : f = 0
          · subst f0
            have e0 : t[0].toNat = 0 := hf2
            have hmk := fun w => made_stringU A w hA
            have hcv := fun w => made_string A w
            clear hf2
            by_cases hb0 : b.data.toList = []
            · have tb : b.toList.isEmpty = true := by rw [empty_isQ]; exact decide_eq_true hb0
              have HX : Hid (openR t.data.toList = some (List.replicate A 0)) := by show _ = _; rw [HO2.out]; unfold bodyR; rw [if_pos rfl, if_pos hb0]
              go_enter Try.func6, Try.ntmps6
              go_wp2_with fail
              rw [hr.out]
              refine (rget_any r _).mono ?_
              rintro e w' ⟨rfl, hw'⟩; obtain rfl := hw'.symm
              rw [HE.out, hk'.out, hA'.out]
              go_wp2_with fail
              go_ret2
              exact ⟨⟨_, 0, rfl, .inl ⟨rfl, by rw [HX.out]; simp⟩⟩, (Below.refl _ _).alloc (Nat.le_refl _) _⟩
            · have tb : b.toList.isEmpty = false := by rw [empty_isQ]; exact decide_eq_false hb0
              have HN : Hid (openR t.data.toList = none) := by show _ = _; rw [HO2.out]; unfold bodyR; rw [if_pos rfl, if_neg hb0]
              go_enter Try.func6, Try.ntmps6
              go_wp2_with fail
              rw [hr.out]
              refine (rget_any r _).mono ?_
              rintro e w' ⟨rfl, hw'⟩; obtain rfl := hw'.symm
              rw [HE.out, hk'.out, hA'.out]
              go_wp2_with fail
              go_ret2
              exact hbad.out HN.out _ (Below.refl _ _)
          · by_cases f1 : f = 1
            · subst f1
              have e0 : t[0].toNat = 1 := hf2
              clear hf2
              by_cases hl : b.size = A
              · have t1 : ((b.size : Int) != (A : Int)) = false := by rw [bne_eq_false_iff_eq]; omega
                have HX : Hid (openR t.data.toList = some b.data.toList) := by show _ = _; rw [HO2.out]; unfold bodyR; rw [if_neg (by decide), if_pos rfl, if_pos (by rw [hbl.out]; exact hl)]
                have HL := Hid.mk' hl
                clear hl
                go_enter Try.func6, Try.ntmps6
                go_wp2_with fail
                rw [hr.out]
                refine (rget_any r _).mono ?_
                rintro e w' ⟨rfl, hw'⟩; obtain rfl := hw'.symm
                rw [HE.out, hk'.out, hA'.out]
                go_wp2_with fail
                go_ret2
                exact ⟨⟨_, 0, rfl, .inl ⟨rfl, HX.out⟩⟩, Below.refl _ _⟩
              · have t1 : ((b.size : Int) != (A : Int)) = true := by rw [bne_iff_ne]; omega
                have HN : Hid (openR t.data.toList = none) := by show _ = _; rw [HO2.out]; unfold bodyR; rw [if_neg (by decide), if_pos rfl, if_neg (by rw [hbl.out]; exact hl)]
                go_enter Try.func6, Try.ntmps6
                go_wp2_with fail
                rw [hr.out]
                refine (rget_any r _).mono ?_
                rintro e w' ⟨rfl, hw'⟩; obtain rfl := hw'.symm
                rw [HE.out, hk'.out, hA'.out]
                go_wp2_with fail
                go_ret2
                exact hbad.out HN.out _ (Below.refl _ _)
            · have f2 : f = 2 := by
                apply UInt8.toNat_inj.1
                have h0 : f.toNat ≠ 0 := fun h => f0 (UInt8.toNat_inj.1 h)
                have h1 : f.toNat ≠ 1 := fun h => f1 (UInt8.toNat_inj.1 h)
                show f.toNat = 2
                omega
              subst f2
              have e0 : t[0].toNat = 2 := hf2
              clear hf2
              have HO3 : Hid (openR t.data.toList = match rmR b.data.toList with
                  | some x => if x.length = A then some x else none
                  | none => none) := by
                show _ = _
                rw [HO2.out]; unfold bodyR; rw [if_neg (by decide), if_neg (by decide), if_pos rfl]; try rfl
              by_cases hE2 : getE b.data.toList = 0
              · obtain ⟨A2, hA2'⟩ : ∃ A, Hid (getA b.data.toList = A) := ⟨_, Hid.mk' rfl⟩
                have hkb := (getK_le b.data.toList hE2).1
                rw [hbl.out] at hkb
                obtain ⟨k2, hk2'⟩ : ∃ k, Hid (getK b.data.toList = k) := ⟨_, Hid.mk' rfl⟩
                rw [hk2'.out] at hkb
                by_cases hA2 : A2 ≤ 512
                · have HE2 := Hid.mk' hE2
                  have HRm := Hid.mk' (rmR_is b.data.toList ⟨hE2, by rw [hA2'.out]; exact hA2⟩)
                  rw [hk2'.out, hA2'.out] at HRm
                  have t6 : decide (512 < A2) = false := decide_eq_false (by omega)
                  have hb0 : (0 : Int) ≤ (k2 : Int) := by omega
                  have hb1 : (k2 : Int) ≤ (b.size : Int) := by omega
                  have hbb : k2 ≤ 9223372036854775807 := by omega
                  have eA2 : IntKind.i64.wrap (A2 : Int) = (A2 : Int) := by rw [IntKind.wrap_i64]; omega
                  have HBb : Hid ((b.extract k2 b.size).data.toList = b.data.toList.drop k2) := ext_listQ b k2
                  have hbs2 : (b.extract k2 b.size).size ≤ 1048576 := by rw [ext_sizeQ]; omega
                  clear hE2
                  go_enter Try.func6, Try.ntmps6
                  go_wp2_with fail
                  rw [hr.out]
                  refine (rget_any r _).mono ?_
                  rintro e w' ⟨rfl, hw'⟩; obtain rfl := hw'.symm
                  rw [HE.out, hk'.out, hA'.out]
                  go_wp2_with fail
                  refine (rget_any b _).mono ?_
                  rintro e w' ⟨rfl, hw'⟩; obtain rfl := hw'.symm
                  rw [HE2.out, hk2'.out, hA2'.out]
                  go_wp2_with fail
                  refine (rmarks_any (b.extract k2 b.size) A2 _ hbs2 hA2).mono ?_
                  rintro e w1 ⟨⟨v, ok, rfl, hans⟩, hb1'⟩
                  have HB1 := Hid.mk' hb1'
                  clear hb1'
                  rcases hans with ⟨rfl, ms, hms, hmo, hown⟩ | ⟨rfl, hms⟩
                  · rw [HBb.out] at hms
                    rw [hms] at HRm
                    have hmb : ∀ m ∈ ms, (-9223372036854775808 ≤ m.ln ∧ m.ln ≤ 9223372036854775807) ∧ (-9223372036854775808 ≤ m.ds ∧ m.ds ≤ 9223372036854775807) ∧ m.by' < 256 := fun m hm => by
                      obtain ⟨q1, q2, q3⟩ := hmo m hm
                      exact ⟨by omega, by omega, q3⟩
                    have hml : ms.length ≤ 512 := by
                      have h := rmM_len hms
                      omega
                    obtain ⟨ao, cap, rfl, _, _, hM⟩ := mks_of_own hown rfl (by omega) hmb
                    have HM := Hid.mk' hM
                    clear hown hM hmb hmo hms
                    go_wp2_with fail
                    refine (rexpand_any ao ms.length cap _ _ HM.out).mono ?_
                    rintro e w2 ⟨rfl, hb2⟩
                    rw [mkL_row]
                    have HB2 : Hid (Below w.heap.size w w2) := HB1.out.trans (hb2.mono HB1.out.size)
                    clear hb2
                    obtain ⟨x, hx⟩ : ∃ x, Hid ((⟨(exA ms).toArray⟩ : ByteArray) = x) := ⟨_, Hid.mk' rfl⟩
                    obtain ⟨y, hy⟩ : ∃ y, Hid (exE ms [] = y) := ⟨_, Hid.mk' rfl⟩
                    rw [hx.out, hy.out]
                    rw [hy.out] at HRm
                    by_cases hy0 : y = 0
                    · subst hy0
                      have HX : Hid (x.data.toList = exT ms []) := by
                        show _ = _
                        rw [← hx.out]
                        unfold exA
                        rw [if_pos hy.out]
                      have HR2 : Hid (rmR b.data.toList = some x.data.toList) := by show _ = _; rw [HRm.out]; simp only; rw [if_pos (by simp), HX.out]
                      rw [HR2.out] at HO3
                      have hxl : Hid (x.data.toList.length = x.size) := by show _ = _; simp
                      by_cases hl : x.size = A
                      · have t1 : ((x.size : Int) != (A : Int)) = false := by rw [bne_eq_false_iff_eq]; omega
                        have HX2 : Hid (openR t.data.toList = some x.data.toList) := by show _ = _; rw [HO3.out]; simp only; rw [if_pos (by rw [hxl.out]; exact hl)]
                        have HL := Hid.mk' hl
                        clear hl
                        go_wp2_with fail
                        go_ret2
                        exact ⟨⟨_, 0, rfl, .inl ⟨rfl, HX2.out⟩⟩, HB2.out⟩
                      · have t1 : ((x.size : Int) != (A : Int)) = true := by rw [bne_iff_ne]; omega
                        have HN : Hid (openR t.data.toList = none) := by show _ = _; rw [HO3.out]; simp only; rw [if_neg (by rw [hxl.out]; exact hl)]
                        go_wp2_with fail
                        go_ret2
                        exact hbad.out HN.out _ HB2.out
                    · have ty : (y != 0) = true := by rw [bne_iff_ne]; exact hy0
                      have HN : Hid (openR t.data.toList = none) := by
                        have h2 : rmR b.data.toList = none := by rw [HRm.out]; exact if_neg hy0
                        show _ = _
                        rw [HO3.out, h2]
                      clear HRm
                      go_wp2_with fail
                      go_ret2
                      exact hbad.out HN.out _ HB2.out
                  · rw [HBb.out] at hms
                    rw [hms] at HRm
                    have HN : Hid (openR t.data.toList = none) := by show _ = _; rw [HO3.out, HRm.out]
                    clear hms HRm
                    go_wp2_with fail
                    go_ret2
                    exact hbad.out HN.out _ HB1.out
                · have HE2 := Hid.mk' hE2
                  have HN : Hid (openR t.data.toList = none) := by show _ = _; rw [HO3.out, rmR_num (fun h => hA2 (by rw [← hA2'.out]; exact h.2))]
                  have t6 : decide (512 < A2) = true := decide_eq_true (by omega)
                  clear hE2
                  go_enter Try.func6, Try.ntmps6
                  go_wp2_with fail
                  rw [hr.out]
                  refine (rget_any r _).mono ?_
                  rintro e w' ⟨rfl, hw'⟩; obtain rfl := hw'.symm
                  rw [HE.out, hk'.out, hA'.out]
                  go_wp2_with fail
                  refine (rget_any b _).mono ?_
                  rintro e w' ⟨rfl, hw'⟩; obtain rfl := hw'.symm
                  rw [HE2.out, hk2'.out, hA2'.out]
                  go_wp2_with fail
                  go_ret2
                  exact hbad.out HN.out _ (Below.refl _ _)
              · have HN : Hid (openR t.data.toList = none) := by show _ = _; rw [HO3.out, rmR_num (fun h => hE2 h.1)]
                have hne : (getE b.data.toList != 0) = true := by rw [bne_iff_ne]; exact hE2
                obtain ⟨x, hx⟩ : ∃ x, Hid (getE b.data.toList = x) := ⟨_, Hid.mk' rfl⟩
                rw [hx.out] at hne hE2
                obtain ⟨k2, hk2'⟩ : ∃ k, Hid (getK b.data.toList = k) := ⟨_, Hid.mk' rfl⟩
                obtain ⟨A2, hA2'⟩ : ∃ A, Hid (getA b.data.toList = A) := ⟨_, Hid.mk' rfl⟩
                clear hE2
                go_enter Try.func6, Try.ntmps6
                go_wp2_with fail
                rw [hr.out]
                refine (rget_any r _).mono ?_
                rintro e w' ⟨rfl, hw'⟩; obtain rfl := hw'.symm
                rw [HE.out, hk'.out, hA'.out]
                go_wp2_with fail
                refine (rget_any b _).mono ?_
                rintro e w' ⟨rfl, hw'⟩; obtain rfl := hw'.symm
                rw [hx.out, hk2'.out, hA2'.out]
                go_wp2_with fail
                go_ret2
                exact hbad.out HN.out _ (Below.refl _ _)
        · have HN : Hid (openR t.data.toList = none) := by show _ = _; rw [HO.out, if_neg (fun h => hA h.2)]
          have HE := Hid.mk' hE
          have t5 : decide (512 < A) = true := decide_eq_true (by omega)
          clear hE
          go_enter Try.func6, Try.ntmps6
          go_wp2_with fail
          rw [hr.out]
          refine (rget_any r _).mono ?_
          rintro e w' ⟨rfl, hw'⟩; obtain rfl := hw'.symm
          rw [HE.out, hk'.out, hA'.out]
          go_wp2_with fail
          go_ret2
          exact hbad.out HN.out _ (Below.refl _ _)
      · have HN : Hid (openR t.data.toList = none) := by show _ = _; rw [HO.out, if_neg (fun h => hE h.1)]
        have hne : (getE r.data.toList != 0) = true := by rw [bne_iff_ne]; exact hE
        obtain ⟨x, hx⟩ : ∃ x, Hid (getE r.data.toList = x) := ⟨_, Hid.mk' rfl⟩
        rw [hx.out] at hne hE
        obtain ⟨k, hk'⟩ : ∃ k, Hid (getK r.data.toList = k) := ⟨_, Hid.mk' rfl⟩
        obtain ⟨A, hA'⟩ : ∃ A, Hid (getA r.data.toList = A) := ⟨_, Hid.mk' rfl⟩
        clear hE
        go_enter Try.func6, Try.ntmps6
        go_wp2_with fail
        rw [hr.out]
        refine (rget_any r _).mono ?_
        rintro e w' ⟨rfl, hw'⟩; obtain rfl := hw'.symm
        rw [hx.out, hk'.out, hA'.out]
        go_wp2_with fail
        go_ret2
        exact hbad.out HN.out _ (Below.refl _ _)
end Go.Proofs.Ytganplceeapjcaa

/- The law PressOpens, walked. -/
namespace Go.Proofs.Ytganplceeapjcaa
open Go.RowKit

theorem op_same {t x y : ByteArray} {e f : Int} (h1 : OpAns t x e) (h2 : OpAns t y f) : x = y ∧ e = f := by
  rcases h1 with ⟨rfl, h1⟩ | ⟨rfl, rfl, h1⟩ <;> rcases h2 with ⟨rfl, h2⟩ | ⟨rfl, rfl, h2⟩
  · rw [h1] at h2
    exact ⟨bytes_ext (Option.some.inj h2), rfl⟩
  · rw [h1] at h2; cases h2
  · rw [h1] at h2; cases h2
  · exact ⟨rfl, rfl⟩

set_option maxRecDepth 20000 in
set_option maxHeartbeats 800000 in
theorem pressOpens_walk (a0 : ByteArray) (w : World) (_w0 : a0.size ≤ maxLen) (_z0 : a0.data.toList.length ≤ reachBytes) (b0 : a0.size ≤ 1048576) :
    Calls Try.prog 3 #[.string a0] w fun e w' => e = .returned (.bool true) ∧ Below w.heap.size w w' := by
  go_enter Try.func3, Try.ntmps3
  go_wp2_with fail
  refine (popen_any a0 _ (by omega)).mono ?_
  rintro e w1 ⟨⟨x, e1, rfl, h1⟩, hb1⟩
  have HB1 := Hid.mk' hb1
  have H1 := Hid.mk' h1
  clear hb1 h1
  go_wp2_with fail
  refine (ropen_any a0 _ b0).mono ?_
  rintro e w2 ⟨⟨y, e2, rfl, h2⟩, hb2⟩
  have HB2 : Hid (Below w.heap.size w w2) := HB1.out.trans (hb2.mono HB1.out.size)
  obtain ⟨rfl, rfl⟩ := op_same H1.out h2
  clear hb2 h2
  have t1 : (x.toList == x.toList) = true := by simp
  have t2 : (e1 == e1) = true := by simp
  go_wp2_with fail
  go_ret
  exact ⟨rfl, HB2.out⟩
end Go.Proofs.Ytganplceeapjcaa
