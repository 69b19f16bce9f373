/- What linenref.Canon answers: what lens.Canon does. -/
import Derived.Test.YtnoegodimiehhaaRFillWalks
import Derived.Test.YtnoegodimiehhaaCanonMath
import Derived.Test.YtnoegodimiehhaaI64s
import Derived.Test.YtnoegodimiehhaaGrow
namespace Go.Proofs.Ytnoegodimiehhaa
open Go.RowKit

def cells64 (f : Nat → Int) (k : Nat) : List Value := (List.range k).map fun i => .int .i64 (f i)
theorem cells64_succ (f : Nat → Int) (k : Nat) : cells64 f (k + 1) = cells64 f k ++ [.int .i64 (f k)] := by simp [cells64, List.range_succ]
theorem i64s_of_own {w : World} {N n : Nat} {v : Value} {f : Nat → Int} (h : w.ownsRow N 3 1 v n (cells64 f n)) : I64s w v n f := by
  rcases h.2 with ⟨rfl, rfl⟩ | ⟨g, cap, cur, rfl, _, hg, _, _, _, hx⟩
  · exact i64s_nil _ _
  · refine ⟨some ⟨g, 0, none⟩, cap, rfl, fun _ => ⟨g, 0, rfl, (Array.getElem?_eq_some_iff.1 hg).1, fun i hi => ?_⟩⟩
    rw [Nat.zero_add, h.cellAt i (by omega)]
    simp [cells64, hi]
theorem below_grow64 {w wr w1 : World} {N k : Nat} {e : TypeId} {v : Value} {xs : List Value} {o : Obj} (hown : wr.ownsRow N e 1 v k xs) (hbl : Below N w wr) (hN : N ≤ wr.heap.size) (hg : (wr.alloc o).grownBy w1 v.ownBlock) : Below N w w1 :=
  (hbl.alloc hN o).grown hg (by simp; omega) fun j hj => (hown.lt j hj).1
theorem ahead_yes (W : Nat → Int) (i k : Nat) (h : W k < W i ∨ (W k = W i ∧ k < i)) (h0 : 0 < W k) : ahead W i (k + 1) = ahead W i k + 2 ^ (15 - (W k).toNat) := by
  have e : ahead W i (k + 1) = ahead W i k + if (decide (W k < W i) || (decide (W k = W i) && decide (k < i))) = true then tk (W k) else 0 := rfl
  rw [e, if_pos (by simp only [Bool.or_eq_true, Bool.and_eq_true, decide_eq_true_eq]; exact h), tk_pos _ h0]
theorem ahead_no (W : Nat → Int) (i k : Nat) (h : ¬ (0 < W k ∧ (W k < W i ∨ (W k = W i ∧ k < i)))) : ahead W i (k + 1) = ahead W i k := by
  have e : ahead W i (k + 1) = ahead W i k + if (decide (W k < W i) || (decide (W k = W i) && decide (k < i))) = true then tk (W k) else 0 := rfl
  rw [e]
  by_cases h0 : 0 < W k
  · rw [if_neg (by simp only [Bool.or_eq_true, Bool.and_eq_true, decide_eq_true_eq]; intro h2; exact h ⟨h0, h2⟩)]; rfl
  · have : tk (W k) = 0 := by unfold tk; rw [if_neg h0]
    rw [this]; simp
theorem ahead_le (W : Nat → Int) (i k : Nat) : ahead W i k ≤ 16384 * k := sumP_le _ _ _

set_option maxRecDepth 20000 in
set_option maxHeartbeats 2000000 in
theorem rcanon_ok (a0 : Option Addr) (len cap : Nat) (W : Nat → Int) (w : World) (hP : Wds w a0 len W) (hE : fillE W len = 0) (hF : fillN W len ≤ 32768) :
    Calls Try.prog 18 #[.slice a0 len cap] w fun e w' => (∃ v, e = .returned (.tuple #[v, .int .i64 (canE W len)]) ∧ I64s w' v (canL W len) (fun i => (codeN W len i : Int))) ∧ Below w.heap.size w w' := by
  have HP := Hid.mk' hP
  obtain ⟨hL, hB, hA⟩ := fillE_zero W len hE
  have HG := Hid.mk' (fun i hi => all_of hB i hi)
  have hco := Hid.mk' (can_ok W len hE hF)
  have HE := Hid.mk' hE
  have HA := Hid.mk' hA
  have HF := Hid.mk' hF
  clear hP hE hA hB
  obtain ⟨i0, hi, hz0, hz1, hz2⟩ := info_parts infoI64
  have KI := Hid.mk' hi
  have KZ0 := Hid.mk' hz0
  have KZ1 := Hid.mk' hz1
  have KZ2 := Hid.mk' hz2
  clear hi hz0 hz1 hz2
  go_enter Try.func18, Try.ntmps18
  go_wp2_with fail
  refine (rfill_any a0 len cap W _ HP.out).mono ?_
  rintro e w' ⟨rfl, rfl⟩
  rw [HE.out, HA.out]
  generalize fillN W len = x at hF ⊢
  go_wp2_with fail
  go_loopw [6, 24] (fun v i wr => ∃ j : Nat, j ≤ len ∧ i = .int .i64 j ∧ wr.ownsRow w'.heap.size 3 1 v j (cells64 (fun i => (codeN W len i : Int)) j) ∧ Below w'.heap.size w' wr) (fun _ i _ => len - (intOf i).toNat)
  case atStart => exact ⟨0, Nat.zero_le _, rfl, World.ownsRow_nil _ _ _ _, Below.refl _ _⟩
  case round =>
    obtain ⟨j, hj, rfl, hown, hbl⟩ := hrel
    have HO := Hid.mk' hown
    have HB := Hid.mk' hbl
    have hsz := hbl.size
    clear hown hbl
    by_cases hlt : j < len
    · obtain ⟨b, off, rfl, hb, hc⟩ := HP.out.at' (by omega)
      have HC := Hid.mk' (fun k (hk : k < len) => (HB.out.cell (p := ⟨b, off + k, none⟩) hb).trans (hc k hk))
      have c0 := HC.out j hlt
      clear hc
      have hw2 := len_of (HG.out j hlt)
      have hw0 := hw2.1
      have hw1 := hw2.2
      clear hw2
      obtain ⟨y, ey⟩ : ∃ y, Hid (W j = y) := ⟨_, Hid.mk' rfl⟩
      rw [ey.out] at c0 hw0 hw1
      go_wp2_with fail
      go_loop [9, 31] (fun n i => ∃ k : Nat, k ≤ len ∧ i = .int .i64 k ∧ n = .int .i64 (ahead W j k : Nat)) (fun _ i => len - (intOf i).toNat)
      case atStart => exact ⟨0, Nat.zero_le _, rfl, rfl⟩
      case round =>
        obtain ⟨k, hk, rfl, rfl⟩ := hrel
        have hal := ahead_le W j k
        by_cases hlt2 : k < len
        · have c1 := HC.out k hlt2
          have hv2 := len_of (HG.out k hlt2)
          have hv0 := hv2.1
          have hv1 := hv2.2
          clear hv2
          by_cases hyes : 0 < W k ∧ (W k < W j ∨ (W k = W j ∧ k < j))
          · have hst := Hid.mk' (ahead_yes W j k hyes.2 hyes.1)
            obtain ⟨z, ez⟩ : ∃ z, Hid (W k = z) := ⟨_, Hid.mk' rfl⟩
            rw [ez.out, ey.out] at hyes
            rw [ez.out] at c1 hv0 hv1 hst
            obtain ⟨hz0, hyz⟩ := hyes
            obtain ⟨p, rfl⟩ := Int.eq_ofNat_of_zero_le hv0
            rw [Int.toNat_natCast] at hst
            have hcs : (15 : Int) - p = ((15 - p : Nat) : Int) := by omega
            have hpb : 2 ^ (15 - p) ≤ 32768 := by
              have : 2 ^ (15 - p) ≤ 2 ^ 15 := Nat.pow_le_pow_right (by decide) (by omega)
              omega
            generalize ahead W j k = g at *
            rcases hyz with hyz | ⟨hyz, hkj⟩
            · go_wp2_with fail
              refine (pow2_any (15 - p) _ (by omega)).mono ?_
              rintro e w' ⟨rfl, rfl⟩
              generalize 2 ^ (15 - p) = q at *
              go_wp2_with fail
              go_round
              case rel => exact ⟨k + 1, by omega, by go_num, by rw [hst.out]; exact int_eq (by omega)⟩
              case measure => simp [intOf]; omega
            · subst hyz
              go_wp2_with fail
              refine (pow2_any (15 - p) _ (by omega)).mono ?_
              rintro e w' ⟨rfl, rfl⟩
              generalize 2 ^ (15 - p) = q at *
              go_wp2_with fail
              go_round
              case rel => exact ⟨k + 1, by omega, by go_num, by rw [hst.out]; exact int_eq (by omega)⟩
              case measure => simp [intOf]; omega
          · have hst := Hid.mk' (ahead_no W j k hyes)
            obtain ⟨z, ez⟩ : ∃ z, Hid (W k = z) := ⟨_, Hid.mk' rfl⟩
            rw [ez.out, ey.out] at hyes
            rw [ez.out] at c1 hv0 hv1
            generalize ahead W j k = g at *
            by_cases hz0 : 0 < z
            · by_cases hzy : z = y
              · have t2 : ¬ k < j := by omega
                subst hzy
                clear hyes
                go_wp2_with fail
                go_round
                case rel => exact ⟨k + 1, by omega, by go_num, by rw [hst.out]⟩
                case measure => simp [intOf]; omega
              · have t1 : ¬ z < y := by omega
                have t2 : (z == y) = false := by rw [beq_eq_false_iff_ne]; exact hzy
                clear hyes
                go_wp2_with fail
                go_round
                case rel => exact ⟨k + 1, by omega, by go_num, by rw [hst.out]⟩
                case measure => simp [intOf]; omega
            · clear hyes
              go_wp2_with fail
              go_round
              case rel => exact ⟨k + 1, by omega, by go_num, by rw [hst.out]⟩
              case measure => simp [intOf]; omega
        · have hkl := Hid.mk' (show k = len by omega)
          by_cases hy0 : y = 0
          · subst hy0
            have hcode : Hid (codeN W len j = 0) := code_none W len j ey.out
            go_wp2_with fail
            refine (pow2_any 15 _ (by omega)).mono ?_
            rintro e w2 ⟨rfl, rfl⟩
            rw [show ((2 ^ 15 : Nat) : Int) = 32768 from rfl]
            go_wp2_with (at_builtin; refine wpList_append_own _ rfl (.tmp 61) (.tmp 67) 22 rfl w'.heap.size 3 i0 (.int .i64 0) 1 8 Try.underlying22 KI.out KZ0.out KZ1.out KZ2.out rfl (by decide) u6 _ _ rfl (HO.out.alloc _) ⟨w2.heap.size, 0, none⟩ 1 1 [.int .i64 0] rfl rfl (cell_one_new _ _ _) (one_int _ _) (by unfold maxLen; omega) (by omega) (by simp; omega) ?_; intro v' w3 hown1 hgrow1 _)
            have HB4 := Hid.mk' (below_grow64 HO.out HB.out hsz hgrow1)
            have HO4 : Hid (w3.ownsRow w'.heap.size 3 1 v' (j + 1) (cells64 (fun i => (codeN W len i : Int)) (j + 1))) := by
              rw [cells64_succ, hcode.out]; exact hown1
            clear hown1 hgrow1
            go_wp2_with fail
            go_roundw
            case rel => exact ⟨j + 1, by omega, by go_num, HO4.out, HB4.out⟩
            case measure => simp [intOf]; omega
          · obtain ⟨s, rfl⟩ := Int.eq_ofNat_of_zero_le hw0
            have hs0 : 0 < s := by omega
            have hac := ahead_code' W len j s hlt ey.out hs0 (by omega)
            have hcs : (15 : Int) - (s : Int) = ((15 - s : Nat) : Int) := by omega
            have hpb : 2 ^ (15 - s) ≤ 32768 := by
              have : 2 ^ (15 - s) ≤ 2 ^ 15 := Nat.pow_le_pow_right (by decide) (by omega)
              omega
            have hpp : 0 < 2 ^ (15 - s) := Nat.two_pow_pos _
            have hal2 := ahead_le W j len
            rw [hac] at hal2
            obtain ⟨c, ec⟩ : ∃ c, Hid (codeN W len j = c) := ⟨_, Hid.mk' rfl⟩
            rw [ec.out] at hac hal2
            have hdv : ((c * 2 ^ (15 - s) : Nat) : Int).tdiv ((2 ^ (15 - s) : Nat) : Int) = (c : Int) := by
              rw [Int.tdiv_eq_ediv_of_nonneg (Int.natCast_nonneg _), ← Int.natCast_ediv, Nat.mul_div_cancel _ hpp]
            obtain ⟨p, ep⟩ : ∃ p, Hid (2 ^ (15 - s) = p) := ⟨_, Hid.mk' rfl⟩
            rw [ep.out] at hac hal2 hpb hpp hdv
            obtain ⟨g, eg⟩ : ∃ g, Hid (c * p = g) := ⟨_, Hid.mk' rfl⟩
            have hcb : c ≤ c * p := Nat.le_mul_of_pos_right _ hpp
            rw [eg.out] at hac hal2 hdv hcb
            have hca : Hid (ahead W j k = g) := by rw [hkl.out]; exact hac
            rw [hca.out]
            clear hac hal
            have hdv2 : (g : Int) / (p : Int) = (c : Int) := by rw [← hdv, Int.tdiv_eq_ediv_of_nonneg (Int.natCast_nonneg _)]
            go_wp2_with fail
            refine (pow2_any (15 - s) _ (by omega)).mono ?_
            rintro e w2 ⟨rfl, rfl⟩
            rw [ep.out]
            go_wp2_with (at_builtin; refine wpList_append_own _ rfl (.tmp 61) (.tmp 67) 22 rfl w'.heap.size 3 i0 (.int .i64 0) 1 8 Try.underlying22 KI.out KZ0.out KZ1.out KZ2.out rfl (by decide) u6 _ _ rfl (HO.out.alloc _) ⟨w2.heap.size, 0, none⟩ 1 1 [.int .i64 (c : Int)] rfl rfl (cell_one_new _ _ _) (one_int _ _) (by unfold maxLen; omega) (by omega) (by simp; omega) ?_; intro v' w3 hown1 hgrow1 _)
            have HB4 := Hid.mk' (below_grow64 HO.out HB.out hsz hgrow1)
            have HO4 : Hid (w3.ownsRow w'.heap.size 3 1 v' (j + 1) (cells64 (fun i => (codeN W len i : Int)) (j + 1))) := by
              rw [cells64_succ, ec.out]; exact hown1
            clear hown1 hgrow1
            go_wp2_with fail
            go_roundw
            case rel => exact ⟨j + 1, by omega, by go_num, HO4.out, HB4.out⟩
            case measure => simp [intOf]; omega
    · have hjl := Hid.mk' (show j = len by omega)
      go_wp2_with fail
      go_ret2
      refine ⟨⟨u6, ?_, ?_⟩, HB.out⟩
      · rw [hco.out.1]; rfl
      · have h := HO.out
        rw [hjl.out] at h
        rw [hco.out.2]; exact i64s_of_own h
set_option maxHeartbeats 800000 in
theorem rcanon_any (a0 : Option Addr) (len cap : Nat) (W : Nat → Int) (w : World) (hP : Wds w a0 len W) :
    Calls Try.prog 18 #[.slice a0 len cap] w fun e w' => (∃ v, e = .returned (.tuple #[v, .int .i64 (canE W len)]) ∧ I64s w' v (canL W len) (fun i => (codeN W len i : Int))) ∧ Below w.heap.size w w' := by
  by_cases hE : fillE W len = 0
  · by_cases hF : 32768 < fillN W len
    · have HP := Hid.mk' hP
      obtain ⟨hL, _, hA⟩ := fillE_zero W len hE
      have hco := Hid.mk' (can_over W len hE hF)
      have HE := Hid.mk' hE
      have HA := Hid.mk' hA
      have hfb := sumP_le W (fun _ _ => true) len
      rw [← fillN] at hfb
      clear hE hA hP
      go_enter Try.func18, Try.ntmps18
      go_wp2_with fail
      refine (rfill_any a0 len cap W _ HP.out).mono ?_
      rintro e w' ⟨rfl, rfl⟩
      rw [HE.out, HA.out]
      generalize fillN W len = x at *
      go_wp2_with fail
      go_ret2
      refine ⟨⟨.slice none 0 0, ?_, ?_⟩, Below.refl _ _⟩
      · rw [hco.out.1]; rfl
      · rw [hco.out.2]; exact i64s_nil _ _
    · exact rcanon_ok a0 len cap W w hP hE (by omega)
  · have HP := Hid.mk' hP
    have hce := Hid.mk' (can_err W len hE)
    clear hP
    go_enter Try.func18, Try.ntmps18
    go_wp2_with fail
    refine (rfill_any a0 len cap W _ HP.out).mono ?_
    rintro e w' ⟨rfl, rfl⟩
    have hE' : (fillE W len != 0) = true := by rw [bne_iff_ne]; exact hE
    obtain ⟨er, eer⟩ : ∃ er, Hid (fillE W len = er) := ⟨_, Hid.mk' rfl⟩
    rw [eer.out] at hE' hE ⊢
    generalize fillA W len = x
    go_wp2_with fail
    go_ret2
    refine ⟨⟨.slice none 0 0, ?_, ?_⟩, Below.refl _ _⟩
    · rw [hce.out.1, eer.out]; rfl
    · rw [hce.out.2]; exact i64s_nil _ _
end Go.Proofs.Ytnoegodimiehhaa
