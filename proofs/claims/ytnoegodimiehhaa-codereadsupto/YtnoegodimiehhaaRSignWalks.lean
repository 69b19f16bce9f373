/- What linenref.sign answers. -/
import Derived.Test.YtnoegodimiehhaaRWordsWalks
namespace Go.Proofs.Ytnoegodimiehhaa
open Go.RowKit

theorem Word.bts {w : World} {g : Nat} {ao : Option Addr} {X n cap : Nat} (h : Word w g (.slice ao n cap) X n) : Bts w ao X n := by
  obtain ⟨ao', cap', h1, _, h3⟩ := h.is
  cases h1
  exact ⟨fun hp => by obtain ⟨b, off, k1, _, k3, k4⟩ := h3 hp; exact ⟨b, off, k1, k3, k4⟩⟩
theorem Bts.front {w : World} {ao : Option Addr} {X n m : Nat} (h : Bts w ao X n) (hm : m ≤ n) : Bts w ao X m :=
  ⟨fun hp => by obtain ⟨b, off, k1, k3, k4⟩ := h.at' (by omega); exact ⟨b, off, k1, k3, fun i hi => k4 i (by omega)⟩⟩

set_option maxRecDepth 20000 in
set_option maxHeartbeats 2000000 in
theorem rsign_any (g : Nat) (L : Nat → Int) (len : Nat) (R : Nat → Value) (ab : Option Addr) (rem cb X : Nat) (w : World) (hE : canE L len = 0) (hW : Words w g L len len R) (hB : Bts w ab X rem) (hr1 : rem ≤ 17592186044416) (hr2 : rem ≤ cb) (r : Nat × Nat × Int) (hr : sgnS L len X rem 16 0 = r) :
    Calls Try.prog 20 #[.slice (some ⟨g, 0, none⟩) len len, .slice ab rem cb] w fun e w' => e = .returned (.tuple #[.int .i64 (r.1 : Nat), .int .i64 (r.2.1 : Nat), .int .i64 r.2.2]) ∧ ∃ q, w' = w.drewN q := by
  obtain ⟨h320, hg, hF, _⟩ := canE_ok hE
  have HG := Hid.mk' hg
  have HW := Hid.mk' hW
  have HB := Hid.mk' hB
  have HR := Hid.mk' hr
  have HF := Hid.mk' hF
  clear hg hW hB hr hE hF
  go_enter Try.func20, Try.ntmps20
  go_wp2_with fail
  go_loopw [7] (fun n wr => ∃ n' q : Nat, n' ≤ 15 ∧ n' ≤ rem ∧ n = .int .i64 (n' : Int) ∧ sgnS L len X rem (16 - n') n' = r ∧ wr = w.drewN q) (fun n _ => 16 - (intOf n).toNat)
  case atStart => exact ⟨0, 0, by omega, by omega, rfl, HR.out, rfl⟩
  case round =>
    clear HR
    obtain ⟨n, q0, hn15, hnr, rfl, hsg, rfl⟩ := hrel
    obtain ⟨f, hf⟩ : ∃ f, 16 - n = f + 1 := ⟨15 - n, by omega⟩
    have HS := Hid.mk' hsg
    rw [hf, sgnS] at HS
    obtain ⟨v, hv⟩ : ∃ v, Hid (rv X n = v) := ⟨_, Hid.mk' rfl⟩
    rw [hv.out] at HS
    clear hsg
    go_wp2_with fail
    go_loopw [8, 15] (fun sm i wr => ∃ k q : Nat, k ≤ len ∧ i = .int .i64 k ∧ sm = .bool (somS L len n v k) ∧ (∀ j, j < k → ¬ (0 < n ∧ L j = (n : Int) ∧ codeN L len j = v)) ∧ wr = w.drewN q) (fun _ i _ => len - (intOf i).toNat)
    case atStart => exact ⟨0, q0, Nat.zero_le _, rfl, rfl, fun j hj => by omega, rfl⟩
    case round =>
      obtain ⟨k, q, hk, rfl, rfl, hno, rfl⟩ := hrel
      have HN := Hid.mk' hno
      clear hno
      by_cases hlt : k < len
      · have hlb := len_of (HG.out k hlt)
        obtain ⟨y, hy⟩ : ∃ y : Nat, L k = (y : Int) := ⟨(L k).toNat, by omega⟩
        have hy15 : y ≤ 15 := by omega
        have HY := Hid.mk' hy
        have hwd := HW.out.done k hlt
        rw [hy, Int.toNat_natCast] at hwd
        obtain ⟨aw, cw, hRk, hyc, _⟩ := hwd.is
        rw [hRk] at hwd
        have HWD := Hid.mk' hwd
        have c0 : (w.drewN q).cell? ⟨g, k, none⟩ = _ := HW.out.c k hlt
        rw [hRk] at c0
        have hsu := Hid.mk' (somS_succ L len n v k)
        rw [hy, Int.toNat_natCast] at hsu
        have hclt : Hid (0 < y → codeN L len k < 2 ^ y) := fun h0 => code_lt2 HF.out k y hlt hy h0 hy15
        obtain ⟨c, hc⟩ : ∃ c, Hid (codeN L len k = c) := ⟨_, Hid.mk' rfl⟩
        rw [hc.out] at hsu hclt HWD
        clear hy hlb hwd hRk hyc
        obtain ⟨sm, hsm⟩ : ∃ b, Hid (somS L len n v k = b) := ⟨_, Hid.mk' rfl⟩
        rw [hsm.out] at hsu
        rw [hsm.out]
        obtain ⟨W2, hW2⟩ : ∃ W2, Hid (w.drewN q = W2) := ⟨_, Hid.mk' rfl⟩
        have HBW : Hid (∀ m, m ≤ rem → Bts W2 ab X m) := fun m hm => by rw [← hW2.out]; exact bts_drewN (HB.out.front hm) q
        have HBK : Hid (Bts W2 aw (rv c y) y) := by rw [← hW2.out]; exact bts_drewN HWD.out.bts q
        rw [hW2.out] at c0 ⊢
        have n0 : (0 : Int) ≤ (n : Int) := by omega
        have n1 : (n : Int) ≤ (cb : Int) := by omega
        have k0 : (0 : Int) ≤ (k : Int) := by omega
        have k1 : (k : Int) < (len : Int) := by omega
        by_cases hyn : 0 < y ∧ y = n
        · obtain ⟨hy0, hyn⟩ := hyn
          have hbeg := Hid.mk' (word_hit X c y (hclt.out hy0) rem (by omega))
          have t0 : decide (0 < y) = true := decide_eq_true hy0
          have t1 : ((y : Int) == (n : Int)) = true := by rw [beq_iff_eq]; omega
          by_cases hcv : c = v
          · have hb1 : Hid (begB X rem (rv c y) y = true) := by show _ = _; rw [hbeg.out, hyn, hv.out]; exact decide_eq_true hcv
            have hrr : Hid (r = (k, n, 0)) := by
              have := HS.out
              rw [hit_first hlt ⟨by omega, by rw [HY.out, hyn], by rw [hc.out, hcv]⟩ HN.out] at this
              exact this.symm
            clear hyn hcv
            go_wp2_with fail
            refine (rbegins_any ab aw cb cw X rem (rv c y) y _ hr1 (by omega) (HBW.out rem (Nat.le_refl _)) HBK.out).mono ?_
            rintro e w3 ⟨rfl, q3, rfl⟩
            rw [hb1.out]
            go_wp2_with fail
            go_ret3
            refine ⟨?_, q + q3, by rw [← hW2.out, drewN_addB]⟩
            rw [hrr.out]; rfl
          · have hb1 : Hid (begB X rem (rv c y) y = false) := by show _ = _; rw [hbeg.out, hyn, hv.out]; exact decide_eq_false hcv
            have HN2 : Hid (∀ j, j < k + 1 → ¬ (0 < n ∧ L j = (n : Int) ∧ codeN L len j = v)) := by
              intro j hj
              by_cases e : j = k
              · rw [e, hc.out]; exact fun h => hcv h.2.2
              · exact HN.out j (by omega)
            have hsu2 : Hid (somS L len n v (k + 1) = sm) := by
              show _ = _
              rw [hsu.out, decide_eq_false (by omega), Bool.or_false]
            have t2 : decide (n < y) = false := decide_eq_false (by omega)
            clear hyn hcv
            go_wp2_with fail
            refine (rbegins_any ab aw cb cw X rem (rv c y) y _ hr1 (by omega) (HBW.out rem (Nat.le_refl _)) HBK.out).mono ?_
            rintro e w3 ⟨rfl, q3, rfl⟩
            rw [hb1.out]
            cases sm
            all_goals
              go_wp2_with fail
              go_roundw
              case rel => exact ⟨k + 1, q + q3, by omega, by go_num, by rw [hsu2.out], HN2.out, by rw [← hW2.out, drewN_addB]⟩
              case measure => simp [intOf]; omega
        · have HN2 : Hid (∀ j, j < k + 1 → ¬ (0 < n ∧ L j = (n : Int) ∧ codeN L len j = v)) := by
            intro j hj
            by_cases e : j = k
            · rw [e, HY.out]; exact fun h => hyn ⟨by omega, by omega⟩
            · exact HN.out j (by omega)
          by_cases hny : n < y
          · have hmore := Hid.mk' (word_more X c y n (hclt.out (by omega)) hny)
            rw [hv.out] at hmore
            have hsu2 : Hid (somS L len n v (k + 1) = (sm || begB (rv c y) y X n)) := by
              show _ = _
              rw [hsu.out, hmore.out]
              congr 1
              by_cases h : c / 2 ^ (y - n) = v
              · rw [decide_eq_true h, decide_eq_true ⟨by omega, h⟩]
              · rw [decide_eq_false h, decide_eq_false (fun h2 => h h2.2)]
            have t0 : decide (0 < y) = true := decide_eq_true (by omega)
            have t1 : ((y : Int) == (n : Int)) = false := by rw [beq_eq_false_iff_ne]; omega
            have t2 : decide (n < y) = true := decide_eq_true hny
            clear hyn
            cases sm with
            | true =>
              have hsu3 : Hid (somS L len n v (k + 1) = true) := by show _ = _; rw [hsu2.out]; rfl
              go_wp2_with fail
              go_roundw
              case rel => exact ⟨k + 1, q, by omega, by go_num, by rw [hsu3.out], HN2.out, hW2.out.symm⟩
              case measure => simp [intOf]; omega
            | false =>
              have hsu3 : Hid (somS L len n v (k + 1) = begB (rv c y) y X n) := by show _ = _; rw [hsu2.out]; rfl
              go_wp2_with fail
              refine (rbegins_any aw ab cw cb (rv c y) y X n _ (by omega) (by omega) HBK.out (HBW.out n hnr)).mono ?_
              rintro e w3 ⟨rfl, q3, rfl⟩
              go_wp2_with fail
              go_roundw
              case rel => exact ⟨k + 1, q + q3, by omega, by go_num, by rw [hsu3.out], HN2.out, by rw [← hW2.out, drewN_addB]⟩
              case measure => simp [intOf]; omega
          · have hsu2 : Hid (somS L len n v (k + 1) = sm) := by
              show _ = _
              rw [hsu.out, decide_eq_false (by omega), Bool.or_false]
            have t2 : decide (n < y) = false := decide_eq_false hny
            by_cases hy0 : 0 < y
            · have t0 : decide (0 < y) = true := decide_eq_true hy0
              have t1 : ((y : Int) == (n : Int)) = false := by rw [beq_eq_false_iff_ne]; omega
              clear hyn hny
              cases sm
              all_goals
                go_wp2_with fail
                go_roundw
                case rel => exact ⟨k + 1, q, by omega, by go_num, by rw [hsu2.out], HN2.out, hW2.out.symm⟩
                case measure => simp [intOf]; omega
            · have t0 : decide (0 < y) = false := decide_eq_false hy0
              clear hyn hny
              cases sm
              all_goals
                go_wp2_with fail
                go_roundw
                case rel => exact ⟨k + 1, q, by omega, by go_num, by rw [hsu2.out], HN2.out, hW2.out.symm⟩
                case measure => simp [intOf]; omega
      · have hkl : k = len := by omega
        have hnone : hitS L len n v = none := hit_nowhere fun j hj => HN.out j (by omega)
        have HS2 : Hid ((if moreS L len n v = true then (if n = rem then (0, 0, 3) else sgnS L len X rem f (n + 1)) else (0, 0, 7)) = r) := by
          have := HS.out; rw [hnone] at this; exact this
        have hmo : Hid (somS L len n v k = moreS L len n v) := by show _ = _; rw [hkl]; rfl
        rw [hmo.out]
        clear hkl hnone
        cases hm : moreS L len n v with
        | false =>
          have hrr : Hid (r = (0, 0, 7)) := by have := HS2.out; rw [hm] at this; exact this.symm
          go_wp2_with fail
          go_ret3
          refine ⟨?_, q, rfl⟩
          rw [hrr.out]; rfl
        | true =>
          by_cases hend : n = rem
          · have hrr : Hid (r = (0, 0, 3)) := by have := HS2.out; rw [hm, if_pos rfl, if_pos hend] at this; exact this.symm
            have t3 : ((n : Int) == (rem : Int)) = true := by rw [beq_iff_eq]; omega
            clear hend
            go_wp2_with fail
            go_ret3
            refine ⟨?_, q, rfl⟩
            rw [hrr.out]; rfl
          · have hsg : Hid (sgnS L len X rem (16 - (n + 1)) (n + 1) = r) := by
              have := HS2.out
              rw [hm, if_pos rfl, if_neg hend] at this
              rw [show 16 - (n + 1) = f by omega]; exact this
            have hn14 : n < 15 := by
              obtain ⟨i, i1, i2, _⟩ := more_of hm
              have := len_of (HG.out i i1)
              omega
            have t3 : ((n : Int) == (rem : Int)) = false := by rw [beq_eq_false_iff_ne]; omega
            have hnr2 : n + 1 ≤ rem := by omega
            clear hend
            go_wp2_with fail
            go_roundw
            case rel => exact ⟨n + 1, q, by omega, hnr2, by go_num, hsg.out, rfl⟩
            case measure => simp [intOf]; omega
end Go.Proofs.Ytnoegodimiehhaa
