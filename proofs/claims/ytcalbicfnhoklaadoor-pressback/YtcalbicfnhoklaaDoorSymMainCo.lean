/- What slices' symMerge does to a row of coins: all of it. -/
import Derived.Test.YtcalbicfnhoklaaDoorSymCoins
namespace Go.Proofs.YtcalbicfnhoklaaDoor
open Go.RowKit

set_option maxRecDepth 20000 in
set_option maxHeartbeats 8000000 in
theorem symC_all (g n cap kb : Nat) (w0 : World) (hO : OrdC w0 g kb) (hn : n ≤ 1000000) (N : Nat) : ∀ (a m b : Nat) (s : Nat → Int × Bool) (w : World), b - a ≤ N → CoRow w0 w g n s → a < m → m < b → b ≤ n → SortF Prod.fst s a m → SortF Prod.fst s m b →
    Calls Tryd.prog 95 #[.slice (some ⟨g, 0, none⟩) n cap, .int .i64 (a : Int), .int .i64 (m : Int), .int .i64 (b : Int), .func (.func 87) #[] #[.pointer (some ⟨kb, 0, none⟩)]] w fun e w' => e = .returned (.tuple #[]) ∧ ∃ s', CoRow w0 w' g n s' ∧ PermF a b s s' ∧ SortF Prod.fst s' a b := by
  induction N with
  | zero => intro a m b s w h1 _ h4 h5; omega
  | succ N ih =>
    intro a m b s w hN hR ham hmb hb hs1 hs2
    by_cases hf : m = a + 1
    · subst hf
      exact symC_front g n cap a b kb s w0 w hO hR hmb hb hn hs2
    by_cases hk : b = m + 1
    · subst hk
      exact symC_back g n cap a m kb s w0 w hO hR (by omega) hb hn hs1
    have HO := Hid.mk' hO
    have HR := Hid.mk' hR
    have HS1 := Hid.mk' hs1
    have HS2 := Hid.mk' hs2
    have IH := Hid.mk' ih
    clear hO hR hs1 hs2 ih
    obtain ⟨d, hd⟩ : ∃ d, Hid (m - a = d) := ⟨_, Hid.mk' rfl⟩
    have hdz : (m : Int) - (a : Int) = (d : Int) := by have := hd.out; omega
    have t0 : ((d : Int) == 1) = false := by rw [beq_eq_false_iff_ne]; have := hd.out; omega
    obtain ⟨d2, hd2⟩ : ∃ d, Hid (b - m = d) := ⟨_, Hid.mk' rfl⟩
    have hd2z : (b : Int) - (m : Int) = (d2 : Int) := by have := hd2.out; omega
    have t1 : ((d2 : Int) == 1) = false := by rw [beq_eq_false_iff_ne]; have := hd2.out; omega
    obtain ⟨mid, hmid⟩ : ∃ c, Hid ((a + b) / 2 = c) := ⟨_, Hid.mk' rfl⟩
    have hmz : ((a : Int) + (b : Int)) / 2 = (mid : Int) := by have := hmid.out; omega
    have hma : a < mid := by have := hmid.out; omega
    have hmb2 : mid < b := by have := hmid.out; omega
    obtain ⟨nn, hnn⟩ : ∃ c, Hid (mid + m = c) := ⟨_, Hid.mk' rfl⟩
    have hnz : (mid : Int) + (m : Int) = (nn : Int) := by have := hnn.out; omega
    have hnb : nn ≤ 2000000 := by have := hnn.out; omega
    obtain ⟨pp, hpp⟩ : ∃ c, Hid (nn - 1 = c) := ⟨_, Hid.mk' rfl⟩
    have hpz : (nn : Int) - 1 = (pp : Int) := by have h1 := hpp.out; have h2 := hnn.out; omega
    clear hf hk
    by_cases hmm : mid < m
    case' pos =>
      obtain ⟨st0, hst0⟩ : ∃ c, Hid (nn - b = c) := ⟨_, Hid.mk' rfl⟩
      have hstz : (nn : Int) - (b : Int) = (st0 : Int) := by have h1 := hst0.out; have h2 := hnn.out; have h3 := hmid.out; omega
      obtain ⟨r0, hr0⟩ : ∃ c, Hid (c = mid) := ⟨_, Hid.mk' rfl⟩
      have t2 : decide (mid < m) = true := decide_eq_true hmm
      have HS0 : Hid (a ≤ st0 ∧ st0 ≤ r0 ∧ r0 ≤ m ∧ r0 ≤ mid ∧ (nn - st0 ≤ b) ∧ (st0 = a ∨ nn - st0 = b) ∧ (r0 = m ∨ nn - r0 = m)) := by
        show _ ∧ _
        have h1 := hst0.out; have h2 := hnn.out; have h3 := hmid.out; have h4 := hr0.out
        omega
      go_enter Tryd.func95, Tryd.ntmps95
      go_wp2_with fail
    case' neg =>
      obtain ⟨st0, hst0⟩ : ∃ c, Hid (c = a) := ⟨_, Hid.mk' rfl⟩
      obtain ⟨r0, hr0⟩ : ∃ c, Hid (c = m) := ⟨_, Hid.mk' rfl⟩
      have t2 : decide (mid < m) = false := decide_eq_false hmm
      have HS0 : Hid (a ≤ st0 ∧ st0 ≤ r0 ∧ r0 ≤ m ∧ r0 ≤ mid ∧ (nn - st0 ≤ b) ∧ (st0 = a ∨ nn - st0 = b) ∧ (r0 = m ∨ nn - r0 = m)) := by
        show _ ∧ _
        have h1 := hst0.out; have h2 := hnn.out; have h3 := hmid.out; have h4 := hr0.out
        omega
      go_enter Tryd.func95, Tryd.ntmps95
      go_wp2_with fail
    all_goals
      go_loopw [20, 21] (fun sv rv' wr => ∃ (st r : Nat), st0 ≤ st ∧ st ≤ r ∧ r ≤ r0 ∧ sv = .int .i64 (st : Int) ∧ rv' = .int .i64 (r : Int) ∧ (st = st0 ∨ (st0 < st ∧ (s (st - 1)).1 ≤ (s (nn - st)).1)) ∧ (r = r0 ∨ (s (nn - r - 1)).1 ≤ (s r).1) ∧ CoRow w0 wr g n s) (fun sv rv' _ => (intOf rv').toNat - (intOf sv).toNat)
      case atStart => exact ⟨st0, r0, Nat.le_refl _, HS0.out.2.1, Nat.le_refl _, by first | rfl | rw [hst0.out], by first | rfl | rw [hr0.out], .inl rfl, .inl rfl, HR.out⟩
      case round =>
        clear HR
        obtain ⟨st, r, h1, h2, h3, rfl, rfl, hlo, hhi, hrow⟩ := hrel
        have HR := Hid.mk' hrow
        clear hrow
        have HLo := Hid.mk' hlo
        have HHi := Hid.mk' hhi
        obtain ⟨q1, q2, q3, q4, q5, q6, q7⟩ := HS0.out
        have Q6 := Hid.mk' q6
        have Q7 := Hid.mk' q7
        clear hlo hhi q6 q7
        by_cases hij : st < r
        · obtain ⟨c, hc0⟩ : ∃ c, Hid ((st + r) / 2 = c) := ⟨_, Hid.mk' rfl⟩
          have hcz : ((st : Int) + (r : Int)) / 2 = (c : Int) := by have := hc0.out; omega
          have hh1 : st ≤ c := by have := hc0.out; omega
          have hh2 : c < r := by have := hc0.out; omega
          obtain ⟨e0, he0⟩ : ∃ c', Hid (pp - c = c') := ⟨_, Hid.mk' rfl⟩
          have hnn1 := hnn.out
          have hpp1 := hpp.out
          have hez : (pp : Int) - (c : Int) = (e0 : Int) := by have := he0.out; omega
          have hen : e0 < n := by have := he0.out; omega
          have hcn : c < n := by omega
          have HE0 : Hid (e0 = nn - c - 1 ∧ e0 = nn - (c + 1)) := by show _ ∧ _; have := he0.out; omega
          have ch := HR.out.row.c0 e0 hen
          have ch1 := HR.out.row.c1 e0 hen
          have ca := HR.out.row.c0 c hcn
          have ca1 := HR.out.row.c1 c hcn
          obtain ⟨⟨x, x1⟩, hx⟩ : ∃ x, Hid (s e0 = x) := ⟨_, Hid.mk' rfl⟩
          obtain ⟨⟨y, y1⟩, hy⟩ : ∃ y, Hid (s c = y) := ⟨_, Hid.mk' rfl⟩
          rw [hx.out] at ch ch1
          rw [hy.out] at ca ca1
          have HOr := Hid.mk' (HO.out.grown HR.out.gr)
          have z0 : (0 : Int) ≤ (e0 : Int) := by omega
          have z1 : (e0 : Int) < (n : Int) := by omega
          have z2 : (0 : Int) ≤ (c : Int) := by omega
          have z3 : (c : Int) < (n : Int) := by omega
          have ze : IntKind.i64.wrap (e0 : Int) = (e0 : Int) := by rw [IntKind.wrap_i64]; omega
          clear hnn1 hpp1
          by_cases hl : x < y
          · have hc : decide (cmpV x y < 0) = true := decide_eq_true ((cmpV_lt _ _).2 hl)
            have HHi2 : Hid ((s (nn - c - 1)).1 ≤ (s c).1) := by
              show _ ≤ _
              rw [← HE0.out.1, hx.out, hy.out]; omega
            obtain ⟨cv, hcv⟩ : ∃ cv, Hid (cmpV x y = cv) := ⟨_, Hid.mk' rfl⟩
            rw [hcv.out] at hc
            go_wp2_with fail
            go_region_held3 (fun X => X.cell? ⟨g, e0 * 2, none⟩ = some (.int .i64 x) ∧ X.cell? ⟨g, e0 * 2 + 1, none⟩ = some (.bool x1) ∧ X.cell? ⟨g, c * 2, none⟩ = some (.int .i64 y) ∧ X.cell? ⟨g, c * 2 + 1, none⟩ = some (.bool y1)) (first | exact ⟨eh, eh1, ea, ea1⟩ | exact ⟨ch, ch1, ca, ca1⟩) (first | (go_at_call 87; refine (cmpC_at kb x y x1 y1 wr.drew HOr.out.k HOr.out.kl).mono ?_; rintro e w2 ⟨rfl, hbw⟩; rw [hcv.out]; have HR2 := Hid.mk' (HR.out.drew.below hbw); have eh := HR2.out.row.c0 e0 hen; have eh1 := HR2.out.row.c1 e0 hen; have ea := HR2.out.row.c0 c hcn; have ea1 := HR2.out.row.c1 c hcn; rw [hx.out] at eh eh1; rw [hy.out] at ea ea1; clear hbw) | fail)
            all_goals
              go_wp2_with fail
              go_roundw
              case rel => exact ⟨st, c, h1, by omega, by omega, rfl, rfl, HLo.out, .inr HHi2.out, HR2.out⟩
              case measure => simp [intOf]; omega
          · have hc : decide (cmpV x y < 0) = false := decide_eq_false (fun h => hl ((cmpV_lt _ _).1 h))
            have HLo2 : Hid ((s c).1 ≤ (s (nn - (c + 1))).1) := by
              show _ ≤ _
              rw [← HE0.out.2, hx.out, hy.out]; omega
            obtain ⟨cv, hcv⟩ : ∃ cv, Hid (cmpV x y = cv) := ⟨_, Hid.mk' rfl⟩
            rw [hcv.out] at hc
            go_wp2_with fail
            go_region_held3 (fun X => X.cell? ⟨g, e0 * 2, none⟩ = some (.int .i64 x) ∧ X.cell? ⟨g, e0 * 2 + 1, none⟩ = some (.bool x1) ∧ X.cell? ⟨g, c * 2, none⟩ = some (.int .i64 y) ∧ X.cell? ⟨g, c * 2 + 1, none⟩ = some (.bool y1)) (first | exact ⟨eh, eh1, ea, ea1⟩ | exact ⟨ch, ch1, ca, ca1⟩) (first | (go_at_call 87; refine (cmpC_at kb x y x1 y1 wr.drew HOr.out.k HOr.out.kl).mono ?_; rintro e w2 ⟨rfl, hbw⟩; rw [hcv.out]; have HR2 := Hid.mk' (HR.out.drew.below hbw); have eh := HR2.out.row.c0 e0 hen; have eh1 := HR2.out.row.c1 e0 hen; have ea := HR2.out.row.c0 c hcn; have ea1 := HR2.out.row.c1 c hcn; rw [hx.out] at eh eh1; rw [hy.out] at ea ea1; clear hbw) | fail)
            all_goals
              go_wp2_with fail
              go_roundw
              case rel => exact ⟨c + 1, r, by omega, by omega, h3, by go_num, rfl, .inr ⟨by omega, by rw [Nat.add_sub_cancel]; exact HLo2.out⟩, HHi.out, HR2.out⟩
              case measure => simp [intOf]; omega
        · have hsr : r = st := by omega
          obtain ⟨en, hen⟩ : ∃ c, Hid (nn - st = c) := ⟨_, Hid.mk' rfl⟩
          have hnn1 := hnn.out
          have henz : (nn : Int) - (st : Int) = (en : Int) := by have := hen.out; omega
          have HE : Hid (mid + m - st = en) := by show _ = _; rw [hnn1]; exact hen.out
          have HCut : Hid (Cut Prod.fst s a m b mid st) := by
            refine ⟨by omega, by omega, by omega, by omega, by omega, ?_, ?_⟩
            · rcases HLo.out with h | ⟨h, h'⟩
              · rcases Q6.out with k | k
                · exact .inl (by omega)
                · exact .inr (.inl (by omega))
              · exact .inr (.inr ⟨by omega, by omega, by rw [hnn1]; exact h'⟩)
            · rcases HHi.out with h | h
              · rcases Q7.out with k | k
                · exact .inl (by omega)
                · exact .inr (.inl (by omega))
              · rw [hsr] at h
                exact .inr (.inr (by rw [hnn1]; exact h))
          have hturn := cut_turn (by omega) (by omega) HS1.out HS2.out HCut.out
          rw [HE.out] at hturn
          have HTn := Hid.mk' hturn
          have hem : m ≤ en := by have := hen.out; omega
          have heb : en ≤ b := by have := hen.out; omega
          have hsa : a ≤ st := by omega
          have hsm : st ≤ m := by omega
          have hsmid : st ≤ mid := by omega
          have hemid : mid ≤ en := by have := hen.out; omega
          have HPt : Hid (PermF a b s (rotF s st m en)) := (rotF_perm s st m en hsm hem).mono hsa heb
          clear hturn hsr hnn1 q1 q2 q3 q4 q5
          have hen1 : mid + m = en + st := by have h1 := HE.out; omega
          by_cases hA : a < st
          · by_cases hP : st < m
            · by_cases hQ : st < mid
              · by_cases hB : en < b
                · have d1 : decide (st < m) = true := decide_eq_true (by omega)
                  have d2 : decide (m < en) = true := decide_eq_true (by omega)
                  have d3 : decide (a < st) = true := decide_eq_true (by omega)
                  have d4 : decide (st < mid) = true := decide_eq_true (by omega)
                  have d5 : decide (mid < en) = true := decide_eq_true (by omega)
                  have d6 : decide (en < b) = true := decide_eq_true (by omega)
                  have z1 : a < st := by omega
                  have z2 : st < m := by omega
                  have z3 : st < mid := by omega
                  have z4 : en < b := by omega
                  have z5 : mid < en := by omega
                  have z6 : m < en := by omega
                  clear hen1
                  go_wp2_with fail
                  refine (rotate_co g n cap st m en s _ _ HR.out.row z2 z6 (by omega) hn).mono ?_
                  rintro e w1 ⟨rfl, hrow, hgr⟩
                  have HW1 : Hid (CoRow w0 w1 g n (rotF s st m en)) := ⟨hrow, grown_trans HR.out.gr hgr⟩
                  clear hrow hgr
                  go_wp2_with fail
                  refine (IH.out a st mid _ _ (by omega) HW1.out z1 z3 (by omega) HTn.out.1 HTn.out.2.1).mono ?_
                  rintro e w2 ⟨rfl, s2, hrow, hp, hso⟩
                  have HW2 := Hid.mk' hrow
                  have HP2 := Hid.mk' hp
                  have HSo2 := Hid.mk' hso
                  clear hrow hp hso
                  go_wp2_with fail
                  refine (IH.out mid en b _ _ (by omega) HW2.out z5 z4 hb (HTn.out.2.2.1.congr fun x k1 _ => HP2.out.out x (.inr k1)) (HTn.out.2.2.2.1.congr fun x k1 _ => HP2.out.out x (.inr (by omega)))).mono ?_
                  rintro e w3 ⟨rfl, s3, hrow, hp, hso⟩
                  have HW3 := Hid.mk' hrow
                  have HP3 := Hid.mk' hp
                  have HSo3 := Hid.mk' hso
                  clear hrow hp hso
                  go_wp2_with fail
                  go_end0
                  exact ⟨rfl, _, HW3.out, HPt.out.trans ((HP2.out.mono (Nat.le_refl _) (by omega)).trans (HP3.out.mono (by omega) (Nat.le_refl _))), halves HTn.out.2.2.2.2 HP2.out HSo2.out HP3.out HSo3.out⟩
                · have d1 : decide (st < m) = true := decide_eq_true (by omega)
                  have d2 : decide (m < en) = true := decide_eq_true (by omega)
                  have d3 : decide (a < st) = true := decide_eq_true (by omega)
                  have d4 : decide (st < mid) = true := decide_eq_true (by omega)
                  have d5 : decide (mid < en) = true := decide_eq_true (by omega)
                  have d6 : decide (en < b) = false := decide_eq_false (by omega)
                  have z1 : a < st := by omega
                  have z2 : st < m := by omega
                  have z3 : st < mid := by omega
                  have z4 : b ≤ en := by omega
                  have z5 : mid < en := by omega
                  have z6 : m < en := by omega
                  clear hen1
                  go_wp2_with fail
                  refine (rotate_co g n cap st m en s _ _ HR.out.row z2 z6 (by omega) hn).mono ?_
                  rintro e w1 ⟨rfl, hrow, hgr⟩
                  have HW1 : Hid (CoRow w0 w1 g n (rotF s st m en)) := ⟨hrow, grown_trans HR.out.gr hgr⟩
                  clear hrow hgr
                  go_wp2_with fail
                  refine (IH.out a st mid _ _ (by omega) HW1.out z1 z3 (by omega) HTn.out.1 HTn.out.2.1).mono ?_
                  rintro e w2 ⟨rfl, s2, hrow, hp, hso⟩
                  have HW2 := Hid.mk' hrow
                  have HP2 := Hid.mk' hp
                  have HSo2 := Hid.mk' hso
                  clear hrow hp hso
                  go_wp2_with fail
                  have HW3 := HW2
                  have HP3 := Hid.mk' (PermF.refl mid b s2)
                  have HSo3 : Hid (SortF Prod.fst s2 mid b) := (HTn.out.2.2.1.sub (Nat.le_refl _) z4).congr fun x k1 _ => HP2.out.out x (.inr k1)
                  go_end0
                  exact ⟨rfl, _, HW3.out, HPt.out.trans ((HP2.out.mono (Nat.le_refl _) (by omega)).trans (HP3.out.mono (by omega) (Nat.le_refl _))), halves HTn.out.2.2.2.2 HP2.out HSo2.out HP3.out HSo3.out⟩
              · have d1 : decide (st < m) = true := decide_eq_true (by omega)
                have d2 : decide (m < en) = false := decide_eq_false (by omega)
                have d3 : decide (a < st) = true := decide_eq_true (by omega)
                have d4 : decide (st < mid) = false := decide_eq_false (by omega)
                have d5 : decide (mid < en) = true := decide_eq_true (by omega)
                have d6 : decide (en < b) = true := decide_eq_true (by omega)
                have HW1 : Hid (CoRow w0 wr g n (rotF s st m en)) := by rw [rotF_none s st m en (by omega) hsm hem]; exact HR.out
                have z1 : a < st := by omega
                have z2 : st < m := by omega
                have z3 : mid ≤ st := by omega
                have z4 : en < b := by omega
                have z5 : mid < en := by omega
                have z6 : en ≤ m := by omega
                clear hen1
                go_wp2_with fail
                have HW2 := HW1
                have HP2 := Hid.mk' (PermF.refl a mid (rotF s st m en))
                have HSo2 : Hid (SortF Prod.fst (rotF s st m en) a mid) := HTn.out.1.sub (Nat.le_refl _) z3
                refine (IH.out mid en b _ _ (by omega) HW2.out z5 z4 hb (HTn.out.2.2.1.congr fun x k1 _ => HP2.out.out x (.inr k1)) (HTn.out.2.2.2.1.congr fun x k1 _ => HP2.out.out x (.inr (by omega)))).mono ?_
                rintro e w3 ⟨rfl, s3, hrow, hp, hso⟩
                have HW3 := Hid.mk' hrow
                have HP3 := Hid.mk' hp
                have HSo3 := Hid.mk' hso
                clear hrow hp hso
                go_wp2_with fail
                go_end0
                exact ⟨rfl, _, HW3.out, HPt.out.trans ((HP2.out.mono (Nat.le_refl _) (by omega)).trans (HP3.out.mono (by omega) (Nat.le_refl _))), halves HTn.out.2.2.2.2 HP2.out HSo2.out HP3.out HSo3.out⟩
            · by_cases hQ : st < mid
              · have d1 : decide (st < m) = false := decide_eq_false (by omega)
                have d2 : decide (m < en) = true := decide_eq_true (by omega)
                have d3 : decide (a < st) = true := decide_eq_true (by omega)
                have d4 : decide (st < mid) = true := decide_eq_true (by omega)
                have d5 : decide (mid < en) = false := decide_eq_false (by omega)
                have d6 : decide (en < b) = true := decide_eq_true (by omega)
                have HW1 : Hid (CoRow w0 wr g n (rotF s st m en)) := by rw [rotF_none s st m en (by omega) hsm hem]; exact HR.out
                have z1 : a < st := by omega
                have z2 : en ≤ mid ∧ m ≤ st := by omega
                have z3 : st < mid := by omega
                have z4 : en < b := by omega
                have z5 : en ≤ mid := by omega
                have z6 : m < en := by omega
                clear hen1
                go_wp2_with fail
                refine (IH.out a st mid _ _ (by omega) HW1.out z1 z3 (by omega) HTn.out.1 HTn.out.2.1).mono ?_
                rintro e w2 ⟨rfl, s2, hrow, hp, hso⟩
                have HW2 := Hid.mk' hrow
                have HP2 := Hid.mk' hp
                have HSo2 := Hid.mk' hso
                clear hrow hp hso
                go_wp2_with fail
                have HW3 := HW2
                have HP3 := Hid.mk' (PermF.refl mid b s2)
                have HSo3 : Hid (SortF Prod.fst s2 mid b) := (HTn.out.2.2.2.1.sub z5 (Nat.le_refl _)).congr fun x k1 _ => HP2.out.out x (.inr k1)
                go_end0
                exact ⟨rfl, _, HW3.out, HPt.out.trans ((HP2.out.mono (Nat.le_refl _) (by omega)).trans (HP3.out.mono (by omega) (Nat.le_refl _))), halves HTn.out.2.2.2.2 HP2.out HSo2.out HP3.out HSo3.out⟩
              · have d1 : decide (st < m) = false := decide_eq_false (by omega)
                have d2 : decide (m < en) = false := decide_eq_false (by omega)
                have d3 : decide (a < st) = true := decide_eq_true (by omega)
                have d4 : decide (st < mid) = false := decide_eq_false (by omega)
                have d5 : decide (mid < en) = false := decide_eq_false (by omega)
                have d6 : decide (en < b) = true := decide_eq_true (by omega)
                have HW1 : Hid (CoRow w0 wr g n (rotF s st m en)) := by rw [rotF_none s st m en (by omega) hsm hem]; exact HR.out
                have z1 : a < st := by omega
                have z2 : en ≤ mid ∧ m ≤ st := by omega
                have z3 : mid ≤ st := by omega
                have z4 : en < b := by omega
                have z5 : en ≤ mid := by omega
                have z6 : en ≤ m := by omega
                clear hen1
                go_wp2_with fail
                have HW2 := HW1
                have HP2 := Hid.mk' (PermF.refl a mid (rotF s st m en))
                have HSo2 : Hid (SortF Prod.fst (rotF s st m en) a mid) := HTn.out.1.sub (Nat.le_refl _) z3
                have HW3 := HW2
                have HP3 := Hid.mk' (PermF.refl mid b (rotF s st m en))
                have HSo3 : Hid (SortF Prod.fst (rotF s st m en) mid b) := (HTn.out.2.2.2.1.sub z5 (Nat.le_refl _)).congr fun x k1 _ => HP2.out.out x (.inr k1)
                go_end0
                exact ⟨rfl, _, HW3.out, HPt.out.trans ((HP2.out.mono (Nat.le_refl _) (by omega)).trans (HP3.out.mono (by omega) (Nat.le_refl _))), halves HTn.out.2.2.2.2 HP2.out HSo2.out HP3.out HSo3.out⟩
          · by_cases hB : en < b
            · have d1 : decide (st < m) = true := decide_eq_true (by omega)
              have d2 : decide (m < en) = true := decide_eq_true (by omega)
              have d3 : decide (a < st) = false := decide_eq_false (by omega)
              have d4 : decide (st < mid) = true := decide_eq_true (by omega)
              have d5 : decide (mid < en) = true := decide_eq_true (by omega)
              have d6 : decide (en < b) = true := decide_eq_true (by omega)
              have z1 : st ≤ a := by omega
              have z2 : st < m := by omega
              have z3 : st < mid := by omega
              have z4 : en < b := by omega
              have z5 : mid < en := by omega
              have z6 : m < en := by omega
              clear hen1
              go_wp2_with fail
              refine (rotate_co g n cap st m en s _ _ HR.out.row z2 z6 (by omega) hn).mono ?_
              rintro e w1 ⟨rfl, hrow, hgr⟩
              have HW1 : Hid (CoRow w0 w1 g n (rotF s st m en)) := ⟨hrow, grown_trans HR.out.gr hgr⟩
              clear hrow hgr
              go_wp2_with fail
              have HW2 := HW1
              have HP2 := Hid.mk' (PermF.refl a mid (rotF s st m en))
              have HSo2 : Hid (SortF Prod.fst (rotF s st m en) a mid) := HTn.out.2.1.sub z1 (Nat.le_refl _)
              refine (IH.out mid en b _ _ (by omega) HW2.out z5 z4 hb (HTn.out.2.2.1.congr fun x k1 _ => HP2.out.out x (.inr k1)) (HTn.out.2.2.2.1.congr fun x k1 _ => HP2.out.out x (.inr (by omega)))).mono ?_
              rintro e w3 ⟨rfl, s3, hrow, hp, hso⟩
              have HW3 := Hid.mk' hrow
              have HP3 := Hid.mk' hp
              have HSo3 := Hid.mk' hso
              clear hrow hp hso
              go_wp2_with fail
              go_end0
              exact ⟨rfl, _, HW3.out, HPt.out.trans ((HP2.out.mono (Nat.le_refl _) (by omega)).trans (HP3.out.mono (by omega) (Nat.le_refl _))), halves HTn.out.2.2.2.2 HP2.out HSo2.out HP3.out HSo3.out⟩
            · have d1 : decide (st < m) = true := decide_eq_true (by omega)
              have d2 : decide (m < en) = true := decide_eq_true (by omega)
              have d3 : decide (a < st) = false := decide_eq_false (by omega)
              have d4 : decide (st < mid) = true := decide_eq_true (by omega)
              have d5 : decide (mid < en) = true := decide_eq_true (by omega)
              have d6 : decide (en < b) = false := decide_eq_false (by omega)
              have z1 : st ≤ a := by omega
              have z2 : st < m := by omega
              have z3 : st < mid := by omega
              have z4 : b ≤ en := by omega
              have z5 : mid < en := by omega
              have z6 : m < en := by omega
              clear hen1
              go_wp2_with fail
              refine (rotate_co g n cap st m en s _ _ HR.out.row z2 z6 (by omega) hn).mono ?_
              rintro e w1 ⟨rfl, hrow, hgr⟩
              have HW1 : Hid (CoRow w0 w1 g n (rotF s st m en)) := ⟨hrow, grown_trans HR.out.gr hgr⟩
              clear hrow hgr
              go_wp2_with fail
              have HW2 := HW1
              have HP2 := Hid.mk' (PermF.refl a mid (rotF s st m en))
              have HSo2 : Hid (SortF Prod.fst (rotF s st m en) a mid) := HTn.out.2.1.sub z1 (Nat.le_refl _)
              have HW3 := HW2
              have HP3 := Hid.mk' (PermF.refl mid b (rotF s st m en))
              have HSo3 : Hid (SortF Prod.fst (rotF s st m en) mid b) := (HTn.out.2.2.1.sub (Nat.le_refl _) z4).congr fun x k1 _ => HP2.out.out x (.inr k1)
              go_end0
              exact ⟨rfl, _, HW3.out, HPt.out.trans ((HP2.out.mono (Nat.le_refl _) (by omega)).trans (HP3.out.mono (by omega) (Nat.le_refl _))), halves HTn.out.2.2.2.2 HP2.out HSo2.out HP3.out HSo3.out⟩
end Go.Proofs.YtcalbicfnhoklaaDoor
