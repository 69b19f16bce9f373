/- What slices' symMerge does to a row of coins: its edges. -/
import Derived.Test.YtcalbicfnhoklaaDoorInsertCoins
namespace Go.Proofs.YtcalbicfnhoklaaDoor
open Go.RowKit

theorem rotC_up {α : Type} (s : Nat → α) (a k : Nat) (h : a ≤ k) : swF (rotF s a (a + 1) (k + 1)) k (k + 1) = rotF s a (a + 1) (k + 2) := by
  funext x
  unfold swF rotF
  repeat' split
  all_goals first | (exfalso; omega) | (congr 1; omega) | rfl
theorem rotC_down {α : Type} (s : Nat → α) (m k : Nat) (h : k + 1 ≤ m) : swF (rotF s (k + 1) m (m + 1)) (k + 1) k = rotF s k m (m + 1) := by
  funext x
  unfold swF rotF
  repeat' split
  all_goals first | (exfalso; omega) | (congr 1; omega) | rfl

set_option maxRecDepth 20000 in
set_option maxHeartbeats 4000000 in
/-- one ahead of a sorted part -/
theorem symC_front (g n cap a b kb : Nat) (s : Nat → Int × Bool) (w0 w : World) (hO : OrdC w0 g kb) (hR : CoRow w0 w g n s) (hab : a + 1 < b) (hb : b ≤ n) (hn : n ≤ 1000000) (hsort : SortF Prod.fst s (a + 1) b) :
    Calls Tryd.prog 95 #[.slice (some ⟨g, 0, none⟩) n cap, .int .i64 (a : Int), .int .i64 ((a + 1 : Nat) : Int), .int .i64 (b : Int), .func (.func 87) #[] #[.pointer (some ⟨kb, 0, none⟩)]] w fun e w' => e = .returned (.tuple #[]) ∧ ∃ s', CoRow w0 w' g n s' ∧ PermF a b s s' ∧ SortF Prod.fst s' a b := by
  have HO := Hid.mk' hO
  have HR := Hid.mk' hR
  have HS := Hid.mk' hsort
  clear hO hR hsort
  obtain ⟨m, hm⟩ : ∃ m, Hid (a + 1 = m) := ⟨_, Hid.mk' rfl⟩
  rw [hm.out]
  have hmz : (m : Int) - (a : Int) = 1 := by have := hm.out; omega
  have hmb : m < b := by have := hm.out; omega
  have ham : a < m := by have := hm.out; omega
  have t0 : ((1 : Int) == 1) = true := rfl
  go_enter Tryd.func95, Tryd.ntmps95
  go_wp2_with fail
  go_loopw [10, 11] (fun iv jv wr => ∃ (i j : Nat), m ≤ i ∧ i ≤ j ∧ j ≤ b ∧ iv = .int .i64 (i : Int) ∧ jv = .int .i64 (j : Int) ∧ (∀ x, m ≤ x → x < i → (s x).1 ≤ (s a).1) ∧ (∀ x, j ≤ x → x < b → (s a).1 ≤ (s x).1) ∧ CoRow w0 wr g n s) (fun iv jv _ => (intOf jv).toNat - (intOf iv).toNat)
  case atStart => exact ⟨m, b, Nat.le_refl _, by omega, Nat.le_refl _, rfl, rfl, fun x h1 h2 => by omega, fun x h1 h2 => by omega, HR.out⟩
  case round =>
    clear HR
    obtain ⟨i, j, h1, h2, h3, rfl, rfl, hlo, hhi, hrow⟩ := hrel
    have HR := Hid.mk' hrow
    clear hrow
    have HLo := Hid.mk' hlo
    have HHi := Hid.mk' hhi
    clear hlo hhi
    by_cases hij : i < j
    · obtain ⟨h, hh⟩ : ∃ h, Hid ((i + j) / 2 = h) := ⟨_, Hid.mk' rfl⟩
      have hz : ((i : Int) + (j : Int)) / 2 = (h : Int) := by have := hh.out; omega
      have hhi : i ≤ h ∧ h < j := by have := hh.out; omega
      have hh1 := hhi.1
      have hh2 := hhi.2
      clear hhi
      have hhn : h < n := by omega
      have han : a < n := by omega
      have ch := HR.out.row.c0 h hhn
      have ch1 := HR.out.row.c1 h hhn
      have ca := HR.out.row.c0 a han
      have ca1 := HR.out.row.c1 a han
      obtain ⟨⟨x, x1⟩, hx⟩ : ∃ x, Hid (s h = x) := ⟨_, Hid.mk' rfl⟩
      obtain ⟨⟨y, y1⟩, hy⟩ : ∃ y, Hid (s a = y) := ⟨_, Hid.mk' rfl⟩
      rw [hx.out] at ch ch1
      rw [hy.out] at ca ca1
      have HOr := Hid.mk' (HO.out.grown HR.out.gr)
      have z0 : (0 : Int) ≤ (h : Int) := by omega
      have z1 : (h : Int) < (n : Int) := by omega
      have z2 : (0 : Int) ≤ (a : Int) := by omega
      have z3 : (a : Int) < (n : Int) := by omega
      by_cases hl : x < y
      · have hc : decide (cmpV x y < 0) = true := decide_eq_true ((cmpV_lt _ _).2 hl)
        have HLo2 : Hid (∀ z, m ≤ z → z < h + 1 → (s z).1 ≤ (s a).1) := fun z k1 k2 => by
          rw [hy.out]
          refine Int.le_trans ?_ (Int.le_of_lt hl)
          rw [show x = (s h).1 by rw [hx.out]]
          exact HS.out z h (by have := hm.out; omega) (by omega) (by omega)
        obtain ⟨cv, hcv⟩ : ∃ cv, Hid (cmpV x y = cv) := ⟨_, Hid.mk' rfl⟩
        rw [hcv.out] at hc
        go_wp2_with fail
        go_region_held3 (fun X => X.cell? ⟨g, h * 2, none⟩ = some (.int .i64 x) ∧ X.cell? ⟨g, h * 2 + 1, none⟩ = some (.bool x1) ∧ X.cell? ⟨g, a * 2, none⟩ = some (.int .i64 y) ∧ X.cell? ⟨g, a * 2 + 1, none⟩ = some (.bool y1)) (first | exact ⟨eh, eh1, ea, ea1⟩ | exact ⟨ch, ch1, ca, ca1⟩) (first | (go_at_call 87; refine (cmpC_at kb x y x1 y1 wr.drew HOr.out.k HOr.out.kl).mono ?_; rintro e w2 ⟨rfl, hbw⟩; rw [hcv.out]; have HR2 := Hid.mk' (HR.out.drew.below hbw); have eh := HR2.out.row.c0 h hhn; have eh1 := HR2.out.row.c1 h hhn; have ea := HR2.out.row.c0 a han; have ea1 := HR2.out.row.c1 a han; rw [hx.out] at eh eh1; rw [hy.out] at ea ea1; clear hbw) | fail)
        all_goals
          go_wp2_with fail
          go_roundw
          case rel => exact ⟨h + 1, j, by omega, by omega, h3, by go_num, rfl, HLo2.out, HHi.out, HR2.out⟩
          case measure => simp [intOf]; omega
      · have hc : decide (cmpV x y < 0) = false := decide_eq_false (fun h => hl ((cmpV_lt _ _).1 h))
        have HHi2 : Hid (∀ z, h ≤ z → z < b → (s a).1 ≤ (s z).1) := fun z k1 k2 => by
          rw [hy.out]
          refine Int.le_trans (show y ≤ x by omega) ?_
          rw [show x = (s h).1 by rw [hx.out]]
          exact HS.out h z (by have := hm.out; omega) k1 k2
        obtain ⟨cv, hcv⟩ : ∃ cv, Hid (cmpV x y = cv) := ⟨_, Hid.mk' rfl⟩
        rw [hcv.out] at hc
        go_wp2_with fail
        go_region_held3 (fun X => X.cell? ⟨g, h * 2, none⟩ = some (.int .i64 x) ∧ X.cell? ⟨g, h * 2 + 1, none⟩ = some (.bool x1) ∧ X.cell? ⟨g, a * 2, none⟩ = some (.int .i64 y) ∧ X.cell? ⟨g, a * 2 + 1, none⟩ = some (.bool y1)) (first | exact ⟨eh, eh1, ea, ea1⟩ | exact ⟨ch, ch1, ca, ca1⟩) (first | (go_at_call 87; refine (cmpC_at kb x y x1 y1 wr.drew HOr.out.k HOr.out.kl).mono ?_; rintro e w2 ⟨rfl, hbw⟩; rw [hcv.out]; have HR2 := Hid.mk' (HR.out.drew.below hbw); have eh := HR2.out.row.c0 h hhn; have eh1 := HR2.out.row.c1 h hhn; have ea := HR2.out.row.c0 a han; have ea1 := HR2.out.row.c1 a han; rw [hx.out] at eh eh1; rw [hy.out] at ea ea1; clear hbw) | fail)
        all_goals
          go_wp2_with fail
          go_roundw
          case rel => exact ⟨i, h, h1, by omega, by omega, rfl, rfl, HLo.out, HHi2.out, HR2.out⟩
          case measure => simp [intOf]; omega
    · have hije : i = j := by omega
      have HFin : Hid (SortF Prod.fst (rotF s a m i) a b) := by
        have := ins_front (key := Prod.fst) (f := s) a i b (by have := hm.out; omega) (by omega) HS.out (fun x k1 k2 => HLo.out x (by have := hm.out; omega) k2) (fun x k1 k2 => HHi.out x (by omega) k2)
        rwa [hm.out] at this
      have HPerm : Hid (PermF a b s (rotF s a m i)) := (rotF_perm s a m i (by omega) (by omega)).mono (Nat.le_refl _) (by omega)
      clear hije
      go_wp2_with fail
      go_loopw [13] (fun kv wr => ∃ k : Nat, a ≤ k ∧ k + 1 ≤ i ∧ kv = .int .i64 (k : Int) ∧ CoRow w0 wr g n (rotF s a m (k + 1))) (fun kv _ => i - (intOf kv).toNat)
      case atStart => exact ⟨a, Nat.le_refl _, by omega, rfl, by rw [hm.out, rotF_none s a m m (.inr rfl) (by omega) (Nat.le_refl _)]; exact HR.out⟩
      case round =>
        obtain ⟨k, k1, k2, rfl, hrow⟩ := hrel
        have HR3 := Hid.mk' hrow
        clear hrow
        obtain ⟨e1, he1⟩ : ∃ e1, Hid (i - 1 = e1) := ⟨_, Hid.mk' rfl⟩
        have hez : (i : Int) - 1 = (e1 : Int) := by have := he1.out; omega
        by_cases hk : k < e1
        · have hk2 : k + 1 < n := by have := he1.out; omega
          have ck := HR3.out.row.c0 k (by omega)
          have ck1 := HR3.out.row.c0 (k + 1) hk2
          have ckb := HR3.out.row.c1 k (by omega)
          have ck1b := HR3.out.row.c1 (k + 1) hk2
          have fk := HR3.out.row.f0 k (by omega)
          have fk1 := HR3.out.row.f0 (k + 1) hk2
          have fkb := HR3.out.row.f1 k (by omega)
          have fk1b := HR3.out.row.f1 (k + 1) hk2
          have HSW := Hid.mk' (HR3.out.swap k (k + 1) (by omega) hk2)
          have hup := Hid.mk' (rotC_up s a k k1)
          rw [hm.out] at hup
          obtain ⟨⟨x, x1⟩, hx⟩ : ∃ x, Hid (rotF s a m (k + 1) k = x) := ⟨_, Hid.mk' rfl⟩
          obtain ⟨⟨y, y1⟩, hy⟩ : ∃ y, Hid (rotF s a m (k + 1) (k + 1) = y) := ⟨_, Hid.mk' rfl⟩
          rw [hx.out] at ck ckb HSW
          rw [hy.out] at ck1 ck1b HSW
          rw [hup.out] at HSW
          have z0 : (0 : Int) ≤ (k : Int) := by omega
          have z1 : (k : Int) + 1 < (n : Int) := by omega
          have wk : IntKind.i64.wrap ((k : Int) + 1) = (k : Int) + 1 := by rw [IntKind.wrap_i64]; omega
          go_wp2_with fail
          go_region
          all_goals
            go_wp2_with fail
            go_roundw
            case rel => exact ⟨k + 1, by omega, by have := he1.out; omega, by go_num, HSW.out⟩
            case measure => have := he1.out; simp [intOf]; omega
        · have hki : Hid (k + 1 = i) := by show _ = _; have := he1.out; omega
          go_wp2_with fail
          (try simp only [Exit.inBlock, Exit.then]); refine bodyPost_ret (results_none rfl _ _ _) rfl ?_
          refine ⟨rfl, _, ?_, HPerm.out, HFin.out⟩
          have := HR3.out
          rwa [hki.out] at this

set_option maxRecDepth 20000 in
set_option maxHeartbeats 4000000 in
/-- one behind a sorted part -/
theorem symC_back (g n cap a m kb : Nat) (s : Nat → Int × Bool) (w0 w : World) (hO : OrdC w0 g kb) (hR : CoRow w0 w g n s) (ham : a + 1 < m) (hb : m + 1 ≤ n) (hn : n ≤ 1000000) (hsort : SortF Prod.fst s a m) :
    Calls Tryd.prog 95 #[.slice (some ⟨g, 0, none⟩) n cap, .int .i64 (a : Int), .int .i64 (m : Int), .int .i64 ((m + 1 : Nat) : Int), .func (.func 87) #[] #[.pointer (some ⟨kb, 0, none⟩)]] w fun e w' => e = .returned (.tuple #[]) ∧ ∃ s', CoRow w0 w' g n s' ∧ PermF a (m + 1) s s' ∧ SortF Prod.fst s' a (m + 1) := by
  have HO := Hid.mk' hO
  have HR := Hid.mk' hR
  have HS := Hid.mk' hsort
  clear hO hR hsort
  obtain ⟨b, hbm⟩ : ∃ b, Hid (m + 1 = b) := ⟨_, Hid.mk' rfl⟩
  rw [hbm.out]
  have hbz : (b : Int) - (m : Int) = 1 := by have := hbm.out; omega
  have t0 : ((1 : Int) == 1) = true := rfl
  obtain ⟨d, hd⟩ : ∃ d, Hid (m - a = d) := ⟨_, Hid.mk' rfl⟩
  have hdz : (m : Int) - (a : Int) = (d : Int) := by have := hd.out; omega
  have t1 : ((d : Int) == 1) = false := by rw [beq_eq_false_iff_ne]; have := hd.out; omega
  have hdb : d ≤ 1000000 := by have := hd.out; omega
  have hbn : b ≤ n := by have := hbm.out; omega
  go_enter Tryd.func95, Tryd.ntmps95
  go_wp2_with fail
  go_loopw [14, 15] (fun iv jv wr => ∃ (i j : Nat), a ≤ i ∧ i ≤ j ∧ j ≤ m ∧ iv = .int .i64 (i : Int) ∧ jv = .int .i64 (j : Int) ∧ (∀ x, a ≤ x → x < i → (s x).1 ≤ (s m).1) ∧ (∀ x, j ≤ x → x < m → (s m).1 ≤ (s x).1) ∧ CoRow w0 wr g n s) (fun iv jv _ => (intOf jv).toNat - (intOf iv).toNat)
  case atStart => exact ⟨a, m, Nat.le_refl _, by omega, Nat.le_refl _, rfl, rfl, fun x h1 h2 => by omega, fun x h1 h2 => by omega, HR.out⟩
  case round =>
    clear HR
    obtain ⟨i, j, h1, h2, h3, rfl, rfl, hlo, hhi, hrow⟩ := hrel
    have HR := Hid.mk' hrow
    clear hrow
    have HLo := Hid.mk' hlo
    have HHi := Hid.mk' hhi
    clear hlo hhi
    by_cases hij : i < j
    · obtain ⟨h, hh⟩ : ∃ h, Hid ((i + j) / 2 = h) := ⟨_, Hid.mk' rfl⟩
      have hz : ((i : Int) + (j : Int)) / 2 = (h : Int) := by have := hh.out; omega
      have hhi : i ≤ h ∧ h < j := by have := hh.out; omega
      have hh1 := hhi.1
      have hh2 := hhi.2
      clear hhi
      have hhn : h < n := by omega
      have han : m < n := by omega
      have ch := HR.out.row.c0 h hhn
      have ch1 := HR.out.row.c1 h hhn
      have ca := HR.out.row.c0 m han
      have ca1 := HR.out.row.c1 m han
      obtain ⟨⟨x, x1⟩, hx⟩ : ∃ x, Hid (s h = x) := ⟨_, Hid.mk' rfl⟩
      obtain ⟨⟨y, y1⟩, hy⟩ : ∃ y, Hid (s m = y) := ⟨_, Hid.mk' rfl⟩
      rw [hx.out] at ch ch1
      rw [hy.out] at ca ca1
      have HOr := Hid.mk' (HO.out.grown HR.out.gr)
      have z0 : (0 : Int) ≤ (h : Int) := by omega
      have z1 : (h : Int) < (n : Int) := by omega
      have z2 : (0 : Int) ≤ (m : Int) := by omega
      have z3 : (m : Int) < (n : Int) := by omega
      by_cases hl : y < x
      · have hc : decide (cmpV y x < 0) = true := decide_eq_true ((cmpV_lt _ _).2 hl)
        have HHi2 : Hid (∀ z, h ≤ z → z < m → (s m).1 ≤ (s z).1) := fun z k1 k2 => by
          rw [hy.out]
          refine Int.le_trans (Int.le_of_lt hl) ?_
          rw [show x = (s h).1 by rw [hx.out]]
          exact HS.out h z (by omega) k1 k2
        obtain ⟨cv, hcv⟩ : ∃ cv, Hid (cmpV y x = cv) := ⟨_, Hid.mk' rfl⟩
        rw [hcv.out] at hc
        go_wp2_with fail
        go_region_held3 (fun X => X.cell? ⟨g, h * 2, none⟩ = some (.int .i64 x) ∧ X.cell? ⟨g, h * 2 + 1, none⟩ = some (.bool x1) ∧ X.cell? ⟨g, m * 2, none⟩ = some (.int .i64 y) ∧ X.cell? ⟨g, m * 2 + 1, none⟩ = some (.bool y1)) (first | exact ⟨eh, eh1, ea, ea1⟩ | exact ⟨ch, ch1, ca, ca1⟩) (first | (go_at_call 87; refine (cmpC_at kb y x y1 x1 wr.drew HOr.out.k HOr.out.kl).mono ?_; rintro e w2 ⟨rfl, hbw⟩; rw [hcv.out]; have HR2 := Hid.mk' (HR.out.drew.below hbw); have eh := HR2.out.row.c0 h hhn; have eh1 := HR2.out.row.c1 h hhn; have ea := HR2.out.row.c0 m han; have ea1 := HR2.out.row.c1 m han; rw [hx.out] at eh eh1; rw [hy.out] at ea ea1; clear hbw) | fail)
        all_goals
          go_wp2_with fail
          go_roundw
          case rel => exact ⟨i, h, h1, by omega, by omega, rfl, rfl, HLo.out, HHi2.out, HR2.out⟩
          case measure => simp [intOf]; omega
      · have hc : decide (cmpV y x < 0) = false := decide_eq_false (fun h => hl ((cmpV_lt _ _).1 h))
        have HLo2 : Hid (∀ z, a ≤ z → z < h + 1 → (s z).1 ≤ (s m).1) := fun z k1 k2 => by
          rw [hy.out]
          refine Int.le_trans ?_ (show x ≤ y by omega)
          rw [show x = (s h).1 by rw [hx.out]]
          exact HS.out z h k1 (by omega) (by omega)
        obtain ⟨cv, hcv⟩ : ∃ cv, Hid (cmpV y x = cv) := ⟨_, Hid.mk' rfl⟩
        rw [hcv.out] at hc
        go_wp2_with fail
        go_region_held3 (fun X => X.cell? ⟨g, h * 2, none⟩ = some (.int .i64 x) ∧ X.cell? ⟨g, h * 2 + 1, none⟩ = some (.bool x1) ∧ X.cell? ⟨g, m * 2, none⟩ = some (.int .i64 y) ∧ X.cell? ⟨g, m * 2 + 1, none⟩ = some (.bool y1)) (first | exact ⟨eh, eh1, ea, ea1⟩ | exact ⟨ch, ch1, ca, ca1⟩) (first | (go_at_call 87; refine (cmpC_at kb y x y1 x1 wr.drew HOr.out.k HOr.out.kl).mono ?_; rintro e w2 ⟨rfl, hbw⟩; rw [hcv.out]; have HR2 := Hid.mk' (HR.out.drew.below hbw); have eh := HR2.out.row.c0 h hhn; have eh1 := HR2.out.row.c1 h hhn; have ea := HR2.out.row.c0 m han; have ea1 := HR2.out.row.c1 m han; rw [hx.out] at eh eh1; rw [hy.out] at ea ea1; clear hbw) | fail)
        all_goals
          go_wp2_with fail
          go_roundw
          case rel => exact ⟨h + 1, j, by omega, by omega, h3, by go_num, rfl, HLo2.out, HHi.out, HR2.out⟩
          case measure => simp [intOf]; omega
    · have hije : i = j := by omega
      have HFin : Hid (SortF Prod.fst (rotF s i m b) a b) := by
        have := ins_back (key := Prod.fst) (f := s) a i m h1 (by omega) HS.out HLo.out (fun x k1 k2 => HHi.out x (by omega) k2)
        rwa [hbm.out] at this
      have HPerm : Hid (PermF a b s (rotF s i m b)) := (rotF_perm s i m b (by omega) (by have := hbm.out; omega)).mono (by omega) (Nat.le_refl _)
      clear hije
      go_wp2_with fail
      go_loopw [17] (fun kv wr => ∃ k : Nat, i ≤ k ∧ k ≤ m ∧ kv = .int .i64 (k : Int) ∧ CoRow w0 wr g n (rotF s k m b)) (fun kv _ => (intOf kv).toNat)
      case atStart => exact ⟨m, by omega, Nat.le_refl _, rfl, by rw [rotF_none s m m b (.inl rfl) (Nat.le_refl _) (by have := hbm.out; omega)]; exact HR.out⟩
      case round =>
        obtain ⟨k, k1, k2, rfl, hrow⟩ := hrel
        have HR3 := Hid.mk' hrow
        clear hrow
        by_cases hk : i < k
        · obtain ⟨p, rfl⟩ : ∃ p, k = p + 1 := ⟨k - 1, by omega⟩
          have ck := HR3.out.row.c0 (p + 1) (by omega)
          have ck1 := HR3.out.row.c0 p (by omega)
          have ckb := HR3.out.row.c1 (p + 1) (by omega)
          have ck1b := HR3.out.row.c1 p (by omega)
          have fk := HR3.out.row.f0 (p + 1) (by omega)
          have fk1 := HR3.out.row.f0 p (by omega)
          have fkb := HR3.out.row.f1 (p + 1) (by omega)
          have fk1b := HR3.out.row.f1 p (by omega)
          have HSW := Hid.mk' (HR3.out.swap (p + 1) p (by omega) (by omega))
          have hdn := Hid.mk' (rotC_down s m p k2)
          rw [hbm.out] at hdn
          obtain ⟨⟨x, x1⟩, hx⟩ : ∃ x, Hid (rotF s (p + 1) m b (p + 1) = x) := ⟨_, Hid.mk' rfl⟩
          obtain ⟨⟨y, y1⟩, hy⟩ : ∃ y, Hid (rotF s (p + 1) m b p = y) := ⟨_, Hid.mk' rfl⟩
          rw [hx.out] at ck ckb HSW
          rw [hy.out] at ck1 ck1b HSW
          rw [hdn.out] at HSW
          have z0 : (0 : Int) ≤ (p : Int) := by omega
          have z1 : (p : Int) + 1 < (n : Int) := by omega
          have wk : IntKind.i64.wrap (p : Int) = (p : Int) := by rw [IntKind.wrap_i64]; omega
          have t4 : decide (i < p + 1) = true := decide_eq_true hk
          go_wp2_with fail
          go_region
          all_goals
            go_wp2_with fail
            go_roundw
            case rel => exact ⟨p, by omega, by omega, by first | rfl | exact int_eq (by omega), HSW.out⟩
            case measure => simp [intOf]
        · have hki : Hid (k = i) := by show _ = _; omega
          have t4 : decide (i < k) = false := decide_eq_false hk
          go_wp2_with fail
          (try simp only [Exit.inBlock, Exit.then]); refine bodyPost_ret (results_none rfl _ _ _) rfl ?_
          refine ⟨rfl, _, ?_, HPerm.out, HFin.out⟩
          have := HR3.out
          rwa [hki.out] at this
end Go.Proofs.YtcalbicfnhoklaaDoor
