/- What slices' symMerge does to a row of signs. -/
import Derived.Test.YtcalbicfnhoklaaDoorInsertInts
namespace Go.Proofs.YtcalbicfnhoklaaDoor
open Go.RowKit

theorem rot_up {α : Type} (s : Nat → α) (a k : Nat) (h : a ≤ k) : swF (rotF s a (a + 1) (k + 1)) k (k + 1) = rotF s a (a + 1) (k + 2) := by
  funext x
  unfold swF rotF
  repeat' split
  all_goals first | (exfalso; omega) | (congr 1; omega) | rfl
theorem rot_down {α : Type} (s : Nat → α) (m k : Nat) (h : k + 1 ≤ m) : swF (rotF s (k + 1) m (m + 1)) (k + 1) k = rotF s k m (m + 1) := by
  funext x
  unfold swF rotF
  repeat' split
  all_goals first | (exfalso; omega) | (congr 1; omega) | rfl
theorem perm_dom {a b n len : Nat} {s t : Nat → Nat} (h : PermF a b s t) (hb : b ≤ n) (hs : ∀ i, i < n → s i < len) : ∀ i, i < n → t i < len := fun i hi => by
  by_cases h1 : a ≤ i ∧ i < b
  · obtain ⟨y, y1, y2, y3⟩ := h.mem i h1.1 h1.2
    rw [y3]; exact hs y (by omega)
  · rw [h.out i (by omega)]; exact hs i hi
theorem SgnRow.rot {w wr : World} {g n a m b : Nat} {s : Nat → Nat} (h : Row64 wr g n (rotF (fun i => (s i : Int)) a m b)) (hg : w.grownBy wr (some g)) : SgnRow w wr g n (rotF s a m b) := by
  rw [rotF_map (fun x : Nat => (x : Int)) s a m b] at h
  exact ⟨h, hg⟩

set_option maxRecDepth 20000 in
set_option maxHeartbeats 4000000 in
/-- one ahead of a sorted part -/
theorem sym_front (g n cap a b kb fb : Nat) (a0 : Option Addr) (len fcap : Nat) (F : Nat → Int) (s : Nat → Nat) (w0 w : World) (hO : OrdI w0 g kb fb a0 len fcap F) (hR : SgnRow w0 w g n s) (hs : ∀ i, i < n → s i < len) (hab : a + 1 < b) (hb : b ≤ n) (hn : n ≤ 1000000) (hsort : SortF F s (a + 1) b) :
    Calls Tryd.prog 92 #[.slice (some ⟨g, 0, none⟩) n cap, .int .i64 (a : Int), .int .i64 ((a + 1 : Nat) : Int), .int .i64 (b : Int), .func (.func 84) #[] #[.pointer (some ⟨kb, 0, none⟩)]] w fun e w' => e = .returned (.tuple #[]) ∧ ∃ s', SgnRow w0 w' g n s' ∧ PermF a b s s' ∧ SortF F s' a b := by
  have HO := Hid.mk' hO
  have HR := Hid.mk' hR
  have HL := Hid.mk' hs
  have HS := Hid.mk' hsort
  clear hO hR hs hsort
  obtain ⟨m, hm⟩ : ∃ m, Hid (a + 1 = m) := ⟨_, Hid.mk' rfl⟩
  rw [hm.out]
  have hmz : (m : Int) - (a : Int) = 1 := by have := hm.out; omega
  have hmb : m < b := by have := hm.out; omega
  have ham : a < m := by have := hm.out; omega
  have t0 : ((1 : Int) == 1) = true := rfl
  go_enter Tryd.func92, Tryd.ntmps92
  go_wp2_with fail
  go_loopw [10, 11] (fun iv jv wr => ∃ (i j q : Nat), m ≤ i ∧ i ≤ j ∧ j ≤ b ∧ iv = .int .i64 (i : Int) ∧ jv = .int .i64 (j : Int) ∧ (∀ x, m ≤ x → x < i → F (s x) ≤ F (s a)) ∧ (∀ x, j ≤ x → x < b → F (s a) ≤ F (s x)) ∧ wr = w.drewN q) (fun iv jv _ => (intOf jv).toNat - (intOf iv).toNat)
  case atStart => exact ⟨m, b, 0, Nat.le_refl _, by omega, Nat.le_refl _, rfl, rfl, fun x h1 h2 => by omega, fun x h1 h2 => by omega, rfl⟩
  case round =>
    obtain ⟨i, j, q, h1, h2, h3, rfl, rfl, hlo, hhi, rfl⟩ := hrel
    have HLo := Hid.mk' hlo
    have HHi := Hid.mk' hhi
    clear hlo hhi
    by_cases hij : i < j
    · obtain ⟨h, hh⟩ : ∃ h, Hid ((i + j) / 2 = h) := ⟨_, Hid.mk' rfl⟩
      have hz : ((i : Int) + (j : Int)) / 2 = (h : Int) := by have := hh.out; omega
      have hhi : i ≤ h ∧ h < j := by have := hh.out; omega
      have hh1 := hhi.1
      have hh2 := hhi.2
      clear hhi
      obtain ⟨W2, hW2⟩ : ∃ W2, Hid (w.drewN q = W2) := ⟨_, Hid.mk' rfl⟩
      have HR2 : Hid (SgnRow w0 W2 g n s) := by rw [← hW2.out]; exact HR.out.drewN q
      have ch := HR2.out.row.cell h (by omega)
      have ca := HR2.out.row.cell a (by omega)
      have lx := HL.out h (by omega)
      have ly := HL.out a (by omega)
      obtain ⟨x, hx⟩ : ∃ x, Hid (s h = x) := ⟨_, Hid.mk' rfl⟩
      obtain ⟨y, hy⟩ : ∃ y, Hid (s a = y) := ⟨_, Hid.mk' rfl⟩
      rw [hx.out] at ch lx
      rw [hy.out] at ca ly
      rw [hW2.out]
      have HCM : Hid (∀ q, Calls Tryd.prog 84 #[.int .i64 (x : Int), .int .i64 (y : Int), .pointer (some ⟨kb, 0, none⟩)] (W2.drewN q) fun e w' => e = .returned (.int .i64 (cmpV (F x) (F y))) ∧ ∃ r, w' = (W2.drewN q).drewN r) := fun q => cmpI_at g kb fb a0 len fcap F x y _ ((HO.out.grown HR2.out.gr).drewN q) lx ly
      have z0 : (0 : Int) ≤ (h : Int) := by omega
      have z1 : (h : Int) < (n : Int) := by omega
      have z2 : (0 : Int) ≤ (a : Int) := by omega
      have z3 : (a : Int) < (n : Int) := by omega
      by_cases hl : F x < F y
      · have hc : decide (cmpV (F x) (F y) < 0) = true := decide_eq_true ((cmpV_lt _ _).2 hl)
        have hcb : cmpV (F x) (F y) < 0 := (cmpV_lt _ _).2 hl
        have HLo2 : Hid (∀ z, m ≤ z → z < h + 1 → F (s z) ≤ F (s a)) := fun z k1 k2 => by
          rw [hy.out]
          refine Int.le_trans ?_ (Int.le_of_lt hl)
          rw [← hx.out]
          exact HS.out z h (by have := hm.out; omega) (by omega) (by omega)
        generalize cmpV (F x) (F y) = cv at *
        go_wp2_with fail
        go_quiet ((first | (go_at_call 84; refine (HCM.out _).mono ?_; rintro e w' ⟨rfl, r, rfl⟩; exact ⟨rfl, _, drewN_addS _ _ _⟩) | fail))
        go_wp2_with fail
        go_roundw
        case rel => exact ⟨h + 1, j, q + nq, by omega, by omega, h3, by go_num, rfl, HLo2.out, HHi.out, by rw [← hW2.out, drewN_addS]⟩
        case measure => simp [intOf]; omega
      · have hc : decide (cmpV (F x) (F y) < 0) = false := decide_eq_false (fun h => hl ((cmpV_lt _ _).1 h))
        have HHi2 : Hid (∀ z, h ≤ z → z < b → F (s a) ≤ F (s z)) := fun z k1 k2 => by
          rw [hy.out]
          refine Int.le_trans (show F y ≤ F x by omega) ?_
          rw [← hx.out]
          exact HS.out h z (by have := hm.out; omega) k1 k2
        generalize cmpV (F x) (F y) = cv at *
        go_wp2_with fail
        go_quiet ((first | (go_at_call 84; refine (HCM.out _).mono ?_; rintro e w' ⟨rfl, r, rfl⟩; exact ⟨rfl, _, drewN_addS _ _ _⟩) | fail))
        go_wp2_with fail
        go_roundw
        case rel => exact ⟨i, h, q + nq, h1, by omega, by omega, rfl, rfl, HLo.out, HHi2.out, by rw [← hW2.out, drewN_addS]⟩
        case measure => simp [intOf]; omega
    · have hije : i = j := by omega
      have HFin : Hid (SortF F (rotF s a m i) a b) := by
        have := ins_front (key := F) (f := s) a i b (by have := hm.out; omega) (by omega) HS.out (fun x k1 k2 => HLo.out x (by have := hm.out; omega) k2) (fun x k1 k2 => HHi.out x (by omega) k2)
        rwa [hm.out] at this
      have HPerm : Hid (PermF a b s (rotF s a m i)) := (rotF_perm s a m i (by omega) (by omega)).mono (Nat.le_refl _) (by omega)
      clear hije
      go_wp2_with fail
      go_loopw [13] (fun kv wr => ∃ k : Nat, a ≤ k ∧ k + 1 ≤ i ∧ kv = .int .i64 (k : Int) ∧ SgnRow w0 wr g n (rotF s a m (k + 1))) (fun kv _ => i - (intOf kv).toNat)
      case atStart => exact ⟨a, Nat.le_refl _, by omega, rfl, by rw [hm.out, rotF_none s a m m (.inr rfl) (by omega) (Nat.le_refl _)]; exact HR.out.drewN q⟩
      case round =>
        obtain ⟨k, k1, k2, rfl, hrow⟩ := hrel
        have HR3 := Hid.mk' hrow
        clear hrow
        obtain ⟨e1, he1⟩ : ∃ e1, Hid (i - 1 = e1) := ⟨_, Hid.mk' rfl⟩
        have hez : (i : Int) - 1 = (e1 : Int) := by have := he1.out; omega
        by_cases hk : k < e1
        · have hk2 : k + 1 < n := by have := he1.out; omega
          have ck := HR3.out.row.cell k (by omega)
          have ck1 := HR3.out.row.cell (k + 1) hk2
          have fk := HR3.out.row.open' k (by omega)
          have fk1 := HR3.out.row.open' (k + 1) hk2
          have HSW := Hid.mk' (HR3.out.swap k (k + 1) (by omega) hk2)
          have hup := Hid.mk' (rot_up s a k k1)
          rw [hm.out] at hup
          obtain ⟨x, hx⟩ : ∃ x, Hid (rotF s a m (k + 1) k = x) := ⟨_, Hid.mk' rfl⟩
          obtain ⟨y, hy⟩ : ∃ y, Hid (rotF s a m (k + 1) (k + 1) = y) := ⟨_, Hid.mk' rfl⟩
          rw [hx.out] at ck HSW
          rw [hy.out] at ck1 HSW
          rw [hup.out] at HSW
          have z0 : (0 : Int) ≤ (k : Int) := by omega
          have z1 : (k : Int) + 1 < (n : Int) := by omega
          have wk : IntKind.i64.wrap ((k : Int) + 1) = (k : Int) + 1 := by rw [IntKind.wrap_i64]; omega
          go_wp2_with fail
          go_region
          all_goals
            go_wp2_with fail
            go_roundw
            case rel => exact ⟨k + 1, by omega, by have := he1.out; omega, by go_num, HSW.out⟩
            case measure => have := he1.out; simp [intOf]; omega
        · have hki : Hid (k + 1 = i) := by show _ = _; have := he1.out; omega
          go_wp2_with fail
          (try simp only [Exit.inBlock, Exit.then]); refine bodyPost_ret (results_none rfl _ _ _) rfl ?_
          refine ⟨rfl, _, ?_, HPerm.out, HFin.out⟩
          have := HR3.out
          rwa [hki.out] at this

set_option maxRecDepth 20000 in
set_option maxHeartbeats 4000000 in
/-- one behind a sorted part -/
theorem sym_back (g n cap a m kb fb : Nat) (a0 : Option Addr) (len fcap : Nat) (F : Nat → Int) (s : Nat → Nat) (w0 w : World) (hO : OrdI w0 g kb fb a0 len fcap F) (hR : SgnRow w0 w g n s) (hs : ∀ i, i < n → s i < len) (ham : a + 1 < m) (hb : m + 1 ≤ n) (hn : n ≤ 1000000) (hsort : SortF F s a m) :
    Calls Tryd.prog 92 #[.slice (some ⟨g, 0, none⟩) n cap, .int .i64 (a : Int), .int .i64 (m : Int), .int .i64 ((m + 1 : Nat) : Int), .func (.func 84) #[] #[.pointer (some ⟨kb, 0, none⟩)]] w fun e w' => e = .returned (.tuple #[]) ∧ ∃ s', SgnRow w0 w' g n s' ∧ PermF a (m + 1) s s' ∧ SortF F s' a (m + 1) := by
  have HO := Hid.mk' hO
  have HR := Hid.mk' hR
  have HL := Hid.mk' hs
  have HS := Hid.mk' hsort
  clear hO hR hs hsort
  obtain ⟨b, hbm⟩ : ∃ b, Hid (m + 1 = b) := ⟨_, Hid.mk' rfl⟩
  rw [hbm.out]
  have hbz : (b : Int) - (m : Int) = 1 := by have := hbm.out; omega
  have t0 : ((1 : Int) == 1) = true := rfl
  obtain ⟨d, hd⟩ : ∃ d, Hid (m - a = d) := ⟨_, Hid.mk' rfl⟩
  have hdz : (m : Int) - (a : Int) = (d : Int) := by have := hd.out; omega
  have t1 : ((d : Int) == 1) = false := by rw [beq_eq_false_iff_ne]; have := hd.out; omega
  have hdb : d ≤ 1000000 := by have := hd.out; omega
  have hbn : b ≤ n := by have := hbm.out; omega
  go_enter Tryd.func92, Tryd.ntmps92
  go_wp2_with fail
  go_loopw [14, 15] (fun iv jv wr => ∃ (i j q : Nat), a ≤ i ∧ i ≤ j ∧ j ≤ m ∧ iv = .int .i64 (i : Int) ∧ jv = .int .i64 (j : Int) ∧ (∀ x, a ≤ x → x < i → F (s x) ≤ F (s m)) ∧ (∀ x, j ≤ x → x < m → F (s m) ≤ F (s x)) ∧ wr = w.drewN q) (fun iv jv _ => (intOf jv).toNat - (intOf iv).toNat)
  case atStart => exact ⟨a, m, 0, Nat.le_refl _, by omega, Nat.le_refl _, rfl, rfl, fun x h1 h2 => by omega, fun x h1 h2 => by omega, rfl⟩
  case round =>
    obtain ⟨i, j, q, h1, h2, h3, rfl, rfl, hlo, hhi, rfl⟩ := hrel
    have HLo := Hid.mk' hlo
    have HHi := Hid.mk' hhi
    clear hlo hhi
    by_cases hij : i < j
    · obtain ⟨h, hh⟩ : ∃ h, Hid ((i + j) / 2 = h) := ⟨_, Hid.mk' rfl⟩
      have hz : ((i : Int) + (j : Int)) / 2 = (h : Int) := by have := hh.out; omega
      have hhi : i ≤ h ∧ h < j := by have := hh.out; omega
      have hh1 := hhi.1
      have hh2 := hhi.2
      clear hhi
      obtain ⟨W2, hW2⟩ : ∃ W2, Hid (w.drewN q = W2) := ⟨_, Hid.mk' rfl⟩
      have HR2 : Hid (SgnRow w0 W2 g n s) := by rw [← hW2.out]; exact HR.out.drewN q
      have ch := HR2.out.row.cell h (by omega)
      have ca := HR2.out.row.cell m (by omega)
      have lx := HL.out h (by omega)
      have ly := HL.out m (by omega)
      obtain ⟨x, hx⟩ : ∃ x, Hid (s h = x) := ⟨_, Hid.mk' rfl⟩
      obtain ⟨y, hy⟩ : ∃ y, Hid (s m = y) := ⟨_, Hid.mk' rfl⟩
      rw [hx.out] at ch lx
      rw [hy.out] at ca ly
      rw [hW2.out]
      have HCM : Hid (∀ q, Calls Tryd.prog 84 #[.int .i64 (y : Int), .int .i64 (x : Int), .pointer (some ⟨kb, 0, none⟩)] (W2.drewN q) fun e w' => e = .returned (.int .i64 (cmpV (F y) (F x))) ∧ ∃ r, w' = (W2.drewN q).drewN r) := fun q => cmpI_at g kb fb a0 len fcap F y x _ ((HO.out.grown HR2.out.gr).drewN q) ly lx
      have z0 : (0 : Int) ≤ (h : Int) := by omega
      have z1 : (h : Int) < (n : Int) := by omega
      have z2 : (0 : Int) ≤ (m : Int) := by omega
      have z3 : (m : Int) < (n : Int) := by omega
      by_cases hl : F y < F x
      · have hc : decide (cmpV (F y) (F x) < 0) = true := decide_eq_true ((cmpV_lt _ _).2 hl)
        have hcb : cmpV (F y) (F x) < 0 := (cmpV_lt _ _).2 hl
        have HHi2 : Hid (∀ z, h ≤ z → z < m → F (s m) ≤ F (s z)) := fun z k1 k2 => by
          rw [hy.out]
          refine Int.le_trans (Int.le_of_lt hl) ?_
          rw [← hx.out]
          exact HS.out h z (by omega) k1 k2
        generalize cmpV (F y) (F x) = cv at *
        go_wp2_with fail
        go_quiet ((first | (go_at_call 84; refine (HCM.out _).mono ?_; rintro e w' ⟨rfl, r, rfl⟩; exact ⟨rfl, _, drewN_addS _ _ _⟩) | fail))
        go_wp2_with fail
        go_roundw
        case rel => exact ⟨i, h, q + nq, h1, by omega, by omega, rfl, rfl, HLo.out, HHi2.out, by rw [← hW2.out, drewN_addS]⟩
        case measure => simp [intOf]; omega
      · have hc : decide (cmpV (F y) (F x) < 0) = false := decide_eq_false (fun h => hl ((cmpV_lt _ _).1 h))
        have HLo2 : Hid (∀ z, a ≤ z → z < h + 1 → F (s z) ≤ F (s m)) := fun z k1 k2 => by
          rw [hy.out]
          refine Int.le_trans ?_ (show F x ≤ F y by omega)
          rw [← hx.out]
          exact HS.out z h k1 (by omega) (by omega)
        generalize cmpV (F y) (F x) = cv at *
        go_wp2_with fail
        go_quiet ((first | (go_at_call 84; refine (HCM.out _).mono ?_; rintro e w' ⟨rfl, r, rfl⟩; exact ⟨rfl, _, drewN_addS _ _ _⟩) | fail))
        go_wp2_with fail
        go_roundw
        case rel => exact ⟨h + 1, j, q + nq, by omega, by omega, h3, by go_num, rfl, HLo2.out, HHi.out, by rw [← hW2.out, drewN_addS]⟩
        case measure => simp [intOf]; omega
    · have hije : i = j := by omega
      have HFin : Hid (SortF F (rotF s i m b) a b) := by
        have := ins_back (key := F) (f := s) a i m h1 (by omega) HS.out HLo.out (fun x k1 k2 => HHi.out x (by omega) k2)
        rwa [hbm.out] at this
      have HPerm : Hid (PermF a b s (rotF s i m b)) := (rotF_perm s i m b (by omega) (by have := hbm.out; omega)).mono (by omega) (Nat.le_refl _)
      clear hije
      go_wp2_with fail
      go_loopw [17] (fun kv wr => ∃ k : Nat, i ≤ k ∧ k ≤ m ∧ kv = .int .i64 (k : Int) ∧ SgnRow w0 wr g n (rotF s k m b)) (fun kv _ => (intOf kv).toNat)
      case atStart => exact ⟨m, by omega, Nat.le_refl _, rfl, by rw [rotF_none s m m b (.inl rfl) (Nat.le_refl _) (by have := hbm.out; omega)]; exact HR.out.drewN q⟩
      case round =>
        obtain ⟨k, k1, k2, rfl, hrow⟩ := hrel
        have HR3 := Hid.mk' hrow
        clear hrow
        by_cases hk : i < k
        · obtain ⟨p, rfl⟩ : ∃ p, k = p + 1 := ⟨k - 1, by omega⟩
          have ck := HR3.out.row.cell (p + 1) (by omega)
          have ck1 := HR3.out.row.cell p (by omega)
          have fk := HR3.out.row.open' (p + 1) (by omega)
          have fk1 := HR3.out.row.open' p (by omega)
          have HSW := Hid.mk' (HR3.out.swap (p + 1) p (by omega) (by omega))
          have hdn := Hid.mk' (rot_down s m p k2)
          rw [hbm.out] at hdn
          obtain ⟨x, hx⟩ : ∃ x, Hid (rotF s (p + 1) m b (p + 1) = x) := ⟨_, Hid.mk' rfl⟩
          obtain ⟨y, hy⟩ : ∃ y, Hid (rotF s (p + 1) m b p = y) := ⟨_, Hid.mk' rfl⟩
          rw [hx.out] at ck HSW
          rw [hy.out] at ck1 HSW
          rw [hdn.out] at HSW
          have z0 : (0 : Int) ≤ (p : Int) := by omega
          have z1 : (p : Int) + 1 < (n : Int) := by omega
          have wk : IntKind.i64.wrap (p : Int) = (p : Int) := by rw [IntKind.wrap_i64]; omega
          have t4 : decide (i < p + 1) = true := decide_eq_true hk
          go_wp2_with fail
          go_region
          all_goals
            go_wp2_with fail
            go_roundw
            case rel => exact ⟨p, by omega, by omega, by first | rfl | exact int_eq (by omega), HSW.out⟩
            case measure => simp [intOf]
        · have hki : Hid (k = i) := by show _ = _; omega
          have t4 : decide (i < k) = false := decide_eq_false hk
          go_wp2_with fail
          (try simp only [Exit.inBlock, Exit.then]); refine bodyPost_ret (results_none rfl _ _ _) rfl ?_
          refine ⟨rfl, _, ?_, HPerm.out, HFin.out⟩
          have := HR3.out
          rwa [hki.out] at this
end Go.Proofs.YtcalbicfnhoklaaDoor
