/- What slices.Grow and Concat answer over ops. -/
import Derived.Test.YtlcfccnkplmpgabOps
import Derived.Test.YtlcfccnkplmpgabRoom
namespace Go.Proofs.Ytlcfccnkplmpgab
open Go.RowKit

theorem infoOp : (Try.prog.info? 44).map (fun i => (i.zero, i.size, i.bytes)) = some (some (.agg #[.int .i64 0, .int .i64 0, .string ⟨#[]⟩]), 3, 32) := by kernel_rfl
theorem opC_cat (L M : List Opp) : opC (L ++ M) = opC L ++ opC M := by simp [opC]
theorem below_growO {w wr w1 : World} {N k e s : Nat} {v : Value} {xs : List Value} (hown : wr.ownsRow N e s v k xs) (hbl : Below N w wr) (hN : N ≤ wr.heap.size) (hg : wr.grownBy w1 v.ownBlock) : Below N w w1 :=
  hbl.grown hg hN fun j hj => (hown.lt j hj).1
set_option maxRecDepth 20000 in
set_option maxHeartbeats 800000 in
theorem growO_any (n : Nat) (w : World) (hn : n ≤ 8796093022208) :
    Calls Try.prog 48 #[.slice none 0 0, .int .i64 n] w fun e w' => (∃ v, e = .returned v ∧ w'.ownsRow w.heap.size 44 3 v 0 [] ∧ Room v n) ∧ Below w.heap.size w w' := by
  obtain ⟨i0, hi, hz0, hz1, hz2⟩ := info_parts infoOp
  by_cases h0 : n = 0
  · subst h0
    go_enter Try.func48, Try.ntmps48
    go_wp2_with fail
    go_ret
    exact ⟨⟨_, rfl, World.ownsRow_nil _ _ _ _, .inl ⟨rfl, rfl⟩⟩, Below.refl _ _⟩
  · have hr := Hid.mk' (Lib.run_append_nil_zeros (P := Try.prog) w 41 3 41 44 i0 _ .i64 .i64 Try.underlying41 Try.underlying3 hi hz0 n (by omega) (by omega) (by omega) (by rw [hz2]; omega))
    have hge := grownCap_ge w n 0 44
    have hle : Hid (grownCap w n 0 44 ≤ maxLen) := grownCap_le_maxLen w n 0 44 (by unfold maxLen; omega)
    have ht : decide ((0 : Int) < (n : Int)) = true := decide_eq_true (by omega)
    clear hi hz0 hz1 hz2
    generalize grownCap w n 0 44 = nc at *
    go_enter Try.func48, Try.ntmps48
    go_wp2_with (at_builtin; refine Lib.wpList_append_run _ rfl _ _ _ _ rfl _ _ rfl rfl _ _ hr.out ?_)
    go_ret
    exact ⟨⟨_, rfl, World.ownsRow_made w _ nc (Nat.le_refl _) hle.out (by simp [size_zeroCells]; omega), .inr ⟨_, _, _, rfl, hge⟩⟩, ((Below.refl _ _).alloc (Nat.le_refl _) _).drew⟩
theorem run_append_ops {w : World} {base n tot : Nat} {v : Value} {xs : List Value} (hown : w.ownsRow base 44 3 v n xs) (hr : Room v tot) (a : Option Addr) (len cap : Nat) (L : List Opp) (hP : Rd w a len 3 (opC L)) (hL : L.length = len) (hc : a = none → cap = 0) (hn : n + len ≤ tot) (hb : base ≤ w.heap.size) :
    ∃ v' w', (Builtin.append_ #[41, 41] 41 #[v, .slice a len cap]).run Try.prog w = .ok v' w' ∧ w'.ownsRow base 44 3 v' (n + len) (xs ++ opC L) ∧ w.grownBy w' v.ownBlock ∧ Room v' tot := by
  obtain ⟨i0, hi, hz0, hz1, hz2⟩ := info_parts infoOp
  cases a with
  | none =>
    obtain rfl := hP.of_none
    obtain rfl : L = [] := List.length_eq_zero_iff.1 hL
    obtain rfl := hc rfl
    refine ⟨v, w, run_append_owned_none (P := Try.prog) (w := w) base _ _ 44 i0 3 Try.underlying41 hi v n xs hown, ?_, ⟨rfl, rfl, rfl, Nat.le_refl _, fun _ _ _ => rfl⟩, hr⟩
    simpa [opC] using hown
  | some ad =>
    rcases hr with ⟨rfl, rfl⟩ | ⟨g, n', cp, rfl, hcp⟩
    · obtain ⟨v', w', h1, h2, h3, h4⟩ := run_append_own (P := Try.prog) w base 41 41 44 i0 _ 3 32 Try.underlying41 hi hz0 hz1 hz2 rfl (by decide) _ n xs hown ad len cap (opC L) (by rw [opC_length, hL]) hP.news (opC_one _) (by unfold maxLen; omega) (by omega) hb
      exact ⟨v', w', h1, h2, h3, .inl ⟨h4.2 ⟨rfl, by omega⟩, rfl⟩⟩
    · have hnn : n' = n := by
        rcases hown.2 with ⟨h0, _⟩ | ⟨_, _, _, hv, _⟩
        · cases h0
        · cases hv; rfl
      subst hnn
      obtain ⟨w', h1, h2, h3⟩ := run_append_own_spare (P := Try.prog) w base 41 41 44 i0 3 Try.underlying41 hi hz1 g n' cp xs hown ad len cap (opC L) (by rw [opC_length, hL]) hP.news (opC_one _) (by omega)
      exact ⟨_, w', h1, h2, h3, .inr ⟨_, _, _, rfl, hcp⟩⟩

set_option maxHeartbeats 800000 in
theorem concatO_any (g : Nat) (a0 a1 : Option Addr) (l0 c0 l1 c1 : Nat) (L0 L1 : List Opp) (w : World)
    (h0 : w.cell? ⟨g, 0, none⟩ = some (.slice a0 l0 c0)) (h1 : w.cell? ⟨g, 1, none⟩ = some (.slice a1 l1 c1)) (hg : g < w.heap.size) (P0 : Rd w a0 l0 3 (opC L0)) (P1 : Rd w a1 l1 3 (opC L1)) (hL0 : L0.length = l0) (hL1 : L1.length = l1)
    (n0 : a0 = none → c0 = 0) (n1 : a1 = none → c1 = 0) (hl0 : l0 + l1 ≤ 8796093022208) :
    Calls Try.prog 23 #[.slice (some ⟨g, 0, none⟩) 2 2] w fun e w' =>
      (∃ v, e = .returned v ∧ w'.ownsRow w.heap.size 44 3 v (l0 + l1) (opC (L0 ++ L1))) ∧ Below w.heap.size w w' := by
  have K0 := Hid.mk' P0
  have K1 := Hid.mk' P1
  have N0 := Hid.mk' n0
  have N1 := Hid.mk' n1
  have C0 := Hid.mk' h0
  have C1 := Hid.mk' h1
  clear P0 P1 n0 n1 h0 h1
  go_enter Try.func23, Try.ntmps23
  go_wp2_with fail
  go_loop [3, 11] (fun z i => ∃ k : Nat, (k = 0 ∧ z = .int .i64 0 ∨ k = 1 ∧ z = .int .i64 l0 ∨ k = 2 ∧ z = .int .i64 ((l0 + l1 : Nat) : Int)) ∧ i = .int .i64 k) (fun _ i => 2 - (intOf i).toNat)
  case atStart => exact ⟨0, .inl ⟨rfl, rfl⟩, rfl⟩
  case round =>
    obtain ⟨k, hk, rfl⟩ := hrel
    rcases hk with ⟨rfl, rfl⟩ | ⟨rfl, rfl⟩ | ⟨rfl, rfl⟩
    · have c := C0.out
      have t : decide ((l0 : Int) < 0) = false := decide_eq_false (by omega)
      go_wp2_with fail
      go_round
      case rel => exact ⟨1, .inr (.inl ⟨rfl, by go_num⟩), by go_num⟩
      case measure => simp [intOf]
    · have c := C1.out
      have t : decide ((l0 : Int) + (l1 : Int) < 0) = false := decide_eq_false (by omega)
      go_wp2_with fail
      go_round
      case rel => exact ⟨2, .inr (.inr ⟨rfl, by go_num⟩), by go_num⟩
      case measure => simp [intOf]
    · obtain ⟨n, en⟩ : ∃ n, Hid (l0 + l1 = n) := ⟨_, Hid.mk' rfl⟩
      have hnb : n ≤ 8796093022208 := by rw [← en.out]; omega
      rw [en.out]
      go_wp2_with fail
      refine (growO_any n _ hnb).mono ?_
      rintro e w1 ⟨⟨v, rfl, hown, hroom⟩, hb1⟩
      have HRm := Hid.mk' hroom
      have HB1 := Hid.mk' hb1
      have HO1 := Hid.mk' hown
      have hs1 := hb1.size
      clear hb1 hown hroom
      go_wp2_with fail
      go_loopw [6, 27] (fun u i wr => ∃ k : Nat, i = .int .i64 k ∧ Below w.heap.size w wr ∧ Room u n ∧ (k = 0 ∧ wr.ownsRow w.heap.size 44 3 u 0 [] ∨ k = 1 ∧ wr.ownsRow w.heap.size 44 3 u l0 (opC L0) ∨ k = 2 ∧ wr.ownsRow w.heap.size 44 3 u (l0 + l1) (opC L0 ++ opC L1))) (fun _ i _ => 2 - (intOf i).toNat)
      case atStart => exact ⟨0, rfl, HB1.out, HRm.out, .inl ⟨rfl, HO1.out⟩⟩
      case round =>
        obtain ⟨k, rfl, hbl, hrm, hk⟩ := hrel
        have HB2 := Hid.mk' hbl
        have hs2 := hbl.size
        clear hbl
        rcases hk with ⟨rfl, hown⟩ | ⟨rfl, hown⟩ | ⟨rfl, hown⟩
        · obtain ⟨v', w2, hr, ho, hgr, hrm'⟩ := run_append_ops hown hrm a0 l0 c0 L0 (K0.out.below HB2.out) hL0 N0.out (by have := en.out; omega) hs2
          have HRm' := Hid.mk' hrm'
          have HR := Hid.mk' hr
          have HO2 : Hid (w2.ownsRow w.heap.size 44 3 v' l0 (opC L0)) := by rw [Nat.zero_add, List.nil_append] at ho; exact ho
          have HB3 := Hid.mk' (below_growO hown HB2.out hs2 hgr)
          have c := (HB2.out.cell (p := ⟨g, 0, none⟩) hg).trans C0.out
          clear hr ho hgr hown hrm hrm'
          go_wp2_with (at_builtin; refine Lib.wpList_append_run _ rfl _ _ _ _ rfl _ _ rfl rfl _ _ HR.out ?_)
          go_roundw
          case rel => exact ⟨1, by go_num, HB3.out, HRm'.out, .inr (.inl ⟨rfl, HO2.out⟩)⟩
          case measure => simp [intOf]
        · obtain ⟨v', w2, hr, ho, hgr, hrm'⟩ := run_append_ops hown hrm a1 l1 c1 L1 (K1.out.below HB2.out) hL1 N1.out (by have := en.out; omega) hs2
          have HRm' := Hid.mk' hrm'
          have HR := Hid.mk' hr
          have HO2 := Hid.mk' ho
          have HB3 := Hid.mk' (below_growO hown HB2.out hs2 hgr)
          have c := (HB2.out.cell (p := ⟨g, 1, none⟩) hg).trans C1.out
          clear hr ho hgr hown hrm hrm'
          go_wp2_with (at_builtin; refine Lib.wpList_append_run _ rfl _ _ _ _ rfl _ _ rfl rfl _ _ HR.out ?_)
          go_roundw
          case rel => exact ⟨2, by go_num, HB3.out, HRm'.out, .inr (.inr ⟨rfl, HO2.out⟩)⟩
          case measure => simp [intOf]
        · have HO2 := Hid.mk' hown
          clear hown hrm
          go_wp2_with fail
          go_ret
          exact ⟨⟨_, rfl, by rw [opC_cat]; exact HO2.out⟩, HB2.out⟩
end Go.Proofs.Ytlcfccnkplmpgab
