/- What code.Read answers. -/
import Derived.Test.YtnoegodimiehhaaBookWalks
import Derived.Test.YtnoegodimiehhaaNextWalks
import Derived.Test.YtnoegodimiehhaaRdMath
namespace Go.Proofs.Ytnoegodimiehhaa
open Go.RowKit

/-- a nil slice has no room -/
def NilOk (v : Value) : Prop := ∀ len cap, v = .slice none len cap → cap = 0
theorem nilOk_nil : NilOk (.slice none 0 0) := fun len cap h => by cases h; rfl
theorem nilOk_some (a : Addr) (n c : Nat) : NilOk (.slice (some a) n c) := fun len cap h => by cases h
theorem below_drewNN {B : Nat} {a w : World} (h : Below B a w) (q : Nat) : Below B a (w.drewN q) := ⟨h.os, h.tape, h.output, h.size, h.block⟩
theorem Row64.drewN {w : World} {g len : Nat} {f : Nat → Int} (h : Row64 w g len f) (q : Nat) : Row64 (w.drewN q) g len f := ⟨h.cell, h.open', h.lt⟩

set_option maxRecDepth 20000 in
set_option maxHeartbeats 1000000 in
theorem read_any (a0 : Option Addr) (len cap : Nat) (L : Nat → Int) (s : ByteArray) (a n : Int) (w : World) (hP : Wds w a0 len L) (hs : s.size ≤ 140737488363520) (ha : -9223372036854775808 ≤ a ∧ a ≤ 9223372036854775807) (hn : -9223372036854775808 ≤ n ∧ n ≤ 9223372036854775807) :
    Calls Try.prog 7 #[.slice a0 len cap, .string s, .int .i64 a, .int .i64 n] w fun e w' => (∃ v, e = .returned (.tuple #[v, .int .i64 (readK L len s a n : Nat), .int .i64 (readE L len s a n)]) ∧ I64s w' v (readL L len s a n) (rdF L len s a.toNat) ∧ NilOk v) ∧ Below w.heap.size w w' := by
  have HP := Hid.mk' hP
  clear hP
  by_cases hE : canE L len = 0
  · have HE := Hid.mk' hE
    cases hab : argB s a n with
    | true =>
      have hra := Hid.mk' (read_arg hE hab)
      have hy := arg_yes hab
      have hfin : Hid (∀ wx : World, Below w.heap.size w wx → (∃ v, Ending.returned (.tuple #[.slice none 0 0, .int .i64 0, .int .i64 1]) = .returned (.tuple #[v, .int .i64 (readK L len s a n : Nat), .int .i64 (readE L len s a n)]) ∧ I64s wx v (readL L len s a n) (rdF L len s a.toNat) ∧ NilOk v) ∧ Below w.heap.size w wx) := by
        intro wx hx
        rw [hra.out.1, hra.out.2.1, hra.out.2.2]
        exact ⟨⟨_, rfl, i64s_nil _ _, nilOk_nil⟩, hx⟩
      have HY := Hid.mk' hy
      clear hy hab hE
      by_cases h1 : a < 0
      · have t1 : decide (a < 0) = true := decide_eq_true h1
        go_enter Try.func7, Try.ntmps7
        go_wp2_with fail
        refine (book_any a0 len cap L _ HP.out).mono ?_
        rintro e w1 ⟨⟨p, rfl, hp⟩, hb⟩
        rw [HE.out]
        have HB := Hid.mk' hb
        clear hp hb
        go_wp2_with fail
        go_ret3
        exact hfin.out _ HB.out
      · have t1 : decide (a < 0) = false := decide_eq_false h1
        obtain ⟨A, hA⟩ : ∃ A : Nat, a = (A : Int) := ⟨a.toNat, by omega⟩
        by_cases h2 : 8 * s.size < A
        · have t2 : decide (8 * s.size < A) = true := decide_eq_true h2
          have t3 : decide (8 * (s.size : Int) < (A : Int)) = true := decide_eq_true (by omega)
          have hAb : A ≤ 9223372036854775807 := by omega
          subst hA
          clear h1 h2
          go_enter Try.func7, Try.ntmps7
          go_wp2_with fail
          refine (book_any a0 len cap L _ HP.out).mono ?_
          rintro e w1 ⟨⟨p, rfl, hp⟩, hb⟩
          rw [HE.out]
          have HB := Hid.mk' hb
          clear hp hb
          go_wp2_with fail
          go_ret3
          exact hfin.out _ HB.out
        · have t2 : decide (8 * s.size < A) = false := decide_eq_false h2
          have t3 : decide (8 * (s.size : Int) < (A : Int)) = false := decide_eq_false (by omega)
          have h3 : n < 0 := by have := HY.out; omega
          have t4 : decide (n < 0) = true := decide_eq_true h3
          subst hA
          clear h1
          go_enter Try.func7, Try.ntmps7
          go_wp2_with fail
          refine (book_any a0 len cap L _ HP.out).mono ?_
          rintro e w1 ⟨⟨p, rfl, hp⟩, hb⟩
          rw [HE.out]
          have HB := Hid.mk' hb
          clear hp hb
          go_wp2_with fail
          go_ret3
          exact hfin.out _ HB.out
    | false =>
      obtain ⟨k1, k2, k3⟩ := arg_of hab
      obtain ⟨A, rfl⟩ : ∃ A : Nat, a = (A : Int) := ⟨a.toNat, by omega⟩
      obtain ⟨N, rfl⟩ : ∃ N : Nat, n = (N : Int) := ⟨n.toNat, by omega⟩
      have hAs : A ≤ 8 * s.size := by omega
      have t1 : decide ((A : Int) < 0) = false := decide_eq_false (by omega)
      have t2 : decide (8 * s.size < A) = false := decide_eq_false (by omega)
      have t3 : decide (8 * (s.size : Int) < (A : Int)) = false := decide_eq_false (by omega)
      have t4 : decide ((N : Int) < 0) = false := decide_eq_false (by omega)
      by_cases h5 : 1024 < N
      · have hrm := Hid.mk' (read_many hE hab (by omega))
        have t5 : decide (1024 < N) = true := decide_eq_true h5
        clear k1 k2 k3 ha hE hab
        go_enter Try.func7, Try.ntmps7
        go_wp2_with fail
        refine (book_any a0 len cap L _ HP.out).mono ?_
        rintro e w1 ⟨⟨p, rfl, hp⟩, hb⟩
        rw [HE.out]
        have HB := Hid.mk' hb
        clear hp hb
        go_wp2_with fail
        go_ret3
        refine ⟨⟨.slice none 0 0, ?_, ?_, nilOk_nil⟩, HB.out⟩
        · rw [hrm.out.1, hrm.out.2.2]; rfl
        · rw [hrm.out.2.1]; exact i64s_nil _ _
      · have t5 : decide (1024 < N) = false := decide_eq_false h5
        have hmk := fun w => run_make_row' (P := Try.prog) 22 3 (.int .i64 0) 8 Try.underlying22 infoI64 rfl .i64 .i64 N (by omega) (by omega) w
        have hrok := Hid.mk' (fun h0 => read_ok (n := N) hE hAs (by omega) h0)
        have hrer := Hid.mk' (fun (k : Nat) hk h0 h1 => read_err (n := N) (k := k) hE hAs (by omega) hk h0 h1)
        have hN : N ≤ 1024 := by omega
        clear k1 k2 k3 ha hn hab h5
        go_enter Try.func7, Try.ntmps7
        go_wp2_with fail
        refine (book_any a0 len cap L _ HP.out).mono ?_
        rintro e w1 ⟨⟨p, rfl, hp⟩, hb⟩
        rw [HE.out]
        obtain ⟨g, rfl, hbk⟩ := hp hE
        have HBK := Hid.mk' hbk
        have HB := Hid.mk' hb
        have hs1 := hb.size
        clear hp hb hbk
        go_wp2_with fail
        clear hmk
        go_loopw [2, 12, 42] (fun at' e i wr => ∃ k q : Nat, k ≤ N ∧ i = .int .i64 k ∧ e = .int .i64 0 ∧ at' = .int .i64 (rdA L len s A k : Nat) ∧ rdE L len s A k = 0 ∧ Row64 wr w1.heap.size N (fun i => if i < k then rdF L len s A i else 0) ∧ Below w1.heap.size w1 wr) (fun _ _ i _ => N - (intOf i).toNat)
        case atStart => exact ⟨0, 0, Nat.zero_le _, rfl, rfl, rfl, rfl, by simpa using row64_made w1 N 3, (Below.refl _ _).alloc (Nat.le_refl _) _⟩
        case round =>
          obtain ⟨k, _, hk, rfl, rfl, rfl, h0, hrow, hbl⟩ := hrel
          have H0 := Hid.mk' h0
          have HR := Hid.mk' hrow
          have HB2 := Hid.mk' hbl
          have hs2 := hbl.size
          have hal := rdA_le hAs k h0
          clear hrow hbl h0
          by_cases hlt : k < N
          · obtain ⟨B, hB⟩ : ∃ B, Hid (rdA L len s A k = B) := ⟨_, Hid.mk' rfl⟩
            obtain ⟨⟨ri, rk, re⟩, hr⟩ : ∃ r, Hid (stpS L len s B = r) := ⟨_, Hid.mk' rfl⟩
            rw [hB.out] at hal ⊢
            by_cases hre : re = 0
            · subst hre
              have hst : (stpS L len s (rdA L len s A k)).2.2 = 0 := by rw [hB.out, hr.out]
              have hsk := stp_ok hst
              rw [hB.out, hr.out] at hsk
              have hE1 : Hid (rdE L len s A (k + 1) = 0) := by show _ = _; rw [rdE, if_pos H0.out]; exact hst
              have hA1 : Hid (rdA L len s A (k + 1) = B + rk) := by show _ = _; rw [rdA, hB.out, hr.out]
              have hF1 : Hid (rdF L len s A k = (ri : Int)) := by show _ = _; unfold rdF; rw [hB.out, hr.out]
              have hrl : ri < len := hsk.1
              have hkl2 : rk ≤ 8 * s.size - B := hsk.2.2.1
              have h320 := (canE_ok HE.out).1
              clear hst hsk
              have HRb := Hid.mk' (HR.out.set k hlt (ri : Int))
              have cR := HR.out.cell k hlt
              have fR := HR.out.open' k hlt
              go_wp2_with fail
              refine (bnext_any g L len s B _ HE.out (HBK.out.below HB2.out) hs hal _ hr.out).mono ?_
              rintro e w3 ⟨rfl, q, rfl⟩
              have hnx : nxA B (ri, rk, (0 : Int)) = B + rk := rfl
              rw [hnx]
              have cR2 : (wr.drewN q).cell? ⟨w1.heap.size, k, none⟩ = _ := cR
              have fR2 : (wr.drewN q).frozen? ⟨w1.heap.size, k, none⟩ = _ := fR
              obtain ⟨W2, hW2⟩ : ∃ W2, Hid (wr.drewN q = W2) := ⟨_, Hid.mk' rfl⟩
              have HR2 : Hid (Row64 (W2.setCell ⟨w1.heap.size, k, none⟩ (.int .i64 (ri : Int))) w1.heap.size N (fun i => if i < k + 1 then rdF L len s A i else 0)) := by
                rw [← hW2.out]
                refine ((HR.out.drewN q).set k hlt (ri : Int)).congr fun i hi => ?_
                by_cases e : i = k
                · rw [if_pos e, if_pos (by omega), e, hF1.out]
                · rw [if_neg e]
                  by_cases h : i < k
                  · rw [if_pos h, if_pos (by omega)]
                  · rw [if_neg h, if_neg (by omega)]
              have HB3 : Hid (Below w1.heap.size w1 (W2.setCell ⟨w1.heap.size, k, none⟩ (.int .i64 (ri : Int)))) := by
                rw [← hW2.out]
                exact (below_drewNN HB2.out q).setCell (Nat.le_refl _) _
              rw [hW2.out] at cR2 fR2 ⊢
              clear cR fR
              go_wp2_with fail
              go_roundw
              case rel => exact ⟨k + 1, 0, by omega, by go_num, rfl, by rw [hA1.out]; rfl, hE1.out, HR2.out, HB3.out⟩
              case measure => simp [intOf]; omega
            · have hsh := sgnS_shape L len (txtN s.data.toList / 2 ^ B) (8 * s.size - B) 16 0
              have hst0 : sgnS L len (txtN s.data.toList / 2 ^ B) (8 * s.size - B) 16 0 = (ri, rk, re) := hr.out
              rw [hst0] at hsh
              obtain ⟨hs1', hs2', hs3'⟩ := hsh hre
              simp only [Prod.mk.injEq] at hs1'
              obtain ⟨rfl, rfl, _⟩ := hs1'
              have hre2 : (re != 0) = true := by rw [bne_iff_ne]; exact hre
              have hst : (stpS L len s (rdA L len s A k)).2.2 ≠ 0 := by rw [hB.out, hr.out]; exact hre
              have hrr := Hid.mk' (hrer.out k hlt H0.out hst)
              have hee : Hid ((stpS L len s (rdA L len s A k)).2.2 = re) := by show _ = _; rw [hB.out, hr.out]
              have hnx : Hid (nxA B (0, 0, re) = 0) := by show _ = _; unfold nxA; rw [if_neg hre]
              have cR := HR.out.cell k hlt
              have fR := HR.out.open' k hlt
              have hs2x : re ≤ 7 := hs2'
              have hs3x : 0 < re := hs3'
              clear hst hst0 hsh hs2' hs3' hre
              go_wp2_with fail
              refine (bnext_any g L len s B _ HE.out (HBK.out.below HB2.out) hs hal _ hr.out).mono ?_
              rintro e w3 ⟨rfl, q, rfl⟩
              rw [hnx.out]
              have cR2 : (wr.drewN q).cell? ⟨w1.heap.size, k, none⟩ = _ := cR
              have fR2 : (wr.drewN q).frozen? ⟨w1.heap.size, k, none⟩ = _ := fR
              obtain ⟨W2, hW2⟩ : ∃ W2, Hid (wr.drewN q = W2) := ⟨_, Hid.mk' rfl⟩
              have HB3 : Hid (Below w.heap.size w (W2.setCell ⟨w1.heap.size, k, none⟩ (.int .i64 0))) := by
                rw [← hW2.out]
                exact HB.out.trans (((below_drewNN HB2.out q).setCell (Nat.le_refl _) _).mono hs1)
              rw [hW2.out] at cR2 fR2 ⊢
              clear cR fR
              go_wp2_with fail
              go_ret3
              refine ⟨⟨.slice none 0 0, ?_, ?_, nilOk_nil⟩, HB3.out⟩
              · rw [hrr.out.1, hrr.out.2.2, hee.out]; rfl
              · rw [hrr.out.2.1]; exact i64s_nil _ _
          · have hkl : k = N := by omega
            have hro := Hid.mk' (hrok.out (by rw [← hkl]; exact H0.out))
            have hkl' := Hid.mk' hkl
            clear hkl
            go_wp2_with fail
            go_ret3
            refine ⟨⟨.slice (some ⟨w1.heap.size, 0, none⟩) N N, ?_, ?_, nilOk_some _ _ _⟩, HB.out.trans (HB2.out.mono hs1)⟩
            · rw [hro.out.1, hro.out.2.2, hkl'.out]; rfl
            · rw [hro.out.2.1]
              refine (HR.out.congr fun i hi => ?_).i64s
              rw [if_pos (by have := hkl'.out; omega), Int.toNat_natCast]
  · have hrc := Hid.mk' (read_can (s := s) (a := a) (n := n) hE)
    have hb2 := canE_is L len
    have hne : (canE L len != 0) = true := by rw [bne_iff_ne]; exact hE
    obtain ⟨y, hy⟩ : ∃ y, Hid (canE L len = y) := ⟨_, Hid.mk' rfl⟩
    rw [hy.out] at hb2 hne
    clear hE
    go_enter Try.func7, Try.ntmps7
    go_wp2_with fail
    refine (book_any a0 len cap L _ HP.out).mono ?_
    rintro e w1 ⟨⟨p, rfl, hp⟩, hb⟩
    rw [hy.out]
    clear hp
    go_wp2_with fail
    go_ret3
    refine ⟨⟨.slice none 0 0, ?_, ?_, nilOk_nil⟩, hb⟩
    · rw [hrc.out.1, hrc.out.2.2, hy.out]; rfl
    · rw [hrc.out.2.1]; exact i64s_nil _ _
end Go.Proofs.Ytnoegodimiehhaa
