/- What imap.isNumber and imap.Take answer. -/
import Derived.Test.YtbailfianjmflabImChkWalks
namespace Go.Proofs.Ytbailfianjmflab
open Go.RowKit

/-- may an inode have that number? -/
def numM (n : Int) : Bool := decide (0 ≤ n ∧ n < 48)
set_option maxRecDepth 20000 in
theorem isnum_any (n : Int) (w : World) : Calls Try.prog 36 #[.int .i64 n] w fun e w' => e = .returned (.bool (numM n)) ∧ w' = w := by
  by_cases h1 : 0 ≤ n
  · have t1 : decide ((0 : Int) ≤ n) = true := decide_eq_true h1
    have hc : Hid (numM n = decide (n < 48)) := by show _ = _; unfold numM; simp [h1]
    by_cases h2 : n < 48
    · have t2 : decide (n < 48) = true := decide_eq_true h2
      rw [t2] at hc
      clear h1 h2
      go_enter Try.func36, Try.ntmps36
      go_wp2_with fail
      go_ret
      exact ⟨by rw [hc.out]; rfl, rfl⟩
    · have t2 : decide (n < 48) = false := decide_eq_false h2
      rw [t2] at hc
      clear h1 h2
      go_enter Try.func36, Try.ntmps36
      go_wp2_with fail
      go_ret
      exact ⟨by rw [hc.out]; rfl, rfl⟩
  · have t1 : decide ((0 : Int) ≤ n) = false := decide_eq_false h1
    have hc : Hid (numM n = false) := decide_eq_false (fun h => h1 h.1)
    clear h1
    go_enter Try.func36, Try.ntmps36
    go_wp2_with fail
    go_ret
    exact ⟨by rw [hc.out]; rfl, rfl⟩
/-- number k may be taken -/
def frS (P : List Pla) (G : List Int) (k : Nat) : Prop := nonB (P.getD k noPl) = true ∧ G.getD k 0 < 2147483647
def TakA (P : List Pla) (G : List Int) (k : Nat) (q : Int) : Prop := (1 ≤ k ∧ k < 48 ∧ frS P G k ∧ (∀ j, 1 ≤ j → j < k → ¬ frS P G j) ∧ q = 0) ∨ (k = 0 ∧ (∀ j, 1 ≤ j → j < 48 → ¬ frS P G j) ∧ q = 10)
/-- what Take answers -/
def TakeA (P : List Pla) (G : List Int) (e : Ending) : Prop := ∃ (k : Nat) (q : Int), e = .returned (.tuple #[.int .i64 k, .int .i64 q]) ∧ ((chkM P G ≠ 0 ∧ k = 0 ∧ q = chkM P G) ∨ (chkM P G = 0 ∧ TakA P G k q))
set_option maxRecDepth 20000 in
set_option maxHeartbeats 3200000 in
theorem take_anyM (a0 : Option Addr) (n c : Nat) (a1 : Option Addr) (m e : Nat) (P : List Pla) (G : List Int) (w : World) (h : Pls w a0 n c P) (h' : Its w a1 m e G) :
    Calls Try.prog 14 #[.agg #[.slice a0 n c, .slice a1 m e]] w fun z w' => TakeA P G z ∧ Below w.heap.size w w' := by
  have hv := boxV_new w [.slice a0 n c, .slice a1 m e] 36
  have HB : Hid (Below w.heap.size w (w.alloc (.cells #[.slice a0 n c, .slice a1 m e] 36))) := below_boxP _ _
  obtain ⟨W0, hW0⟩ : ∃ W, Hid (w.alloc (.cells #[.slice a0 n c, .slice a1 m e] 36) = W) := ⟨_, Hid.mk' rfl⟩
  have e0 : (w.alloc (.cells [.slice a0 n c, .slice a1 m e].toArray 36)) = W0 := hW0.out
  rw [e0] at hv
  rw [hW0.out] at HB
  have HL := Hid.mk' (h.below HB.out)
  have HG := Hid.mk' (h'.below HB.out)
  have hnL := Hid.mk' h.nL
  have hmL := Hid.mk' h'.nL
  have HV := Hid.mk' hv
  have hck := Hid.mk' (fun w h h' => imcheck_any a0 n c a1 m e P G w h h')
  obtain ⟨q, hq⟩ : ∃ q, Hid (chkM P G = q) := ⟨_, Hid.mk' rfl⟩
  rw [hq.out] at hck
  clear h h' hv e0
  by_cases h0 : q = 0
  rotate_left
  · have tq : (q != 0) = true := by rw [bne_iff_ne]; exact h0
    have hN : Hid (q ≠ 0) := h0
    clear h0
    go_enter Try.func14, Try.ntmps14
    go_wp2_with fail
    rw [hW0.out]
    refine (hck.out W0 HL.out HG.out).mono ?_
    rintro z w1 ⟨rfl, hb⟩
    have HB1 := Hid.mk' (HB.out.trans (hb.mono HB.out.size))
    clear hb
    go_wp2_with fail
    go_ret2
    exact ⟨⟨0, q, rfl, .inl ⟨by rw [hq.out]; exact hN.out, rfl, hq.out.symm⟩⟩, HB1.out⟩
  subst h0
  have hok := chkM_ok hq.out
  have hn : n = 48 := by rw [← hnL.out]; exact hok.p
  have hm : m = 48 := by rw [← hmL.out]; exact hok.g
  subst hn hm
  have hz0 := HB.out.size
  clear hok
  go_enter Try.func14, Try.ntmps14
  go_wp2_with fail
  rw [hW0.out]
  refine (hck.out W0 HL.out HG.out).mono ?_
  rintro z w1 ⟨rfl, hb⟩
  have hv1 := HV.out.below hb
  have c0 := hv1.c 0 _ rfl
  have HV1 := Hid.mk' hv1
  have HL1 := Hid.mk' (HL.out.below hb)
  have HG1 := Hid.mk' (HG.out.below hb)
  have HB1 := Hid.mk' (HB.out.trans (hb.mono HB.out.size))
  have hz1 : w.heap.size ≤ w1.heap.size := HB1.out.size
  clear hb hv1
  go_wp2_with fail
  clear c0
  go_loopw [15] (fun i wr => ∃ k : Nat, k ≤ 48 ∧ i = .int .i64 k ∧ (∀ j, 1 ≤ j → j < k → ¬ frS P G j) ∧ Below w1.heap.size w1 wr) (fun i _ => 48 - (intOf i).toNat)
  case atStart => exact ⟨0, by omega, rfl, fun j h1 h2 => by omega, Below.refl _ _⟩
  case round =>
    obtain ⟨k, hk, rfl, hno, hbl⟩ := hrel
    have HN := Hid.mk' hno
    have HBr := Hid.mk' hbl
    have hzr := hbl.size
    have hvr := HV1.out.below hbl
    have q0 := hvr.c 0 _ rfl
    have q1 := hvr.c 1 _ rfl
    have HVr := Hid.mk' hvr
    clear hbl hvr hno
    by_cases hlt : k < 48
    · obtain ⟨b, off, rfl, hb, hx1, hx2⟩ := (HL1.out.below HBr.out).at k hlt
      obtain ⟨b1, off1, rfl, hb1, hy1⟩ := (HG1.out.below HBr.out).at k hlt
      have hfr : Hid (frS P G k ↔ nonB (P.getD k noPl) = true ∧ G.getD k 0 < 2147483647) := Iff.rfl
      generalize P.getD k noPl = o at *
      generalize G.getD k 0 = g at *
      have hbx := below_boxP (w := wr) #[.int .i64 o.cl, .int .i64 o.nh] 29
      have HBa := Hid.mk' (HBr.out.alloc hzr (.cells #[.int .i64 o.cl, .int .i64 o.nh] 29))
      by_cases hk0 : k = 0
      · subst hk0
        have t0 : (((0 : Nat) : Int) != 0) = false := rfl
        rw [Nat.zero_mul, Nat.add_zero] at hx1 hx2
        clear hbx
        go_wp2_with fail
        go_roundw
        case rel => exact ⟨1, by omega, by go_num, fun j h1 h2 => by omega, HBa.out⟩
        case measure => simp [intOf]
      have t0 : ((k : Int) != 0) = true := by rw [bne_iff_ne]; omega
      go_wp2_with fail
      refine (none_any o _).mono ?_
      rintro z w2 ⟨rfl, hb2⟩
      have HB2 : Hid (Below w1.heap.size w1 w2) := (HBa.out.trans (hb2.mono HBa.out.size))
      have hba := hbx.trans (hb2.mono hbx.size)
      have hv2 := HVr.out.below hba
      have q0 := hv2.c 0 _ rfl
      have q1 := hv2.c 1 _ rfl
      have hy1 := (hba.cell (p := ⟨b1, off1 + k, none⟩) hb1).trans hy1
      clear hb2 hv2 hba hbx
      obtain ⟨q2, hq2⟩ : ∃ q, Hid (nonB o = q) := ⟨_, Hid.mk' rfl⟩
      rw [hq2.out] at hfr ⊢
      cases q2 with
      | false =>
        have hf : Hid (∀ j, 1 ≤ j → j < k + 1 → ¬ frS P G j) := fun j h1 h2 => by
          by_cases hj : j < k
          · exact HN.out j h1 hj
          · obtain rfl : j = k := by omega
            exact fun h => by have := hfr.out.1 h; simp at this
        go_wp2_with fail
        go_roundw
        case rel => exact ⟨k + 1, by omega, by go_num, hf.out, HB2.out⟩
        case measure => simp [intOf]; omega
      | true =>
        by_cases h3 : g < 2147483647
        · have t3 : decide (g < 2147483647) = true := decide_eq_true h3
          have hy : Hid (frS P G k) := hfr.out.2 ⟨rfl, h3⟩
          have hk1 : 1 ≤ k := by omega
          clear h3
          go_wp2_with fail
          go_ret2
          exact ⟨⟨k, 0, rfl, .inr ⟨hq.out, .inl ⟨hk1, hlt, hy.out, HN.out, rfl⟩⟩⟩, HB1.out.trans (HB2.out.mono hz1)⟩
        · have t3 : decide (g < 2147483647) = false := decide_eq_false h3
          have hf : Hid (∀ j, 1 ≤ j → j < k + 1 → ¬ frS P G j) := fun j h1 h2 => by
            by_cases hj : j < k
            · exact HN.out j h1 hj
            · obtain rfl : j = k := by omega
              exact fun h => h3 (hfr.out.1 h).2
          clear h3
          go_wp2_with fail
          go_roundw
          case rel => exact ⟨k + 1, by omega, by go_num, hf.out, HB2.out⟩
          case measure => simp [intOf]; omega
    · obtain rfl : k = 48 := by omega
      go_wp2_with fail
      go_ret2
      exact ⟨⟨0, 10, rfl, .inr ⟨hq.out, .inr ⟨rfl, HN.out, rfl⟩⟩⟩, HB1.out.trans (HBr.out.mono hz1)⟩
end Go.Proofs.Ytbailfianjmflab
