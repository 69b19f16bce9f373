/- What linenref.SameDisk answers. -/
import Derived.Test.YtdhjadgmdmdnjaaCheckDWalks
import Derived.Test.YtdhjadgmdmdnjaaEqualS
import Derived.Test.YtdhjadgmdmdnjaaEqualP
namespace Go.Proofs.Ytdhjadgmdmdnjaa
open Go.RowKit

theorem below_dS {B : Nat} {a w : World} (h : Below B a w) (q : Nat) : Below B a (w.drewN q) := ⟨h.os, h.tape, h.output, h.size, h.block⟩
theorem rd_dS {w : World} {a0 : Option Addr} {n size : Nat} {xs : List Value} (h : Rd w a0 n size xs) (q : Nat) : Rd (w.drewN q) a0 n size xs := h.below (below_dS (Below.refl _ w) q)
set_option maxRecDepth 20000 in
set_option maxHeartbeats 800000 in
theorem sameDk_any (a0 a1 : Option Addr) (n c m d : Nat) (C : List ByteArray) (P : List Pt) (b0 b1 : Option Addr) (n' c' m' d' : Nat) (C' : List ByteArray) (P' : List Pt) (w : World) (h : Dk w a0 n a1 m C P) (h' : Dk w b0 n' b1 m' C' P') :
    Calls Try.prog 12 #[.agg #[.slice a0 n c, .slice a1 m d], .agg #[.slice b0 n' c', .slice b1 m' d']] w fun e w' => (∃ b, e = .returned (.bool b) ∧ IffB b (C = C' ∧ P = P')) ∧ Below w.heap.size w w' := by
  have HB0 : Hid (Below w.heap.size w ((w.alloc (.cells #[.slice a0 n c, .slice a1 m d] 25)).alloc (.cells #[.slice b0 n' c', .slice b1 m' d'] 25))) := ((Below.refl _ w).alloc (Nat.le_refl _) _).alloc (by simp) _
  have HK := Hid.mk' (h.below HB0.out)
  have HK' := Hid.mk' (h'.below HB0.out)
  clear h h'
  go_enter Try.func12, Try.ntmps12
  go_wp2_with fail
  refine (equalS_any a0 b0 n c n' c' C C' _ HK.out.rc HK'.out.rc HK.out.nC HK'.out.nC HK.out.nB HK'.out.nB).mono ?_
  rintro e w1 ⟨⟨b, rfl, hb⟩, q, hw1⟩; obtain rfl := hw1.symm
  cases b with
  | false =>
    have hno : ¬ (C = C' ∧ P = P') := fun h => by have := hb.yes h.1; cases this
    have HN := Hid.mk' hno
    clear hb hno
    go_wp2_with fail
    go_ret
    exact ⟨⟨false, rfl, IffB.f HN.out⟩, below_dS HB0.out _⟩
  | true =>
    have HC : Hid (C = C') := hb.1 rfl
    have hmB := HK.out.mB
    have hmB' := HK'.out.mB
    clear hb
    go_wp2_with fail
    refine (equalP_any a1 b1 m d m' d' P P' _ (rd_dS HK.out.rp q) (rd_dS HK'.out.rp q) HK.out.mP HK'.out.mP (by omega) (by omega)).mono ?_
    rintro e w2 ⟨⟨b, rfl, hb⟩, q2, hw2⟩; obtain rfl := hw2.symm
    have HI : Hid (IffB b (C = C' ∧ P = P')) := hb.congr ⟨fun h => ⟨HC.out, h⟩, fun h => h.2⟩
    clear hb
    go_wp2_with fail
    go_ret
    exact ⟨⟨b, rfl, HI.out⟩, below_dS HB0.out _⟩
end Go.Proofs.Ytdhjadgmdmdnjaa
