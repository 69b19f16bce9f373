/- What blob.checkAll answers. -/
import Derived.Test.YtjfmpnphlpeikaaBlChkWalks
namespace Go.Proofs.Ytjfmpnphlpeikaa
open Go.RowKit

set_option maxRecDepth 20000 in
set_option maxHeartbeats 1600000 in
theorem ball_any (a0 : Option Addr) (n c : Nat) (l : List Blb) (w : World) (h : Bls w a0 n c l) :
    Calls Try.prog 20 #[.slice a0 n c] w fun e w' => e = .returned (.int .i64 (chkL l)) ∧ Below w.heap.size w w' := by
  have HL := Hid.mk' h
  have nB := h.nB
  clear h
  go_enter Try.func20, Try.ntmps20
  go_wp2_with fail
  go_loopw [8] (fun i wr => ∃ k : Nat, k ≤ n ∧ i = .int .i64 k ∧ chkL (l.drop k) = chkL l ∧ Below w.heap.size w wr) (fun i _ => n - (intOf i).toNat)
  case atStart => exact ⟨0, Nat.zero_le _, rfl, rfl, Below.refl _ _⟩
  case round =>
    obtain ⟨k, hk, rfl, hcel, hbl⟩ := hrel
    have HC := Hid.mk' hcel
    have HB := Hid.mk' hbl
    have hzr := hbl.size
    clear hcel hbl
    by_cases hlt : k < n
    · obtain ⟨b, off, rfl, hb, hx1, hx2, hx3, hx4⟩ := (HL.out.below HB.out).at k hlt
      have hdr := Hid.mk' (drop_at' HL.out.nL hlt)
      generalize l.getD k noBl = o at *
      have HBa := Hid.mk' (HB.out.alloc hzr (.cells #[.int .i64 o.kd, .int .i64 o.io, .int .i64 o.nt, .string o.tx] 24))
      have hsz : (wr.alloc (.cells #[.int .i64 o.kd, .int .i64 o.io, .int .i64 o.nt, .string o.tx] 24)).heap.size = wr.heap.size + 1 := by simp
      have HC1 : Hid (chkL l = if chkB o = 0 then chkL (l.drop (k + 1)) else chkB o) := by show _ = _; rw [← HC.out, hdr.out]; rfl
      clear HC
      go_wp2_with fail
      refine (bchk_any o _).mono ?_
      rintro e w2 ⟨rfl, hb2⟩
      have HB2 := Hid.mk' (HBa.out.trans (hb2.mono (by omega)))
      clear hb2
      generalize chkB o = q at *
      by_cases h0 : q = 0
      · subst h0
        have HC2 : Hid (chkL (l.drop (k + 1)) = chkL l) := by show _ = _; rw [HC1.out, if_pos rfl]
        go_wp2_with fail
        go_roundw
        case rel => exact ⟨k + 1, by omega, by go_num, HC2.out, HB2.out⟩
        case measure => simp [intOf]; omega
      · have hq : Hid (chkL l = q) := by show _ = _; rw [HC1.out, if_neg h0]
        have tq : (q != 0) = true := by rw [bne_iff_ne]; exact h0
        clear h0 HC1
        go_wp2_with fail
        go_ret
        exact ⟨by rw [hq.out]; rfl, HB2.out⟩
    · have hq : Hid (chkL l = 0) := by
        show _ = _
        rw [← HC.out, List.drop_of_length_le (by rw [HL.out.nL]; omega)]; rfl
      go_wp2_with fail
      go_ret
      exact ⟨by rw [hq.out]; rfl, HB.out⟩
end Go.Proofs.Ytjfmpnphlpeikaa
