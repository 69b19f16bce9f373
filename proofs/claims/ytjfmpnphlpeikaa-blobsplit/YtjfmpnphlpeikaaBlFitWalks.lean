/- What blob.fit answers. -/
import Derived.Test.YtjfmpnphlpeikaaBlHedWalks
import Derived.Deep.RegionHeld3
namespace Go.Proofs.Ytjfmpnphlpeikaa
open Go.RowKit

set_option maxRecDepth 20000 in
set_option maxHeartbeats 1600000 in
theorem bfit_any (a0 : Option Addr) (n c : Nat) (l : List Blb) (w : World) (h : Bls w a0 n c l) (hok : chkL l = 0) :
    Calls Try.prog 21 #[.slice a0 n c] w fun e w' => e = .returned (.int .i64 (fitN 2 0 l : Nat)) ∧ Below w.heap.size w w' := by
  have HL := Hid.mk' h
  have HO := Hid.mk' hok
  have nB := h.nB
  have hle := fitN_le l 2 0
  have hnL := h.nL
  obtain ⟨q, hq⟩ : ∃ q, Hid (fitN 2 0 l = q) := ⟨_, Hid.mk' rfl⟩
  rw [hq.out] at hle ⊢
  have hqn : q ≤ n := by omega
  clear h hok hle hnL
  go_enter Try.func21, Try.ntmps21
  go_wp2_with fail
  go_loopw [3, 8] (fun zv i wr => ∃ k z : Nat, k ≤ n ∧ k ≤ 40 ∧ zv = .int .i64 z ∧ z ≤ 1000 ∧ i = .int .i64 k ∧ fitN z k (l.drop k) = q ∧ Below w.heap.size w wr) (fun _ i _ => n - (intOf i).toNat)
  case atStart => exact ⟨0, 2, Nat.zero_le _, by omega, rfl, by omega, rfl, hq.out, Below.refl _ _⟩
  case round =>
    obtain ⟨k, z, hk, hk40, rfl, hz, rfl, hcel, hbl⟩ := hrel
    have HC := Hid.mk' hcel
    have HB := Hid.mk' hbl
    have hzr := hbl.size
    clear hcel hbl
    by_cases hlt : k < n
    · obtain ⟨b, off, rfl, hb, hx1, hx2, hx3, hx4⟩ := (HL.out.below HB.out).at k hlt
      have hdr := Hid.mk' (drop_at' HL.out.nL hlt)
      have hcb := chkL_all HO.out _ (getD_memB HL.out.nL hlt)
      generalize l.getD k noBl = o at *
      have HOk := Hid.mk' (chkB_ok hcb)
      have hone := oneL_le hcb
      have hlen := oneL_len o
      have htz := (chkB_ok hcb).tz
      have hBx := Hid.mk' (bxB wr o 24)
      have HBa := Hid.mk' (HB.out.alloc hzr (.cells #[.int .i64 o.kd, .int .i64 o.io, .int .i64 o.nt, .string o.tx] 24))
      have hsz : (wr.alloc (.cells #[.int .i64 o.kd, .int .i64 o.io, .int .i64 o.nt, .string o.tx] 24)).heap.size = wr.heap.size + 1 := by simp
      have HC1 : Hid (q = if 1000 < z + (oneL o).length ∨ k = 40 then k else fitN (z + (oneL o).length) (k + 1) (l.drop (k + 1))) := by show _ = _; rw [← HC.out, hdr.out]; rfl
      obtain ⟨m, hm⟩ : ∃ m, Hid ((oneL o).length = m) := ⟨_, Hid.mk' rfl⟩
      obtain ⟨hd, hhd⟩ : ∃ m, Hid (hedL o = m) := ⟨_, Hid.mk' rfl⟩
      rw [hm.out] at hone hlen HC1
      rw [hhd.out] at hlen
      clear HC hcb
      obtain ⟨W1, hW1⟩ : ∃ W, Hid (wr.alloc (.cells #[.int .i64 o.kd, .int .i64 o.io, .int .i64 o.nt, .string o.tx] 24) = W) := ⟨_, Hid.mk' rfl⟩
      rw [hW1.out] at hBx HBa hsz
      have c0 := hBx.out.c0
      have c1 := hBx.out.c1
      have c2 := hBx.out.c2
      have c3 := hBx.out.c3
      have hw1 : w.heap.size ≤ W1.heap.size := by omega
      have hhs : ((⟨hd.toArray⟩ : ByteArray).size : Int) = (hd.length : Int) := rfl
      have e1 : IntKind.i64.wrap ((hd.length : Int) + (o.tx.size : Int)) = (m : Int) := by rw [IntKind.wrap_i64]; omega
      have e2 : IntKind.i64.wrap ((z : Int) + (m : Int)) = ((z + m : Nat) : Int) := by rw [IntKind.wrap_i64]; omega
      go_wp2_with fail
      rw [hW1.out]
      go_region_held3 (fun X => X.cell? ⟨wr.heap.size, 0, none⟩ = some (.int .i64 o.kd) ∧ X.cell? ⟨wr.heap.size, 1, none⟩ = some (.int .i64 o.io) ∧ X.cell? ⟨wr.heap.size, 2, none⟩ = some (.int .i64 o.nt) ∧ X.cell? ⟨wr.heap.size, 3, none⟩ = some (.string o.tx)) (first | exact ⟨p0, p1, p2, p3⟩ | exact ⟨c0, c1, c2, c3⟩) (first
        | (go_at_call 22; refine (bhed_any o _ HOk.out).mono ?_; rintro e w2 ⟨rfl, hb2⟩; rw [hhd.out]; have HB2 := Hid.mk' (HBa.out.drew.trans (hb2.mono hw1)); have hx := hBx.out.below ((Below.refl _ W1).drew.trans hb2); have p0 := hx.c0; have p1 := hx.c1; have p2 := hx.c2; have p3 := hx.c3; clear hx hb2)
        | fail)
      all_goals
        clear hw1 c0 c1 c2 c3 p0 p1 p2 p3 hx1 hx2 hx3 hx4 hb e1 e2
        by_cases hA : 1000 < z + m
        · have tA : decide ((1000 : Int) < (z : Int) + ((hd.length : Int) + (o.tx.size : Int))) = true := decide_eq_true (by omega)
          have hqk : Hid (q = k) := by show _ = _; rw [HC1.out, if_pos (.inl hA)]
          clear hA HC1
          go_wp2_with fail
          go_ret
          exact ⟨by rw [hqk.out]; rfl, HB2.out⟩
        · have tA : decide ((1000 : Int) < (z : Int) + ((hd.length : Int) + (o.tx.size : Int))) = false := decide_eq_false (by omega)
          by_cases hK : k = 40
          · have hqk : Hid (q = k) := by show _ = _; rw [HC1.out, if_pos (.inr hK)]
            subst hK
            clear hA HC1
            go_wp2_with fail
            go_ret
            exact ⟨by rw [hqk.out]; rfl, HB2.out⟩
          · have hz2 : z + m ≤ 1000 := by omega
            have hC2 : Hid (fitN (z + m) (k + 1) (l.drop (k + 1)) = q) := by show _ = _; rw [HC1.out, if_neg (by omega)]
            have tK : ((k : Int) == 40) = false := by rw [beq_eq_false_iff_ne]; omega
            have hk2 : k + 1 ≤ 40 := by omega
            have hzm : Hid ((z : Int) + ((hd.length : Int) + (o.tx.size : Int)) = ((z + m : Nat) : Int)) := by show _ = _; omega
            clear hA HC1 hK
            go_wp2_with fail
            go_roundw
            case rel => exact ⟨k + 1, z + m, by omega, hk2, int_eq hzm.out, hz2, by go_num, hC2.out, HB2.out⟩
            case measure => simp [intOf]; omega
    · have hq : Hid (q = k) := by
        show _ = _
        rw [← HC.out, List.drop_of_length_le (by rw [HL.out.nL]; omega)]; rfl
      have hkn : k = n := by omega
      subst hkn
      go_wp2_with fail
      go_ret
      exact ⟨by rw [hq.out]; rfl, HB.out⟩
end Go.Proofs.Ytjfmpnphlpeikaa
