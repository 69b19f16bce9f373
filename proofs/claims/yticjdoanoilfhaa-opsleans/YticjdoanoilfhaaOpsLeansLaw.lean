/- The law OpsLeans, walked. -/
import Derived.Test.YticjdoanoilfhaaLeanWalks
import Derived.Test.YticjdoanoilfhaaStaysWalks
import Derived.Test.YticjdoanoilfhaaEqualO
namespace Go.Proofs.Yticjdoanoilfhaa
open Go.RowKit

theorem frontL_le (l : List Opp) (k : Nat) : (frontL l k).length ≤ k := by
  induction k with
  | zero => exact Nat.le_refl _
  | succ k ih =>
    rw [frontL_snoc, List.length_append]
    cases stayB l k <;> simp <;> omega
theorem Rd.of_ownO {w : World} {N n : Nat} {v : Value} {xs : List Value} (h : w.ownsRow N 25 3 v n xs) : ∃ ao cap, v = .slice ao n cap ∧ Rd w ao n 3 xs := by
  rcases h.2 with ⟨rfl, rfl⟩ | ⟨g, cap, cur, rfl, _, hg, _, _, _, _⟩
  · have := h.1
    obtain rfl := List.length_eq_zero_iff.1 (by rw [this, Nat.zero_mul])
    exact ⟨none, 0, rfl, Rd.nil _ _ _⟩
  · exact ⟨_, cap, rfl, h.1, fun _ => ⟨g, 0, rfl, (Array.getElem?_eq_some_iff.1 hg).1, fun j u hj => by
      have := h.cells rfl j u hj
      rwa [addR] at this⟩⟩
set_option maxRecDepth 20000 in
set_option maxHeartbeats 2000000 in
theorem opsLeans_walk (a0 : Option Addr) (n cap : Nat) (l : List Opp) (w : World) (hli : OpsIn w a0 n cap l) :
    Calls Try.prog 3 #[.slice a0 n cap] w fun e w' => e = .returned (.bool true) ∧ Below w.heap.size w w' := by
  obtain ⟨i0, hi, hz0, hz1, hz2⟩ := info_parts infoOpM
  have KI := Hid.mk' hi
  have KZ0 := Hid.mk' hz0
  have KZ1 := Hid.mk' hz1
  have KZ2 := Hid.mk' hz2
  clear hi hz0 hz1 hz2
  have hnM := hli.nM
  have HN := Hid.mk' hli.ops.nL
  have HL := Hid.mk' hli.ops
  clear hli
  go_enter Try.func3, Try.ntmps3
  go_wp2_with fail
  go_loopw [3, 7] (fun v i wr => ∃ k : Nat, k ≤ n ∧ i = .int .i64 (k : Int) ∧ wr.ownsRow w.heap.size 25 3 v (frontL l k).length (opC (frontL l k)) ∧ Below w.heap.size w wr) (fun _ i _ => n - (intOf i).toNat)
  case atStart => exact ⟨0, Nat.zero_le _, rfl, World.ownsRow_nil _ _ _ _, Below.refl _ _⟩
  case round =>
    obtain ⟨k, hk, rfl, hown, hb⟩ := hrel
    have HO := Hid.mk' hown
    have HB := Hid.mk' hb
    clear hown hb
    by_cases hlt : k < n
    · have HLr := Hid.mk' (HL.out.below HB.out)
      go_wp2_with fail
      refine (stays_any a0 n cap l k _ HLr.out hlt).mono ?_
      rintro e w' ⟨rfl, q, rfl⟩
      have HF := Hid.mk' (frontL_snoc l k)
      have hfl := frontL_le l k
      cases hst : stayB l k with
      | false =>
        have HF2 : Hid (frontL l (k + 1) = frontL l k) := by
          show _ = _
          rw [HF.out, hst]; simp
        clear hst
        go_wp2_with fail
        go_roundw
        case rel =>
          refine ⟨k + 1, by omega, by go_num, ?_, HB.out.trans ⟨rfl, rfl, rfl, Nat.le_refl _, fun _ _ => rfl⟩⟩
          rw [HF2.out]; exact HO.out.kept (row := none) ⟨rfl, rfl, rfl, Nat.le_refl _, fun _ _ _ => rfl⟩ (by cases hv : u3.ownBlock <;> simp)
        case measure => simp [intOf]; omega
      | true =>
        obtain ⟨W1, hW1⟩ : ∃ W1, Hid (wr.drewN q = W1) := ⟨_, Hid.mk' rfl⟩
        have HL1 : Hid (Ops W1 a0 n cap l) := by show Ops _ _ _ _ _; rw [← hW1.out]; exact HLr.out.below ⟨rfl, rfl, rfl, Nat.le_refl _, fun _ _ => rfl⟩
        have HB1 : Hid (Below w.heap.size w W1) := by show Below _ _ _; rw [← hW1.out]; exact HB.out.trans ⟨rfl, rfl, rfl, Nat.le_refl _, fun _ _ => rfl⟩
        have HO1 : Hid (W1.ownsRow w.heap.size 25 3 u3 (frontL l k).length (opC (frontL l k))) := by
          show World.ownsRow _ _ _ _ _ _ _
          rw [← hW1.out]; exact HO.out.kept (row := none) ⟨rfl, rfl, rfl, Nat.le_refl _, fun _ _ _ => rfl⟩ (by cases hv : u3.ownBlock <;> simp)
        rw [hW1.out]
        have HF2 : Hid (frontL l (k + 1) = frontL l k ++ [l.getD k noOp]) := by
          show _ = _
          rw [HF.out, hst]; simp
        clear hst HF
        obtain ⟨g, off, rfl, _, c0, c1, c2⟩ := HL1.out.at k hlt
        generalize l.getD k noOp = o at HF2 c0 c1 c2
        generalize frontL l k = R at *
        obtain ⟨R2, hR2⟩ : ∃ R2, Hid (frontL l (k + 1) = R2) := ⟨_, Hid.mk' rfl⟩
        rw [hR2.out] at HF2
        have hsz := HB1.out.size
        go_wp2_with (at_builtin; refine wpList_append_own _ rfl (.tmp 13) (.tmp 18) 22 rfl w.heap.size 25 i0 (.agg #[.int .i64 0, .int .i64 0, .string ⟨#[]⟩]) 3 32 Try.underlying22 KI.out KZ0.out KZ1.out KZ2.out rfl (by decide) u3 R.length (opC R) rfl (HO1.out.alloc _) ⟨W1.heap.size, 0, none⟩ 1 1 (op3 o) rfl rfl (cells_op3 W1 o 25) (op3_one o) (by unfold maxLen; omega) (by omega) (by simp; omega) ?_; intro v' w3 hown1 hgrow1 _)
        have HB3 : Hid (Below w.heap.size w w3) := (HB1.out.alloc hsz _).grown hgrow1 (by simp; omega) (fun k e => (HO1.out.lt k e).1)
        have HO3 : Hid (w3.ownsRow w.heap.size 25 3 v' R2.length (opC R2)) := by
          show World.ownsRow _ _ _ _ _ _ _
          rw [HF2.out, List.length_append, opC_snoc]; exact hown1
        clear hown1 hgrow1
        go_roundw
        case rel => exact ⟨k + 1, by omega, by go_num, by rw [hR2.out]; exact HO3.out, HB3.out⟩
        case measure => simp [intOf]; omega
    · obtain rfl : k = n := by omega
      have HF : Hid (frontL l k = leanL l) := by have := leanL_all l; rwa [HN.out] at this
      have HO2 := HO.out
      rw [HF.out] at HO2
      have HO3 := Hid.mk' HO2
      have HL2 := Hid.mk' (HL.out.below HB.out)
      have hll := leanL_length l
      rw [HN.out] at hll
      clear HO HO2
      go_wp2_with fail
      refine (lean_any a0 k cap l _ HL2.out hnM).mono ?_
      rintro e w2 ⟨ao, cp, rfl, hOps, hb2⟩
      have HB2 := Hid.mk' (HB.out.trans (hb2.mono HB.out.size))
      obtain ⟨ao2, cp2, rfl, hRd⟩ := Rd.of_ownO (own_below HO3.out hb2)
      have HR1 := Hid.mk' hOps.rd
      have HR2 := Hid.mk' hRd
      clear hOps hb2 hRd
      go_wp2_with fail
      refine (equalO_any ao ao2 _ cp _ cp2 (leanL l) (leanL l) w2 HR1.out HR2.out rfl rfl (by omega) (by omega)).mono ?_
      rintro e w3 ⟨⟨b, rfl, hbb⟩, q, rfl⟩
      obtain rfl := hbb.yes rfl
      go_wp2_with fail
      go_ret
      exact ⟨rfl, HB2.out.trans ⟨rfl, rfl, rfl, Nat.le_refl _, fun _ _ => rfl⟩⟩
end Go.Proofs.Yticjdoanoilfhaa
