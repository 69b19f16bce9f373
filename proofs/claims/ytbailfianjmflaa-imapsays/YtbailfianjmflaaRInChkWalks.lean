/- What linenref.Inode answers. -/
import Derived.Test.YtbailfianjmflaaInChkWalks
import Derived.Test.YtbailfianjmflaaRRightWalks
namespace Go.Proofs.Ytbailfianjmflaa
open Go.RowKit

set_option maxRecDepth 20000 in
set_option maxHeartbeats 1600000 in
theorem rinode_any (i : Ino) (a0 : Option Addr) (n c : Nat) (w : World) (h : Pls w a0 n c i.ps) :
    Calls Try.prog 12 #[.agg #[.int .i64 i.kd, .int .i64 i.gn, .int .i64 i.sz, .slice a0 n c]] w fun e w' => e = .returned (.int .i64 (chkI i)) ∧ Below w.heap.size w w' := by
  obtain ⟨kd, gn, sz, ps⟩ := i
  simp only at h ⊢
  have HV := Hid.mk' (boxV_new w (inV kd gn sz a0 n c) 24)
  have HB : Hid (Below w.heap.size w (w.alloc (.cells #[.int .i64 kd, .int .i64 gn, .int .i64 sz, .slice a0 n c] 24))) := below_boxP _ _
  obtain ⟨W0, hW0⟩ : ∃ W, Hid (w.alloc (.cells #[.int .i64 kd, .int .i64 gn, .int .i64 sz, .slice a0 n c] 24) = W) := ⟨_, Hid.mk' rfl⟩
  have hV := HV.out
  have e0 : (w.alloc (.cells (inV kd gn sz a0 n c).toArray 24)) = W0 := hW0.out
  rw [e0] at hV
  rw [hW0.out] at HB
  have c0 := hV.c 0 _ rfl
  have c1 := hV.c 1 _ rfl
  have c2 := hV.c 2 _ rfl
  have c3 := hV.c 3 _ rfl
  have HL := Hid.mk' (h.below HB.out)
  have hnL := Hid.mk' h.nL
  have nB := h.nB
  have hz0 := HB.out.size
  clear h HV hV e0
  by_cases hk : kd = 1 ∨ kd = 2
  rotate_left
  · have hc : Hid (chkI ⟨kd, gn, sz, ps⟩ = 1) := chkI_arg (.inl (by simp only; omega))
    by_cases h1 : kd < 1
    · have t1 : decide (kd < 1) = true := decide_eq_true h1
      clear hk h1
      go_enter Try.func12, Try.ntmps12
      go_wp2_with fail
      rw [hW0.out]
      go_wp2_with fail
      go_ret
      exact ⟨by rw [hc.out]; rfl, HB.out⟩
    · have t1 : decide (kd < 1) = false := decide_eq_false h1
      have t2 : decide ((2 : Int) < kd) = true := decide_eq_true (by omega)
      clear hk h1
      go_enter Try.func12, Try.ntmps12
      go_wp2_with fail
      rw [hW0.out]
      go_wp2_with fail
      go_ret
      exact ⟨by rw [hc.out]; rfl, HB.out⟩
  have hkA : Hid (kd = 1 ∨ kd = 2) := hk
  have t1 : decide (kd < 1) = false := decide_eq_false (by omega)
  have t2 : decide ((2 : Int) < kd) = false := decide_eq_false (by omega)
  clear hk
  all_goals
    by_cases h3 : gn < 0
    · have t3 : decide (gn < 0) = true := decide_eq_true h3
      have hc : Hid (chkI ⟨kd, gn, sz, ps⟩ = 1) := chkI_arg (.inr (.inl h3))
      clear h3
      go_enter Try.func12, Try.ntmps12
      go_wp2_with fail
      rw [hW0.out]
      go_wp2_with fail
      go_ret
      exact ⟨by rw [hc.out]; rfl, HB.out⟩
    by_cases h4 : 2147483647 < gn
    · have t3 : decide (gn < 0) = false := decide_eq_false h3
      have t4 : decide ((2147483647 : Int) < gn) = true := decide_eq_true h4
      have hc : Hid (chkI ⟨kd, gn, sz, ps⟩ = 1) := chkI_arg (.inr (.inr h4))
      clear h3 h4
      go_enter Try.func12, Try.ntmps12
      go_wp2_with fail
      rw [hW0.out]
      go_wp2_with fail
      go_ret
      exact ⟨by rw [hc.out]; rfl, HB.out⟩
    have hA : Hid (¬ ArgI ⟨kd, gn, sz, ps⟩) := by
      show ¬ _
      unfold ArgI
      simp only
      have := hkA.out
      omega
    have t3 : decide (gn < 0) = false := decide_eq_false h3
    have t4 : decide ((2147483647 : Int) < gn) = false := decide_eq_false h4
    clear h3 h4
    by_cases h5 : sz < 0
    · have t5 : decide (sz < 0) = true := decide_eq_true h5
      have hc : Hid (chkI ⟨kd, gn, sz, ps⟩ = 2) := chkI_large hA.out (.inl h5)
      clear h5
      go_enter Try.func12, Try.ntmps12
      go_wp2_with fail
      rw [hW0.out]
      go_wp2_with fail
      go_ret
      exact ⟨by rw [hc.out]; rfl, HB.out⟩
    by_cases h6 : 4096 < sz
    · have t5 : decide (sz < 0) = false := decide_eq_false h5
      have t6 : decide ((4096 : Int) < sz) = true := decide_eq_true h6
      have hc : Hid (chkI ⟨kd, gn, sz, ps⟩ = 2) := chkI_large hA.out (.inr h6)
      clear h5 h6
      go_enter Try.func12, Try.ntmps12
      go_wp2_with fail
      rw [hW0.out]
      go_wp2_with fail
      go_ret
      exact ⟨by rw [hc.out]; rfl, HB.out⟩
    have hS : Hid (¬ (sz < 0 ∨ 4096 < sz)) := by show ¬ _; omega
    have t5 : decide (sz < 0) = false := decide_eq_false h5
    have t6 : decide ((4096 : Int) < sz) = false := decide_eq_false h6
    obtain ⟨z, rfl⟩ := Int.eq_ofNat_of_zero_le (show 0 ≤ sz by omega)
    have hz4 : z ≤ 4096 := by omega
    have hq : Hid ((¬ (8 < n ∨ 512 * n < z ∨ z + 512 ≤ 512 * n)) ↔ (n : Int) = ((z : Int) + 511) / 512) := by show _ ↔ _; omega
    clear h5 h6
    by_cases h7 : 8 < n ∨ 512 * n < z ∨ z + 512 ≤ 512 * n
    · have hc : Hid (chkI ⟨kd, gn, (z : Int), ps⟩ = 4) := chkI_form hA.out hS.out (by simp only; rw [hnL.out]; exact fun e => hq.out.2 e h7)
      have nB2 : n ≤ 8796093022208 := nB
      by_cases h8 : 8 < n
      · have t7 : decide ((8 : Int) < (n : Int)) = true := decide_eq_true (by omega)
        clear h7
        go_enter Try.func12, Try.ntmps12
        go_wp2_with fail
        rw [hW0.out]
        go_wp2_with fail
        go_ret
        exact ⟨by rw [hc.out]; rfl, HB.out⟩
      have t7 : decide ((8 : Int) < (n : Int)) = false := decide_eq_false (by omega)
      by_cases h9 : 512 * n < z
      · have t8 : decide ((512 : Int) * (n : Int) < (z : Int)) = true := decide_eq_true (by omega)
        clear h7
        go_enter Try.func12, Try.ntmps12
        go_wp2_with fail
        rw [hW0.out]
        go_wp2_with fail
        go_ret
        exact ⟨by rw [hc.out]; rfl, HB.out⟩
      have t8 : decide ((512 : Int) * (n : Int) < (z : Int)) = false := decide_eq_false (by omega)
      have t9 : decide ((z : Int) + 512 ≤ (512 : Int) * (n : Int)) = true := decide_eq_true (by omega)
      clear h7
      go_enter Try.func12, Try.ntmps12
      go_wp2_with fail
      rw [hW0.out]
      go_wp2_with fail
      go_ret
      exact ⟨by rw [hc.out]; rfl, HB.out⟩
    have h8 : ¬ 8 < n := fun h => h7 (.inl h)
    have h9 : ¬ 512 * n < z := fun h => h7 (.inr (.inl h))
    have h10 : ¬ z + 512 ≤ 512 * n := fun h => h7 (.inr (.inr h))
    have t7 : decide ((8 : Int) < (n : Int)) = false := decide_eq_false (by omega)
    have t8 : decide ((512 : Int) * (n : Int) < (z : Int)) = false := decide_eq_false (by omega)
    have t9 : decide ((z : Int) + 512 ≤ (512 : Int) * (n : Int)) = false := decide_eq_false (by omega)
    have hc : Hid (chkI ⟨kd, gn, (z : Int), ps⟩ = if ps.all rtB then 0 else 4) := chkI_all hA.out hS.out (by simp only; rw [hnL.out]; exact fun h => h (hq.out.1 h7))
    clear h7 hkA hA hS h9 h10
    go_enter Try.func12, Try.ntmps12
    go_wp2_with fail
    rw [hW0.out]
    go_wp2_with fail
    clear t1 t2 t3 t4 t5 t6 t7 t8 t9
    go_loopw [57] (fun i wr => ∃ k : Nat, k ≤ n ∧ i = .int .i64 k ∧ (ps.drop k).all rtB = ps.all rtB ∧ Below W0.heap.size W0 wr) (fun i _ => n - (intOf i).toNat)
    case atStart => exact ⟨0, Nat.zero_le _, rfl, rfl, Below.refl _ _⟩
    case round =>
      obtain ⟨k, hk, rfl, hcel, hbl⟩ := hrel
      have HC := Hid.mk' hcel
      have HBr := Hid.mk' hbl
      have hzr := hbl.size
      clear hcel hbl
      by_cases hlt : k < n
      · obtain ⟨b, off, rfl, hb, hx1, hx2⟩ := (HL.out.below HBr.out).at k hlt
        have hdr := Hid.mk' (all_drop (l := ps) (k := k) (by rw [hnL.out]; exact hlt))
        generalize ps.getD k noPl = o at *
        have HBa := Hid.mk' (HBr.out.alloc hzr (.cells #[.int .i64 o.cl, .int .i64 o.nh] 26))
        have hsz : (wr.alloc (.cells #[.int .i64 o.cl, .int .i64 o.nh] 26)).heap.size = wr.heap.size + 1 := by simp
        go_wp2_with fail
        refine (rright_any o _).mono ?_
        rintro e w2 ⟨rfl, hb2⟩
        have HB2 := Hid.mk' (HBa.out.trans (hb2.mono (by omega)))
        clear hb2
        obtain ⟨q2, hq2⟩ : ∃ q, Hid (rtB o = q) := ⟨_, Hid.mk' rfl⟩
        rw [hq2.out] at hdr ⊢
        cases q2 with
        | true =>
          have HC2 : Hid ((ps.drop (k + 1)).all rtB = ps.all rtB) := by show _ = _; rw [← HC.out, hdr.out]; rfl
          go_wp2_with fail
          go_roundw
          case rel => exact ⟨k + 1, by omega, by go_num, HC2.out, HB2.out⟩
          case measure => simp [intOf]; omega
        | false =>
          have hf : Hid (ps.all rtB = false) := by show _ = _; rw [← HC.out, hdr.out]; rfl
          go_wp2_with fail
          go_ret
          exact ⟨by rw [hc.out, hf.out]; rfl, HB.out.trans (HB2.out.mono hz0)⟩
      · have hf : Hid (ps.all rtB = true) := by show _ = _; rw [← HC.out, List.drop_of_length_le (by rw [hnL.out]; omega)]; rfl
        go_wp2_with fail
        go_ret
        exact ⟨by rw [hc.out, hf.out]; rfl, HB.out.trans (HBr.out.mono hz0)⟩
end Go.Proofs.Ytbailfianjmflaa
