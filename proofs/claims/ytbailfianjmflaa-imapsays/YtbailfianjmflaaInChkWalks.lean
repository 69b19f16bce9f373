/- What inode.clusters and inode.Check answer. -/
import Derived.Test.YtbailfianjmflaaPlRightWalks
import Derived.Test.YtbailfianjmflaaBoxV
import Derived.Deep.RegionHeld3
namespace Go.Proofs.Ytbailfianjmflaa
open Go.RowKit

theorem int_retI {a b : Int} (h : a = b) : Ending.returned (.int .i64 a) = .returned (.int .i64 b) := by rw [h]
set_option maxRecDepth 20000 in
theorem clusters_any (s : Int) (w : World) (h0 : 0 ≤ s) (h1 : s ≤ 4096) :
    Calls Try.prog 34 #[.int .i64 s] w fun e w' => e = .returned (.int .i64 ((s + 511) / 512)) ∧ w' = w := by
  obtain ⟨n, rfl⟩ := Int.eq_ofNat_of_zero_le h0
  go_enter Try.func34, Try.ntmps34
  go_wp2
  go_ret
  exact ⟨int_retI (by omega), rfl⟩

/-- an inode's cells -/
def inV (kd gn sz : Int) (a0 : Option Addr) (n c : Nat) : List Value := [.int .i64 kd, .int .i64 gn, .int .i64 sz, .slice a0 n c]
theorem all_drop {l : List Pla} {k : Nat} (h : k < l.length) : (l.drop k).all rtB = (rtB (l.getD k noPl) && (l.drop (k + 1)).all rtB) := by
  rw [drop_atPl l k noPl h]; rfl
set_option maxRecDepth 20000 in
set_option maxHeartbeats 1600000 in
theorem icheck_any (i : Ino) (a0 : Option Addr) (n c : Nat) (w : World) (h : Pls w a0 n c i.ps) :
    Calls Try.prog 11 #[.agg #[.int .i64 i.kd, .int .i64 i.gn, .int .i64 i.sz, .slice a0 n c]] w fun e w' => e = .returned (.int .i64 (chkI i)) ∧ Below w.heap.size w w' := by
  obtain ⟨kd, gn, sz, ps⟩ := i
  simp only at h ⊢
  have HV := Hid.mk' (boxV_new w (inV kd gn sz a0 n c) 24)
  have HB : Hid (Below w.heap.size w (w.alloc (.cells #[.int .i64 kd, .int .i64 gn, .int .i64 sz, .slice a0 n c] 24))) := below_boxP _ _
  obtain ⟨W0, hW0⟩ : ∃ W, Hid (w.alloc (.cells #[.int .i64 kd, .int .i64 gn, .int .i64 sz, .slice a0 n c] 24) = W) := ⟨_, Hid.mk' rfl⟩
  have hV := HV.out
  have e0 : (w.alloc (.cells (inV kd gn sz a0 n c).toArray 24)) = W0 := hW0.out
  rw [e0] at hV
  rw [hW0.out] at HB
  have c0 := hV.c 0 _ rfl
  have c1 := hV.c 1 _ rfl
  have c2 := hV.c 2 _ rfl
  have c3 := hV.c 3 _ rfl
  have HL := Hid.mk' (h.below HB.out)
  have hnL := Hid.mk' h.nL
  have nB := h.nB
  have hz0 := HB.out.size
  clear h HV hV e0
  by_cases hk : kd = 1 ∨ kd = 2
  rotate_left
  · have hc : Hid (chkI ⟨kd, gn, sz, ps⟩ = 1) := chkI_arg (.inl (by simp only; omega))
    have t1 : (kd != 1) = true := by rw [bne_iff_ne]; omega
    have t2 : (kd != 2) = true := by rw [bne_iff_ne]; omega
    clear hk
    go_enter Try.func11, Try.ntmps11
    go_wp2_with fail
    rw [hW0.out]
    go_wp2_with fail
    go_ret
    exact ⟨by rw [hc.out]; rfl, HB.out⟩
  have hkA : Hid (kd = 1 ∨ kd = 2) := hk
  have hkk : Hid (((kd != 1) = false ∧ True) ∨ ((kd != 1) = true ∧ (kd != 2) = false)) := by
    rcases hk with rfl | rfl
    · exact .inl ⟨rfl, trivial⟩
    · exact .inr ⟨rfl, rfl⟩
  clear hk
  rcases hkk.out with ⟨t1, t2⟩ | ⟨t1, t2⟩
  all_goals
    by_cases h3 : gn < 0
    · have t3 : decide (gn < 0) = true := decide_eq_true h3
      have hc : Hid (chkI ⟨kd, gn, sz, ps⟩ = 1) := chkI_arg (.inr (.inl h3))
      clear h3
      go_enter Try.func11, Try.ntmps11
      go_wp2_with fail
      rw [hW0.out]
      go_wp2_with fail
      go_ret
      exact ⟨by rw [hc.out]; rfl, HB.out⟩
    by_cases h4 : 2147483647 < gn
    · have t3 : decide (gn < 0) = false := decide_eq_false h3
      have t4 : decide ((2147483647 : Int) < gn) = true := decide_eq_true h4
      have hc : Hid (chkI ⟨kd, gn, sz, ps⟩ = 1) := chkI_arg (.inr (.inr h4))
      clear h3 h4
      go_enter Try.func11, Try.ntmps11
      go_wp2_with fail
      rw [hW0.out]
      go_wp2_with fail
      go_ret
      exact ⟨by rw [hc.out]; rfl, HB.out⟩
    have hA : Hid (¬ ArgI ⟨kd, gn, sz, ps⟩) := by
      show ¬ _
      unfold ArgI
      simp only
      have := hkA.out
      omega
    have t3 : decide (gn < 0) = false := decide_eq_false h3
    have t4 : decide ((2147483647 : Int) < gn) = false := decide_eq_false h4
    clear h3 h4
    by_cases h5 : sz < 0
    · have t5 : decide (sz < 0) = true := decide_eq_true h5
      have hc : Hid (chkI ⟨kd, gn, sz, ps⟩ = 2) := chkI_large hA.out (.inl h5)
      clear h5
      go_enter Try.func11, Try.ntmps11
      go_wp2_with fail
      rw [hW0.out]
      go_wp2_with fail
      go_ret
      exact ⟨by rw [hc.out]; rfl, HB.out⟩
    by_cases h6 : 4096 < sz
    · have t5 : decide (sz < 0) = false := decide_eq_false h5
      have t6 : decide ((4096 : Int) < sz) = true := decide_eq_true h6
      have hc : Hid (chkI ⟨kd, gn, sz, ps⟩ = 2) := chkI_large hA.out (.inr h6)
      clear h5 h6
      go_enter Try.func11, Try.ntmps11
      go_wp2_with fail
      rw [hW0.out]
      go_wp2_with fail
      go_ret
      exact ⟨by rw [hc.out]; rfl, HB.out⟩
    have hS : Hid (¬ (sz < 0 ∨ 4096 < sz)) := by show ¬ _; omega
    have t5 : decide (sz < 0) = false := decide_eq_false h5
    have t6 : decide ((4096 : Int) < sz) = false := decide_eq_false h6
    have hcl := Hid.mk' (fun w => clusters_any sz w (by omega) (by omega))
    obtain ⟨q, hq⟩ : ∃ q, Hid ((sz + 511) / 512 = q) := ⟨_, Hid.mk' rfl⟩
    rw [hq.out] at hcl
    clear h5 h6
    by_cases h7 : (n : Int) = q
    rotate_left
    · have t7 : ((n : Int) != q) = true := by rw [bne_iff_ne]; exact h7
      have hc : Hid (chkI ⟨kd, gn, sz, ps⟩ = 4) := chkI_form hA.out hS.out (by simp only; rw [hnL.out, hq.out]; exact h7)
      clear h7
      go_enter Try.func11, Try.ntmps11
      go_wp2_with fail
      rw [hW0.out]
      go_wp2_with fail
      go_quiet ((go_at_call 34; refine (hcl.out _).mono ?_; rintro e w' ⟨rfl, rfl⟩; exact ⟨rfl, _, rfl⟩))
      go_wp2_with fail
      go_ret
      exact ⟨by rw [hc.out]; rfl, HB.out.trans (below_dP _ _)⟩
    have t7 : ((n : Int) != q) = false := by rw [h7]; simp
    have hc : Hid (chkI ⟨kd, gn, sz, ps⟩ = if ps.all rtB then 0 else 4) := chkI_all hA.out hS.out (by simp only; rw [hnL.out, hq.out]; exact fun h => h h7)
    clear h7 hkA hkk hA hS
    go_enter Try.func11, Try.ntmps11
    go_wp2_with fail
    rw [hW0.out]
    go_wp2_with fail
    go_quiet ((go_at_call 34; refine (hcl.out _).mono ?_; rintro e w' ⟨rfl, rfl⟩; exact ⟨rfl, _, rfl⟩))
    go_wp2_with fail
    clear t1 t2 t3 t4 t5 t6 t7
    go_loopw [41] (fun i wr => ∃ k : Nat, k ≤ n ∧ i = .int .i64 k ∧ (ps.drop k).all rtB = ps.all rtB ∧ Below W0.heap.size W0 wr) (fun i _ => n - (intOf i).toNat)
    case atStart => exact ⟨0, Nat.zero_le _, rfl, rfl, below_dP _ _⟩
    case round =>
      obtain ⟨k, hk, rfl, hcel, hbl⟩ := hrel
      have HC := Hid.mk' hcel
      have HBr := Hid.mk' hbl
      have hzr := hbl.size
      clear hcel hbl
      by_cases hlt : k < n
      · obtain ⟨b, off, rfl, hb, hx1, hx2⟩ := (HL.out.below HBr.out).at k hlt
        have hdr := Hid.mk' (all_drop (l := ps) (k := k) (by rw [hnL.out]; exact hlt))
        generalize ps.getD k noPl = o at *
        have HBa := Hid.mk' (HBr.out.alloc hzr (.cells #[.int .i64 o.cl, .int .i64 o.nh] 26))
        have hsz : (wr.alloc (.cells #[.int .i64 o.cl, .int .i64 o.nh] 26)).heap.size = wr.heap.size + 1 := by simp
        go_wp2_with fail
        refine (right_any o _).mono ?_
        rintro e w2 ⟨rfl, hb2⟩
        have HB2 := Hid.mk' (HBa.out.trans (hb2.mono (by omega)))
        clear hb2
        obtain ⟨q2, hq2⟩ : ∃ q, Hid (rtB o = q) := ⟨_, Hid.mk' rfl⟩
        rw [hq2.out] at hdr ⊢
        cases q2 with
        | true =>
          have HC2 : Hid ((ps.drop (k + 1)).all rtB = ps.all rtB) := by show _ = _; rw [← HC.out, hdr.out]; rfl
          go_wp2_with fail
          go_roundw
          case rel => exact ⟨k + 1, by omega, by go_num, HC2.out, HB2.out⟩
          case measure => simp [intOf]; omega
        | false =>
          have hf : Hid (ps.all rtB = false) := by show _ = _; rw [← HC.out, hdr.out]; rfl
          go_wp2_with fail
          go_ret
          exact ⟨by rw [hc.out, hf.out]; rfl, HB.out.trans (HB2.out.mono hz0)⟩
      · have hf : Hid (ps.all rtB = true) := by show _ = _; rw [← HC.out, List.drop_of_length_le (by rw [hnL.out]; omega)]; rfl
        go_wp2_with fail
        go_ret
        exact ⟨by rw [hc.out, hf.out]; rfl, HB.out.trans (HBr.out.mono hz0)⟩
end Go.Proofs.Ytbailfianjmflaa
