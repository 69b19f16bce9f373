/- What linenref.Stays answers. -/
import Derived.Test.YticjdoanoilfhaaOps
import Derived.Test.YticjdoanoilfhaaLeanMath
import Derived.Deep.QuietTactic
import Derived.BigQuiet
namespace Go.Proofs.Yticjdoanoilfhaa
open Go.RowKit

theorem drewN_addT (w : World) (q r : Nat) : (w.drewN q).drewN r = w.drewN (q + r) := by simp [World.drewN, Nat.add_assoc]
set_option maxRecDepth 20000 in
set_option maxHeartbeats 800000 in
theorem stays_any (a0 : Option Addr) (n cap : Nat) (l : List Opp) (i : Nat) (w : World) (hO : Ops w a0 n cap l) (hi : i < n) :
    Calls Try.prog 8 #[.slice a0 n cap, .int .i64 i] w fun e w' => e = .returned (.bool (stayB l i)) ∧ ∃ q, w' = w.drewN q := by
  have hnB := hO.nB
  have hnL := Hid.mk' hO.nL
  have HO := Hid.mk' hO
  obtain ⟨g, o, rfl, _, c0, c1, c2⟩ := hO.at i hi
  clear hO
  by_cases h1 : (l.getD i noOp).kd = 1
  rotate_left
  · have hs := Hid.mk' (stayB_other h1)
    have t1 : ((l.getD i noOp).kd != 1) = true := by rw [bne_iff_ne]; exact h1
    generalize l.getD i noOp = x at *
    clear h1
    go_enter Try.func8, Try.ntmps8
    go_wp2_with fail
    go_ret
    exact ⟨by rw [hs.out]; rfl, 0, rfl⟩
  have hs := Hid.mk' (stayB_write h1)
  generalize hx : l.getD i noOp = x at *
  have HX := Hid.mk' hx
  clear hx
  obtain ⟨xk, xp, xt⟩ := x
  simp only at h1 c0 c1 c2
  subst h1
  go_enter Try.func8, Try.ntmps8
  go_wp2_with fail
  go_loopw [5] (fun v wr => ∃ k q : Nat, i + 1 ≤ k ∧ k ≤ n ∧ v = .int .i64 k ∧ metT xp (l.drop k) = metT xp (l.drop (i + 1)) ∧ wr = w.drewN q) (fun v _ => n - (intOf v).toNat)
  case atStart => exact ⟨i + 1, 0, Nat.le_refl _, by omega, by go_num, rfl, rfl⟩
  case round =>
    obtain ⟨k, q, hik, hk, rfl, hm, rfl⟩ := hrel
    have HM := Hid.mk' hm
    clear hm
    by_cases hlt : k < n
    · obtain ⟨g2, o2, hg2, _, d0, d1, d2⟩ := HO.out.at k hlt
      obtain ⟨rfl, rfl⟩ : g2 = g ∧ o2 = o := by
        have := Option.some.inj hg2
        exact ⟨(congrArg Addr.block this).symm, (congrArg Addr.off this).symm⟩
      have HD := Hid.mk' (drop_cons_op l k (by rw [hnL.out]; exact hlt))
      generalize l.getD k noOp = y at *
      obtain ⟨yk, yp, yt⟩ := y
      simp only at d0 d1 d2
      by_cases hy : yk = 1
      · subst hy
        by_cases hp : yp = xp
        · subst hp
          have hans : Hid (stayB l i = false) := by
            show _ = _
            rw [hs.out, ← HM.out, HD.out, metT_hit yp ⟨1, yp, yt⟩ _ rfl rfl]; rfl
          have tp : (yp == yp) = true := by simp
          go_wp2_with fail
          go_quiet (fail)
          go_wp2_with fail
          go_ret
          exact ⟨by rw [hans.out]; rfl, _, by first | rfl | exact drewN_addT _ _ _⟩
        · have tp : (yp == xp) = false := by rw [beq_eq_false_iff_ne]; exact hp
          have HM2 : Hid (metT xp (l.drop (k + 1)) = metT xp (l.drop (i + 1))) := by
            show _ = _
            rw [← HM.out, HD.out, metT_on xp ⟨1, yp, yt⟩ _ rfl hp]
          clear hp
          go_wp2_with fail
          go_quiet (fail)
          go_wp2_with fail
          go_roundw
          case rel => exact ⟨k + 1, _, by omega, by omega, by go_num, HM2.out, by first | rfl | exact drewN_addT _ _ _⟩
          case measure => simp [intOf]; omega
      · have ty : (yk == 1) = false := by rw [beq_eq_false_iff_ne]; exact hy
        have hans : Hid (stayB l i = true) := by
          show _ = _
          rw [hs.out, ← HM.out, HD.out, metT_end xp ⟨yk, yp, yt⟩ _ hy]; rfl
        clear hy
        go_wp2_with fail
        go_ret
        exact ⟨by rw [hans.out]; rfl, _, rfl⟩
    · have hans : Hid (stayB l i = true) := by
        show _ = _
        rw [hs.out, ← HM.out, List.drop_of_length_le (by rw [hnL.out]; omega)]; rfl
      go_wp2_with fail
      go_ret
      exact ⟨by rw [hans.out]; rfl, _, rfl⟩
end Go.Proofs.Yticjdoanoilfhaa
