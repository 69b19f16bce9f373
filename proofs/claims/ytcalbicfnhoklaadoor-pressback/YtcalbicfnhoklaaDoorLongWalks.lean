import Derived.Test.YtcalbicfnhoklaaDoorMsad
import Derived.Test.YtcalbicfnhoklaaDoorMsai
import Derived.Deep.QuietTactic
import Derived.BigQuiet
import Derived.WalkMore
import Derived.Deep.LoopGhost

/- What lz.longest answers. -/
namespace Go.Proofs.YtcalbicfnhoklaaDoor
open Go.RowKit

theorem getD_byteL (s : ByteArray) (k : Nat) (h : k < s.size) : s.data.toList.getD k 0 = s[k] := by
  rw [List.getD_eq_getElem?_getD, List.getElem?_eq_getElem (by simpa using h)]; rfl

set_option maxRecDepth 20000 in
set_option maxHeartbeats 2000000 in
theorem longest_any (s : ByteArray) (i : Nat) (ga N : Nat) (A : Nat → Int) (w : World) (hi : i < s.size) (hs : s.size ≤ 512) (hN : N = s.size) (hr : Row64 w ga N A) (hc : ∀ j, j ≤ i → Chain s.data.toList A j) :
    Calls Tryd.prog 49 #[.string s, .int .i64 (i : Int), .slice (some ⟨ga, 0, none⟩) N N] w fun e w' => (∃ l d : Nat, e = .returned (.agg #[.int .i64 (l : Int), .int .i64 (d : Int), .int .u8 0]) ∧ LgOk s.data.toList i (min (s.size - i) 66) l d) ∧ Below w.heap.size w w' := by
  have HC := Hid.mk' hc
  have HR := Hid.mk' hr
  have hg := hr.lt
  clear hc hr
  obtain ⟨most, hm⟩ : ∃ m, min (s.size - i) 66 = m := ⟨_, rfl⟩
  have hmin : (if (66 : Int) < (s.size : Int) - (i : Int) then (66 : Int) else (s.size : Int) - (i : Int)) = (most : Int) := by rw [← hm]; split <;> omega
  have hmo : most ≤ 66 := by omega
  have hmi : i + most ≤ s.size := by omega
  have HM := Hid.mk' hm
  clear hm
  have c0 := HR.out.cell i (by omega)
  have hci := HC.out i (Nat.le_refl _)
  have hAb := hci.ge
  have hA1 := hAb.1
  have hA2 := hAb.2
  have HL0 := Hid.mk' (lg_start (most := most) hci)
  clear hci hAb
  obtain ⟨W, hW⟩ : ∃ W, Hid ((w.alloc (.cells #[.int .i64 0, .int .i64 0, .int .u8 0] 66)).alloc (.cells #[.int .i64 0, .int .i64 0, .int .u8 0] 66) = W) := ⟨_, Hid.mk' rfl⟩
  have hba : Hid (Below (w.alloc (.cells #[.int .i64 0, .int .i64 0, .int .u8 0] 66)).heap.size (w.alloc (.cells #[.int .i64 0, .int .i64 0, .int .u8 0] 66)) W) := by rw [← hW.out]; exact (Below.refl _ _).alloc (Nat.le_refl _) _
  have HX6 : Hid (Box3 W w.heap.size 0 0 0) := (box3_new w 0 0 0 66).kept hba.out
  have HX7 : Hid (Box3 W (w.heap.size + 1) 0 0 0) := by
    have h := box3_new (w.alloc (.cells #[.int .i64 0, .int .i64 0, .int .u8 0] 66)) 0 0 0 66
    rw [show (w.alloc (.cells #[.int .i64 0, .int .i64 0, .int .u8 0] 66)).heap.size = w.heap.size + 1 by simp] at h
    rw [← hW.out]; exact h
  have HBW : Hid (Below w.heap.size w W) := by rw [← hW.out]; exact ((Below.refl _ _).alloc (Nat.le_refl _) _).alloc (by simp) _
  have c0W := (HBW.out.cell (p := ⟨ga, i, none⟩) hg).trans c0
  clear hba c0
  go_enter Tryd.func49, Tryd.ntmps49
  go_wp2_with fail
  go_step3
  go_wp2_with fail
  rw [hW.out]
  go_step3
  go_wp2_with fail
  clear c0W hmin
  go_loopg [9] (s.size + 1) (fun g fv wx => ∃ (f : Int) (bl bd : Nat), fv = .int .i64 f ∧ f < (g : Int) ∧ LgSt s.data.toList i most f bl bd ∧ Box3 wx (w.heap.size + 1) (bl : Int) (bd : Int) 0 ∧ Box3 wx w.heap.size 0 0 0 ∧ Below w.heap.size w wx)
  case atStart => exact ⟨A i, 0, 0, rfl, by omega, HL0.out, HX7.out, HX6.out, HBW.out⟩
  case round =>
    obtain ⟨f, bl, bd, rfl, hfg, hst, hb7, hb6, hbl⟩ := hrel
    have HS := Hid.mk' hst
    have H7 := Hid.mk' hb7
    have H6 := Hid.mk' hb6
    have HB := Hid.mk' hbl
    have hf1 := hst.f.1
    have hf2 := hst.f.2.1
    have d0 := hb7.c0
    have d1 := hb7.c1
    have d2 := hb7.c2
    have r6 := hb6.c0
    have r61 := hb6.c1
    have r62 := hb6.c2
    have g60 := hb6.f0
    have g61 := hb6.f1
    have g62 := hb6.f2
    have hlb : bl ≤ most := by rcases hst.b with h | h <;> omega
    have hdb : bd ≤ i := by rcases hst.b with h | h <;> omega
    clear hst hb7 hb6 hbl
    by_cases hend : f < 0 ∨ most ≤ bl
    · have HE := Hid.mk' (lg_end HS.out hend)
      have HBr := Hid.mk' (below_set3 HB.out (Nat.le_refl w.heap.size) (.int .i64 (bl : Int)) (.int .i64 (bd : Int)) (.int .u8 0))
      have HBx := Hid.mk' (H6.out.set (bl : Int) (bd : Int) 0)
      by_cases hf0 : f < 0
      · have tf : decide ((0 : Int) ≤ f) = false := decide_eq_false (by omega)
        clear hend
        go_wp2_with fail
        try rw [Exit.noGoto_ret]
        refine bodyPost_ret (results_box rfl _ _ w.heap.size (bl : Int) (bd : Int) 0 rfl HBx.out) rfl ?_
        exact ⟨⟨bl, bd, rfl, by rw [HM.out]; exact HE.out⟩, HBr.out⟩
      · have tf : decide ((0 : Int) ≤ f) = true := decide_eq_true (by omega)
        have tb : decide (bl < most) = false := decide_eq_false (by omega)
        clear hend
        go_wp2_with fail
        try rw [Exit.noGoto_ret]
        refine bodyPost_ret (results_box rfl _ _ w.heap.size (bl : Int) (bd : Int) 0 rfl HBx.out) rfl ?_
        exact ⟨⟨bl, bd, rfl, by rw [HM.out]; exact HE.out⟩, HBr.out⟩
    · cases gk with
      | zero => omega
      | succ gg =>
        have hf0 : 0 ≤ f := by omega
        have hbm : bl < most := by omega
        obtain ⟨p, hpf⟩ : ∃ p : Nat, f = (p : Int) := ⟨f.toNat, by omega⟩
        subst hpf
        have tf : decide ((0 : Int) ≤ (p : Int)) = true := decide_eq_true (by omega)
        have tb : decide (bl < most) = true := decide_eq_true hbm
        have hpi : p < i := by omega
        have hcp := HC.out p (by omega)
        have hA1p := hcp.ge.1
        have hA2p := hcp.ge.2
        have cpA : Hid (∀ ws : World, Below w.heap.size w ws → ws.cell? ⟨ga, p, none⟩ = some (.int .i64 (A p))) := fun ws hb => (hb.cell (p := ⟨ga, p, none⟩) hg).trans (HR.out.cell p (by omega))
        have HNx : Hid (∀ bl bd, LgSt s.data.toList i most (p : Int) bl bd → (∀ n, 3 ≤ n → n ≤ most → sameAt s.data.toList p i n → n ≤ bl) → LgSt s.data.toList i most (A p) bl bd) := fun bl bd h hv => lg_next h hcp hv
        have HIn := Hid.mk' (lgin_start HS.out)
        clear hend hcp
        go_wp2_with fail
        clear d0 d1 d2 r6 r61 r62 g60 g61 g62 tf tb
        go_loopg [10] most (fun g nv wx => ∃ (n bl bd : Nat), nv = .int .i64 (n : Int) ∧ most + 3 ≤ n + g ∧ LgIn s.data.toList i most p n bl bd ∧ bl ≤ most ∧ Box3 wx (w.heap.size + 1) (bl : Int) (bd : Int) 0 ∧ Box3 wx w.heap.size 0 0 0 ∧ Below w.heap.size w wx)
        case atStart => exact ⟨3, bl, bd, rfl, by omega, HIn.out, by omega, H7.out, H6.out, HB.out⟩
        case round =>
          obtain ⟨n, l, d, rfl, hng, hin, hlm, hb7, hb6, hbl⟩ := hrel
          have HI := Hid.mk' hin
          have H7i := Hid.mk' hb7
          have H6i := Hid.mk' hb6
          have HBi := Hid.mk' hbl
          have d0 := hb7.c0
          have d1 := hb7.c1
          have d2 := hb7.c2
          have e0 := hb7.f0
          have e1 := hb7.f1
          have e2 := hb7.f2
          have hn3 := hin.n3
          have cA := cpA.out _ hbl
          clear hin hb7 hb6 hbl
          by_cases hnm : n ≤ most
          · have hpn : p + n - 1 < s.size := by omega
            have hin2 : i + n - 1 < s.size := by omega
            obtain ⟨pn, hpne⟩ : ∃ pn, p + n - 1 = pn := ⟨_, rfl⟩
            obtain ⟨jn, hjne⟩ : ∃ jn, i + n - 1 = jn := ⟨_, rfl⟩
            have HSame : Hid (∀ b : Bool, decide (s.data.toList.getD (p + n - 1) 0 = s.data.toList.getD (i + n - 1) 0) = b → decide (s.data.toList.getD pn 0 = s.data.toList.getD jn 0) = b) := by rw [hpne, hjne]; exact fun _ h => h
            rw [hpne] at hpn
            rw [hjne] at hin2
            have xp : (p : Int) + (n : Int) - 1 = (pn : Int) := by omega
            have xj : (i : Int) + (n : Int) - 1 = (jn : Int) := by omega
            have wp0 : IntKind.i64.wrap ((p : Int) + (n : Int)) = (p : Int) + (n : Int) := by rw [IntKind.wrap_i64]; omega
            have wp1 : IntKind.i64.wrap (pn : Int) = (pn : Int) := by rw [IntKind.wrap_i64]; omega
            have wj0 : IntKind.i64.wrap ((i : Int) + (n : Int)) = (i : Int) + (n : Int) := by rw [IntKind.wrap_i64]; omega
            have wj1 : IntKind.i64.wrap (jn : Int) = (jn : Int) := by rw [IntKind.wrap_i64]; omega
            have g1 := getD_byteL s pn hpn
            have g2 := getD_byteL s jn hin2
            have hpnI : (pn : Int) < (s.size : Int) := by omega
            have hjnI : (jn : Int) < (s.size : Int) := by omega
            by_cases heq : s[pn] = s[jn]
            · have tq : ((s[pn].toNat : Int) != (s[jn].toNat : Int)) = false := by rw [heq]; simp
              have he : Hid (s.data.toList.getD (p + n - 1) 0 = s.data.toList.getD (i + n - 1) 0) := by show _ = _; rw [hpne, hjne, g1, g2]; exact heq
              cases gk with
              | zero => omega
              | succ gi =>
                by_cases hnl : l < n
                · have tn : decide (l < n) = true := decide_eq_true hnl
                  have HI2 := Hid.mk' (HI.out.take hnm he.out hnl)
                  have xd : (i : Int) - (p : Int) = ((i - p : Nat) : Int) := by omega
                  obtain ⟨dd, hdd⟩ : ∃ dd, i - p = dd := ⟨_, rfl⟩
                  rw [hdd] at xd HI2
                  have hddi : dd ≤ i := by omega
                  clear g1 g2 heq hpne hjne hdd HSame
                  go_wp2_with fail
                  go_quiet (fail)
                  go_wp2_with fail
                  go_roundg gi
                  case rel => exact ⟨n + 1, n, dd, by go_num, by omega, HI2.out, hnm, (H7i.out.dN _).set (n : Int) (dd : Int) 0, (((H6i.out.dN _).kept' (w.heap.size + 1) (by omega) _ _ _)), below_set3 (below_dL HBi.out _) (by omega) _ _ _⟩
                  case measure => omega
                · have tn : decide (l < n) = false := decide_eq_false hnl
                  have HI2 := Hid.mk' (HI.out.keep hnm he.out (by omega))
                  clear g1 g2 heq hpne hjne HSame
                  go_wp2_with fail
                  go_quiet (fail)
                  go_wp2_with fail
                  go_roundg gi
                  case rel => exact ⟨n + 1, l, d, by go_num, by omega, HI2.out, hlm, H7i.out.dN _, H6i.out.dN _, below_dL HBi.out _⟩
                  case measure => omega
            · have tq : ((s[pn].toNat : Int) != (s[jn].toNat : Int)) = true := by
                rw [bne_iff_ne]
                intro h
                exact heq (UInt8.toNat_inj.1 (by omega))
              have HN2 := Hid.mk' (HNx.out l d HI.out.st (HI.out.out (.inr (by rw [hpne, hjne, g1, g2]; exact heq))))
              clear g1 g2 heq hpne hjne HSame
              go_wp2_with fail
              go_quiet (fail)
              go_wp2_with fail
              go_roundg gg
              case rel => exact ⟨A p, l, d, rfl, by omega, HN2.out, H7i.out.dN _, H6i.out.dN _, below_dL HBi.out _⟩
              case measure => omega
          · have HN2 := Hid.mk' (HNx.out l d HI.out.st (HI.out.out (.inl (by omega))))
            go_wp2_with fail
            go_roundg gg
            case rel => exact ⟨A p, l, d, rfl, by omega, HN2.out, H7i.out, H6i.out, HBi.out⟩
            case measure => omega
end Go.Proofs.YtcalbicfnhoklaaDoor
