/- The law ImapTakes, walked. -/
import Derived.Test.YtbailfianjmflaaImTakeWalks
import Derived.Test.YtbailfianjmflaaRImChkWalks
namespace Go.Proofs.Ytbailfianjmflaa
open Go.RowKit

theorem tak_at {P : List Pla} {G : List Int} {k i : Nat} {q : Int} (h : TakA P G k q) (h1 : 1 ≤ i) (hi : i < 48) (hf : frS P G i) (hno : ∀ j, 1 ≤ j → j < i → ¬ frS P G j) : k = i ∧ q = 0 := by
  rcases h with ⟨a, b, c, d, e⟩ | ⟨_, d, _⟩
  · refine ⟨?_, e⟩
    rcases Nat.lt_trichotomy k i with hl | hl | hl
    · exact absurd c (hno k a hl)
    · exact hl
    · exact absurd hf (d i h1 hl)
  · exact absurd hf (d i h1 hi)
theorem tak_end {P : List Pla} {G : List Int} {k : Nat} {q : Int} (h : TakA P G k q) (hno : ∀ j, 1 ≤ j → j < 48 → ¬ frS P G j) : k = 0 ∧ q = 10 := by
  rcases h with ⟨a, b, c, d, e⟩ | ⟨a, d, e⟩
  · exact absurd c (hno k a b)
  · exact ⟨a, e⟩
set_option maxRecDepth 20000 in
set_option maxHeartbeats 3200000 in
theorem imapTakes_walk (a0 : Option Addr) (n c : Nat) (a1 : Option Addr) (m e : Nat) (P : List Pla) (G : List Int) (w : World) (h : Pls w a0 n c P) (h' : Its w a1 m e G) :
    Calls Try.prog 6 #[.agg #[.slice a0 n c, .slice a1 m e]] w fun z w' => z = .returned (.bool true) ∧ Below w.heap.size w w' := by
  have hv := boxV_new w [.slice a0 n c, .slice a1 m e] 39
  have HB : Hid (Below w.heap.size w (w.alloc (.cells #[.slice a0 n c, .slice a1 m e] 39))) := below_boxP _ _
  obtain ⟨W0, hW0⟩ : ∃ W, Hid (w.alloc (.cells #[.slice a0 n c, .slice a1 m e] 39) = W) := ⟨_, Hid.mk' rfl⟩
  have e0 : (w.alloc (.cells [.slice a0 n c, .slice a1 m e].toArray 39)) = W0 := hW0.out
  rw [e0] at hv
  rw [hW0.out] at HB
  have HL := Hid.mk' (h.below HB.out)
  have HG := Hid.mk' (h'.below HB.out)
  have hnL := Hid.mk' h.nL
  have hmL := Hid.mk' h'.nL
  have HV := Hid.mk' hv
  have HT := Hid.mk' (fun w h h' => take_anyM a0 n c a1 m e P G w h h')
  have HR := Hid.mk' (fun w h h' => rimap_any a0 n c a1 m e P G w h h')
  clear h h' hv e0
  go_enter Try.func6, Try.ntmps6
  go_wp2_with fail
  rw [hW0.out]
  refine (HT.out W0 HL.out HG.out).mono ?_
  rintro z w1 ⟨⟨t, q, rfl, hans⟩, hb⟩
  have hv1 := HV.out.below hb
  have c0 := hv1.c 0 _ rfl
  have c1 := hv1.c 1 _ rfl
  have HV1 := Hid.mk' hv1
  have HL1 := Hid.mk' (HL.out.below hb)
  have HG1 := Hid.mk' (HG.out.below hb)
  have HB1 := Hid.mk' (HB.out.trans (hb.mono HB.out.size))
  have HA := Hid.mk' hans
  clear hb hv1 hans
  go_wp2_with fail
  refine (HR.out w1 HL1.out HG1.out).mono ?_
  rintro z w2 ⟨rfl, hb⟩
  have hv2 := HV1.out.below hb
  have HV2 := Hid.mk' hv2
  have HL2 := Hid.mk' (HL1.out.below hb)
  have HG2 := Hid.mk' (HG1.out.below hb)
  have HB2 := Hid.mk' (HB1.out.trans (hb.mono HB1.out.size))
  clear hb hv2 c0 c1
  obtain ⟨r, hr⟩ : ∃ q, Hid (chkM P G = q) := ⟨_, Hid.mk' rfl⟩
  rw [hr.out] at HA ⊢
  by_cases h0 : r = 0
  rotate_left
  · obtain ⟨rfl, rfl⟩ : t = 0 ∧ q = r := by
      rcases HA.out with ⟨_, h1, h2⟩ | ⟨h1, _⟩
      · exact ⟨h1, h2⟩
      · exact absurd h1 h0
    have tq : (q != 0) = true := by rw [bne_iff_ne]; exact h0
    have tqq : (q == q) = true := by simp
    clear h0
    go_wp2_with fail
    go_ret
    exact ⟨rfl, HB2.out⟩
  subst h0
  have HA2 : Hid (TakA P G t q) := by
    rcases HA.out with ⟨h1, _⟩ | ⟨_, h2⟩
    · exact absurd rfl h1
    · exact h2
  have hok := chkM_ok hr.out
  have hn : n = 48 := by rw [← hnL.out]; exact hok.p
  have hm : m = 48 := by rw [← hmL.out]; exact hok.g
  subst hn hm
  have HOk := Hid.mk' hok
  have q0 := HV2.out.c 0 _ rfl
  have q1 := HV2.out.c 1 _ rfl
  clear hok
  go_wp2_with fail
  go_loop [23] (fun i => ∃ k : Nat, k ≤ 48 ∧ i = .int .i64 k ∧ (∀ j, 1 ≤ j → j < k → ¬ frS P G j)) (fun i => 48 - (intOf i).toNat)
  case atStart => exact ⟨0, by omega, rfl, fun j h1 h2 => by omega⟩
  case round =>
    obtain ⟨k, hk, rfl, hno⟩ := hrel
    have HN := Hid.mk' hno
    clear hno
    by_cases hlt : k < 48
    · by_cases hk0 : k = 0
      · subst hk0
        have t0 : decide ((0 : Int) < ((0 : Nat) : Int)) = false := rfl
        go_wp2_with fail
        go_round
        case rel => exact ⟨1, by omega, by go_num, fun j h1 h2 => by omega⟩
        case measure => simp [intOf]
      have t0 : decide ((0 : Int) < (k : Int)) = true := decide_eq_true (by omega)
      have hk1 : 1 ≤ k := by omega
      obtain ⟨b, off, rfl, hb, hx1, hx2⟩ := HL2.out.at k hlt
      obtain ⟨b1, off1, rfl, hb1, hy1⟩ := HG2.out.at k hlt
      have hrt := HOk.out.r k hlt
      have hfr : Hid (frS P G k ↔ (P.getD k noPl).cl = 0 ∧ G.getD k 0 < 2147483647) := by
        show _ ↔ _
        rw [rt_none hrt]; exact Iff.rfl
      generalize P.getD k noPl = o at *
      generalize G.getD k 0 = g at *
      clear hrt
      obtain ⟨oc, on⟩ := o
      simp only at *
      by_cases hoc : oc = 0
      · subst hoc
        by_cases h3 : g < 2147483647
        · have t3 : decide (g < 2147483647) = true := decide_eq_true h3
          obtain ⟨rfl, rfl⟩ := tak_at HA2.out hk1 hlt (hfr.out.2 ⟨rfl, h3⟩) HN.out
          have tkk : ((t : Int) == (t : Int)) = true := by simp
          clear h3
          go_wp2_with fail
          go_ret
          exact ⟨rfl, HB2.out⟩
        · have t3 : decide (g < 2147483647) = false := decide_eq_false h3
          have hf : Hid (∀ j, 1 ≤ j → j < k + 1 → ¬ frS P G j) := fun j h1 h2 => by
            by_cases hj : j < k
            · exact HN.out j h1 hj
            · obtain rfl : j = k := by omega
              exact fun h => h3 (hfr.out.1 h).2
          clear h3
          go_wp2_with fail
          go_round
          case rel => exact ⟨k + 1, by omega, by go_num, hf.out⟩
          case measure => simp [intOf]; omega
      · have t4 : (oc == 0) = false := by rw [beq_eq_false_iff_ne]; exact hoc
        have hf : Hid (∀ j, 1 ≤ j → j < k + 1 → ¬ frS P G j) := fun j h1 h2 => by
          by_cases hj : j < k
          · exact HN.out j h1 hj
          · obtain rfl : j = k := by omega
            exact fun h => hoc (hfr.out.1 h).1
        clear hoc
        go_wp2_with fail
        go_round
        case rel => exact ⟨k + 1, by omega, by go_num, hf.out⟩
        case measure => simp [intOf]; omega
    · obtain rfl : k = 48 := by omega
      obtain ⟨rfl, rfl⟩ := tak_end HA2.out HN.out
      go_wp2_with fail
      go_ret
      exact ⟨rfl, HB2.out⟩
end Go.Proofs.Ytbailfianjmflaa
