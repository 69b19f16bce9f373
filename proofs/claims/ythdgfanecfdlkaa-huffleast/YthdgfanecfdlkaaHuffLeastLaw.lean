/- The law HuffLeast, walked. -/
import Derived.Test.YthdgfanecfdlkaaKCostWalks
import Derived.Test.YthdgfanecfdlkaaMergeLawMath
import Derived.Test.YthdgfanecfdlkaaComesWalks
import Derived.Test.YthdgfanecfdlkaaCloneInts
import Derived.Test.YthdgfanecfdlkaaLeastWalks
namespace Go.Proofs.Ythdgfanecfdlkaa
open Go.RowKit

theorem wds_112 (w : World) (t : TypeId) : Wds (w.alloc (.cells #[.int .i64 1, .int .i64 1, .int .i64 2] t)) (some ⟨w.heap.size, 0, none⟩) 3 (fun i => if i = 2 then 2 else 1) := by
  refine ⟨by omega, fun _ => ⟨w.heap.size, 0, rfl, by simp, fun i hi => ?_⟩, fun i hi => by split <;> omega⟩
  rw [Nat.zero_add, World.cell?_alloc_new]
  rcases (by omega : i = 0 ∨ i = 1 ∨ i = 2) with rfl | rfl | rfl <;> rfl
theorem k_112 {z : Int} (h : KcAns (fun i => if i = 2 then 2 else 1) 3 15 z) : z = 6 := by
  have h0 : lensE (fun i => if i = 2 then 2 else 1) 3 15 = 0 := by decide +kernel
  rcases h with ⟨h1, _⟩ | ⟨_, n, rfl, _, ho⟩
  · exact absurd h0 h1
  · have e : wsL (fun i => if i = 2 then 2 else 1) 3 = [1, 1, 2] := by decide +kernel
    rw [e] at ho
    have := ho.one opt_112
    omega
theorem cellsN_is (l : List Nat) : cellsN l = cellsC (fun i => ((l.getD i 0 : Nat) : Int)) l.length := by
  have := cells_drop l 0
  simp only [Nat.zero_add, Nat.sub_zero, List.drop_zero] at this
  exact this.symm
theorem wds_list {w : World} {N : Nat} {v : Value} {l : List Nat} {n : Nat} (hn : l.length = n) (h : w.ownsRow N 3 1 v n (cellsN l)) (hl : n ≤ 320) (hb : ∀ v ∈ l, 0 < v ∧ v ≤ 1048576) : ∃ ao cap, v = .slice ao n cap ∧ Wds w ao n (fun i => ((l.getD i 0 : Nat) : Int)) := by
  subst hn
  rw [cellsN_is] at h
  refine wds_of_own h (by omega) fun i hi => ?_
  have := hb _ (List.getElem_mem hi)
  rw [List.getD_eq_getElem?_getD, List.getElem?_eq_getElem hi, Option.getD_some]
  omega
theorem opt_nil (m : Nat) : Opt [] m 0 := ⟨⟨[], List.Perm.refl _, ⟨fun p hp => by simp at hp, fun p hp => by simp at hp, by simp [krf, sm]⟩, rfl⟩, fun P _ _ => Nat.zero_le _⟩
theorem opt_single (x m : Nat) (hm : 1 ≤ m) : Opt [x] m x := by
  refine ⟨⟨[(x, 1)], List.Perm.refl _, ⟨fun p hp => ?_, fun p hp => ?_, ?_⟩, by simp [costP, sm]⟩, fun P hp ok => ?_⟩
  · rw [List.mem_singleton.1 hp]; exact Nat.le_refl _
  · rw [List.mem_singleton.1 hp]; exact hm
  · show 2 ^ 14 + 0 ≤ 32768
    decide
  · match P, hp.length_eq with
    | [p], _ =>
      have e : p.1 = x := by simpa using (hp.mem_iff (a := p.1)).1 (by simp)
      have l := ok.lo p (by simp)
      show x ≤ p.1 * p.2 + 0
      rw [e]
      exact Nat.le_mul_of_pos_right _ l
theorem least_is {F : Nat → Int} {len c : Nat} {m : Nat} (hm : 1 ≤ m ∧ m ≤ 15) (hl : len ≤ 24) (hF : ∀ i, i < len → 0 ≤ F i ∧ F i ≤ 1048576) (ho : Opt (wsL F len) m c) : c = leastW (comL F len) m := by
  have hp := com_perm F len (fun i hi => (hF i hi).1)
  have hd := com_down F len
  have hx := com_pos F len hF
  have hlen : (comL F len).length ≤ 24 := by rw [com_len F len (fun i hi => (hF i hi).1)]; exact Nat.le_trans (cmL_len F len) hl
  have ho2 := ho.perm hp.symm
  generalize comL F len = ws at *
  unfold leastW
  by_cases h0 : ws.length = 0
  · rw [if_pos h0]
    have : ws = [] := List.length_eq_zero_iff.1 h0
    subst this
    exact ho2.one (opt_nil m)
  · rw [if_neg h0]
    by_cases h1 : ws.length = 1
    · rw [if_pos h1]
      match ws, h1 with
      | [x], _ => exact ho2.one (opt_single x m hm.1)
    · rw [if_neg h1]
      obtain ⟨P, hP, hok, _⟩ := ho2.1
      have hle := leftW_le ws (fun v hv => (hx v hv).2) 0
      have hmul : (m + 1) * leftW ws 0 ≤ 16 * leftW ws 0 := Nat.mul_le_mul_right _ (by omega)
      exact ho2.one (least_opt ws hd m hm.2 (by omega) (by unfold nv; omega) P hP hok)

set_option maxRecDepth 20000 in
set_option maxHeartbeats 4000000 in
theorem huffLeast_walk (a0 : Option Addr) (len cap : Nat) (F : Nat → Int) (most : Int) (w : World) (w0 : Wds w a0 len F) (w1 : (Lit.int .i64 most).wf = true) :
    Calls Try.prog 3 #[.slice a0 len cap, .int .i64 most] w fun e w' => e = .returned (.bool true) ∧ Below w.heap.size w w' := by
  have HP := Hid.mk' w0
  have hlen := w0.lenB
  have hbm := bounds_i64 w1
  have HBm := Hid.mk' hbm
  clear w0 w1
  go_enter Try.func3, Try.ntmps3
  go_wp2_with fail
  refine (kcost_any _ 3 3 (fun i => if i = 2 then 2 else 1) 15 _ (wds_112 w 3) (by omega)).mono ?_
  rintro e wa ⟨⟨z, rfl, hans⟩, hb⟩
  obtain rfl : z = 6 := k_112 hans
  have HBa : Hid (Below w.heap.size w wa) := ((Below.refl _ _).alloc (Nat.le_refl _) _).trans (hb.mono (by simp))
  have HPa : Hid (Wds wa a0 len F) := wds_below HP.out HBa.out
  clear hans hb
  go_wp2_with fail
  refine (hlens_any a0 len cap F most _ HPa.out (by omega)).mono ?_
  rintro e wb ⟨⟨v, rfl, hans⟩, hb1⟩
  have HB1 : Hid (Below w.heap.size w wb) := HBa.out.trans (hb1.mono HBa.out.size)
  clear hb1
  have his := lensE_is F len most
  rcases hans with ⟨hne, rfl⟩ | ⟨h0, T, g, rfl, hg, hrow, hok⟩
  · have hn2 : (lensE F len most != 0) = true := by rw [bne_iff_ne]; exact hne
    have hn3 : (lensE F len most == 0) = false := by rw [beq_eq_false_iff_ne]; exact hne
    obtain ⟨x, hx⟩ : ∃ x, Hid (lensE F len most = x) := ⟨_, Hid.mk' rfl⟩
    rw [hx.out] at his hn2 hn3 ⊢
    clear hne
    go_wp2_with fail
    go_ret
    exact ⟨rfl, HB1.out⟩
  · have HC := Hid.mk' (hok.cost h0)
    have HO := Hid.mk' hok.opt
    obtain ⟨q1, q2, q3, _⟩ := lensE_zero h0
    obtain ⟨f1, f2⟩ := freqE_zero q1
    have HF := Hid.mk' f2
    have HW : Hid (Wds wb (some ⟨g, 0, none⟩) len (fun i => (T i : Int))) := wds_row hrow f1 (hok.le (by omega))
    have hcb := (hok.cost h0).2.2
    rw [h0]
    clear hrow hok his h0 q1 f2
    by_cases h24 : 24 < len
    · have d24 : decide (24 < len) = true := decide_eq_true h24
      go_wp2_with fail
      go_ret
      exact ⟨rfl, HB1.out⟩
    · have d24 : decide (24 < len) = false := decide_eq_false h24
      obtain ⟨m, hm⟩ : ∃ m : Nat, most = (m : Int) := ⟨most.toNat, by omega⟩
      subst hm
      have hm1 : 1 ≤ m ∧ m ≤ 15 := by omega
      have HP2 : Hid (Wds wb a0 len F) := wds_below HP.out HB1.out
      go_wp2_with fail
      refine (cost_any a0 len cap F _ len len (fun i => (T i : Int)) _ HP2.out HW.out).mono ?_
      rintro e w' ⟨rfl, hw'⟩; obtain rfl := hw'.symm
      rw [HC.out.1, HC.out.2.1]
      obtain ⟨c, hc⟩ : ∃ c, Hid (costN F (fun i => (T i : Int)) len = c) := ⟨_, Hid.mk' rfl⟩
      rw [hc.out] at hcb HO ⊢
      rw [Int.toNat_natCast] at HO
      have HLs := Hid.mk' (least_is hm1 (by omega) HF.out HO.out)
      go_wp2_with fail
      refine (comes_any a0 len cap F _ HP2.out f1 HF.out).mono ?_
      rintro e w2 ⟨⟨v, rfl, hown⟩, hb2⟩
      have HB2 : Hid (Below w.heap.size w w2) := HB1.out.trans (hb2.mono HB1.out.size)
      have hcl : (comL F len).length ≤ 24 := by rw [com_len F len (fun i hi => (HF.out i hi).1)]; exact Nat.le_trans (cmL_len F len) (by omega)
      obtain ⟨ao, cp, rfl, hw2⟩ := wds_list rfl hown (by omega) (com_pos F len HF.out)
      have HW2 := Hid.mk' hw2
      clear hown hb2 hw2
      go_wp2_with fail
      refine (least_any ao _ cp (comL F len) m _ HW2.out rfl hcl (fun v hv => (com_pos F len HF.out v hv).2) (by omega)).mono ?_
      rintro e w3 ⟨rfl, hb3⟩
      rw [← HLs.out]
      have HB3 : Hid (Below w.heap.size w w3) := HB2.out.trans (hb3.mono HB2.out.size)
      clear hb3
      have hee : ((c : Int) == (c : Int)) = true := by simp
      go_wp2_with fail
      go_ret
      exact ⟨rfl, HB3.out⟩
end Go.Proofs.Ythdgfanecfdlkaa
