/- What blob.Split answers. -/
import Derived.Test.YtjfmpnphlpeikaaBlAllWalks
import Derived.Test.YtjfmpnphlpeikaaBlFitWalks
import Derived.Test.YtjfmpnphlpeikaaI64s
import Derived.Test.YtjfmpnphlpeikaaGrowAt
namespace Go.Proofs.Ytjfmpnphlpeikaa
open Go.RowKit

/-- whole numbers as cells -/
def natC (L : List Nat) : List Value := L.map fun n : Nat => .int .i64 (n : Int)
theorem natC_snoc (L : List Nat) (n : Nat) : natC (L ++ [n]) = natC L ++ [.int .i64 (n : Int)] := by simp [natC]
theorem natC_length (L : List Nat) : (natC L).length = L.length := by simp [natC]
/-- what Split answers -/
def SpAns (w' : World) (N : Nat) (e : Ending) (l : List Blb) : Prop :=
  (chkL l = 0 ∧ ∃ v, e = .returned (.tuple #[v, .int .i64 0]) ∧ w'.ownsRow N 3 1 v (splN l).length (natC (splN l))) ∨ (∃ q, q ≠ 0 ∧ chkL l = q ∧ e = .returned (.tuple #[.slice none 0 0, .int .i64 q]))
theorem below_growS {w wr w1 : World} {N k : Nat} {e : TypeId} {v : Value} {xs : List Value} {o : Obj} (hown : wr.ownsRow N e 1 v k xs) (hbl : Below N w wr) (hN : N ≤ wr.heap.size) (hg : (wr.alloc o).grownBy w1 v.ownBlock) : Below N w w1 :=
  (hbl.alloc hN o).grown hg (by simp; omega) fun j hj => (hown.lt j hj).1
theorem cell_one_newS (w : World) (v : Value) (t : TypeId) : ∀ j u, [v][j]? = some u → (w.alloc (.cells #[v] t)).cell? ((⟨w.heap.size, 0, none⟩ : Addr).add j) = some u := by
  intro j u hj
  have hj0 : j = 0 := by
    have := (List.getElem?_eq_some_iff.1 hj).1
    simpa using this
  subst hj0
  rw [addR, World.cell?_alloc_new]
  simpa using hj
theorem int_oneS (n : Int) : ∀ u ∈ [Value.int .i64 n], u.oneCell' = true := by
  intro u hu
  rw [List.mem_singleton.1 hu]; rfl
set_option maxRecDepth 20000 in
set_option maxHeartbeats 1600000 in
theorem bsplit_any (a0 : Option Addr) (n c : Nat) (l : List Blb) (w : World) (h : Bls w a0 n c l) :
    Calls Try.prog 16 #[.slice a0 n c] w fun e w' => SpAns w' w.heap.size e l ∧ Below w.heap.size w w' := by
  have HL := Hid.mk' h
  have nB := h.nB
  have hnL := Hid.mk' h.nL
  have hcm : c ≤ 9223372036854775807 := by have := h.km; unfold maxLen at this; omega
  have hnc := h.kc
  clear h
  obtain ⟨i0, hi, hz0, hz1, hz2⟩ := info_parts infoI64
  have KI := Hid.mk' hi
  have KZ0 := Hid.mk' hz0
  have KZ1 := Hid.mk' hz1
  have KZ2 := Hid.mk' hz2
  clear hi hz0 hz1 hz2
  go_enter Try.func16, Try.ntmps16
  go_wp2_with fail
  refine (ball_any a0 n c l w HL.out).mono ?_
  rintro e w1 ⟨rfl, hb1⟩
  have HB1 := Hid.mk' hb1
  clear hb1
  obtain ⟨q, hq⟩ : ∃ q, Hid (chkL l = q) := ⟨_, Hid.mk' rfl⟩
  rw [hq.out]
  by_cases h0 : q = 0
  · subst h0
    have hz1 := HB1.out.size
    go_wp2_with fail
    go_loopw [0, 5] (fun s v wr => ∃ (m : Nat) (a' : Option Addr) (L : List Nat), m ≤ n ∧ s = .slice a' (n - m) (c - m) ∧ Bls w a' (n - m) (c - m) (l.drop m) ∧ L.length ≤ m ∧ wr.ownsRow w.heap.size 3 1 v L.length (natC L) ∧ splN l = L ++ splN (l.drop m) ∧ Below w.heap.size w wr) (fun s _ _ => match s with | .slice _ k _ => k | _ => 0)
    case atStart => exact ⟨0, a0, [], Nat.zero_le _, rfl, HL.out, Nat.le_refl _, (by exact World.ownsRow_nil _ _ _ _), rfl, HB1.out⟩
    case round =>
      obtain ⟨m, a', L, hm, hsl, hls, hLm, hown, hsp, hbl⟩ := hrel
      obtain ⟨k, hkd⟩ : ∃ k, Hid (n - m = k) := ⟨_, Hid.mk' rfl⟩
      obtain ⟨d, hdd⟩ : ∃ d, Hid (c - m = d) := ⟨_, Hid.mk' rfl⟩
      rw [hkd.out, hdd.out] at hsl hls
      subst hsl
      have HLs := Hid.mk' hls
      have HO := Hid.mk' hown
      have HS := Hid.mk' hsp
      have HB := Hid.mk' hbl
      have hzr := hbl.size
      have hkd2 : k ≤ d := hls.kc
      have hdm : d ≤ 9223372036854775807 := by have := hdd.out; omega
      have hkB : k ≤ 8796093022208 := hls.nB
      clear hls hown hsp hbl
      by_cases hlt : 0 < k
      · have hok : Hid (chkL (l.drop m) = 0) := chkL_drop hq.out m
        have hfp : Hid (1 ≤ fitN 2 0 (l.drop m) ∧ fitN 2 0 (l.drop m) ≤ k ∧ splN (l.drop m) = fitN 2 0 (l.drop m) :: splN ((l.drop m).drop (fitN 2 0 (l.drop m)))) := by
          have hlen := HLs.out.nL
          have hle := fitN_le (l.drop m) 2 0
          cases hd : l.drop m with
          | nil => rw [hd] at hlen; simp at hlen; omega
          | cons b r =>
            have hk2 := hok.out
            rw [hd] at hk2 hlen hle
            exact ⟨fit_pos (chkL_all hk2 b (by simp)), by omega, splN_cons hk2⟩
        go_wp2_with fail
        refine (bfit_any a' k d (l.drop m) wr (HLs.out.below HB.out) hok.out).mono ?_
        rintro e w2 ⟨rfl, hb2⟩
        have HB2 := Hid.mk' (HB.out.trans (hb2.mono hzr))
        have HO2 := Hid.mk' (own_below HO.out hb2)
        have hz2 := HB2.out.size
        clear hb2
        obtain ⟨f, hf⟩ : ∃ f, Hid (fitN 2 0 (l.drop m) = f) := ⟨_, Hid.mk' rfl⟩
        rw [hf.out] at hfp ⊢
        have hf1 := hfp.out.1
        have hfk := hfp.out.2.1
        have hfd : f ≤ d := by omega
        have hLf : L.length ≤ 8796093022208 := by omega
        go_wp2_with (at_builtin; refine wpList_append_own _ rfl (.tmp 17) (.tmp 19) 34 rfl w.heap.size 3 i0 (.int .i64 0) 1 8 Try.underlying34 KI.out KZ0.out KZ1.out KZ2.out rfl (by decide) u5 _ _ rfl (HO2.out.alloc _) ⟨w2.heap.size, 0, none⟩ 1 1 [.int .i64 (f : Int)] rfl rfl (cell_one_newS _ _ _) (int_oneS _) (by unfold maxLen; omega) (by omega) (by simp; omega) ?_; intro v' w3 hown1 hgrow1 _)
        have HB4 := Hid.mk' (below_growS HO2.out HB2.out hz2 hgrow1)
        have HO4 : Hid (w3.ownsRow w.heap.size 3 1 v' (L ++ [f]).length (natC (L ++ [f]))) := by
          show World.ownsRow _ _ _ _ _ _ _
          rw [natC_snoc, List.length_append]; exact hown1
        have HLn := Hid.mk' (HLs.out.reslice f hfk)
        have e1 : Hid (n - (m + f) = k - f) := by show _ = _; have := hkd.out; omega
        have e2 : Hid (c - (m + f) = d - f) := by show _ = _; have := hdd.out; omega
        have e3 : Hid ((l.drop m).drop f = l.drop (m + f)) := by show _ = _; rw [List.drop_drop]
        have HS2 : Hid (splN l = (L ++ [f]) ++ splN (l.drop (m + f))) := by show _ = _; rw [HS.out, hfp.out.2.2, e3.out]; simp
        have hm2 : Hid (m + f ≤ n) := by have := hkd.out; show _ ≤ _; omega
        have hL2 : Hid ((L ++ [f]).length ≤ m + f) := by show _ ≤ _; rw [List.length_append, List.length_singleton]; omega
        clear hown1 hgrow1
        go_roundw
        case rel => exact ⟨m + f, _, L ++ [f], hm2.out, by rw [e1.out, e2.out], by rw [e1.out, e2.out, ← e3.out]; exact HLn.out, hL2.out, HO4.out, HS2.out, HB4.out⟩
        case measure => show k - f < k; omega
      · have hk0 : k = 0 := by omega
        subst hk0
        have hnil : Hid (l.drop m = []) := List.length_eq_zero_iff.1 HLs.out.nL
        have hfin : Hid (splN l = L) := by show _ = _; rw [HS.out, hnil.out, splN_nil, List.append_nil]
        go_wp2_with fail
        go_ret2
        exact ⟨.inl ⟨hq.out, _, rfl, by rw [hfin.out]; exact HO.out⟩, HB.out⟩
  · have HQ : Hid (chkL l = q) := hq
    have tq : (q != 0) = true := by rw [bne_iff_ne]; exact h0
    go_wp2_with fail
    go_ret2
    exact ⟨.inr ⟨q, h0, HQ.out, rfl⟩, HB1.out⟩
end Go.Proofs.Ytjfmpnphlpeikaa
