import Derived.Test.YtbakgobgjfhhhaaDoorPsaq
import Derived.Test.YtbakgobgjfhhhaaDoorPsai
import Derived.Laws.AppendOwn

/- What scan.behind answers. -/
namespace Go.Proofs.YtbakgobgjfhhhaaDoor
open Go.RowKit Go.WideMaps Go.Maps

theorem infoEnB : (Tryd.prog.info? 48).map (fun i => (i.zero, i.size, i.bytes)) = some (some (.agg #[.int .i64 0, .slice none 0 0, .bool false]), 3, 40) := by kernel_rfl
theorem chn_mem {L : List (Nat × EnS)} {a : Int} {l : List EnS} (h : Chn L a l) {x : EnS} (hx : x ∈ l) : ∃ p ∈ L, p.2 = x := by
  obtain ⟨i, hi, e⟩ := List.getElem_of_mem hx
  have := h.at' i hi
  rw [List.getElem?_eq_getElem hi, e] at this
  obtain ⟨p, h1, _, h3⟩ := fnd_mem this
  exact ⟨p, h1, h3⟩
theorem own_sliceE {w : World} {N n : Nat} {e : TypeId} {size : Nat} {v : Value} {xs : List Value} (h : w.ownsRow N e size v n xs) : ∃ ao cap, v = .slice ao n cap ∧ n ≤ cap ∧ cap ≤ maxLen ∧ (ao = none → cap = 0) := by
  obtain ⟨ao, cap, hv, h1, h2, h3, _⟩ := Rd.of_own h
  exact ⟨ao, cap, hv, h1, h2, h3⟩
theorem enV_new (w : World) (x : EnS) (t : TypeId) : ∀ j u, (enV x)[j]? = some u → (w.alloc (.cells #[.int .i64 (x.cl : Int), .slice x.a x.bl.length x.c, .bool x.la] t)).cell? ((⟨w.heap.size, 0, none⟩ : Addr).add j) = some u := by
  intro j u hj
  have h := (boxV_new w (enV x) t).c j u hj
  rw [addR, Nat.zero_add]; exact h
theorem enV_one (x : EnS) : ∀ u ∈ enV x, u.oneCell' = true := by
  intro u hu
  simp only [enV, List.mem_cons, List.not_mem_nil, or_false] at hu
  rcases hu with rfl | rfl | rfl <;> rfl
theorem enC_take (l : List EnS) (k : Nat) : (enC l).take (k * 3) = enC (l.take k) := by
  induction l generalizing k with
  | nil => simp [enC]
  | cons x r ih =>
    cases k with
    | zero => simp [enC]
    | succ k =>
      rw [List.take_succ_cons, enC_cons, enC_cons, show (k + 1) * 3 = k * 3 + 1 + 1 + 1 by omega, List.take_succ_cons, List.take_succ_cons, List.take_succ_cons, ih]
theorem below_ownE {w0 w w' : World} {n size : Nat} {e : TypeId} {v : Value} {xs : List Value} (hb : Below w0.heap.size w0 w) (ho : w.ownsRow w0.heap.size e size v n xs) (hg : w.grownBy w' v.ownBlock) : Below w0.heap.size w0 w' := by
  refine ⟨hg.os.trans hb.os, hg.tape.trans hb.tape, hg.output.trans hb.output, Nat.le_trans hb.size hg.size, fun i hi => ?_⟩
  refine (hg.block i (Nat.lt_of_lt_of_le hi hb.size) (fun e => ?_)).trans (hb.block i hi)
  have := (ho.lt i (by first | exact e.symm | exact e)).1
  omega
set_option maxRecDepth 20000 in
set_option maxHeartbeats 1600000 in
theorem behind_any (g q : Nat) (D : DataW Value) (L : List (Nat × EnS)) (a : Int) (w : World) (h : MapL w g q D L) (hL : L.length ≤ 128) (ha : 0 ≤ a ∧ a ≤ 2147483647) :
    Calls Tryd.prog 42 #[.map (some g), .int .i64 a] w fun z w' => (∃ ao l, z = .returned (.slice ao (trE (·.la) l) (trE (·.la) l)) ∧ Chn L a l ∧ fnd L (a + 1 + (l.length : Int)) = none ∧ Rd w' ao (trE (·.la) l) 3 (enC (l.take (trE (·.la) l)))) ∧ Below w.heap.size w w' := by
  have HMw := Hid.mk' h
  obtain ⟨i0, hi, hz0, hz1, hz2⟩ := info_parts infoEnB
  have KI := Hid.mk' hi
  have KZ0 := Hid.mk' hz0
  have KZ1 := Hid.mk' hz1
  have KZ2 := Hid.mk' hz2
  clear h hi hz0 hz1 hz2
  go_enter Tryd.func42, Tryd.ntmps42
  go_wp2_with fail
  go_loopw [5, 6, 7] (fun v e i wr => ∃ l : List EnS, i = .int .i64 (a + 1 + (l.length : Int)) ∧ e = .int .i64 (trE (·.la) l : Nat) ∧ wr.ownsRow w.heap.size 48 3 v l.length (enC l) ∧ Chn L a l ∧ Below w.heap.size w wr) (fun _ _ i _ => 200 - (intOf i - a).toNat)
  case atStart => exact ⟨[], by simp, rfl, World.ownsRow_nil _ _ _ _, Chn.nil _ _, Below.refl _ _⟩
  case round =>
    obtain ⟨l, rfl, rfl, hown, hch, hb⟩ := hrel
    have hlen := hch.le
    have hte := trE_le (·.la) l
    obtain ⟨ao, cap, rfl, hc1, hc2, hc3⟩ := own_sliceE hown
    have HO := Hid.mk' hown
    have HC := Hid.mk' hch
    have HB := Hid.mk' hb
    have HM := Hid.mk' (HMw.out.below hb)
    obtain ⟨n, hn⟩ : ∃ n, Hid (l.length = n) := ⟨_, Hid.mk' rfl⟩
    obtain ⟨e, he⟩ : ∃ n, Hid (trE (·.la) l = n) := ⟨_, Hid.mk' rfl⟩
    rw [hn.out] at hlen hte hc1 HO ⊢
    rw [he.out] at hte ⊢
    obtain ⟨x, hx⟩ : ∃ x, Hid (a + 1 + (n : Int) = x) := ⟨_, Hid.mk' rfl⟩
    have hx' : x = a + 1 + (n : Int) := hx.out.symm
    rw [hx.out]
    have hwf : (Lit.int .i64 x).wf = true := WalkArith.wf_i64 (by omega)
    clear hown hch hb
    cases hf : fnd L x with
    | none =>
      have hlk := HM.out.look_no hwf hf
      have HF : Hid (fnd L (a + 1 + (l.length : Int)) = none) := by show _ = _; rw [hn.out, hx.out]; exact hf
      obtain ⟨ao', cap', hv, _, _, _, hrd⟩ := Rd.of_own HO.out
      cases hv
      have HR := Hid.mk' ((hrd.pre e hte).below (below_boxE #[.int .i64 0, .slice none 0 0, .bool false] 48))
      have HB2 := Hid.mk' (HB.out.trans ((below_boxE (w := wr) #[.int .i64 0, .slice none 0 0, .bool false] 48).mono HB.out.size))
      clear hf hwf hx' hrd
      go_wp2_with fail
      go_ret
      exact ⟨⟨ao, l, by rw [he.out]; rfl, HC.out, HF.out, by rw [he.out, ← enC_take]; exact HR.out⟩, HB2.out⟩
    | some y =>
      obtain ⟨cl, bl, la, xa, xc⟩ := y
      have hlk := HM.out.look_yes hwf hf
      have HC2 : Hid (Chn L a (l ++ [⟨cl, bl, la, xa, xc⟩])) := HC.out.snoc (by rw [hn.out, hx.out]; exact hf)
      have hlen2 : n + 1 ≤ L.length := by have := HC2.out.le; rw [List.length_append, List.length_singleton, hn.out] at this; exact this
      have hte2 : Hid (trE (·.la) (l ++ [(⟨cl, bl, la, xa, xc⟩ : EnS)]) = if la = true then n + 1 else e) := by show _ = _; rw [trE_snoc, hn.out, he.out]
      have hb1 := below_boxE (w := wr) #[.int .i64 (cl : Int), .slice xa bl.length xc, .bool la] 48
      have hsz1 : (wr.alloc (.cells #[.int .i64 (cl : Int), .slice xa bl.length xc, .bool la] 48)).heap.size = wr.heap.size + 1 := by simp
      have hnw := enV_new (wr.alloc (.cells #[.int .i64 (cl : Int), .slice xa bl.length xc, .bool la] 48)) ⟨cl, bl, la, xa, xc⟩ 48
      rw [hsz1] at hnw
      have HNW := Hid.mk' hnw
      have hb2 := (hb1.alloc (by rw [hsz1]; exact Nat.le_succ _) (.cells #[.int .i64 (cl : Int), .slice xa bl.length xc, .bool la] 48))
      have HV := Hid.mk' ((boxV_new wr [.int .i64 (cl : Int), .slice xa bl.length xc, .bool la] 48).alloc (.cells #[.int .i64 (cl : Int), .slice xa bl.length xc, .bool la] 48))
      have HB2 := Hid.mk' (HB.out.trans (hb2.mono HB.out.size))
      have hne : Hid ((Value.slice ao n cap).ownBlock ≠ some wr.heap.size) := fun e => by have := (HO.out.lt _ e).2; omega
      have hwz := HB.out.size
      have hxn : x + 1 = a + 1 + ((n + 1 : Nat) : Int) := by rw [hx']; push_cast; omega
      have HXN := Hid.mk' hxn
      have hxl : x ≤ 2147483800 := by rw [hx']; omega
      have hx0 : 0 ≤ x := by rw [hx']; omega
      have hxa : a ≤ x := by rw [hx']; omega
      have hxb : x - a ≤ 130 := by rw [hx']; omega
      clear hb1 hb2 hnw hf hwf hx' hsz1 hxn
      have hL2 : Hid ((l ++ [(⟨cl, bl, la, xa, xc⟩ : EnS)]).length = n + 1) := by show _ = _; rw [List.length_append, List.length_singleton, hn.out]
      have fin : Hid (∀ (v' : Value) (w3 : World), w3.ownsRow w.heap.size 48 3 v' (n + 1) (enC l ++ enV ⟨cl, bl, la, xa, xc⟩) → ((wr.alloc (.cells #[.int .i64 (cl : Int), .slice xa bl.length xc, .bool la] 48)).alloc (.cells #[.int .i64 (cl : Int), .slice xa bl.length xc, .bool la] 48)).grownBy w3 (Value.slice ao n cap).ownBlock → ∃ l', (.int .i64 (x + 1) : Value) = .int .i64 (a + 1 + (l'.length : Int)) ∧ (.int .i64 ((if la = true then n + 1 else e : Nat) : Int) : Value) = .int .i64 (trE (·.la) l' : Nat) ∧ w3.ownsRow w.heap.size 48 3 v' l'.length (enC l') ∧ Chn L a l' ∧ Below w.heap.size w w3) := fun v' w3 h1 h2 => by
        refine ⟨l ++ [⟨cl, bl, la, xa, xc⟩], ?_, ?_, ?_, HC2.out, below_ownE HB2.out ((HO.out.alloc _).alloc _) h2⟩
        · rw [hL2.out, HXN.out]
        · rw [hte2.out]
        · rw [hL2.out, enC_snoc]; exact h1
      cases la with
      | true =>
        go_wp2_with (at_builtin; refine wpList_append_own _ rfl (.tmp 26) (.tmp 28) 42 rfl w.heap.size 48 i0 (.agg #[.int .i64 0, .slice none 0 0, .bool false]) 3 40 Tryd.underlying42 KI.out KZ0.out KZ1.out KZ2.out rfl (by decide) (.slice ao n cap) _ _ rfl ((HO.out.alloc _).alloc _) ⟨wr.heap.size + 1, 0, none⟩ 1 1 (enV ⟨cl, bl, true, xa, xc⟩) rfl rfl HNW.out (enV_one _) (by unfold maxLen; omega) (by omega) (by simp; omega) ?_; intro v' w3 hown1 hgrow1 _; obtain ⟨ao2, cap2, rfl, _, _, _⟩ := own_sliceE hown1; have hv2 := (HV.out.grown hgrow1 hne.out).c 2 _ rfl)
        obtain ⟨l', f1, f2, f3, f4, f5⟩ := fin.out _ _ hown1 hgrow1
        rw [if_pos rfl] at f2
        exact ⟨⟨l', f1, f2, f3, f4, f5⟩, by simp [intOf]; omega⟩
      | false =>
        go_wp2_with (at_builtin; refine wpList_append_own _ rfl (.tmp 26) (.tmp 28) 42 rfl w.heap.size 48 i0 (.agg #[.int .i64 0, .slice none 0 0, .bool false]) 3 40 Tryd.underlying42 KI.out KZ0.out KZ1.out KZ2.out rfl (by decide) (.slice ao n cap) _ _ rfl ((HO.out.alloc _).alloc _) ⟨wr.heap.size + 1, 0, none⟩ 1 1 (enV ⟨cl, bl, false, xa, xc⟩) rfl rfl HNW.out (enV_one _) (by unfold maxLen; omega) (by omega) (by simp; omega) ?_; intro v' w3 hown1 hgrow1 _; obtain ⟨ao2, cap2, rfl, _, _, _⟩ := own_sliceE hown1; have hv2 := (HV.out.grown hgrow1 hne.out).c 2 _ rfl)
        obtain ⟨l', f1, f2, f3, f4, f5⟩ := fin.out _ _ hown1 hgrow1
        rw [if_neg (by decide)] at f2
        exact ⟨⟨l', f1, f2, f3, f4, f5⟩, by simp [intOf]; omega⟩
end Go.Proofs.YtbakgobgjfhhhaaDoor
