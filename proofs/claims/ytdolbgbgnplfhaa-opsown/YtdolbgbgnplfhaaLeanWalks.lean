/- What ops.Lean answers. -/
import Derived.Test.YtdolbgbgnplfhaaLeanMem
import Derived.Test.YtdolbgbgnplfhaaCloneText
import Derived.Test.YtdolbgbgnplfhaaReverseWalks
import Derived.Test.YtdolbgbgnplfhaaRoundKit
import Derived.Shelf.RegionOpen
namespace Go.Proofs.Ytdolbgbgnplfhaa
open Go.RowKit Go.Shelf Go.WideMaps Go.Maps
attribute [local go_sem] Oper.semAt_some

theorem Rd.keptC {w w' : World} {row : Option Nat} {a0 : Option Addr} {n size : Nat} {xs : List Value} (h : Rd w a0 n size xs) (hg : w.grownBy w' row) (hr : ∀ r, row = some r → ∃ o : Obj, w.heap[r]? = some o ∧ o.isCells = false) : Rd w' a0 n size xs :=
  ⟨h.len, fun hp => by
    obtain ⟨b, off, h1, h2, h3⟩ := h.at' hp
    exact ⟨b, off, h1, Nat.lt_of_lt_of_le h2 hg.size, fun j u hj => cell_kept (h3 j u hj) hg hr⟩⟩
theorem infoOpM : (Try.prog.info? 29).map (fun i => (i.zero, i.size, i.bytes)) = some (some (.agg #[.int .i64 0, .int .i64 0, .string ⟨#[]⟩]), 3, 32) := by kernel_rfl
set_option maxRecDepth 100000 in
set_option maxHeartbeats 2000000 in
theorem lean_any (a0 : Option Addr) (n cap : Nat) (L : List Opp) (w : World) (hO : Ops w a0 n cap L) (hnM : n ≤ 4398046511103) :
    Calls Try.prog 7 #[.slice a0 n cap] w fun e w' => ∃ ao cap', e = .returned (.slice ao (leanL L).length cap') ∧ Ops w' ao (leanL L).length cap' (leanL L) ∧ Below w.heap.size w w' := by
  have hmm := @run_makeMap Try.prog
  have hnB := hO.nB
  obtain ⟨i0, hi, hz0, hz1, hz2⟩ := info_parts infoOpM
  refine (callsIn_wide (n := 6)).1 ?_
  refine callsIn_of_wp_marks Try.func7 rfl trivial ?_ rfl
  simp only [Try.ntmps7, List.size_toArray, List.length_cons, List.length_nil, Nat.reduceAdd, Nat.reduceSub, Array.replicate_succ, Array.replicate_zero, List.push_toArray, List.append_toArray, List.nil_append, List.cons_append]
  obtain ⟨s, hs⟩ : ∃ s, s = w.heap.size := ⟨_, rfl⟩
  gi_wp2_with (refine ⟨trivial, ?_⟩; gi_at_call 35; refine (back_in Fence.wide _ trivial rfl _ _ _ _).mono ?_; rintro e w' ⟨rfl, rfl⟩)
  have b0 := Boxed.new w 26 (.slice none 0 0)
  have b1 := Boxed.new (w.alloc (.cells #[.slice none 0 0] 26)) 3 (.int .i64 (n : Int))
  have hm0 := World.ownsMap_made ((w.alloc (.cells #[.slice none 0 0] 26)).alloc (.cells #[.int .i64 (n : Int)] 3)) Try.prog 3 (plainElem (H := Unit) Try.prog 3)
  have b2 := Boxed.new (((w.alloc (.cells #[.slice none 0 0] 26)).alloc (.cells #[.int .i64 (n : Int)] 3)).alloc (.map #[] 0)) 65 (.map (some (w.heap.size + 1 + 1)))
  have b3 := Boxed.new ((((w.alloc (.cells #[.slice none 0 0] 26)).alloc (.cells #[.int .i64 (n : Int)] 3)).alloc (.map #[] 0)).alloc (.cells #[.map (some (w.heap.size + 1 + 1))] 65)) 26 (.slice a0 n cap)
  have hB0 : Below w.heap.size w (((((w.alloc (.cells #[.slice none 0 0] 26)).alloc (.cells #[.int .i64 (n : Int)] 3)).alloc (.map #[] 0)).alloc (.cells #[.map (some (w.heap.size + 1 + 1))] 65)).alloc (.cells #[.slice a0 n cap] 26)) :=
    (((((Below.refl _ w).alloc (Nat.le_refl _) _).alloc (by simp) _).alloc (by simp; omega) _).alloc (by simp; omega) _).alloc (by simp; omega) _
  simp only [World.size_alloc] at b1 hm0 b2 b3
  have hM0 : LeanM w.heap.size (.slice a0 n cap) (((((w.alloc (.cells #[.slice none 0 0] 26)).alloc (.cells #[.int .i64 (n : Int)] 3)).alloc (.map #[] 0)).alloc (.cells #[.map (some (w.heap.size + 1 + 1))] 65)).alloc (.cells #[.slice a0 n cap] 26)) 0 n (.map []) (.slice none 0 0) [] :=
    ⟨(((b0.alloc _).alloc _).alloc _).alloc _, ((b1.alloc _).alloc _).alloc _, b2.alloc _, (hm0.alloc _).alloc _, b3, World.ownsRow_nil _ _ _ _⟩
  obtain ⟨W0, hW0⟩ : ∃ W0, (((((w.alloc (.cells #[.slice none 0 0] 26)).alloc (.cells #[.int .i64 (n : Int)] 3)).alloc (.map #[] 0)).alloc (.cells #[.map (some (w.heap.size + 1 + 1))] 65)).alloc (.cells #[.slice a0 n cap] 26)) = W0 := ⟨_, rfl⟩
  have hsz : W0.heap.size = w.heap.size + 5 := by rw [← hW0]; simp
  rw [hW0] at b3 hB0 hM0 ⊢
  clear hW0 b0 b1 b2 hm0
  refine wpIn_rangeFunc_ownH rfl (by omega) (gf := 46) (lb := #[.pointer (some ⟨w.heap.size + 1 + 1 + 1 + 1, 0, none⟩)]) rfl trivial (enters_of Try.func46 (by kernel_rfl) rfl)
    (back_stops Fence.wide _ trivial rfl (by omega) (w.heap.size + 1 + 1 + 1 + 1) w.heap.size a0 n cap L hnB W0 (by omega) (by omega) b3.cell ((OpsAt.of hO).below hB0)) kpB_t (kpB_b (by omega) (by omega)) (Below.refl _ _) (fun _ => rfl)
    (fun pre W => ∃ e D v Rs, LeanM w.heap.size (.slice a0 n cap) W pre.length e D v Rs ∧ LeanS n L pre e D Rs ∧ Below w.heap.size w W ∧ w.heap.size + 5 ≤ W.heap.size)
    (fun _ _ _ => False)
    (fun pre A B row hs hg hr => by
      obtain ⟨e, D, v, Rs, h1, h2, h3, h4⟩ := hs
      exact ⟨e, D, v, Rs, h1.kept hg (fun r e => ⟨by have := (hr r e).1; omega, (hr r e).2⟩), h2, h3.grown hg (by omega) (fun k e => by have := (hr k e).1; omega), Nat.le_trans h4 hg.size⟩)
    (fun _ _ _ _ _ hs _ _ => hs)
    ⟨n, .map [], .slice none 0 0, [], hM0, LeanS.start n L hO.nL, hB0, by omega⟩
    (fun x a' W => ∃ Bx, w.heap.size + 1 + 1 + 1 + 1 < Bx ∧ BoxOp W Bx (L.getD x.1 noOp) ∧ (∀ u, Boxed W w.heap.size 26 u → u.ownBlock ≠ some Bx) ∧ a' = { tmps := #[.slice a0 n cap, undef, .slice none 0 0, .pointer (some ⟨w.heap.size, 0, none⟩), .pointer (some ⟨w.heap.size + 1, 0, none⟩), .pointer (some ⟨w.heap.size + 1 + 1 + 1, 0, none⟩), .int .i64 (x.1 : Int), .pointer (some ⟨Bx, 0, none⟩), undef, undef, .slice a0 n cap, .int .i64 (n : Int), .map (some (w.heap.size + 1 + 1)), .slice a0 n cap, .func (.func 46) #[] #[.pointer (some ⟨w.heap.size + 1 + 1 + 1 + 1, 0, none⟩)], .int .i64 (x.1 : Int), opV (L.getD x.1 noOp), undef, undef, undef, undef, undef, undef, undef, undef, undef, undef, undef, undef, undef, undef, undef, undef, undef, undef, undef, undef, undef, undef, undef, undef, undef, undef, undef, undef, undef, undef, undef, undef, undef, undef, undef], defers := [] })
    (fun x a' _ A B row hs hg hr => by
      obtain ⟨Bx, h1, h2, h3, h4⟩ := hs
      exact ⟨Bx, h1, h2.keptC hg (fun r e => (hr r e).2), fun u hu => h3 u ((hg.block _ (by have := h2.lt; omega) (fun e => by have := (hr _ e.symm).1; omega)).symm.trans hu), h4⟩)
    ?assign ?body ?done ?stop
  case assign =>
    rintro l pre x W K ⟨e, D, v, Rs, hm, hls, hb, hz⟩ hK
    obtain ⟨o, ho⟩ : ∃ o, L.getD x.1 noOp = o := ⟨_, rfl⟩
    simp only [ho, opV] at hK ⊢
    gi_wp2
    have hm2 := hm.keptN (World.grownBy_alloc W (.cells #[.int .i64 o.kd, .int .i64 o.pl, .string o.tx] 29) none)
    refine hK _ _ ((KeepsOthers.alloc _ _).from _) ⟨(Below.refl _ W).alloc (by omega) _, fun u hu => by rw [hm.bS.cell] at hu; cases hu; exact hm2.bS.cell⟩ ⟨e, D, v, Rs, hm2, hls, hb.alloc (by omega) _, by simp; omega⟩ ⟨W.heap.size, by omega, BoxOp.new W _, fun u hu e => ?_, rfl⟩
    have hc1 := hm2.bL.cell
    rw [Boxed.cell hu] at hc1
    obtain rfl := Option.some.inj hc1
    have := (hm.rw'.lt _ e).2
    omega
  case body =>
    rintro l pre x a' W hl ⟨r, hr⟩ ⟨e, D, v, Rs, hm, hls, hb, hz⟩ ⟨Bx, hBx, bX, hAp, rfl⟩ hlt
    have hx := x.2
    obtain ⟨o, ho⟩ : ∃ o, L.getD x.1 noOp = o := ⟨_, rfl⟩
    have hoB := hO.oB (L.getD x.1 noOp) (mem_getD (by rw [hO.nL]; exact hx))
    have hoT := hO.tB (L.getD x.1 noOp) (mem_getD (by rw [hO.nL]; exact hx))
    rw [ho] at bX hoB hoT
    simp only [ho, opV]
    have hap := hAp _ hm.bL
    have c0 := bX.c0
    have cE := hm.bE.cell
    have fE := hm.bE.frozen
    by_cases h1 : o.kd = 1
    rotate_left
    · have hS := LeanS.other hls hO.nL x (by rw [ho]; exact h1)
      rw [ho] at hS
      have hm1 := (hm.setE x.1).more
      have bX1 : BoxOp (W.setCell ⟨w.heap.size + 1, 0, none⟩ (.int .i64 (x.1 : Int))) Bx o := bX.kept (grownBy_setCell' W (w.heap.size + 1) _) (by intro e; have := Option.some.inj e; omega)
      have hB1 : Below w.heap.size W (W.setCell ⟨w.heap.size + 1, 0, none⟩ (.int .i64 (x.1 : Int))) := (Below.refl _ W).setCell (p := ⟨w.heap.size + 1, 0, none⟩) (by simp) _
      have hF1 : KeepsFrom W0.heap.size W (W.setCell ⟨w.heap.size + 1, 0, none⟩ (.int .i64 (x.1 : Int))) := (KeepsOthers.setCell _ _ _).from _
      have t1 : (o.kd != 1) = true := by rw [bne_iff_ne]; exact h1
      gi_wp2
      obtain ⟨W1, hW1⟩ : ∃ W1, W.setCell ⟨w.heap.size + 1, 0, none⟩ (.int .i64 (x.1 : Int)) = W1 := ⟨_, rfl⟩
      rw [hW1] at hm1 bX1 hB1 hF1 ⊢
      clear hW1 cE fE c0 t1
      -- REGION
      refine region_round (fun X => BoxOp X Bx o) (by kernel_rfl) ?_ ?_ bX1 (fun hHeld => ?_)
      · intro i o' ho' c
        rcases i with _ | _ | _ | _ | _ | _ | _ | _ | _ | _ | _ | _ | i
        all_goals (first | (cases ho'; intro h; cases h) | (simp at ho'))
      · rintro ⟨a, w9, h⟩
        exact h
      have hm2 := hm1.drew
      have bX2 : BoxOp W1.drew Bx o := bX1
      have hB2 : Below w.heap.size W W1.drew := hB1.drew
      have hF2 := hF1.trans ((KeepsOthers.drew W1).from W0.heap.size)
      obtain ⟨W2, hW2⟩ : ∃ W2, W1.drew = W2 := ⟨_, rfl⟩
      rw [hW2] at hm2 bX2 hB2 hF2 hHeld ⊢
      clear hW2 hm1 bX1 hB1 hF1
      refine wpAnyH_take (i := 1) (oi := _) (v := .pointer (some ⟨Bx, 0, none⟩)) rfl (by kernel_rfl) (by kernel_rfl) (by kernel_rfl) (fun _ _ _ h => h) (Or.inl ⟨by rfl, ?_⟩) (by assumption) ?_
      · intro w9 h9
        have d0 := h9.c0
        have d1 := h9.c1
        have d2 := h9.c2
        simp only [List.getElem_toArray, List.getElem_cons_succ, List.getElem_cons_zero]
        go_simp
      simp only [Act.put, List.getElem_toArray, List.getElem_cons_succ, List.getElem_cons_zero, List.setIfInBounds_toArray, List.set_cons_zero, List.set_cons_succ]
      refine wpAnyH_take (i := 2) (oi := _) (v := .int .i64 o.kd) rfl (by kernel_rfl) (by kernel_rfl) (by kernel_rfl) (fun _ _ _ h => h) (Or.inl ⟨by rfl, ?_⟩) (by assumption) ?_
      · intro w9 h9
        have d0 := h9.c0
        have d1 := h9.c1
        have d2 := h9.c2
        simp only [List.getElem_toArray, List.getElem_cons_succ, List.getElem_cons_zero]
        go_simp
      simp only [Act.put, List.getElem_toArray, List.getElem_cons_succ, List.getElem_cons_zero, List.setIfInBounds_toArray, List.set_cons_zero, List.set_cons_succ]
      refine wpAnyH_take (i := 3) (oi := _) (v := .pointer (some ⟨Bx, 1, none⟩)) rfl (by kernel_rfl) (by kernel_rfl) (by kernel_rfl) (fun _ _ _ h => h) (Or.inl ⟨by rfl, ?_⟩) (by assumption) ?_
      · intro w9 h9
        have d0 := h9.c0
        have d1 := h9.c1
        have d2 := h9.c2
        simp only [List.getElem_toArray, List.getElem_cons_succ, List.getElem_cons_zero]
        go_simp
      simp only [Act.put, List.getElem_toArray, List.getElem_cons_succ, List.getElem_cons_zero, List.setIfInBounds_toArray, List.set_cons_zero, List.set_cons_succ]
      refine wpAnyH_take (i := 4) (oi := _) (v := .int .i64 o.pl) rfl (by kernel_rfl) (by kernel_rfl) (by kernel_rfl) (fun _ _ _ h => h) (Or.inl ⟨by rfl, ?_⟩) (by assumption) ?_
      · intro w9 h9
        have d0 := h9.c0
        have d1 := h9.c1
        have d2 := h9.c2
        simp only [List.getElem_toArray, List.getElem_cons_succ, List.getElem_cons_zero]
        go_simp
      simp only [Act.put, List.getElem_toArray, List.getElem_cons_succ, List.getElem_cons_zero, List.setIfInBounds_toArray, List.set_cons_zero, List.set_cons_succ]
      refine wpAnyH_take (i := 5) (oi := _) (v := .pointer (some ⟨Bx, 2, none⟩)) rfl (by kernel_rfl) (by kernel_rfl) (by kernel_rfl) (fun _ _ _ h => h) (Or.inl ⟨by rfl, ?_⟩) (by assumption) ?_
      · intro w9 h9
        have d0 := h9.c0
        have d1 := h9.c1
        have d2 := h9.c2
        simp only [List.getElem_toArray, List.getElem_cons_succ, List.getElem_cons_zero]
        go_simp
      simp only [Act.put, List.getElem_toArray, List.getElem_cons_succ, List.getElem_cons_zero, List.setIfInBounds_toArray, List.set_cons_zero, List.set_cons_succ]
      refine wpAnyH_take (i := 6) (oi := _) (v := .string o.tx) rfl (by kernel_rfl) (by kernel_rfl) (by kernel_rfl) (fun _ _ _ h => h) (Or.inl ⟨by rfl, ?_⟩) (by assumption) ?_
      · intro w9 h9
        have d0 := h9.c0
        have d1 := h9.c1
        have d2 := h9.c2
        simp only [List.getElem_toArray, List.getElem_cons_succ, List.getElem_cons_zero]
        go_simp
      simp only [Act.put, List.getElem_toArray, List.getElem_cons_succ, List.getElem_cons_zero, List.setIfInBounds_toArray, List.set_cons_zero, List.set_cons_succ]
      refine wpAnyH_ready (rs := [0, 7]) (by kernel_rfl) (by simp) ?_
      refine AllReadyH.cons (o := _) rfl (fun KA hKA => ?_) (AllReadyH.cons (o := _) rfl (fun KA hKA => ?_) AllReadyH.nil)
      · have eL := hm2.bL.cell
        simp only [List.getElem_toArray, List.getElem_cons_zero]
        go_simp
        refine hKA.out _ _ (by assumption) (fun _ => ?_)
        clear hKA KA
        refine wpAnyH_ready (rs := [7]) (by kernel_rfl) (by simp) ?_
        refine AllReadyH.cons (o := _) rfl (fun KA hKA => ?_) AllReadyH.nil
        simp only [List.getElem_toArray, List.getElem_cons_succ, List.getElem_cons_zero]
        go_simp
        go_at_call 36
        refine (tclone_any o.tx _ hoT).mono ?_
        rintro e9 w3 ⟨rfl, hb3⟩
        have hm3 := hm2.keptN (grown_of_below hb3)
        have bX3 : BoxOp w3 Bx o := bX2.kept (grown_of_below hb3) (by simp)
        have hB3 : Below w.heap.size W w3 := hB2.trans (hb3.mono (by have := hm2.lt; omega))
        have hF3 := hF2.trans ((keeps_of_below hb3).from W0.heap.size)
        clear hb3
        simp only
        refine hKA.out _ _ bX3 (fun _ => ?_)
        clear hKA KA
        refine wpAnyH_take (i := 8) (oi := _) (v := .agg #[.int .i64 o.kd, .int .i64 o.pl, .string o.tx]) rfl (by kernel_rfl) (by kernel_rfl) (by kernel_rfl) (fun _ _ _ h => h) (Or.inl ⟨by rfl, ?_⟩) (by assumption) ?_
        · intro w9 h9
          have d0 := h9.c0
          have d1 := h9.c1
          have d2 := h9.c2
          simp only [List.getElem_toArray, List.getElem_cons_succ, List.getElem_cons_zero]
          go_simp
        simp only [Act.put, List.getElem_toArray, List.getElem_cons_succ, List.getElem_cons_zero, List.setIfInBounds_toArray, List.set_cons_zero, List.set_cons_succ]
        refine wpAnyH_ready (rs := [9]) (by kernel_rfl) (by simp) ?_
        refine AllReadyH.cons (o := _) rfl (fun KA hKA => ?_) AllReadyH.nil
        simp only [List.getElem_toArray, List.getElem_cons_succ, List.getElem_cons_zero]
        go_simp
        have bX4 : BoxOp (w3.alloc (.cells #[.int .i64 o.kd, .int .i64 o.pl, .string o.tx] 29)) Bx o := bX3.kept (World.grownBy_alloc w3 _ none) (by simp)
        refine hKA.out _ _ bX4 (fun _ => ?_)
        clear hKA KA
        refine wpAnyH_ready (rs := [10]) (by kernel_rfl) (by simp) ?_
        refine AllReadyH.cons (o := _) rfl (fun KA hKA => ?_) AllReadyH.nil
        have HC : ∀ j u, (op3 o)[j]? = some u → (w3.alloc (.cells #[.int .i64 o.kd, .int .i64 o.pl, .string o.tx] 29)).cell? ((⟨w3.heap.size, 0, none⟩ : Addr).add j) = some u := cells_op3 w3 o 29
        have hrl := hls.rl
        have hlt3 := hm3.lt
        refine step_append_at rfl (.tmp 38) (.tmp 47) 26 rfl w.heap.size 29 i0 (.agg #[.int .i64 0, .int .i64 0, .string ⟨#[]⟩]) 3 32 Try.underlying26 hi hz0 hz1 hz2 rfl (by decide) v Rs.length (opC Rs) rfl (by exact hm3.rw'.alloc _) ⟨w3.heap.size, 0, none⟩ 1 1 (op3 o) rfl rfl (by exact HC) (op3_one o) (by unfold maxLen; omega) (by omega) (by simp; omega) ?_
        intro v' w5 hown' hgrow' _
        obtain ⟨a1, a2, a3, a4⟩ := hm3.appended hown' hgrow'
        have bX5 : BoxOp w5 Bx o := (bX3.kept (World.grownBy_alloc w3 _ none) (by simp)).kept hgrow' (fun e => hap e.symm)
        refine hKA.out _ _ bX5 (fun _ => ?_)
        clear hKA KA
        simp only [Act.put, List.getElem_toArray, List.getElem_cons_succ, List.getElem_cons_zero, List.setIfInBounds_toArray, List.set_cons_zero, List.set_cons_succ]
        refine wpAnyH_ready (rs := [11]) (by kernel_rfl) (by simp) ?_
        refine AllReadyH.cons (o := _) rfl (fun KA hKA => ?_) AllReadyH.nil
        obtain ⟨g', cap', rfl⟩ := ownsRow_succ hown'
        have eC := a1.cell
        have eF := a1.frozen
        simp only [List.getElem_toArray, List.getElem_cons_succ, List.getElem_cons_zero]
        go_simp
        refine hKA.out _ _ (bX5.kept (grownBy_setCell' w5 w.heap.size _) (by intro e; have := Option.some.inj e; omega)) (fun _ => ?_)
        clear hKA KA
        refine wpAnyH_done (by kernel_rfl) ?_ _
        exact ⟨hF3.trans (a3.from _), ⟨hB3.trans a4, fun u hu => by rw [hm.bS.cell] at hu; cases hu; exact a2.bS.cell⟩, _, _, _, _, by rw [List.length_append]; exact a2, hS, (hb.trans hB3).trans a4, by have := a2.lt; omega⟩
      · simp only [List.getElem_toArray, List.getElem_cons_succ, List.getElem_cons_zero]
        go_simp
        go_at_call 36
        refine (tclone_any o.tx _ hoT).mono ?_
        rintro e9 w3 ⟨rfl, hb3⟩
        have hm3 := hm2.keptN (grown_of_below hb3)
        have bX3 : BoxOp w3 Bx o := bX2.kept (grown_of_below hb3) (by simp)
        have hB3 : Below w.heap.size W w3 := hB2.trans (hb3.mono (by have := hm2.lt; omega))
        have hF3 := hF2.trans ((keeps_of_below hb3).from W0.heap.size)
        clear hb3
        simp only
        refine hKA.out _ _ bX3 (fun _ => ?_)
        clear hKA KA
        refine wpAnyH_take (i := 8) (oi := _) (v := .agg #[.int .i64 o.kd, .int .i64 o.pl, .string o.tx]) rfl (by kernel_rfl) (by kernel_rfl) (by kernel_rfl) (fun _ _ _ h => h) (Or.inl ⟨by rfl, ?_⟩) (by assumption) ?_
        · intro w9 h9
          have d0 := h9.c0
          have d1 := h9.c1
          have d2 := h9.c2
          simp only [List.getElem_toArray, List.getElem_cons_succ, List.getElem_cons_zero]
          go_simp
        simp only [Act.put, List.getElem_toArray, List.getElem_cons_succ, List.getElem_cons_zero, List.setIfInBounds_toArray, List.set_cons_zero, List.set_cons_succ]
        refine wpAnyH_ready (rs := [0, 9]) (by kernel_rfl) (by simp) ?_
        refine AllReadyH.cons (o := _) rfl (fun KA hKA => ?_) (AllReadyH.cons (o := _) rfl (fun KA hKA => ?_) AllReadyH.nil)
        · have eL := hm3.bL.cell
          simp only [List.getElem_toArray, List.getElem_cons_zero]
          go_simp
          refine hKA.out _ _ (by assumption) (fun _ => ?_)
          clear hKA KA
          refine wpAnyH_ready (rs := [9]) (by kernel_rfl) (by simp) ?_
          refine AllReadyH.cons (o := _) rfl (fun KA hKA => ?_) AllReadyH.nil
          simp only [List.getElem_toArray, List.getElem_cons_succ, List.getElem_cons_zero]
          go_simp
          have bX4 : BoxOp (w3.alloc (.cells #[.int .i64 o.kd, .int .i64 o.pl, .string o.tx] 29)) Bx o := bX3.kept (World.grownBy_alloc w3 _ none) (by simp)
          refine hKA.out _ _ bX4 (fun _ => ?_)
          clear hKA KA
          refine wpAnyH_ready (rs := [10]) (by kernel_rfl) (by simp) ?_
          refine AllReadyH.cons (o := _) rfl (fun KA hKA => ?_) AllReadyH.nil
          have HC : ∀ j u, (op3 o)[j]? = some u → (w3.alloc (.cells #[.int .i64 o.kd, .int .i64 o.pl, .string o.tx] 29)).cell? ((⟨w3.heap.size, 0, none⟩ : Addr).add j) = some u := cells_op3 w3 o 29
          have hrl := hls.rl
          have hlt3 := hm3.lt
          refine step_append_at rfl (.tmp 38) (.tmp 47) 26 rfl w.heap.size 29 i0 (.agg #[.int .i64 0, .int .i64 0, .string ⟨#[]⟩]) 3 32 Try.underlying26 hi hz0 hz1 hz2 rfl (by decide) v Rs.length (opC Rs) rfl (by exact hm3.rw'.alloc _) ⟨w3.heap.size, 0, none⟩ 1 1 (op3 o) rfl rfl (by exact HC) (op3_one o) (by unfold maxLen; omega) (by omega) (by simp; omega) ?_
          intro v' w5 hown' hgrow' _
          obtain ⟨a1, a2, a3, a4⟩ := hm3.appended hown' hgrow'
          have bX5 : BoxOp w5 Bx o := (bX3.kept (World.grownBy_alloc w3 _ none) (by simp)).kept hgrow' (fun e => hap e.symm)
          refine hKA.out _ _ bX5 (fun _ => ?_)
          clear hKA KA
          simp only [Act.put, List.getElem_toArray, List.getElem_cons_succ, List.getElem_cons_zero, List.setIfInBounds_toArray, List.set_cons_zero, List.set_cons_succ]
          refine wpAnyH_ready (rs := [11]) (by kernel_rfl) (by simp) ?_
          refine AllReadyH.cons (o := _) rfl (fun KA hKA => ?_) AllReadyH.nil
          obtain ⟨g', cap', rfl⟩ := ownsRow_succ hown'
          have eC := a1.cell
          have eF := a1.frozen
          simp only [List.getElem_toArray, List.getElem_cons_succ, List.getElem_cons_zero]
          go_simp
          refine hKA.out _ _ (bX5.kept (grownBy_setCell' w5 w.heap.size _) (by intro e; have := Option.some.inj e; omega)) (fun _ => ?_)
          clear hKA KA
          refine wpAnyH_done (by kernel_rfl) ?_ _
          exact ⟨hF3.trans (a3.from _), ⟨hB3.trans a4, fun u hu => by rw [hm.bS.cell] at hu; cases hu; exact a2.bS.cell⟩, _, _, _, _, by rw [List.length_append]; exact a2, hS, (hb.trans hB3).trans a4, by have := a2.lt; omega⟩
        · simp only [List.getElem_toArray, List.getElem_cons_succ, List.getElem_cons_zero]
          go_simp
          have bX4 : BoxOp (w3.alloc (.cells #[.int .i64 o.kd, .int .i64 o.pl, .string o.tx] 29)) Bx o := bX3.kept (World.grownBy_alloc w3 _ none) (by simp)
          refine hKA.out _ _ bX4 (fun _ => ?_)
          clear hKA KA
          refine wpAnyH_ready (rs := [0]) (by kernel_rfl) (by simp) ?_
          refine AllReadyH.cons (o := _) rfl (fun KA hKA => ?_) AllReadyH.nil
          have eL := (hm3.bL.alloc (.cells #[.int .i64 o.kd, .int .i64 o.pl, .string o.tx] 29)).cell
          simp only [List.getElem_toArray, List.getElem_cons_zero]
          go_simp
          refine hKA.out _ _ (by assumption) (fun _ => ?_)
          clear hKA KA
          refine wpAnyH_ready (rs := [10]) (by kernel_rfl) (by simp) ?_
          refine AllReadyH.cons (o := _) rfl (fun KA hKA => ?_) AllReadyH.nil
          have HC : ∀ j u, (op3 o)[j]? = some u → (w3.alloc (.cells #[.int .i64 o.kd, .int .i64 o.pl, .string o.tx] 29)).cell? ((⟨w3.heap.size, 0, none⟩ : Addr).add j) = some u := cells_op3 w3 o 29
          have hrl := hls.rl
          have hlt3 := hm3.lt
          refine step_append_at rfl (.tmp 38) (.tmp 47) 26 rfl w.heap.size 29 i0 (.agg #[.int .i64 0, .int .i64 0, .string ⟨#[]⟩]) 3 32 Try.underlying26 hi hz0 hz1 hz2 rfl (by decide) v Rs.length (opC Rs) rfl (by exact hm3.rw'.alloc _) ⟨w3.heap.size, 0, none⟩ 1 1 (op3 o) rfl rfl (by exact HC) (op3_one o) (by unfold maxLen; omega) (by omega) (by simp; omega) ?_
          intro v' w5 hown' hgrow' _
          obtain ⟨a1, a2, a3, a4⟩ := hm3.appended hown' hgrow'
          have bX5 : BoxOp w5 Bx o := (bX3.kept (World.grownBy_alloc w3 _ none) (by simp)).kept hgrow' (fun e => hap e.symm)
          refine hKA.out _ _ bX5 (fun _ => ?_)
          clear hKA KA
          simp only [Act.put, List.getElem_toArray, List.getElem_cons_succ, List.getElem_cons_zero, List.setIfInBounds_toArray, List.set_cons_zero, List.set_cons_succ]
          refine wpAnyH_ready (rs := [11]) (by kernel_rfl) (by simp) ?_
          refine AllReadyH.cons (o := _) rfl (fun KA hKA => ?_) AllReadyH.nil
          obtain ⟨g', cap', rfl⟩ := ownsRow_succ hown'
          have eC := a1.cell
          have eF := a1.frozen
          simp only [List.getElem_toArray, List.getElem_cons_succ, List.getElem_cons_zero]
          go_simp
          refine hKA.out _ _ (bX5.kept (grownBy_setCell' w5 w.heap.size _) (by intro e; have := Option.some.inj e; omega)) (fun _ => ?_)
          clear hKA KA
          refine wpAnyH_done (by kernel_rfl) ?_ _
          exact ⟨hF3.trans (a3.from _), ⟨hB3.trans a4, fun u hu => by rw [hm.bS.cell] at hu; cases hu; exact a2.bS.cell⟩, _, _, _, _, by rw [List.length_append]; exact a2, hS, (hb.trans hB3).trans a4, by have := a2.lt; omega⟩
      -- END
    · have t1 : (o.kd != 1) = false := by rw [h1]; rfl
      have hwf : (Lit.int .i64 o.pl).wf = true := WalkArith.wf_i64 (by omega)
      have hwx : (Lit.int .i64 (x.1 : Int)).wf = true := WalkArith.wf_i64 (by omega)
      have hkey := Maps.keyOf_int_mk Try.underlying3 hwf
      have hkl := (Maps.int_keyed Try.underlying3).key hkey
      have hown := hm.om
      have cM := hm.bM.cell
      have c1 := bX.c1
      have hKeep := fun {c z : Int} (h2 : D.atKey (.int .i64 o.pl) (.lit (.int .i64 z)) = .lit (.int .i64 c)) (h3 : ¬ (Maps.has D (.int .i64 o.pl) = true ∧ c < (e : Int))) => LeanS.keep (c := c) (z := z) hls hO.nL x (by rw [ho]; exact h1) (by rw [ho]; exact hkl) (by rw [ho]; exact h2) (by rw [ho]; exact h3)
      have hSkip := fun {c z : Int} (h2 : D.atKey (.int .i64 o.pl) (.lit (.int .i64 z)) = .lit (.int .i64 c)) (h3 : Maps.has D (.int .i64 o.pl) = true ∧ c < (e : Int)) => LeanS.skip (c := c) (z := z) hls hO.nL x (by rw [ho]; exact h1) (by rw [ho]; exact hkl) (by rw [ho]; exact h2) (by rw [ho]; exact h3)
      rw [ho] at hKeep hSkip
      clear h1
      by_cases hh : Maps.has D (.int .i64 o.pl) = true
      · gi_wp2_with (first
          | (gi_at_lookup; refine wpListIn_lookup_own_ok_int _ rfl _ _ 65 rfl 3 3 .i64 (Maps.int_keyed Try.underlying3) Try.underlying65 Try.underlying3 (Try.zeroValue3 _) (w.heap.size + 1 + 1) pre.length _ rfl hown _ _ rfl hkey ?_; intro c hat hwc)
          | (gi_at_mapUpdate; refine wpListIn_mapUpdate_own _ rfl _ _ _ 65 rfl 3 3 (Maps.int_keyed Try.underlying3) Try.underlying65 _ (w.heap.size + 1 + 1) pre.length _ rfl hown (by unfold maxLen; omega) _ _ _ rfl rfl hkey _ [] (plainElem_int Try.underlying3 hwx) ?_; intro w1 hown1 hgrow1; have cE1 := (hm.setM hgrow1 hown1).bE.cell))
        · have hce : c < (e : Int) := by assumption
          have hm1 := hm.setM hgrow1 hown1
          have bX1 : BoxOp w1 Bx o := bX.kept hgrow1 (by intro e; have := Option.some.inj e; omega)
          have hB1 : Below w.heap.size W w1 := (Below.refl _ W).grown hgrow1 (by omega) (fun k e => by cases e; omega)
          have hF1 : KeepsFrom W0.heap.size W w1 := KeepsFrom.of_grownBy hgrow1 (fun j e => by cases e; omega)
          have hS := hSkip hat ⟨hh, hce⟩
          exact ⟨hF1, ⟨hB1, fun u hu => by rw [hm.bS.cell] at hu; cases hu; exact hm1.bS.cell⟩, _, _, _, _, by rw [List.length_append]; exact hm1, hS, hb.trans hB1, by have := hm1.lt; omega⟩
        · have hce : (e : Int) ≤ c := by assumption
          have hS := hKeep hat (fun h => by have := h.2; omega)
          have hm1 := hm.setM hgrow1 hown1
          have bX1 : BoxOp w1 Bx o := bX.kept hgrow1 (by intro e; have := Option.some.inj e; omega)
          have hB1 : Below w.heap.size W w1 := (Below.refl _ W).grown hgrow1 (by omega) (fun k e => by cases e; omega)
          have hF1 : KeepsFrom W0.heap.size W w1 := KeepsFrom.of_grownBy hgrow1 (fun j e => by cases e; omega)
          obtain ⟨W1, hW1⟩ : ∃ W1, w1 = W1 := ⟨_, rfl⟩
          rw [hW1] at hm1 bX1 hB1 hF1 ⊢
          clear hown1 hgrow1 cE1 hW1
          -- REGION
          refine region_round (fun X => BoxOp X Bx o) (by kernel_rfl) ?_ ?_ bX1 (fun hHeld => ?_)
          · intro i o' ho' c
            rcases i with _ | _ | _ | _ | _ | _ | _ | _ | _ | _ | _ | _ | i
            all_goals (first | (cases ho'; intro h; cases h) | (simp at ho'))
          · rintro ⟨a, w9, h⟩
            exact h
          have hm2 := hm1.drew
          have bX2 : BoxOp W1.drew Bx o := bX1
          have hB2 : Below w.heap.size W W1.drew := hB1.drew
          have hF2 := hF1.trans ((KeepsOthers.drew W1).from W0.heap.size)
          obtain ⟨W2, hW2⟩ : ∃ W2, W1.drew = W2 := ⟨_, rfl⟩
          rw [hW2] at hm2 bX2 hB2 hF2 hHeld ⊢
          clear hW2 hm1 bX1 hB1 hF1
          refine wpAnyH_take (i := 1) (oi := _) (v := .pointer (some ⟨Bx, 0, none⟩)) rfl (by kernel_rfl) (by kernel_rfl) (by kernel_rfl) (fun _ _ _ h => h) (Or.inl ⟨by rfl, ?_⟩) (by assumption) ?_
          · intro w9 h9
            have d0 := h9.c0
            have d1 := h9.c1
            have d2 := h9.c2
            simp only [List.getElem_toArray, List.getElem_cons_succ, List.getElem_cons_zero]
            go_simp
          simp only [Act.put, List.getElem_toArray, List.getElem_cons_succ, List.getElem_cons_zero, List.setIfInBounds_toArray, List.set_cons_zero, List.set_cons_succ]
          refine wpAnyH_take (i := 2) (oi := _) (v := .int .i64 o.kd) rfl (by kernel_rfl) (by kernel_rfl) (by kernel_rfl) (fun _ _ _ h => h) (Or.inl ⟨by rfl, ?_⟩) (by assumption) ?_
          · intro w9 h9
            have d0 := h9.c0
            have d1 := h9.c1
            have d2 := h9.c2
            simp only [List.getElem_toArray, List.getElem_cons_succ, List.getElem_cons_zero]
            go_simp
          simp only [Act.put, List.getElem_toArray, List.getElem_cons_succ, List.getElem_cons_zero, List.setIfInBounds_toArray, List.set_cons_zero, List.set_cons_succ]
          refine wpAnyH_take (i := 3) (oi := _) (v := .pointer (some ⟨Bx, 1, none⟩)) rfl (by kernel_rfl) (by kernel_rfl) (by kernel_rfl) (fun _ _ _ h => h) (Or.inl ⟨by rfl, ?_⟩) (by assumption) ?_
          · intro w9 h9
            have d0 := h9.c0
            have d1 := h9.c1
            have d2 := h9.c2
            simp only [List.getElem_toArray, List.getElem_cons_succ, List.getElem_cons_zero]
            go_simp
          simp only [Act.put, List.getElem_toArray, List.getElem_cons_succ, List.getElem_cons_zero, List.setIfInBounds_toArray, List.set_cons_zero, List.set_cons_succ]
          refine wpAnyH_take (i := 4) (oi := _) (v := .int .i64 o.pl) rfl (by kernel_rfl) (by kernel_rfl) (by kernel_rfl) (fun _ _ _ h => h) (Or.inl ⟨by rfl, ?_⟩) (by assumption) ?_
          · intro w9 h9
            have d0 := h9.c0
            have d1 := h9.c1
            have d2 := h9.c2
            simp only [List.getElem_toArray, List.getElem_cons_succ, List.getElem_cons_zero]
            go_simp
          simp only [Act.put, List.getElem_toArray, List.getElem_cons_succ, List.getElem_cons_zero, List.setIfInBounds_toArray, List.set_cons_zero, List.set_cons_succ]
          refine wpAnyH_take (i := 5) (oi := _) (v := .pointer (some ⟨Bx, 2, none⟩)) rfl (by kernel_rfl) (by kernel_rfl) (by kernel_rfl) (fun _ _ _ h => h) (Or.inl ⟨by rfl, ?_⟩) (by assumption) ?_
          · intro w9 h9
            have d0 := h9.c0
            have d1 := h9.c1
            have d2 := h9.c2
            simp only [List.getElem_toArray, List.getElem_cons_succ, List.getElem_cons_zero]
            go_simp
          simp only [Act.put, List.getElem_toArray, List.getElem_cons_succ, List.getElem_cons_zero, List.setIfInBounds_toArray, List.set_cons_zero, List.set_cons_succ]
          refine wpAnyH_take (i := 6) (oi := _) (v := .string o.tx) rfl (by kernel_rfl) (by kernel_rfl) (by kernel_rfl) (fun _ _ _ h => h) (Or.inl ⟨by rfl, ?_⟩) (by assumption) ?_
          · intro w9 h9
            have d0 := h9.c0
            have d1 := h9.c1
            have d2 := h9.c2
            simp only [List.getElem_toArray, List.getElem_cons_succ, List.getElem_cons_zero]
            go_simp
          simp only [Act.put, List.getElem_toArray, List.getElem_cons_succ, List.getElem_cons_zero, List.setIfInBounds_toArray, List.set_cons_zero, List.set_cons_succ]
          refine wpAnyH_ready (rs := [0, 7]) (by kernel_rfl) (by simp) ?_
          refine AllReadyH.cons (o := _) rfl (fun KA hKA => ?_) (AllReadyH.cons (o := _) rfl (fun KA hKA => ?_) AllReadyH.nil)
          · have eL := hm2.bL.cell
            simp only [List.getElem_toArray, List.getElem_cons_zero]
            go_simp
            refine hKA.out _ _ (by assumption) (fun _ => ?_)
            clear hKA KA
            refine wpAnyH_ready (rs := [7]) (by kernel_rfl) (by simp) ?_
            refine AllReadyH.cons (o := _) rfl (fun KA hKA => ?_) AllReadyH.nil
            simp only [List.getElem_toArray, List.getElem_cons_succ, List.getElem_cons_zero]
            go_simp
            go_at_call 36
            refine (tclone_any o.tx _ hoT).mono ?_
            rintro e9 w3 ⟨rfl, hb3⟩
            have hm3 := hm2.keptN (grown_of_below hb3)
            have bX3 : BoxOp w3 Bx o := bX2.kept (grown_of_below hb3) (by simp)
            have hB3 : Below w.heap.size W w3 := hB2.trans (hb3.mono (by have := hm2.lt; omega))
            have hF3 := hF2.trans ((keeps_of_below hb3).from W0.heap.size)
            clear hb3
            simp only
            refine hKA.out _ _ bX3 (fun _ => ?_)
            clear hKA KA
            refine wpAnyH_take (i := 8) (oi := _) (v := .agg #[.int .i64 o.kd, .int .i64 o.pl, .string o.tx]) rfl (by kernel_rfl) (by kernel_rfl) (by kernel_rfl) (fun _ _ _ h => h) (Or.inl ⟨by rfl, ?_⟩) (by assumption) ?_
            · intro w9 h9
              have d0 := h9.c0
              have d1 := h9.c1
              have d2 := h9.c2
              simp only [List.getElem_toArray, List.getElem_cons_succ, List.getElem_cons_zero]
              go_simp
            simp only [Act.put, List.getElem_toArray, List.getElem_cons_succ, List.getElem_cons_zero, List.setIfInBounds_toArray, List.set_cons_zero, List.set_cons_succ]
            refine wpAnyH_ready (rs := [9]) (by kernel_rfl) (by simp) ?_
            refine AllReadyH.cons (o := _) rfl (fun KA hKA => ?_) AllReadyH.nil
            simp only [List.getElem_toArray, List.getElem_cons_succ, List.getElem_cons_zero]
            go_simp
            have bX4 : BoxOp (w3.alloc (.cells #[.int .i64 o.kd, .int .i64 o.pl, .string o.tx] 29)) Bx o := bX3.kept (World.grownBy_alloc w3 _ none) (by simp)
            refine hKA.out _ _ bX4 (fun _ => ?_)
            clear hKA KA
            refine wpAnyH_ready (rs := [10]) (by kernel_rfl) (by simp) ?_
            refine AllReadyH.cons (o := _) rfl (fun KA hKA => ?_) AllReadyH.nil
            have HC : ∀ j u, (op3 o)[j]? = some u → (w3.alloc (.cells #[.int .i64 o.kd, .int .i64 o.pl, .string o.tx] 29)).cell? ((⟨w3.heap.size, 0, none⟩ : Addr).add j) = some u := cells_op3 w3 o 29
            have hrl := hls.rl
            have hlt3 := hm3.lt
            refine step_append_at rfl (.tmp 38) (.tmp 47) 26 rfl w.heap.size 29 i0 (.agg #[.int .i64 0, .int .i64 0, .string ⟨#[]⟩]) 3 32 Try.underlying26 hi hz0 hz1 hz2 rfl (by decide) v Rs.length (opC Rs) rfl (by exact hm3.rw'.alloc _) ⟨w3.heap.size, 0, none⟩ 1 1 (op3 o) rfl rfl (by exact HC) (op3_one o) (by unfold maxLen; omega) (by omega) (by simp; omega) ?_
            intro v' w5 hown' hgrow' _
            obtain ⟨a1, a2, a3, a4⟩ := hm3.appended hown' hgrow'
            have bX5 : BoxOp w5 Bx o := (bX3.kept (World.grownBy_alloc w3 _ none) (by simp)).kept hgrow' (fun e => hap e.symm)
            refine hKA.out _ _ bX5 (fun _ => ?_)
            clear hKA KA
            simp only [Act.put, List.getElem_toArray, List.getElem_cons_succ, List.getElem_cons_zero, List.setIfInBounds_toArray, List.set_cons_zero, List.set_cons_succ]
            refine wpAnyH_ready (rs := [11]) (by kernel_rfl) (by simp) ?_
            refine AllReadyH.cons (o := _) rfl (fun KA hKA => ?_) AllReadyH.nil
            obtain ⟨g', cap', rfl⟩ := ownsRow_succ hown'
            have eC := a1.cell
            have eF := a1.frozen
            simp only [List.getElem_toArray, List.getElem_cons_succ, List.getElem_cons_zero]
            go_simp
            refine hKA.out _ _ (bX5.kept (grownBy_setCell' w5 w.heap.size _) (by intro e; have := Option.some.inj e; omega)) (fun _ => ?_)
            clear hKA KA
            refine wpAnyH_done (by kernel_rfl) ?_ _
            exact ⟨hF3.trans (a3.from _), ⟨hB3.trans a4, fun u hu => by rw [hm.bS.cell] at hu; cases hu; exact a2.bS.cell⟩, _, _, _, _, by rw [List.length_append]; exact a2, hS, (hb.trans hB3).trans a4, by have := a2.lt; omega⟩
          · simp only [List.getElem_toArray, List.getElem_cons_succ, List.getElem_cons_zero]
            go_simp
            go_at_call 36
            refine (tclone_any o.tx _ hoT).mono ?_
            rintro e9 w3 ⟨rfl, hb3⟩
            have hm3 := hm2.keptN (grown_of_below hb3)
            have bX3 : BoxOp w3 Bx o := bX2.kept (grown_of_below hb3) (by simp)
            have hB3 : Below w.heap.size W w3 := hB2.trans (hb3.mono (by have := hm2.lt; omega))
            have hF3 := hF2.trans ((keeps_of_below hb3).from W0.heap.size)
            clear hb3
            simp only
            refine hKA.out _ _ bX3 (fun _ => ?_)
            clear hKA KA
            refine wpAnyH_take (i := 8) (oi := _) (v := .agg #[.int .i64 o.kd, .int .i64 o.pl, .string o.tx]) rfl (by kernel_rfl) (by kernel_rfl) (by kernel_rfl) (fun _ _ _ h => h) (Or.inl ⟨by rfl, ?_⟩) (by assumption) ?_
            · intro w9 h9
              have d0 := h9.c0
              have d1 := h9.c1
              have d2 := h9.c2
              simp only [List.getElem_toArray, List.getElem_cons_succ, List.getElem_cons_zero]
              go_simp
            simp only [Act.put, List.getElem_toArray, List.getElem_cons_succ, List.getElem_cons_zero, List.setIfInBounds_toArray, List.set_cons_zero, List.set_cons_succ]
            refine wpAnyH_ready (rs := [0, 9]) (by kernel_rfl) (by simp) ?_
            refine AllReadyH.cons (o := _) rfl (fun KA hKA => ?_) (AllReadyH.cons (o := _) rfl (fun KA hKA => ?_) AllReadyH.nil)
            · have eL := hm3.bL.cell
              simp only [List.getElem_toArray, List.getElem_cons_zero]
              go_simp
              refine hKA.out _ _ (by assumption) (fun _ => ?_)
              clear hKA KA
              refine wpAnyH_ready (rs := [9]) (by kernel_rfl) (by simp) ?_
              refine AllReadyH.cons (o := _) rfl (fun KA hKA => ?_) AllReadyH.nil
              simp only [List.getElem_toArray, List.getElem_cons_succ, List.getElem_cons_zero]
              go_simp
              have bX4 : BoxOp (w3.alloc (.cells #[.int .i64 o.kd, .int .i64 o.pl, .string o.tx] 29)) Bx o := bX3.kept (World.grownBy_alloc w3 _ none) (by simp)
              refine hKA.out _ _ bX4 (fun _ => ?_)
              clear hKA KA
              refine wpAnyH_ready (rs := [10]) (by kernel_rfl) (by simp) ?_
              refine AllReadyH.cons (o := _) rfl (fun KA hKA => ?_) AllReadyH.nil
              have HC : ∀ j u, (op3 o)[j]? = some u → (w3.alloc (.cells #[.int .i64 o.kd, .int .i64 o.pl, .string o.tx] 29)).cell? ((⟨w3.heap.size, 0, none⟩ : Addr).add j) = some u := cells_op3 w3 o 29
              have hrl := hls.rl
              have hlt3 := hm3.lt
              refine step_append_at rfl (.tmp 38) (.tmp 47) 26 rfl w.heap.size 29 i0 (.agg #[.int .i64 0, .int .i64 0, .string ⟨#[]⟩]) 3 32 Try.underlying26 hi hz0 hz1 hz2 rfl (by decide) v Rs.length (opC Rs) rfl (by exact hm3.rw'.alloc _) ⟨w3.heap.size, 0, none⟩ 1 1 (op3 o) rfl rfl (by exact HC) (op3_one o) (by unfold maxLen; omega) (by omega) (by simp; omega) ?_
              intro v' w5 hown' hgrow' _
              obtain ⟨a1, a2, a3, a4⟩ := hm3.appended hown' hgrow'
              have bX5 : BoxOp w5 Bx o := (bX3.kept (World.grownBy_alloc w3 _ none) (by simp)).kept hgrow' (fun e => hap e.symm)
              refine hKA.out _ _ bX5 (fun _ => ?_)
              clear hKA KA
              simp only [Act.put, List.getElem_toArray, List.getElem_cons_succ, List.getElem_cons_zero, List.setIfInBounds_toArray, List.set_cons_zero, List.set_cons_succ]
              refine wpAnyH_ready (rs := [11]) (by kernel_rfl) (by simp) ?_
              refine AllReadyH.cons (o := _) rfl (fun KA hKA => ?_) AllReadyH.nil
              obtain ⟨g', cap', rfl⟩ := ownsRow_succ hown'
              have eC := a1.cell
              have eF := a1.frozen
              simp only [List.getElem_toArray, List.getElem_cons_succ, List.getElem_cons_zero]
              go_simp
              refine hKA.out _ _ (bX5.kept (grownBy_setCell' w5 w.heap.size _) (by intro e; have := Option.some.inj e; omega)) (fun _ => ?_)
              clear hKA KA
              refine wpAnyH_done (by kernel_rfl) ?_ _
              exact ⟨hF3.trans (a3.from _), ⟨hB3.trans a4, fun u hu => by rw [hm.bS.cell] at hu; cases hu; exact a2.bS.cell⟩, _, _, _, _, by rw [List.length_append]; exact a2, hS, (hb.trans hB3).trans a4, by have := a2.lt; omega⟩
            · simp only [List.getElem_toArray, List.getElem_cons_succ, List.getElem_cons_zero]
              go_simp
              have bX4 : BoxOp (w3.alloc (.cells #[.int .i64 o.kd, .int .i64 o.pl, .string o.tx] 29)) Bx o := bX3.kept (World.grownBy_alloc w3 _ none) (by simp)
              refine hKA.out _ _ bX4 (fun _ => ?_)
              clear hKA KA
              refine wpAnyH_ready (rs := [0]) (by kernel_rfl) (by simp) ?_
              refine AllReadyH.cons (o := _) rfl (fun KA hKA => ?_) AllReadyH.nil
              have eL := (hm3.bL.alloc (.cells #[.int .i64 o.kd, .int .i64 o.pl, .string o.tx] 29)).cell
              simp only [List.getElem_toArray, List.getElem_cons_zero]
              go_simp
              refine hKA.out _ _ (by assumption) (fun _ => ?_)
              clear hKA KA
              refine wpAnyH_ready (rs := [10]) (by kernel_rfl) (by simp) ?_
              refine AllReadyH.cons (o := _) rfl (fun KA hKA => ?_) AllReadyH.nil
              have HC : ∀ j u, (op3 o)[j]? = some u → (w3.alloc (.cells #[.int .i64 o.kd, .int .i64 o.pl, .string o.tx] 29)).cell? ((⟨w3.heap.size, 0, none⟩ : Addr).add j) = some u := cells_op3 w3 o 29
              have hrl := hls.rl
              have hlt3 := hm3.lt
              refine step_append_at rfl (.tmp 38) (.tmp 47) 26 rfl w.heap.size 29 i0 (.agg #[.int .i64 0, .int .i64 0, .string ⟨#[]⟩]) 3 32 Try.underlying26 hi hz0 hz1 hz2 rfl (by decide) v Rs.length (opC Rs) rfl (by exact hm3.rw'.alloc _) ⟨w3.heap.size, 0, none⟩ 1 1 (op3 o) rfl rfl (by exact HC) (op3_one o) (by unfold maxLen; omega) (by omega) (by simp; omega) ?_
              intro v' w5 hown' hgrow' _
              obtain ⟨a1, a2, a3, a4⟩ := hm3.appended hown' hgrow'
              have bX5 : BoxOp w5 Bx o := (bX3.kept (World.grownBy_alloc w3 _ none) (by simp)).kept hgrow' (fun e => hap e.symm)
              refine hKA.out _ _ bX5 (fun _ => ?_)
              clear hKA KA
              simp only [Act.put, List.getElem_toArray, List.getElem_cons_succ, List.getElem_cons_zero, List.setIfInBounds_toArray, List.set_cons_zero, List.set_cons_succ]
              refine wpAnyH_ready (rs := [11]) (by kernel_rfl) (by simp) ?_
              refine AllReadyH.cons (o := _) rfl (fun KA hKA => ?_) AllReadyH.nil
              obtain ⟨g', cap', rfl⟩ := ownsRow_succ hown'
              have eC := a1.cell
              have eF := a1.frozen
              simp only [List.getElem_toArray, List.getElem_cons_succ, List.getElem_cons_zero]
              go_simp
              refine hKA.out _ _ (bX5.kept (grownBy_setCell' w5 w.heap.size _) (by intro e; have := Option.some.inj e; omega)) (fun _ => ?_)
              clear hKA KA
              refine wpAnyH_done (by kernel_rfl) ?_ _
              exact ⟨hF3.trans (a3.from _), ⟨hB3.trans a4, fun u hu => by rw [hm.bS.cell] at hu; cases hu; exact a2.bS.cell⟩, _, _, _, _, by rw [List.length_append]; exact a2, hS, (hb.trans hB3).trans a4, by have := a2.lt; omega⟩
          -- END
      · have hf : Maps.has D (.int .i64 o.pl) = false := by simpa using hh
        gi_wp2_with (first
          | (gi_at_lookup; refine wpListIn_lookup_own_ok_int _ rfl _ _ 65 rfl 3 3 .i64 (Maps.int_keyed Try.underlying3) Try.underlying65 Try.underlying3 (Try.zeroValue3 _) (w.heap.size + 1 + 1) pre.length _ rfl hown _ _ rfl hkey ?_; intro c hat hwc)
          | (gi_at_mapUpdate; refine wpListIn_mapUpdate_own _ rfl _ _ _ 65 rfl 3 3 (Maps.int_keyed Try.underlying3) Try.underlying65 _ (w.heap.size + 1 + 1) pre.length _ rfl hown (by unfold maxLen; omega) _ _ _ rfl rfl hkey _ [] (plainElem_int Try.underlying3 hwx) ?_; intro w1 hown1 hgrow1; have cE1 := (hm.setM hgrow1 hown1).bE.cell))
        have hS := hKeep hat (fun h => hh h.1)
        have hm1 := hm.setM hgrow1 hown1
        have bX1 : BoxOp w1 Bx o := bX.kept hgrow1 (by intro e; have := Option.some.inj e; omega)
        have hB1 : Below w.heap.size W w1 := (Below.refl _ W).grown hgrow1 (by omega) (fun k e => by cases e; omega)
        have hF1 : KeepsFrom W0.heap.size W w1 := KeepsFrom.of_grownBy hgrow1 (fun j e => by cases e; omega)
        obtain ⟨W1, hW1⟩ : ∃ W1, w1 = W1 := ⟨_, rfl⟩
        rw [hW1] at hm1 bX1 hB1 hF1 ⊢
        clear hown1 hgrow1 cE1 hW1
        -- REGION
        refine region_round (fun X => BoxOp X Bx o) (by kernel_rfl) ?_ ?_ bX1 (fun hHeld => ?_)
        · intro i o' ho' c
          rcases i with _ | _ | _ | _ | _ | _ | _ | _ | _ | _ | _ | _ | i
          all_goals (first | (cases ho'; intro h; cases h) | (simp at ho'))
        · rintro ⟨a, w9, h⟩
          exact h
        have hm2 := hm1.drew
        have bX2 : BoxOp W1.drew Bx o := bX1
        have hB2 : Below w.heap.size W W1.drew := hB1.drew
        have hF2 := hF1.trans ((KeepsOthers.drew W1).from W0.heap.size)
        obtain ⟨W2, hW2⟩ : ∃ W2, W1.drew = W2 := ⟨_, rfl⟩
        rw [hW2] at hm2 bX2 hB2 hF2 hHeld ⊢
        clear hW2 hm1 bX1 hB1 hF1
        refine wpAnyH_take (i := 1) (oi := _) (v := .pointer (some ⟨Bx, 0, none⟩)) rfl (by kernel_rfl) (by kernel_rfl) (by kernel_rfl) (fun _ _ _ h => h) (Or.inl ⟨by rfl, ?_⟩) (by assumption) ?_
        · intro w9 h9
          have d0 := h9.c0
          have d1 := h9.c1
          have d2 := h9.c2
          simp only [List.getElem_toArray, List.getElem_cons_succ, List.getElem_cons_zero]
          go_simp
        simp only [Act.put, List.getElem_toArray, List.getElem_cons_succ, List.getElem_cons_zero, List.setIfInBounds_toArray, List.set_cons_zero, List.set_cons_succ]
        refine wpAnyH_take (i := 2) (oi := _) (v := .int .i64 o.kd) rfl (by kernel_rfl) (by kernel_rfl) (by kernel_rfl) (fun _ _ _ h => h) (Or.inl ⟨by rfl, ?_⟩) (by assumption) ?_
        · intro w9 h9
          have d0 := h9.c0
          have d1 := h9.c1
          have d2 := h9.c2
          simp only [List.getElem_toArray, List.getElem_cons_succ, List.getElem_cons_zero]
          go_simp
        simp only [Act.put, List.getElem_toArray, List.getElem_cons_succ, List.getElem_cons_zero, List.setIfInBounds_toArray, List.set_cons_zero, List.set_cons_succ]
        refine wpAnyH_take (i := 3) (oi := _) (v := .pointer (some ⟨Bx, 1, none⟩)) rfl (by kernel_rfl) (by kernel_rfl) (by kernel_rfl) (fun _ _ _ h => h) (Or.inl ⟨by rfl, ?_⟩) (by assumption) ?_
        · intro w9 h9
          have d0 := h9.c0
          have d1 := h9.c1
          have d2 := h9.c2
          simp only [List.getElem_toArray, List.getElem_cons_succ, List.getElem_cons_zero]
          go_simp
        simp only [Act.put, List.getElem_toArray, List.getElem_cons_succ, List.getElem_cons_zero, List.setIfInBounds_toArray, List.set_cons_zero, List.set_cons_succ]
        refine wpAnyH_take (i := 4) (oi := _) (v := .int .i64 o.pl) rfl (by kernel_rfl) (by kernel_rfl) (by kernel_rfl) (fun _ _ _ h => h) (Or.inl ⟨by rfl, ?_⟩) (by assumption) ?_
        · intro w9 h9
          have d0 := h9.c0
          have d1 := h9.c1
          have d2 := h9.c2
          simp only [List.getElem_toArray, List.getElem_cons_succ, List.getElem_cons_zero]
          go_simp
        simp only [Act.put, List.getElem_toArray, List.getElem_cons_succ, List.getElem_cons_zero, List.setIfInBounds_toArray, List.set_cons_zero, List.set_cons_succ]
        refine wpAnyH_take (i := 5) (oi := _) (v := .pointer (some ⟨Bx, 2, none⟩)) rfl (by kernel_rfl) (by kernel_rfl) (by kernel_rfl) (fun _ _ _ h => h) (Or.inl ⟨by rfl, ?_⟩) (by assumption) ?_
        · intro w9 h9
          have d0 := h9.c0
          have d1 := h9.c1
          have d2 := h9.c2
          simp only [List.getElem_toArray, List.getElem_cons_succ, List.getElem_cons_zero]
          go_simp
        simp only [Act.put, List.getElem_toArray, List.getElem_cons_succ, List.getElem_cons_zero, List.setIfInBounds_toArray, List.set_cons_zero, List.set_cons_succ]
        refine wpAnyH_take (i := 6) (oi := _) (v := .string o.tx) rfl (by kernel_rfl) (by kernel_rfl) (by kernel_rfl) (fun _ _ _ h => h) (Or.inl ⟨by rfl, ?_⟩) (by assumption) ?_
        · intro w9 h9
          have d0 := h9.c0
          have d1 := h9.c1
          have d2 := h9.c2
          simp only [List.getElem_toArray, List.getElem_cons_succ, List.getElem_cons_zero]
          go_simp
        simp only [Act.put, List.getElem_toArray, List.getElem_cons_succ, List.getElem_cons_zero, List.setIfInBounds_toArray, List.set_cons_zero, List.set_cons_succ]
        refine wpAnyH_ready (rs := [0, 7]) (by kernel_rfl) (by simp) ?_
        refine AllReadyH.cons (o := _) rfl (fun KA hKA => ?_) (AllReadyH.cons (o := _) rfl (fun KA hKA => ?_) AllReadyH.nil)
        · have eL := hm2.bL.cell
          simp only [List.getElem_toArray, List.getElem_cons_zero]
          go_simp
          refine hKA.out _ _ (by assumption) (fun _ => ?_)
          clear hKA KA
          refine wpAnyH_ready (rs := [7]) (by kernel_rfl) (by simp) ?_
          refine AllReadyH.cons (o := _) rfl (fun KA hKA => ?_) AllReadyH.nil
          simp only [List.getElem_toArray, List.getElem_cons_succ, List.getElem_cons_zero]
          go_simp
          go_at_call 36
          refine (tclone_any o.tx _ hoT).mono ?_
          rintro e9 w3 ⟨rfl, hb3⟩
          have hm3 := hm2.keptN (grown_of_below hb3)
          have bX3 : BoxOp w3 Bx o := bX2.kept (grown_of_below hb3) (by simp)
          have hB3 : Below w.heap.size W w3 := hB2.trans (hb3.mono (by have := hm2.lt; omega))
          have hF3 := hF2.trans ((keeps_of_below hb3).from W0.heap.size)
          clear hb3
          simp only
          refine hKA.out _ _ bX3 (fun _ => ?_)
          clear hKA KA
          refine wpAnyH_take (i := 8) (oi := _) (v := .agg #[.int .i64 o.kd, .int .i64 o.pl, .string o.tx]) rfl (by kernel_rfl) (by kernel_rfl) (by kernel_rfl) (fun _ _ _ h => h) (Or.inl ⟨by rfl, ?_⟩) (by assumption) ?_
          · intro w9 h9
            have d0 := h9.c0
            have d1 := h9.c1
            have d2 := h9.c2
            simp only [List.getElem_toArray, List.getElem_cons_succ, List.getElem_cons_zero]
            go_simp
          simp only [Act.put, List.getElem_toArray, List.getElem_cons_succ, List.getElem_cons_zero, List.setIfInBounds_toArray, List.set_cons_zero, List.set_cons_succ]
          refine wpAnyH_ready (rs := [9]) (by kernel_rfl) (by simp) ?_
          refine AllReadyH.cons (o := _) rfl (fun KA hKA => ?_) AllReadyH.nil
          simp only [List.getElem_toArray, List.getElem_cons_succ, List.getElem_cons_zero]
          go_simp
          have bX4 : BoxOp (w3.alloc (.cells #[.int .i64 o.kd, .int .i64 o.pl, .string o.tx] 29)) Bx o := bX3.kept (World.grownBy_alloc w3 _ none) (by simp)
          refine hKA.out _ _ bX4 (fun _ => ?_)
          clear hKA KA
          refine wpAnyH_ready (rs := [10]) (by kernel_rfl) (by simp) ?_
          refine AllReadyH.cons (o := _) rfl (fun KA hKA => ?_) AllReadyH.nil
          have HC : ∀ j u, (op3 o)[j]? = some u → (w3.alloc (.cells #[.int .i64 o.kd, .int .i64 o.pl, .string o.tx] 29)).cell? ((⟨w3.heap.size, 0, none⟩ : Addr).add j) = some u := cells_op3 w3 o 29
          have hrl := hls.rl
          have hlt3 := hm3.lt
          refine step_append_at rfl (.tmp 38) (.tmp 47) 26 rfl w.heap.size 29 i0 (.agg #[.int .i64 0, .int .i64 0, .string ⟨#[]⟩]) 3 32 Try.underlying26 hi hz0 hz1 hz2 rfl (by decide) v Rs.length (opC Rs) rfl (by exact hm3.rw'.alloc _) ⟨w3.heap.size, 0, none⟩ 1 1 (op3 o) rfl rfl (by exact HC) (op3_one o) (by unfold maxLen; omega) (by omega) (by simp; omega) ?_
          intro v' w5 hown' hgrow' _
          obtain ⟨a1, a2, a3, a4⟩ := hm3.appended hown' hgrow'
          have bX5 : BoxOp w5 Bx o := (bX3.kept (World.grownBy_alloc w3 _ none) (by simp)).kept hgrow' (fun e => hap e.symm)
          refine hKA.out _ _ bX5 (fun _ => ?_)
          clear hKA KA
          simp only [Act.put, List.getElem_toArray, List.getElem_cons_succ, List.getElem_cons_zero, List.setIfInBounds_toArray, List.set_cons_zero, List.set_cons_succ]
          refine wpAnyH_ready (rs := [11]) (by kernel_rfl) (by simp) ?_
          refine AllReadyH.cons (o := _) rfl (fun KA hKA => ?_) AllReadyH.nil
          obtain ⟨g', cap', rfl⟩ := ownsRow_succ hown'
          have eC := a1.cell
          have eF := a1.frozen
          simp only [List.getElem_toArray, List.getElem_cons_succ, List.getElem_cons_zero]
          go_simp
          refine hKA.out _ _ (bX5.kept (grownBy_setCell' w5 w.heap.size _) (by intro e; have := Option.some.inj e; omega)) (fun _ => ?_)
          clear hKA KA
          refine wpAnyH_done (by kernel_rfl) ?_ _
          exact ⟨hF3.trans (a3.from _), ⟨hB3.trans a4, fun u hu => by rw [hm.bS.cell] at hu; cases hu; exact a2.bS.cell⟩, _, _, _, _, by rw [List.length_append]; exact a2, hS, (hb.trans hB3).trans a4, by have := a2.lt; omega⟩
        · simp only [List.getElem_toArray, List.getElem_cons_succ, List.getElem_cons_zero]
          go_simp
          go_at_call 36
          refine (tclone_any o.tx _ hoT).mono ?_
          rintro e9 w3 ⟨rfl, hb3⟩
          have hm3 := hm2.keptN (grown_of_below hb3)
          have bX3 : BoxOp w3 Bx o := bX2.kept (grown_of_below hb3) (by simp)
          have hB3 : Below w.heap.size W w3 := hB2.trans (hb3.mono (by have := hm2.lt; omega))
          have hF3 := hF2.trans ((keeps_of_below hb3).from W0.heap.size)
          clear hb3
          simp only
          refine hKA.out _ _ bX3 (fun _ => ?_)
          clear hKA KA
          refine wpAnyH_take (i := 8) (oi := _) (v := .agg #[.int .i64 o.kd, .int .i64 o.pl, .string o.tx]) rfl (by kernel_rfl) (by kernel_rfl) (by kernel_rfl) (fun _ _ _ h => h) (Or.inl ⟨by rfl, ?_⟩) (by assumption) ?_
          · intro w9 h9
            have d0 := h9.c0
            have d1 := h9.c1
            have d2 := h9.c2
            simp only [List.getElem_toArray, List.getElem_cons_succ, List.getElem_cons_zero]
            go_simp
          simp only [Act.put, List.getElem_toArray, List.getElem_cons_succ, List.getElem_cons_zero, List.setIfInBounds_toArray, List.set_cons_zero, List.set_cons_succ]
          refine wpAnyH_ready (rs := [0, 9]) (by kernel_rfl) (by simp) ?_
          refine AllReadyH.cons (o := _) rfl (fun KA hKA => ?_) (AllReadyH.cons (o := _) rfl (fun KA hKA => ?_) AllReadyH.nil)
          · have eL := hm3.bL.cell
            simp only [List.getElem_toArray, List.getElem_cons_zero]
            go_simp
            refine hKA.out _ _ (by assumption) (fun _ => ?_)
            clear hKA KA
            refine wpAnyH_ready (rs := [9]) (by kernel_rfl) (by simp) ?_
            refine AllReadyH.cons (o := _) rfl (fun KA hKA => ?_) AllReadyH.nil
            simp only [List.getElem_toArray, List.getElem_cons_succ, List.getElem_cons_zero]
            go_simp
            have bX4 : BoxOp (w3.alloc (.cells #[.int .i64 o.kd, .int .i64 o.pl, .string o.tx] 29)) Bx o := bX3.kept (World.grownBy_alloc w3 _ none) (by simp)
            refine hKA.out _ _ bX4 (fun _ => ?_)
            clear hKA KA
            refine wpAnyH_ready (rs := [10]) (by kernel_rfl) (by simp) ?_
            refine AllReadyH.cons (o := _) rfl (fun KA hKA => ?_) AllReadyH.nil
            have HC : ∀ j u, (op3 o)[j]? = some u → (w3.alloc (.cells #[.int .i64 o.kd, .int .i64 o.pl, .string o.tx] 29)).cell? ((⟨w3.heap.size, 0, none⟩ : Addr).add j) = some u := cells_op3 w3 o 29
            have hrl := hls.rl
            have hlt3 := hm3.lt
            refine step_append_at rfl (.tmp 38) (.tmp 47) 26 rfl w.heap.size 29 i0 (.agg #[.int .i64 0, .int .i64 0, .string ⟨#[]⟩]) 3 32 Try.underlying26 hi hz0 hz1 hz2 rfl (by decide) v Rs.length (opC Rs) rfl (by exact hm3.rw'.alloc _) ⟨w3.heap.size, 0, none⟩ 1 1 (op3 o) rfl rfl (by exact HC) (op3_one o) (by unfold maxLen; omega) (by omega) (by simp; omega) ?_
            intro v' w5 hown' hgrow' _
            obtain ⟨a1, a2, a3, a4⟩ := hm3.appended hown' hgrow'
            have bX5 : BoxOp w5 Bx o := (bX3.kept (World.grownBy_alloc w3 _ none) (by simp)).kept hgrow' (fun e => hap e.symm)
            refine hKA.out _ _ bX5 (fun _ => ?_)
            clear hKA KA
            simp only [Act.put, List.getElem_toArray, List.getElem_cons_succ, List.getElem_cons_zero, List.setIfInBounds_toArray, List.set_cons_zero, List.set_cons_succ]
            refine wpAnyH_ready (rs := [11]) (by kernel_rfl) (by simp) ?_
            refine AllReadyH.cons (o := _) rfl (fun KA hKA => ?_) AllReadyH.nil
            obtain ⟨g', cap', rfl⟩ := ownsRow_succ hown'
            have eC := a1.cell
            have eF := a1.frozen
            simp only [List.getElem_toArray, List.getElem_cons_succ, List.getElem_cons_zero]
            go_simp
            refine hKA.out _ _ (bX5.kept (grownBy_setCell' w5 w.heap.size _) (by intro e; have := Option.some.inj e; omega)) (fun _ => ?_)
            clear hKA KA
            refine wpAnyH_done (by kernel_rfl) ?_ _
            exact ⟨hF3.trans (a3.from _), ⟨hB3.trans a4, fun u hu => by rw [hm.bS.cell] at hu; cases hu; exact a2.bS.cell⟩, _, _, _, _, by rw [List.length_append]; exact a2, hS, (hb.trans hB3).trans a4, by have := a2.lt; omega⟩
          · simp only [List.getElem_toArray, List.getElem_cons_succ, List.getElem_cons_zero]
            go_simp
            have bX4 : BoxOp (w3.alloc (.cells #[.int .i64 o.kd, .int .i64 o.pl, .string o.tx] 29)) Bx o := bX3.kept (World.grownBy_alloc w3 _ none) (by simp)
            refine hKA.out _ _ bX4 (fun _ => ?_)
            clear hKA KA
            refine wpAnyH_ready (rs := [0]) (by kernel_rfl) (by simp) ?_
            refine AllReadyH.cons (o := _) rfl (fun KA hKA => ?_) AllReadyH.nil
            have eL := (hm3.bL.alloc (.cells #[.int .i64 o.kd, .int .i64 o.pl, .string o.tx] 29)).cell
            simp only [List.getElem_toArray, List.getElem_cons_zero]
            go_simp
            refine hKA.out _ _ (by assumption) (fun _ => ?_)
            clear hKA KA
            refine wpAnyH_ready (rs := [10]) (by kernel_rfl) (by simp) ?_
            refine AllReadyH.cons (o := _) rfl (fun KA hKA => ?_) AllReadyH.nil
            have HC : ∀ j u, (op3 o)[j]? = some u → (w3.alloc (.cells #[.int .i64 o.kd, .int .i64 o.pl, .string o.tx] 29)).cell? ((⟨w3.heap.size, 0, none⟩ : Addr).add j) = some u := cells_op3 w3 o 29
            have hrl := hls.rl
            have hlt3 := hm3.lt
            refine step_append_at rfl (.tmp 38) (.tmp 47) 26 rfl w.heap.size 29 i0 (.agg #[.int .i64 0, .int .i64 0, .string ⟨#[]⟩]) 3 32 Try.underlying26 hi hz0 hz1 hz2 rfl (by decide) v Rs.length (opC Rs) rfl (by exact hm3.rw'.alloc _) ⟨w3.heap.size, 0, none⟩ 1 1 (op3 o) rfl rfl (by exact HC) (op3_one o) (by unfold maxLen; omega) (by omega) (by simp; omega) ?_
            intro v' w5 hown' hgrow' _
            obtain ⟨a1, a2, a3, a4⟩ := hm3.appended hown' hgrow'
            have bX5 : BoxOp w5 Bx o := (bX3.kept (World.grownBy_alloc w3 _ none) (by simp)).kept hgrow' (fun e => hap e.symm)
            refine hKA.out _ _ bX5 (fun _ => ?_)
            clear hKA KA
            simp only [Act.put, List.getElem_toArray, List.getElem_cons_succ, List.getElem_cons_zero, List.setIfInBounds_toArray, List.set_cons_zero, List.set_cons_succ]
            refine wpAnyH_ready (rs := [11]) (by kernel_rfl) (by simp) ?_
            refine AllReadyH.cons (o := _) rfl (fun KA hKA => ?_) AllReadyH.nil
            obtain ⟨g', cap', rfl⟩ := ownsRow_succ hown'
            have eC := a1.cell
            have eF := a1.frozen
            simp only [List.getElem_toArray, List.getElem_cons_succ, List.getElem_cons_zero]
            go_simp
            refine hKA.out _ _ (bX5.kept (grownBy_setCell' w5 w.heap.size _) (by intro e; have := Option.some.inj e; omega)) (fun _ => ?_)
            clear hKA KA
            refine wpAnyH_done (by kernel_rfl) ?_ _
            exact ⟨hF3.trans (a3.from _), ⟨hB3.trans a4, fun u hu => by rw [hm.bS.cell] at hu; cases hu; exact a2.bS.cell⟩, _, _, _, _, by rw [List.length_append]; exact a2, hS, (hb.trans hB3).trans a4, by have := a2.lt; omega⟩
        -- END
  case done =>
    rintro Dd ys W hD hd ⟨e, D, v, Rs, hm, hls, hb, hz⟩ hK
    have hR := hls.all hd
    have hlen : Rs.length = (leanL L).length := by rw [← hR, List.length_reverse]
    have hll := leanL_length L
    have hLn := hO.nL
    have hRn : Rs.length ≤ 8796093022208 := by omega
    have hmem : ∀ o ∈ leanL L, o ∈ L := fun o ho => hls.rb o (by rw [← hR] at ho; exact List.mem_reverse.1 ho)
    have cL := hm.bL.cell
    have hrow := hm.rw'
    have hsW : w.heap.size ≤ W.heap.size := hb.size
    have hcl : ∀ (j : Nat) (o : Obj), v.ownBlock = some j → W.heap[j]? = some o → o.isCells = true := by
      intro j o ej hj
      rcases hrow.2 with ⟨rfl, _⟩ | ⟨g, cap, cur, rfl, _, hgb, _⟩
      · simp [Value.ownBlock] at ej
      · obtain rfl : g = j := by simpa [Value.ownBlock] using ej
        rw [hgb] at hj; cases hj; rfl
    gi_wp2_with (refine ⟨trivial, ?_⟩; gi_at_call 37; refine (callsIn_wide.2 (reverse_any v w.heap.size _ Rs W hrow rfl hRn hsW)).mono ?_; rintro e9 w3 ⟨rfl, ⟨ao, cp, rfl, hRd, k1, k2, k3⟩, hgr⟩; have cL3 := (hm.bL.kept hgr (hm.bL.not_row (by decide) hrow)).cell)
    have hK3 := (KeepsOthers.of_grownBy hgr hcl).same Dd _ hK rfl
    refine ⟨by simp, .inl ⟨_, _, rfl, run_takeDeferred hK3, ?_⟩⟩
    have hB3 : Below w.heap.size w w3 := hb.grown hgr hsW (fun k e => (hrow.lt k e).1)
    have hRd2 := hRd.keptC (grownBy_putObj' w3 Dd (.deferred none)) (fun r e => by cases e; exact ⟨_, hK3, rfl⟩)
    rw [hR, hlen] at hRd2
    refine ⟨_, results_tmp rfl _ _ _, ao, cp, rfl, ⟨rfl, by omega, hRd2, fun o ho => hO.oB o (hmem o ho), fun o ho => hO.tB o (hmem o ho), by omega, k2, k3⟩, ?_⟩
    exact hB3.trans (belowK_b (w := w) (Nat.le_refl _) w3 Dd _ _ (by omega) hK3 rfl rfl)
  case stop =>
    rintro D c pre W _ _ h _
    exact h.elim
end Go.Proofs.Ytdolbgbgnplfhaa
