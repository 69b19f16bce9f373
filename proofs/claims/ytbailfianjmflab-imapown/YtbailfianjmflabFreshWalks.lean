/- What imap.Fresh answers. -/
import Derived.Test.YtbailfianjmflabOwnIm
import Derived.BigRegion
namespace Go.Proofs.Ytbailfianjmflab
open Go.RowKit

theorem fresh_own {X : World} {N ga gb : Nat} {MA MB : Array Value} (h1 : N ≤ ga) (h2 : N ≤ gb) (hne : ga ≠ gb) (ha : X.heap[ga]? = some (.cells MA 29 (0, 0))) (hb : X.heap[gb]? = some (.cells MB 3 (0, 0))) (hA : MA.toList = plC frA) (hB : MB.toList = inC frG) :
    OwnIm X N (.slice (some ⟨ga, 0, none⟩) 48 48) (.slice (some ⟨gb, 0, none⟩) 48 48) 48 48 frA frG :=
  ⟨row_of_blockM h1 ha (by unfold maxLen; omega) (by rw [← Array.length_toList, hA, plC_length, frA, List.length_replicate]) hA, row_of_blockM h2 hb (by unfold maxLen; omega) (by rw [← Array.length_toList, hB, inC_length, frG, List.length_replicate]) hB, .inr (by simp [Value.ownBlock]; exact hne), by rw [frA, List.length_replicate], by rw [frG, List.length_replicate]⟩
theorem heap2M (W : World) (A B : Obj) : (((W.alloc A).alloc B).drew).heap[W.heap.size]? = some A ∧ (((W.alloc A).alloc B).drew).heap[W.heap.size + 1]? = some B := by
  have s1 : (W.alloc A).heap.size = W.heap.size + 1 := by simp
  refine ⟨?_, ?_⟩
  · show ((W.alloc A).alloc B).heap[W.heap.size]? = _
    rw [heap_alloc_old _ _ (by omega), heap_alloc_new]
  · show ((W.alloc A).alloc B).heap[W.heap.size + 1]? = _
    rw [← s1, heap_alloc_new]
/-- what Fresh answers -/
def FreshA (w' : World) (N : Nat) (e : Ending) : Prop := ∃ a b, e = .returned (.agg #[.slice (some ⟨a, 0, none⟩) 48 48, .slice (some ⟨b, 0, none⟩) 48 48]) ∧ OwnIm w' N (.slice (some ⟨a, 0, none⟩) 48 48) (.slice (some ⟨b, 0, none⟩) 48 48) 48 48 frA frG
set_option maxRecDepth 20000 in
set_option maxHeartbeats 1600000 in
theorem fresh_any (w : World) : Calls Try.prog 11 #[] w fun e w' => FreshA w' w.heap.size e ∧ Below w.heap.size w w' := by
  have mk1 := make_plas
  have mk2 := make_ints
  have HA := Hid.mk' made_plas
  have HBB := Hid.mk' made_ints
  have HX := Hid.mk' (boxV_new w [.slice none 0 0, .slice none 0 0] 36)
  have HB := Hid.mk' (below_boxP (w := w) #[.slice none 0 0, .slice none 0 0] 36)
  generalize madeCells #[.int .i64 0, .int .i64 0] 96 = MA at *
  generalize madeCells #[.int .i64 0] 48 = MB at *
  go_enter Try.func11, Try.ntmps11
  go_wp2_with fail
  obtain ⟨W0, hW0⟩ : ∃ W, Hid (w.alloc (.cells #[.slice none 0 0, .slice none 0 0] 36) = W) := ⟨_, Hid.mk' rfl⟩
  have hs0 : Hid (W0.heap.size = w.heap.size + 1) := by show _ = _; rw [← hW0.out]; simp
  rw [hW0.out] at HX HB ⊢
  have hAB := fun A B => ((((HX.out.alloc A).alloc B).drew))
  have HAB := Hid.mk' hAB
  have hBB : ∀ A B, Below w.heap.size w (((W0.alloc A).alloc B).drew) := fun A B => ((HB.out.alloc HB.out.size A).alloc (by simp; have := HB.out.size; omega) B).drew
  have HBl := Hid.mk' hBB
  have c0 : ∀ A B, (((W0.alloc A).alloc B)).cell? ⟨w.heap.size, 0, none⟩ = some (.slice none 0 0) := fun A B => (hAB A B).c 0 _ rfl
  have c1 : ∀ A B, (((W0.alloc A).alloc B)).cell? ⟨w.heap.size, 1, none⟩ = some (.slice none 0 0) := fun A B => (hAB A B).c 1 _ rfl
  have f0 : ∀ A B, (((W0.alloc A).alloc B)).frozen? ⟨w.heap.size, 0, none⟩ = false := fun A B => (hAB A B).f 0 (by simp)
  have f1 : ∀ A B, (((W0.alloc A).alloc B)).frozen? ⟨w.heap.size, 1, none⟩ = false := fun A B => (hAB A B).f 1 (by simp)
  clear hAB hBB
  go_region
  · have hb := HAB.out (.cells MA 29) (.cells MB 3)
    have hl := heap2M W0 (.cells MA 29) (.cells MB 3)
    have ho := fresh_own (N := w.heap.size + 1) (by have := hs0.out; omega) (by have := hs0.out; omega) (by omega) hl.1 hl.2 HA.out HBB.out
    have hs := (ho.setLow (a := ⟨w.heap.size, 0, none⟩) (by show w.heap.size < _; omega) (.slice (some ⟨W0.heap.size, 0, none⟩) 48 48)).setLow (a := ⟨w.heap.size, 1, none⟩) (by show w.heap.size < _; omega) (.slice (some ⟨W0.heap.size + 1, 0, none⟩) 48 48)
    have hb2 := hb.set2M (.slice (some ⟨W0.heap.size, 0, none⟩) 48 48) (.slice (some ⟨W0.heap.size + 1, 0, none⟩) 48 48)
    have hl2 := (((HBl.out (.cells MA 29) (.cells MB 3)).setCell (p := ⟨w.heap.size, 0, none⟩) (Nat.le_refl _) (.slice (some ⟨W0.heap.size, 0, none⟩) 48 48)).setCell (p := ⟨w.heap.size, 1, none⟩) (Nat.le_refl _) (.slice (some ⟨W0.heap.size + 1, 0, none⟩) 48 48))
    clear c0 c1 f0 f1
    go_wp2_with fail
    refine bodyPost_ret (results_boxV1 rfl _ _ w.heap.size 2 _ rfl hb2 rfl infoSzIm (aggIm _)) rfl ⟨⟨_, _, rfl, hs.mono (by omega)⟩, hl2⟩
  · have hb := HAB.out (.cells MB 3) (.cells MA 29)
    have hl := heap2M W0 (.cells MB 3) (.cells MA 29)
    have ho := fresh_own (N := w.heap.size + 1) (by have := hs0.out; omega) (by have := hs0.out; omega) (by omega) hl.2 hl.1 HA.out HBB.out
    have hs := (ho.setLow (a := ⟨w.heap.size, 0, none⟩) (by show w.heap.size < _; omega) (.slice (some ⟨W0.heap.size + 1, 0, none⟩) 48 48)).setLow (a := ⟨w.heap.size, 1, none⟩) (by show w.heap.size < _; omega) (.slice (some ⟨W0.heap.size, 0, none⟩) 48 48)
    have hb2 := hb.set2M (.slice (some ⟨W0.heap.size + 1, 0, none⟩) 48 48) (.slice (some ⟨W0.heap.size, 0, none⟩) 48 48)
    have hl2 := (((HBl.out (.cells MB 3) (.cells MA 29)).setCell (p := ⟨w.heap.size, 0, none⟩) (Nat.le_refl _) (.slice (some ⟨W0.heap.size + 1, 0, none⟩) 48 48)).setCell (p := ⟨w.heap.size, 1, none⟩) (Nat.le_refl _) (.slice (some ⟨W0.heap.size, 0, none⟩) 48 48))
    clear c0 c1 f0 f1
    go_wp2_with fail
    refine bodyPost_ret (results_boxV1 rfl _ _ w.heap.size 2 _ rfl hb2 rfl infoSzIm (aggIm _)) rfl ⟨⟨_, _, rfl, hs.mono (by omega)⟩, hl2⟩
end Go.Proofs.Ytbailfianjmflab
