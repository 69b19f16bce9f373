/- A disk's cells, made one behind the other. -/
import Derived.Test.YtdhjadgmdmdnjaaOwnDk
import Derived.Test.YtdhjadgmdmdnjaaCopyDkWalks
namespace Go.Proofs.Ytdhjadgmdmdnjaa
open Go.RowKit

theorem two_boxesL (w : World) (x y x' y' : Value) (t t' : TypeId) : Box2 ((w.alloc (.cells #[x, y] t)).alloc (.cells #[x', y'] t')) w.heap.size x y ∧ Box2 ((w.alloc (.cells #[x, y] t)).alloc (.cells #[x', y'] t')) (w.heap.size + 1) x' y' ∧
    Below w.heap.size w ((w.alloc (.cells #[x, y] t)).alloc (.cells #[x', y'] t')) ∧ ((w.alloc (.cells #[x, y] t)).alloc (.cells #[x', y'] t')).heap.size = w.heap.size + 1 + 1 := by
  refine ⟨(box2_new w x y t).alloc _, ?_, ((Below.refl _ w).alloc (Nat.le_refl _) _).alloc (by simp) _, by simp⟩
  have h := box2_new (w.alloc (.cells #[x, y] t)) x' y' t'
  rw [show (w.alloc (.cells #[x, y] t)).heap.size = w.heap.size + 1 by simp] at h
  exact h
theorem ans_storeL {w w3 : World} {k : Nat} {u v : Value} {C : List ByteArray} {P : List Pt} (hX : Box2 w3 (k + 1) (.slice none 0 0) (.slice none 0 0)) (hO : OwnDk w3 (k + 1 + 1) u v C P) (hB : Below k w w3) :
    Box2 ((w3.setCell ⟨k + 1, 0, none⟩ u).setCell ⟨k + 1, 1, none⟩ v) (k + 1) u v ∧ OwnDk ((w3.setCell ⟨k + 1, 0, none⟩ u).setCell ⟨k + 1, 1, none⟩ v) k u v C P ∧ Below k w ((w3.setCell ⟨k + 1, 0, none⟩ u).setCell ⟨k + 1, 1, none⟩ v) :=
  ⟨hX.set u v, ((hO.setLow (by simp only; omega) _).setLow (by simp only; omega) _).mono (by omega), (hB.setCell (by simp only; omega) _).setCell (by simp only; omega) _⟩
theorem wdk_nil (w : World) (t : TypeId) : WDk (w.alloc (.cells #[.slice none 0 0, .slice none 0 0] t)) w.heap.size w.heap.size (.slice none 0 0) (.slice none 0 0) [] [] :=
  ⟨box2_new w _ _ t, Nat.le_refl _, ⟨World.ownsRow_nil _ _ _ _, World.ownsRow_nil _ _ _ _, .inl rfl⟩, by simp [Value.ownBlock], by simp [Value.ownBlock]⟩
theorem landed_is (L : Nat → Bool) (P : List Pt) (C : List ByteArray) (hp : ∀ p ∈ P, 0 ≤ p.pl) : ∀ k, k < C.length → (landL L P 0 C).getD k ⟨#[]⟩ = cellL L (k : Int) P 0 (C.getD k ⟨#[]⟩) := fun k hk => land_cell L P 0 C k hk hp
theorem take_landL (L : Nat → Bool) (P : List Pt) (C : List ByteArray) (k : Nat) (hk : k < C.length) : (landL L P 0 C).take (k + 1) = (landL L P 0 C).take k ++ [(landL L P 0 C).getD k ⟨#[]⟩] := by
  have hl : k < (landL L P 0 C).length := by rw [landL_length]; exact hk
  rw [List.take_succ_eq_append_getElem hl, List.getD_eq_getElem?_getD, List.getElem?_eq_getElem hl]; rfl
theorem cells_st1 (w : World) (s : ByteArray) (t : TypeId) : ∀ j u, [Value.string s][j]? = some u → (w.alloc (.cells #[.string s] t)).cell? ((⟨w.heap.size, 0, none⟩ : Addr).add j) = some u := by
  intro j u hj
  rw [addR, Nat.zero_add, World.cell?_alloc_new]
  match j with
  | 0 => exact hj
  | j + 1 => simp at hj
theorem st1_one (s : ByteArray) : ∀ u ∈ [Value.string s], u.oneCell' = true := by
  intro u hu
  rw [List.mem_singleton.1 hu]; rfl
/-- behind an append to the cells -/
theorem app_wdkC {w w' : World} {N g n : Nat} {u u' : Value} {C : List ByteArray} {s : ByteArray} (h : WDk w N g u (.slice none 0 0) C []) (hn : C.length = n) (hown : w'.ownsRow N 9 1 u' (n + 1) (stC C ++ [.string s])) (hg : w.grownBy w' u.ownBlock) (hat : u'.ownBlock = u.ownBlock ∨ u'.ownBlock = some w.heap.size) :
    Box2 w' g u (.slice none 0 0) ∧ WDk (w'.setCell ⟨g, 0, none⟩ u') N g u' (.slice none 0 0) (C ++ [s]) [] := by
  have hb : Box2 w' g u (.slice none 0 0) := h.bx.of_block hg.size (hg.block g h.bx.lt (Ne.symm h.a1))
  have hlt := h.bx.lt
  have hu2 : u'.ownBlock ≠ some g := by
    rcases hat with e | e
    · rw [e]; exact h.a1
    · rw [e]; intro e2; cases e2; omega
  refine ⟨hb, hb.set0 u', h.gN, ⟨?_, World.ownsRow_nil _ _ _ _, apart_nil _⟩, hu2, by simp [Value.ownBlock]⟩
  have h1 := own_setOther hown (a := ⟨g, 0, none⟩) hu2 u'
  rw [stC_snoc, List.length_append, hn]; exact h1
theorem app_belowC {w0 w w' : World} {N g : Nat} {u v : Value} {C : List ByteArray} {P : List Pt} (hb : Below N w0 w) (h : WDk w N g u v C P) (hg : w.grownBy w' u.ownBlock) : Below N w0 w' :=
  hb.grown hg (by have := h.gN; have := h.bx.lt; omega) fun j hj => (h.ow.rc.lt j hj).1
theorem own_slice3 {w : World} {base n size : Nat} {e : TypeId} {v : Value} {xs : List Value} (h : w.ownsRow base e size v n xs) : ∃ ao cap, v = .slice ao n cap := by
  rcases h.2 with ⟨rfl, rfl⟩ | ⟨g, cap, cur, rfl, _⟩
  · exact ⟨none, 0, rfl⟩
  · exact ⟨_, cap, rfl⟩
end Go.Proofs.Ytdhjadgmdmdnjaa
