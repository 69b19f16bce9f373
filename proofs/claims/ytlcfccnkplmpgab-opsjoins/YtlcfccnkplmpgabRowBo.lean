/- A row of Booleans that is written; literal slices of two. -/
import Derived.Test.YtlcfccnkplmpgabDkAnsKit
import Derived.Test.YtlcfccnkplmpgabBos
namespace Go.Proofs.Ytlcfccnkplmpgab
open Go.RowKit

theorem infoBo : (Try.prog.info? 4).map (fun i => (i.zero, i.size, i.bytes)) = some (some (.bool false), 1, 1) := by kernel_rfl
theorem make_bos (n : Nat) (hn : n ≤ 8796093022208) (w : World) : (Instr.makeSlice 26 (.int .i64 (n : Int)) (.int .i64 (n : Int))).run Try.prog w = .ok (.slice (some ⟨w.heap.size, 0, none⟩) n n) (w.alloc (.cells (madeCells #[.bool false] n) 4)) :=
  run_make_row' (P := Try.prog) 26 4 (.bool false) 1 Try.underlying26 infoBo rfl .i64 .i64 n (by omega) (by omega) w
/-- a row of Booleans in a block of its own, which may be written -/
structure RowBo (w : World) (g len : Nat) (f : Nat → Bool) : Prop where
  cell : ∀ i, i < len → w.cell? ⟨g, i, none⟩ = some (.bool (f i))
  open' : ∀ i, i < len → w.frozen? ⟨g, i, none⟩ = false
  lt : g < w.heap.size
theorem RowBo.set {w : World} {g len : Nat} {f : Nat → Bool} (h : RowBo w g len f) (k : Nat) (hk : k < len) (x : Bool) : RowBo (w.setCell ⟨g, k, none⟩ (.bool x)) g len (fun i => if i = k then x else f i) := by
  refine ⟨fun i hi => ?_, fun i hi => ?_, by simpa [World.setCell] using h.lt⟩
  · by_cases e : i = k
    · subst e
      rw [if_pos rfl]
      exact World.cell?_setCell_same _ _ _ (h.cell i hi)
    · rw [if_neg e, World.cell?_setCell_other _ _ _ _ (by intro h; cases h; exact e rfl)]
      exact h.cell i hi
  · rw [World.frozen?_setCell]; exact h.open' i hi
theorem RowBo.congr {w : World} {g len : Nat} {f f' : Nat → Bool} (h : RowBo w g len f) (he : ∀ i, i < len → f i = f' i) : RowBo w g len f' :=
  ⟨fun i hi => by rw [← he i hi]; exact h.cell i hi, h.open', h.lt⟩
theorem rowBo_made (w : World) (len : Nat) (t : TypeId) : RowBo (w.alloc (.cells (madeCells #[.bool false] len) t)) w.heap.size len (fun _ => false) := by
  refine ⟨fun i hi => ?_, fun i hi => ?_, by simp⟩
  · rw [World.cell?_alloc_new]
    simp [madeCells, hi, Nat.mod_one]
  · unfold World.frozen?
    rw [heap_alloc_new]
    rfl
theorem RowBo.bos {w : World} {g len : Nat} (h : RowBo w g len (fun _ => true)) (hl : len ≤ 140737488355328) : Bos w (some ⟨g, 0, none⟩) len (List.replicate len true) :=
  ⟨List.length_replicate .., hl, by rw [boC_length, List.length_replicate, Nat.mul_one], fun _ => ⟨g, 0, rfl, h.lt, fun j u hj => by
    rw [Nat.zero_add]
    have hlt : j < len := by
      have := (List.getElem?_eq_some_iff.1 hj).1
      rwa [boC_length, List.length_replicate] at this
    rw [boC_at _ _ (by rw [List.length_replicate]; exact hlt), List.getD_eq_getElem?_getD, List.getElem?_replicate, if_pos hlt] at hj
    rw [h.cell j hlt, ← hj]; rfl⟩⟩
theorem bos_nil (w : World) : Bos w none 0 [] := ⟨rfl, by omega, Rd.nil _ _ _⟩

theorem lit_two {w : World} {s t : ByteArray} : Rd (w.alloc (.cells #[.string s, .string t] 9)) (some ⟨w.heap.size, 0, none⟩) 2 1 (stC [s, t]) :=
  ⟨rfl, fun _ => ⟨w.heap.size, 0, rfl, by simp, fun j u hj => by
    rw [Nat.zero_add, World.cell?_alloc_new]
    match j with
    | 0 => exact hj
    | 1 => exact hj
    | j + 2 => simp [stC] at hj⟩⟩
theorem lit_pt2 {w : World} {x y : Int} {s t : ByteArray} : Rd (w.alloc (.cells #[.int .i64 x, .string s, .int .i64 y, .string t] 31)) (some ⟨w.heap.size, 0, none⟩) 2 2 (ptC [⟨x, s⟩, ⟨y, t⟩]) :=
  ⟨rfl, fun _ => ⟨w.heap.size, 0, rfl, by simp, fun j u hj => by
    rw [Nat.zero_add, World.cell?_alloc_new]
    match j with
    | 0 => exact hj
    | 1 => exact hj
    | 2 => exact hj
    | 3 => exact hj
    | j + 4 => simp [ptC, pt2] at hj⟩⟩
theorem lit_bo2 {w : World} {x y : Bool} : Bos (w.alloc (.cells #[.bool x, .bool y] 4)) (some ⟨w.heap.size, 0, none⟩) 2 [x, y] :=
  ⟨rfl, by omega, rfl, fun _ => ⟨w.heap.size, 0, rfl, by simp, fun j u hj => by
    rw [Nat.zero_add, World.cell?_alloc_new]
    match j with
    | 0 => exact hj
    | 1 => exact hj
    | j + 2 => simp [boC] at hj⟩⟩
theorem lit_disk2 (w : World) (s t p q : ByteArray) (x : Int) (hx : 0 ≤ x ∧ x ≤ 8) (hs : s.size ≤ 8) (ht : t.size ≤ 8) (hp : p.size ≤ 8) (hq : q.size ≤ 8) :
    Dk ((w.alloc (.cells #[.string s, .string t] 9)).alloc (.cells #[.int .i64 0, .string p, .int .i64 x, .string q] 31)) (some ⟨w.heap.size, 0, none⟩) 2 (some ⟨w.heap.size + 1, 0, none⟩) 2 [s, t] [⟨0, p⟩, ⟨x, q⟩] := by
  refine ⟨rfl, rfl, by omega, by omega, lit_two.below ((Below.refl _ _).alloc (Nat.le_refl _) _), ?_, fun z hz => ?_, fun z hz => ?_, fun z hz => ?_⟩
  · have h := @lit_pt2 (w.alloc (.cells #[.string s, .string t] 9)) 0 x p q
    rw [show (w.alloc (.cells #[.string s, .string t] 9)).heap.size = w.heap.size + 1 by simp] at h
    exact h
  · rcases List.mem_cons.1 hz with rfl | hz
    · simp only; omega
    · rw [List.mem_singleton.1 hz]; simp only; omega
  · rcases List.mem_cons.1 hz with rfl | hz
    · omega
    · rw [List.mem_singleton.1 hz]; omega
  · rcases List.mem_cons.1 hz with rfl | hz
    · simp only; omega
    · rw [List.mem_singleton.1 hz]; simp only; omega

/-- behind a crash a cell is what it was, or what some write would have made it -/
theorem cellL_src (L : Nat → Bool) (z : Int) : ∀ (P : List Pt) (i : Nat) (s : ByteArray), cellL L z P i s = s ∨ (⟨z, cellL L z P i s⟩ : Pt) ∈ P := by
  intro P
  induction P with
  | nil => intro i s; exact .inl rfl
  | cons p r ih =>
    intro i s
    rw [cellL]
    by_cases h : p.pl = z ∧ L i = true
    · rw [if_pos h]
      rcases ih (i + 1) p.tx with e | e
      · rw [e]
        refine .inr (List.mem_cons.2 (.inl ?_))
        rw [← h.1]
      · exact .inr (List.mem_cons.2 (.inr e))
    · rw [if_neg h]
      rcases ih (i + 1) s with e | e
      · exact .inl e
      · exact .inr (List.mem_cons.2 (.inr e))
theorem land_src {C : List ByteArray} {P : List Pt} (hok : OkD C P) (L : Nat → Bool) (k : Nat) (hk : k < C.length) : (landL L P 0 C).getD k ⟨#[]⟩ = C.getD k ⟨#[]⟩ ∨ (⟨(k : Int), (landL L P 0 C).getD k ⟨#[]⟩⟩ : Pt) ∈ P := by
  rw [land_cell L P 0 C k hk fun p hp => (putE_zero (hok.ps p hp)).1]
  exact cellL_src L k P 0 _
theorem land_every (C : List ByteArray) (P : List Pt) : landL (keepL (List.replicate P.length true)) P 0 C = landL allL P 0 C :=
  landL_congr _ _ P 0 C fun j _ hj => by
    unfold keepL allL
    rw [List.getD_eq_getElem?_getD, List.getElem?_replicate, if_pos (by omega)]; rfl
theorem land_none : ∀ (P : List Pt) (i : Nat) (C : List ByteArray), landL (keepL []) P i C = C := by
  intro P
  induction P with
  | nil => intro i C; rfl
  | cons p r ih => intro i C; rw [landL]; exact ih _ _
end Go.Proofs.Ytlcfccnkplmpgab
