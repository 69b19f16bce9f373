/- What blob.head answers. -/
import Derived.Test.YtjfmpnphlpeikaaBlChkWalks
import Derived.Test.YtjfmpnphlpeikaaNumPutWalks
import Derived.Test.YtjfmpnphlpeikaaOneText
import Derived.Deep.RegionHeldLaw
namespace Go.Proofs.Ytjfmpnphlpeikaa
open Go.RowKit

theorem three_string_at (x y z : Int) (w : World) (b : Nat) (h0 : w.cell? ⟨b, 0, none⟩ = some (.int .u8 x)) (h1 : w.cell? ⟨b, 1, none⟩ = some (.int .u8 y)) (h2 : w.cell? ⟨b, 2, none⟩ = some (.int .u8 z)) :
    (convert 43 9 (.slice (some ⟨b, 0, none⟩) 3 3)).run Try.prog w = .ok (.string (strOfNums [x, y, z])) w :=
  run_convert_bytes_arg (P := Try.prog) w 43 5 Try.underlying43 Try.underlying5 b 0 3 3 [x, y, z] rfl
    (fun i hi => by
      rcases (by omega : i = 0 ∨ i = 1 ∨ i = 2) with rfl | rfl | rfl
      · simpa using h0
      · simpa using h1
      · simpa using h2) 9 Try.underlying9
theorem three_string (x y z : Int) (w : World) : (convert 43 9 (.slice (some ⟨w.heap.size, 0, none⟩) 3 3)).run Try.prog (w.alloc (.cells #[.int .u8 x, .int .u8 y, .int .u8 z] 5)) = .ok (.string (strOfNums [x, y, z])) (w.alloc (.cells #[.int .u8 x, .int .u8 y, .int .u8 z] 5)) :=
  three_string_at x y z _ _ (by rw [World.cell?_alloc_new]; rfl) (by rw [World.cell?_alloc_new]; rfl) (by rw [World.cell?_alloc_new]; rfl)
theorem bcellW {W w1 : World} {N : Nat} (hb : Below N W w1) : ∀ b o, b < N → w1.cell? ⟨b, o, none⟩ = W.cell? ⟨b, o, none⟩ := fun b o h => hb.cell (p := ⟨b, o, none⟩) h
theorem cell_al {X : World} {g k : Nat} {v : Value} (h : X.cell? ⟨g, k, none⟩ = some v) (o : Obj) : (X.alloc o).cell? ⟨g, k, none⟩ = some v :=
  ((Below.refl X.heap.size X).alloc (Nat.le_refl _) o).cell (p := ⟨g, k, none⟩) (block_lt_of_cell h) |>.trans h
theorem three_size (x y z : Int) : (strOfNums [x, y, z]).size = 3 := rfl
theorem nums_list (l : List Int) : (strOfNums l).data.toList = l.map (fun x => UInt8.ofNat x.toNat) := by
  unfold strOfNums
  rfl
theorem hed_cat (k i n m : Nat) : strOfNums [(k : Int), (i : Int), (n : Int)] ++ ⟨(putB m).toArray⟩ = ⟨(UInt8.ofNat k :: UInt8.ofNat i :: UInt8.ofNat n :: putB m).toArray⟩ := by
  apply bytes_ext
  rw [ByteArray.data_append, Array.toList_append, nums_list]
  rfl
set_option maxRecDepth 20000 in
set_option maxHeartbeats 1600000 in
theorem bhed_any (b : Blb) (w : World) (hok : OkB b) :
    Calls Try.prog 22 #[.agg #[.int .i64 b.kd, .int .i64 b.io, .int .i64 b.nt, .string b.tx]] w fun e w' => e = .returned (.string ⟨(hedL b).toArray⟩) ∧ Below w.heap.size w w' := by
  have HX := Hid.mk' (bxB w b 24)
  obtain ⟨h1, h2, h3, h4, h5, h6, h7⟩ := hok
  obtain ⟨k, i, n, t⟩ := b
  unfold hedL
  simp only at HX h1 h2 h3 h4 h5 h6 h7 ⊢
  obtain ⟨k, rfl⟩ := Int.eq_ofNat_of_zero_le (show 0 ≤ k by omega)
  obtain ⟨i, rfl⟩ := Int.eq_ofNat_of_zero_le h3
  obtain ⟨n, rfl⟩ := Int.eq_ofNat_of_zero_le h5
  simp only [Int.toNat_natCast]
  have HB := Hid.mk' (below_box (w := w) #[.int .i64 (k : Int), .int .i64 (i : Int), .int .i64 (n : Int), .string t] 24)
  obtain ⟨W0, hW0⟩ : ∃ W, Hid (w.alloc (.cells #[.int .i64 (k : Int), .int .i64 (i : Int), .int .i64 (n : Int), .string t] 24) = W) := ⟨_, Hid.mk' rfl⟩
  rw [hW0.out] at HX HB
  have hz0 : w.heap.size ≤ W0.heap.size := HB.out.size
  have hlt0 := HX.out.lt
  have c0 := HX.out.c0
  have c1 := HX.out.c1
  have c2 := HX.out.c2
  have c3 := HX.out.c3
  simp only at c0 c1 c2 c3
  have e1 : IntKind.u8.wrap (k : Int) = k := by rw [IntKind.wrap_u8]; omega
  have e2 : IntKind.u8.wrap (i : Int) = i := by rw [IntKind.wrap_u8]; omega
  have e3 : IntKind.u8.wrap (n : Int) = n := by rw [IntKind.wrap_u8]; omega
  have e4 : IntKind.u64.wrap (t.size : Int) = (t.size : Int) := by rw [IntKind.wrap_u64]; omega
  have hL : ¬ 9223372036854775807 < 3 + (putB t.size).length := by have := put_600 t.size h7; omega
  have hcv := three_string_at (k : Int) (i : Int) (n : Int)
  have hos := three_size (k : Int) (i : Int) (n : Int)
  have hoc := Hid.mk' (hed_cat k i n t.size)
  generalize strOfNums [(k : Int), (i : Int), (n : Int)] = s at *
  clear h1 h2 h3 h4 h5 h6
  go_enter Try.func22, Try.ntmps22
  go_wp2_with fail
  rw [hW0.out]
  go_region_held_law (fun X => X.cell? ⟨w.heap.size, 0, none⟩ = some (.int .i64 (k : Int)) ∧ X.cell? ⟨w.heap.size, 1, none⟩ = some (.int .i64 (i : Int)) ∧ X.cell? ⟨w.heap.size, 2, none⟩ = some (.int .i64 (n : Int)) ∧ X.cell? ⟨w.heap.size, 3, none⟩ = some (.string t)) (first | exact ⟨p0, p1, p2, p3⟩ | exact ⟨cell_al p0 _, cell_al p1 _, cell_al p2 _, cell_al p3 _⟩ | exact ⟨c0, c1, c2, c3⟩ | exact ⟨cell_al c0 _, cell_al c1 _, cell_al c2 _, cell_al c3 _⟩) (first
      | (go_at_call 28; refine (put_num t.size _ (by omega)).mono ?_; rintro e w1 ⟨rfl, hb⟩; have hcc := bcellW hb; have HB1 : Hid (Below W0.heap.size W0 w1) := (by first | exact ((Below.refl _ W0).drew).trans hb | exact ((((Below.refl _ W0).alloc (Nat.le_refl _) _).drew)).trans (hb.mono (by simp)) | fail); clear hb; have hx := HX.out.below HB1.out; have p0 := hx.c0; have p1 := hx.c1; have p2 := hx.c2; have p3 := hx.c3; simp only at p0 p1 p2 p3; clear hx)
      | fail)
  all_goals
    go_wp2_with fail
    go_ret
    refine ⟨by rw [← hoc.out]; rfl, ?_⟩
    have HBB := HB.out.trans (HB1.out.mono hz0)
    first
      | exact HBB
      | exact HBB.alloc HBB.size _
end Go.Proofs.Ytjfmpnphlpeikaa
