import Derived.Test.YtbakgobgjfhhhaaDoorBlChkWalks
import Derived.Test.YtbakgobgjfhhhaaDoorPsad
import Derived.Test.YtbakgobgjfhhhaaDoorRNumPutWalks
import Derived.Deep.RegionHeldLaw

/- What linenref's one answers: a blob's bytes. -/
namespace Go.Proofs.YtbakgobgjfhhhaaDoor
open Go.RowKit

/-- a text of one byte -/
def oneS (n : Nat) : ByteArray := ⟨#[UInt8.ofNat n]⟩
theorem oneS_size (n : Nat) : (oneS n).size = 1 := rfl
/-- a number as a text -/
def putS (n : Nat) : ByteArray := ⟨(putB n).toArray⟩
theorem putS_size (n : Nat) (h : n ≤ 600) : (putS n).size ≤ 2 := put_600 n h
theorem rfix1 (n : Nat) (w : World) (hn : n < 18446744073709551616) :
    Calls Tryd.prog 27 #[.int .u64 n, .int .i64 1] w fun e w' => e = .returned (.string (oneS n)) ∧ Below w.heap.size w w' := by
  refine (rfix_in n 1 w hn (by omega) (by omega)).mono ?_
  rintro e w' ⟨rfl, hb⟩
  refine ⟨?_, hb⟩
  have e1 : fixB n 1 = [UInt8.ofNat n] := by simp [fixB]
  rw [e1]; rfl
theorem rputS (n : Nat) (w : World) (hn : n < 18446744073709551616) :
    Calls Tryd.prog 54 #[.int .u64 n] w fun e w' => e = .returned (.string (putS n)) ∧ Below w.heap.size w w' := rput_num n w hn
theorem one_text (k i n : Nat) (t : ByteArray) : oneS k ++ oneS i ++ oneS n ++ putS t.size ++ t = ⟨(oneL ⟨(k : Int), (i : Int), (n : Int), t⟩).toArray⟩ := by
  apply bytes_ext
  simp only [ByteArray.data_append, Array.toList_append]
  rfl
set_option maxRecDepth 20000 in
set_option maxHeartbeats 1600000 in
theorem rone_any (b : Blb) (w : World) (hok : OkB b) :
    Calls Tryd.prog 79 #[.agg #[.int .i64 b.kd, .int .i64 b.io, .int .i64 b.nt, .string b.tx]] w fun e w' => e = .returned (.string ⟨(oneL b).toArray⟩) ∧ Below w.heap.size w w' := by
  have HX := Hid.mk' (bxB w b 82)
  obtain ⟨h1, h2, h3, h4, h5, h6, h7⟩ := hok
  obtain ⟨k, i, n, t⟩ := b
  simp only at HX h1 h2 h3 h4 h5 h6 h7 ⊢
  obtain ⟨k, rfl⟩ := Int.eq_ofNat_of_zero_le (show 0 ≤ k by omega)
  obtain ⟨i, rfl⟩ := Int.eq_ofNat_of_zero_le h3
  obtain ⟨n, rfl⟩ := Int.eq_ofNat_of_zero_le h5
  have hoc := Hid.mk' (one_text k i n t)
  have HB := Hid.mk' (below_box (w := w) #[.int .i64 (k : Int), .int .i64 (i : Int), .int .i64 (n : Int), .string t] 82)
  obtain ⟨W0, hW0⟩ : ∃ W, Hid (w.alloc (.cells #[.int .i64 (k : Int), .int .i64 (i : Int), .int .i64 (n : Int), .string t] 82) = W) := ⟨_, Hid.mk' rfl⟩
  rw [hW0.out] at HX HB
  have hz0 : w.heap.size ≤ W0.heap.size := HB.out.size
  have hlt0 := HX.out.lt
  have c0 := HX.out.c0
  have c1 := HX.out.c1
  have c2 := HX.out.c2
  have c3 := HX.out.c3
  simp only at c0 c1 c2 c3
  have hk : k < 18446744073709551616 := by omega
  have hi : i < 18446744073709551616 := by omega
  have hn : n < 18446744073709551616 := by omega
  have ht : t.size < 18446744073709551616 := by omega
  have e1 : IntKind.u64.wrap (k : Int) = k := by rw [IntKind.wrap_u64]; omega
  have e2 : IntKind.u64.wrap (i : Int) = i := by rw [IntKind.wrap_u64]; omega
  have e3 : IntKind.u64.wrap (n : Int) = n := by rw [IntKind.wrap_u64]; omega
  have e4 : IntKind.u64.wrap (t.size : Int) = (t.size : Int) := by rw [IntKind.wrap_u64]; omega
  have s1 := oneS_size k
  have s2 := oneS_size i
  have s3 := oneS_size n
  have s4 := putS_size t.size h7
  clear h1 h2 h3 h4 h5 h6
  go_enter Tryd.func79, Tryd.ntmps79
  go_wp2_with fail
  rw [hW0.out]
  go_region_held_law (fun X => X.cell? ⟨w.heap.size, 0, none⟩ = some (.int .i64 (k : Int)) ∧ X.cell? ⟨w.heap.size, 1, none⟩ = some (.int .i64 (i : Int)) ∧ X.cell? ⟨w.heap.size, 2, none⟩ = some (.int .i64 (n : Int)) ∧ X.cell? ⟨w.heap.size, 3, none⟩ = some (.string t)) (first | exact ⟨p0, p1, p2, p3⟩ | exact ⟨c0, c1, c2, c3⟩) (first
      | (go_at_call 27; refine (rfix1 _ _ (by first | exact hk | exact hi | exact hn)).mono ?_; rintro e w1 ⟨rfl, hb⟩; have HB1 : Hid (Below W0.heap.size W0 w1) := (by first | exact HB1.out.trans (hb.mono HB1.out.size) | exact ((Below.refl _ W0).drew).trans hb | fail); clear hb; have hx := HX.out.below HB1.out; have p0 := hx.c0; have p1 := hx.c1; have p2 := hx.c2; have p3 := hx.c3; simp only at p0 p1 p2 p3; clear hx)
      | (go_at_call 54; refine (rputS t.size _ ht).mono ?_; rintro e w1 ⟨rfl, hb⟩; have HB1 : Hid (Below W0.heap.size W0 w1) := (by first | exact HB1.out.trans (hb.mono HB1.out.size) | exact ((Below.refl _ W0).drew).trans hb | fail); clear hb; have hx := HX.out.below HB1.out; have p0 := hx.c0; have p1 := hx.c1; have p2 := hx.c2; have p3 := hx.c3; simp only at p0 p1 p2 p3; clear hx)
      | fail)
  all_goals
    go_wp2_with fail
    go_ret
    exact ⟨by rw [← hoc.out]; rfl, HB.out.trans (HB1.out.mono hz0)⟩
end Go.Proofs.YtbakgobgjfhhhaaDoor
