import Derived.Test.YtbakgobgjfhhhaaDoorPmaf
import Derived.Test.YtbakgobgjfhhhaaDoorPmad
import Derived.Test.YtbakgobgjfhhhaaDoorPmaa
import Derived.Deep.RegionHeldLaw

/- A place as two bytes, a number as some: inode.WritePlace and num.Fix. -/
namespace Go.Proofs.YtbakgobgjfhhhaaDoor
open Go.RowKit

/-- a list of bytes as a text -/
def txp (l : List UInt8) : ByteArray := ⟨l.toArray⟩
theorem txp_size (l : List UInt8) : (txp l).size = l.length := rfl
theorem txp_app (a b : List UInt8) : txp a ++ txp b = txp (a ++ b) := by
  apply bytes_ext
  simp only [ByteArray.data_append, Array.toList_append]
  rfl
theorem txp_list (l : List UInt8) : (txp l).data.toList = l := rfl
theorem two_string (w : World) (x y : Int) :
    (convert 88 9 (.slice (some ⟨w.heap.size, 0, none⟩) 2 2)).run Tryd.prog (w.alloc (.cells #[.int .u8 x, .int .u8 y] 5)) =
      .ok (.string (strOfNums [x, y])) (w.alloc (.cells #[.int .u8 x, .int .u8 y] 5)) :=
  run_convert_bytes_arg (P := Tryd.prog) _ 88 5 Tryd.underlying88 Tryd.underlying5 w.heap.size 0 2 2 [x, y] rfl
    (fun i hi => by
      rcases (show i = 0 ∨ i = 1 by omega) with rfl | rfl <;> simp) 9 Tryd.underlying9
theorem two_text (c n : Nat) : strOfNums [(c : Int), (n : Int)] = txp (plB ⟨(c : Int), (n : Int)⟩) := by
  apply bytes_ext
  show [UInt8.ofNat ((c : Int)).toNat, UInt8.ofNat ((n : Int)).toNat] = plB ⟨(c : Int), (n : Int)⟩
  rfl
set_option maxRecDepth 20000 in
set_option maxHeartbeats 800000 in
theorem wplace_any (p : Pla) (w : World) (h : rtB p = true) :
    Calls Tryd.prog 50 #[.agg #[.int .i64 p.cl, .int .i64 p.nh]] w fun e w' => e = .returned (.string (txp (plB p))) ∧ Below w.heap.size w w' := by
  have HX := Hid.mk' (bxPl w p 67)
  have hb := rtB_b h
  obtain ⟨c, n⟩ := p
  simp only at HX hb ⊢
  obtain ⟨c, rfl⟩ := Int.eq_ofNat_of_zero_le hb.1
  obtain ⟨n, rfl⟩ := Int.eq_ofNat_of_zero_le hb.2.2.1
  have HB := Hid.mk' (below_boxP (w := w) #[.int .i64 (c : Int), .int .i64 (n : Int)] 67)
  have e1 : IntKind.u8.wrap (c : Int) = c := by rw [IntKind.wrap_u8]; omega
  have e2 : IntKind.u8.wrap (n : Int) = n := by rw [IntKind.wrap_u8]; omega
  have HB2 := Hid.mk' (HB.out.alloc HB.out.size (.cells #[.int .u8 (c : Int), .int .u8 (n : Int)] 5))
  have hcs := two_string (w.alloc (.cells #[.int .i64 (c : Int), .int .i64 (n : Int)] 67)) (c : Int) (n : Int)
  have hs0 : (w.alloc (.cells #[.int .i64 (c : Int), .int .i64 (n : Int)] 67)).heap.size = w.heap.size + 1 := by simp
  rw [two_text, hs0] at hcs
  clear hb h hs0 HX
  go_enter Tryd.func50, Tryd.ntmps50
  go_wp2_with fail
  go_ret
  exact ⟨rfl, HB2.out⟩
/-- a number in m bytes, as a text -/
def fxI (n : Nat) (m : Int) : ByteArray := txp (fixB n m.toNat)
theorem fxI_size (n : Nat) (m : Nat) : (fxI n (m : Int)).size = m := by unfold fxI; rw [txp_size, fixB_length]; rfl
theorem fix_txp (n : Nat) (m : Int) (w : World) (h1 : 1 ≤ m) (h8 : m ≤ 8) :
    Calls Tryd.prog 24 #[.int .u64 n, .int .i64 m] w fun e w' => e = .returned (.string (fxI n m)) ∧ Below w.heap.size w w' := by
  obtain ⟨k, rfl⟩ := Int.eq_ofNat_of_zero_le (show 0 ≤ m by omega)
  exact fix_in n k w (by omega) (by omega)
end Go.Proofs.YtbakgobgjfhhhaaDoor
