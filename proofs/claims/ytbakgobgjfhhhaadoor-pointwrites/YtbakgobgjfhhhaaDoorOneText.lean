/- A text of one byte, made of a slice. -/
import Derived.Test.YtbakgobgjfhhhaaDoorBase
import Derived.Laws.IdiomStrings
import Derived.Laws.BytesArg
namespace Go.Proofs.YtbakgobgjfhhhaaDoor
open Go.RowKit

theorem one_string (w : World) (x : Int) :
    (convert 88 9 (.slice (some ⟨w.heap.size, 0, none⟩) 1 1)).run Tryd.prog (w.alloc (.cells #[.int .u8 x] 5)) =
      .ok (.string (strOfNums [x])) (w.alloc (.cells #[.int .u8 x] 5)) :=
  run_convert_bytes_arg (P := Tryd.prog) _ 88 5 Tryd.underlying88 Tryd.underlying5 w.heap.size 0 1 1 [x] rfl
    (fun i hi => by
      obtain rfl : i = 0 := by omega
      simp) 9 Tryd.underlying9
theorem one_string_at (x : Int) (w : World) (b : Nat) (h : w.cell? ⟨b, 0, none⟩ = some (.int .u8 x)) :
    (convert 88 9 (.slice (some ⟨b, 0, none⟩) 1 1)).run Tryd.prog w = .ok (.string (strOfNums [x])) w :=
  run_convert_bytes_arg (P := Tryd.prog) w 88 5 Tryd.underlying88 Tryd.underlying5 b 0 1 1 [x] rfl
    (fun i hi => by
      obtain rfl : i = 0 := by omega
      simpa using h) 9 Tryd.underlying9
theorem one_size (x : Int) : (strOfNums [x]).size = 1 := rfl
/-- one byte ahead of a text -/
theorem one_cat (q : Nat) (l : List UInt8) : strOfNums [(q : Int) % 256] ++ ⟨l.toArray⟩ = ⟨(UInt8.ofNat q :: l).toArray⟩ := by
  apply bytes_ext
  have e : (strOfNums [(q : Int) % 256]).data.toList = [UInt8.ofNat q] := by
    show [UInt8.ofNat ((q : Int) % 256).toNat] = _
    congr 1
    apply UInt8.toNat_inj.1
    rw [UInt8.toNat_ofNat', UInt8.toNat_ofNat']
    omega
  rw [ByteArray.data_append, Array.toList_append, e]
  rfl
end Go.Proofs.YtbakgobgjfhhhaaDoor
