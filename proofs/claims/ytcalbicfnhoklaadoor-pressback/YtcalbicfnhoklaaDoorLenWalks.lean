/- What math/bits.Len answers of a small number. -/
import Derived.Test.YtcalbicfnhoklaaDoorRows
import Derived.Lib.Strings
import Derived.Lib.Slices
import Derived.Lib.Small
import Derived.Lib.Walk
import Derived.Lib.BitFns
namespace Go.Proofs.YtcalbicfnhoklaaDoor

set_option maxHeartbeats 4000000 in
set_option maxRecDepth 100000 in
theorem len64_lo (x : Int) (w : World) (h0 : 0 ≤ x) (h1 : x ≤ 511) :
    Calls Tryd.prog 51 #[.int .u64 x] w fun e w' => e = .returned (.int .i64 (Lib.bitLen x.toNat)) ∧ w' = w := by
  by_cases h : x < 256
  · go_enter Tryd.func51, Tryd.ntmps51
    go_wp2
    go_ret
    refine ⟨congrArg Ending.returned (congrArg (Value.int IntKind.i64) ?_), rfl⟩
    rw [Lib.len8_of (x % 256) (by omega) (by omega)]
    have e : (x % 256).toNat = x.toNat := by omega
    have l := Lib.bitLen_le8' (x % 256) (by omega) (by omega)
    rw [e] at l ⊢
    omega
  · go_enter Tryd.func51, Tryd.ntmps51
    go_wp2
    go_ret
    refine ⟨congrArg Ending.returned (congrArg (Value.int IntKind.i64) ?_), rfl⟩
    rw [Lib.len8_of (x / 256 % 256) (by omega) (by omega)]
    have e : (x / 256 % 256).toNat = x.toNat / 256 := by omega
    have l := Lib.bitLen_le8' (x / 256 % 256) (by omega) (by omega)
    have s := Lib.bitLen_shift8 x.toNat (by omega) (by omega)
    rw [e] at l ⊢
    omega
end Go.Proofs.YtcalbicfnhoklaaDoor
