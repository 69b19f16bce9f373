/- Room in a row. -/
import Derived.Test.YtlcfccnkplmpgabBase
import Derived.Lib.AppendZeros
import Derived.Lib.LazyBuf
import Derived.Laws.AppendOwnNone
import Derived.Deep.DeepAppendRoom
namespace Go.Proofs.Ytlcfccnkplmpgab
open Go.RowKit

/-- room for so many elements -/
def Room (v : Value) (tot : Nat) : Prop := (v = .slice none 0 0 ∧ tot = 0) ∨ ∃ g n cap, v = .slice (some ⟨g, 0, none⟩) n cap ∧ tot ≤ cap
end Go.Proofs.Ytlcfccnkplmpgab
