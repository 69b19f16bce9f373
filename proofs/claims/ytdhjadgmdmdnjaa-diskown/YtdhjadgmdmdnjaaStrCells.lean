/- Texts in cells that came in. -/
import Derived.Test.YtdhjadgmdmdnjaaRdOpen
namespace Go.Proofs.Ytdhjadgmdmdnjaa
open Go.RowKit Go.Deep Go.ChangeShapes

theorem cellsStr : Try.prog.cellsOf 9 = 1 := by kernel_rfl
theorem cellsIntK : Try.prog.cellsOf 3 = 1 := by kernel_rfl
theorem bytesStr : Try.prog.bytesOf 9 = 16 := by kernel_rfl
theorem reach_le {n : Nat} (h : n ≤ reachBytes) : n ≤ 140737488355328 := by have := reachBytes_lt; omega
theorem str_cells {H : Type} {enc : TypeId × Value → H} {W : World} {n : Nat} {cs : List Value} {y : DataW H × List MemPlace} (h : DataW.trod enc Try.prog W 0 (fun _ => true) true n 9 cs = some y) (hz : ∀ k ∈ y.1.weights Try.prog 9, k ≤ reachBytes) :
    ∃ s : ByteArray, cs = [.string s] ∧ s.size ≤ 140737488355328 := by
  obtain ⟨s, h1, h2, _⟩ := DataW.trod_string Try.underlying9 h
  refine ⟨s, h1, ?_⟩
  have := hz s.data.toList.length (by rw [h2]; simp [DataW.weights])
  rw [Array.length_toList] at this
  exact reach_le this
end Go.Proofs.Ytdhjadgmdmdnjaa
