/- Booleans that came in, as the walks want them. -/
import Derived.Test.YtdhjadgmdmdnjaaRdOpen
import Derived.Test.YtdhjadgmdmdnjaaBos
namespace Go.Proofs.Ytdhjadgmdmdnjaa
open Go.RowKit Go.Deep Go.ChangeShapes

theorem cellsBool : Try.prog.cellsOf 4 = 1 := by kernel_rfl
theorem bytesBool : Try.prog.bytesOf 4 = 1 := by kernel_rfl
theorem boC_flat (C : List Bool) : C.flatMap (fun s => [Value.bool s]) = boC C := by
  induction C with
  | nil => rfl
  | cons x r ih => rw [List.flatMap_cons, ih]; rfl
theorem open_bos {H : Type} {enc : TypeId × Value → H} {W : World} {a0 : Option Addr} {len cap : Nat} {d : DataW H} {p : List MemPlace} (h : DataW.Trod enc Try.prog W 0 (fun _ => true) true 38 (.slice a0 len cap) d p) (hz : ∀ n ∈ d.weights Try.prog 38, n ≤ reachBytes) :
    ∃ K, Bos W a0 len K := by
  obtain ⟨fuel, hf⟩ := h
  obtain ⟨a1, len1, cap1, h1, C, h2, h3, _, h5, _⟩ := open_rd (α := Bool) (cells := fun s => [Value.bool s]) (good := fun _ => True) Try.underlying38 cellsBool (by decide) (fun _ => rfl) (fun n cs' y hy _ _ => by
    obtain ⟨b, hb, _⟩ := DataW.trod_bool Try.underlying4 hy
    exact ⟨b, hb, trivial⟩) hf hz
  rw [boC_flat] at h3
  rw [bytesBool] at h5
  have := reachBytes_lt
  simp only [Value.cells] at h1
  simp at h1
  obtain ⟨rfl, rfl, rfl⟩ := h1
  exact ⟨C, h2, by omega, h3⟩
end Go.Proofs.Ytdhjadgmdmdnjaa
