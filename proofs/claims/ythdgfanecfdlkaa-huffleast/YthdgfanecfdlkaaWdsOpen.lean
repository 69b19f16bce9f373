/- A slice of whole numbers that came in, as the walks want it. -/
import Derived.Test.YthdgfanecfdlkaaWds
import Derived.Deep.Slices
import Derived.SizedLaws
import Derived.ProofKit
namespace Go.Proofs.Ythdgfanecfdlkaa
open Go.RowKit Go.Deep Go.ChangeShapes

theorem cellsIntW : Try.prog.cellsOf 3 = 1 := by kernel_rfl
theorem bytesInt : Try.prog.bytesOf 3 = 8 := by kernel_rfl
theorem plain_addW (b off k : Nat) : (⟨b, off, none⟩ : Addr).add k = ⟨b, off + k, none⟩ := by unfold Addr.add; split <;> simp_all

theorem open_wds {H : Type} {enc : TypeId × Value → H} {W : World} {a0 : Option Addr} {len cap fuel : Nat} {x : DataW H × List MemPlace}
    (hf : DataW.trod enc Try.prog W 0 (fun _ => true) true fuel 22 [.slice a0 len cap] = some x)
    (hz : ∀ elems spare, x.1 = .slice elems spare → (elems.length + spare.length) * 8 ≤ reachBytes) : ∃ Wd, Wds W a0 len Wd := by
  rcases open_slice Try.underlying22 hf with ⟨hcs, _⟩ | ⟨a, len', cap', m, n, D, Pl, hcs, _, hl, hm, hmm, hx, hel⟩
  · simp at hcs
    obtain ⟨rfl, rfl, rfl⟩ := hcs
    exact ⟨fun _ => 0, ⟨by omega, fun h => by omega, fun i hi => by omega⟩⟩
  · simp at hcs
    obtain ⟨rfl, rfl, rfl⟩ := hcs
    simp only [if_true] at hmm
    subst hmm
    have hb := hz _ _ (by rw [hx])
    simp only [List.length_map, List.length_range] at hb
    have hr := reachBytes_lt
    have hlen : len ≤ 17592186044416 := by omega
    have key : ∀ i, i < len → ∃ p : Int, W.cell? (a.add i) = some (.int .i64 p) ∧ -9223372036854775808 ≤ p ∧ p ≤ 9223372036854775807 := by
      intro i hi
      obtain ⟨cs', h1, h2⟩ := hel i (by omega)
      rw [cellsIntW] at h1
      obtain ⟨_, hl2, hc⟩ := World.cells?_some h1
      match cs', hl2 with
      | [x0], _ =>
        obtain ⟨u, eu, _, wu⟩ := DataW.trod_int Try.underlying3 h2
        simp at eu
        subst eu
        have bu := bounds_i64 wu
        refine ⟨u, ?_, bu.1, bu.2⟩
        have := hc 0 (by omega)
        rw [add_add] at this
        simpa using this
    obtain ⟨f, hfn⟩ := choose_lt (α := Int) key
    refine ⟨f, ⟨hlen, fun hp => ?_, fun i hi => (hfn i hi).2⟩⟩
    obtain ⟨b, off, spot⟩ := a
    have hspot : spot = none := by
      have h0 := (hfn 0 hp).1
      simpa [Addr.add] using World.cell?_spot h0
    subst hspot
    refine ⟨b, off, rfl, ?_, fun i hi => ?_⟩
    · have h0 := (hfn 0 hp).1
      rw [plain_addW] at h0
      exact block_lt_of_cell h0
    · have h0 := (hfn i hi).1
      rwa [plain_addW] at h0
end Go.Proofs.Ythdgfanecfdlkaa
