/- A slice of pieces that came in, as the walks want it. -/
import Derived.Test.YtnoegodimiehhaaPackWalks
import Derived.Deep.Slices
import Derived.SizedLaws
import Derived.ProofKit
namespace Go.Proofs.Ytnoegodimiehhaa
open Go.RowKit Go.Deep Go.ChangeShapes

theorem cellsPiece : Try.prog.cellsOf 36 = 2 := by kernel_rfl
theorem cellsU64 : Try.prog.cellsOf 34 = 1 := by kernel_rfl
theorem cellsInt : Try.prog.cellsOf 3 = 1 := by kernel_rfl
theorem bytesPiece : Try.prog.bytesOf 36 = 16 := by kernel_rfl
theorem plain_add (b off k : Nat) : (⟨b, off, none⟩ : Addr).add k = ⟨b, off + k, none⟩ := by unfold Addr.add; split <;> simp_all

theorem open_pcs {H : Type} {enc : TypeId × Value → H} {W : World} {a0 : Option Addr} {len cap fuel : Nat} {x : DataW H × List MemPlace}
    (hf : DataW.trod enc Try.prog W 0 (fun _ => true) true fuel 28 [.slice a0 len cap] = some x)
    (hz : ∀ elems spare, x.1 = .slice elems spare → (elems.length + spare.length) * 16 ≤ reachBytes) : ∃ V Wd, Pcs W a0 len V Wd := by
  rcases open_slice Try.underlying28 hf with ⟨hcs, _⟩ | ⟨a, len', cap', m, n, D, Pl, hcs, _, hl, hm, hmm, hx, hel⟩
  · simp at hcs
    obtain ⟨rfl, rfl, rfl⟩ := hcs
    exact ⟨fun _ => 0, fun _ => 0, ⟨by omega, fun h => by omega, fun i hi => by omega, fun i hi => by omega⟩⟩
  · simp at hcs
    obtain ⟨rfl, rfl, rfl⟩ := hcs
    simp only [if_true] at hmm
    subst hmm
    have hb := hz _ _ (by rw [hx])
    simp only [List.length_map, List.length_range] at hb
    have hr := reachBytes_lt
    have hlen : len ≤ 17592186044416 := by omega
    have key : ∀ i, i < len → ∃ p : Nat × Int, W.cell? (a.add (i * 2)) = some (.int .u64 (p.1 : Int)) ∧ W.cell? (a.add (i * 2 + 1)) = some (.int .i64 p.2) ∧ p.1 < 18446744073709551616 ∧ -9223372036854775808 ≤ p.2 ∧ p.2 ≤ 9223372036854775807 := by
      intro i hi
      obtain ⟨cs', h1, h2⟩ := hel i (by omega)
      rw [cellsPiece] at h1
      obtain ⟨_, hl2, hc⟩ := World.cells?_some h1
      obtain ⟨y0, y1, n', _, _, g0, g1⟩ := trod_struct2 Try.underlying36 h2
      match cs', hl2 with
      | [x0, x1], _ =>
        have e0 : DataW.trod enc Try.prog W 0 (fun _ => true) true n' 34 [x0] = some y0 := by simpa [cellsU64] using g0
        have e1 : DataW.trod enc Try.prog W 0 (fun _ => true) true n' 3 [x1] = some y1 := by simpa [cellsInt] using g1
        obtain ⟨v, ev, _, wv⟩ := DataW.trod_int Try.underlying34 e0
        obtain ⟨u, eu, _, wu⟩ := DataW.trod_int Try.underlying3 e1
        simp at ev eu
        subst ev eu
        have bv := bounds_u64 wv
        have bu := bounds_i64 wu
        refine ⟨(v.toNat, u), ?_, ?_, by show v.toNat < _; omega, bu.1, bu.2⟩
        · have := hc 0 (by omega)
          rw [add_add] at this
          rw [show ((v.toNat : Nat) : Int) = v by omega]
          simpa using this
        · have := hc 1 (by omega)
          rw [add_add] at this
          simpa using this
    obtain ⟨f, hfn⟩ := choose_lt (α := Nat × Int) key
    refine ⟨fun i => (f i).1, fun i => (f i).2, ⟨hlen, fun hp => ?_, fun i hi => (hfn i hi).2.2.1, fun i hi => (hfn i hi).2.2.2⟩⟩
    obtain ⟨b, off, spot⟩ := a
    have hspot : spot = none := by
      have h0 := (hfn 0 hp).1
      simpa [Addr.add] using World.cell?_spot h0
    subst hspot
    refine ⟨b, off, rfl, ?_, fun i hi => ?_⟩
    · have h0 := (hfn 0 hp).1
      rw [plain_add] at h0
      exact block_lt_of_cell h0
    · have h0 := (hfn i hi).1
      have h1 := (hfn i hi).2.1
      rw [plain_add] at h0 h1
      exact ⟨h0, by rw [Nat.add_assoc]; exact h1⟩
theorem len_pcs {H : Type} {enc : TypeId × Value → H} {W : World} {a0 : Option Addr} {len cap fuel : Nat} {x : DataW H × List MemPlace}
    (hf : DataW.trod enc Try.prog W 0 (fun _ => true) true fuel 28 [.slice a0 len cap] = some x)
    (hz : ∀ elems spare, x.1 = .slice elems spare → (elems.length + spare.length) * 16 ≤ reachBytes) : len ≤ 8796093021952 := by
  rcases open_slice Try.underlying28 hf with ⟨hcs, _⟩ | ⟨a, len', cap', m, n, D, Pl, hcs, _, hl, hm, hmm, hx, hel⟩
  · simp at hcs
    omega
  · simp at hcs
    have hb := hz _ _ (by rw [hx])
    simp only [List.length_map, List.length_range] at hb
    unfold reachBytes at hb
    omega
theorem cap_pcs {H : Type} {enc : TypeId × Value → H} {W : World} {a0 : Option Addr} {len cap fuel : Nat} {x : DataW H × List MemPlace}
    (hf : DataW.trod enc Try.prog W 0 (fun _ => true) true fuel 28 [.slice a0 len cap] = some x) : a0 = none → cap = 0 := by
  rcases open_slice Try.underlying28 hf with ⟨hcs, _⟩ | ⟨a, len', cap', m, n, D, Pl, hcs, _⟩
  · simp at hcs
    exact fun _ => hcs.2.2
  · simp at hcs
    intro h
    rw [h] at hcs
    cases hcs.1
end Go.Proofs.Ytnoegodimiehhaa
