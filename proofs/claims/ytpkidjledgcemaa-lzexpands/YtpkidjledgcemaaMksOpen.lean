/- Marks that came in, as the walks want them. -/
import Derived.Test.YtpkidjledgcemaaMks
import Derived.Deep.Slices
import Derived.Deep.Strs
import Derived.SizedLaws
import Derived.ProofKit
import Derived.WideShapes
namespace Go.Proofs.Ytpkidjledgcemaa
open Go.RowKit Go.Deep Go.ChangeShapes

theorem cellsMark : Try.prog.cellsOf 41 = 3 := by kernel_rfl
theorem cellsIntM : Try.prog.cellsOf 3 = 1 := by kernel_rfl
theorem cellsU8M : Try.prog.cellsOf 5 = 1 := by kernel_rfl
theorem bytesMark : Try.prog.bytesOf 41 = 24 := by kernel_rfl
theorem plain_addM (b off k : Nat) : (⟨b, off, none⟩ : Addr).add k = ⟨b, off + k, none⟩ := by unfold Addr.add; split <;> simp_all

theorem mark_cells {H : Type} {enc : TypeId × Value → H} {W : World} {fuel : Nat} {cs : List Value} {x : DataW H × List MemPlace} (hl : cs.length = 3)
    (h2 : DataW.trod enc Try.prog W 0 (fun _ => true) true fuel 41 cs = some x) :
    ∃ m : Mk, cs = [.int .i64 m.ln, .int .i64 m.ds, .int .u8 (m.by' : Int)] ∧ (-9223372036854775808 ≤ m.ln ∧ m.ln ≤ 9223372036854775807) ∧ (-9223372036854775808 ≤ m.ds ∧ m.ds ≤ 9223372036854775807) ∧ m.by' < 256 := by
  obtain ⟨y0, y1, y2, n', _, _, g0, g1, g2⟩ := trod_struct3 Try.underlying41 h2
  match cs, hl with
  | [x0, x1, x2], _ =>
    have e0 : DataW.trod enc Try.prog W 0 (fun _ => true) true n' 3 [x0] = some y0 := by simpa [cellsIntM, cellsU8M] using g0
    have e1 : DataW.trod enc Try.prog W 0 (fun _ => true) true n' 3 [x1] = some y1 := by simpa [cellsIntM, cellsU8M] using g1
    have e2 : DataW.trod enc Try.prog W 0 (fun _ => true) true n' 5 [x2] = some y2 := by simpa [cellsIntM, cellsU8M] using g2
    obtain ⟨v, ev, _, wv⟩ := DataW.trod_int Try.underlying3 e0
    obtain ⟨u, eu, _, wu⟩ := DataW.trod_int Try.underlying3 e1
    obtain ⟨t, et, _, wt⟩ := DataW.trod_int Try.underlying5 e2
    simp at ev eu et
    subst ev eu et
    have bv := bounds_i64 wv
    have bu := bounds_i64 wu
    have bt := bounds_u8 wt
    refine ⟨⟨v, u, t.toNat⟩, ?_, bv, bu, by show t.toNat < 256; omega⟩
    simp only
    rw [show ((t.toNat : Nat) : Int) = t by omega]

theorem open_mks {H : Type} {enc : TypeId × Value → H} {W : World} {a0 : Option Addr} {len cap fuel : Nat} {x : DataW H × List MemPlace}
    (hf : DataW.trod enc Try.prog W 0 (fun _ => true) true fuel 39 [.slice a0 len cap] = some x)
    (hz : ∀ elems spare, x.1 = .slice elems spare → (elems.length + spare.length) * 24 ≤ reachBytes) : ∃ M, Mks W a0 len M := by
  rcases open_slice Try.underlying39 hf with ⟨hcs, _⟩ | ⟨a, len', cap', m, n, D, Pl, hcs, _, hl, hm, hmm, hx, hel⟩
  · simp at hcs
    obtain ⟨rfl, rfl, rfl⟩ := hcs
    exact ⟨fun _ => ⟨0, 0, 0⟩, ⟨by omega, fun h => by omega, fun i hi => by omega, fun i hi => by omega, fun i hi => by omega⟩⟩
  · simp at hcs
    obtain ⟨rfl, rfl, rfl⟩ := hcs
    simp only [if_true] at hmm
    subst hmm
    have hb := hz _ _ (by rw [hx])
    simp only [List.length_map, List.length_range] at hb
    have hr := reachBytes_lt
    have hlen : len ≤ 5864062014805 := by omega
    have key : ∀ i, i < len → ∃ p : Mk, W.cell? (a.add (i * 3)) = some (.int .i64 p.ln) ∧ W.cell? (a.add (i * 3 + 1)) = some (.int .i64 p.ds) ∧ W.cell? (a.add (i * 3 + 2)) = some (.int .u8 (p.by' : Int)) ∧ (-9223372036854775808 ≤ p.ln ∧ p.ln ≤ 9223372036854775807) ∧ (-9223372036854775808 ≤ p.ds ∧ p.ds ≤ 9223372036854775807) ∧ p.by' < 256 := by
      intro i hi
      obtain ⟨cs', h1, h2⟩ := hel i (by omega)
      rw [cellsMark] at h1
      obtain ⟨_, hl2, hc⟩ := World.cells?_some h1
      obtain ⟨p, hcs, b1, b2, b3⟩ := mark_cells (by omega) h2
      subst hcs
      refine ⟨p, ?_, ?_, ?_, b1, b2, b3⟩
      · have := hc 0 (by omega)
        rw [add_add] at this
        simpa using this
      · have := hc 1 (by omega)
        rw [add_add] at this
        simpa using this
      · have := hc 2 (by omega)
        rw [add_add] at this
        simpa using this
    have : Inhabited Mk := ⟨⟨0, 0, 0⟩⟩
    obtain ⟨f, hfn⟩ := choose_lt (α := Mk) key
    refine ⟨f, ⟨hlen, fun hp => ?_, fun i hi => (hfn i hi).2.2.2.1, fun i hi => (hfn i hi).2.2.2.2.1, fun i hi => (hfn i hi).2.2.2.2.2⟩⟩
    obtain ⟨b, off, spot⟩ := a
    have hspot : spot = none := by
      have h0 := (hfn 0 hp).1
      simpa [Addr.add] using World.cell?_spot h0
    subst hspot
    refine ⟨b, off, rfl, ?_, fun i hi => ?_⟩
    · have h0 := (hfn 0 hp).1
      rw [plain_addM] at h0
      exact block_lt_of_cell h0
    · have h0 := (hfn i hi).1
      have h1 := (hfn i hi).2.1
      have h2 := (hfn i hi).2.2.1
      rw [plain_addM] at h0 h1 h2
      exact ⟨h0, by rw [Nat.add_assoc]; exact h1, by rw [Nat.add_assoc]; exact h2⟩
theorem open_mk {H : Type} {enc : TypeId × Value → H} {W : World} {r : Reach} {base : Nat} {v : Value} {d : DataW H} {p : List MemPlace} (hv : Value.okWide Try.prog W r base 41 v)
    (h : DataW.Trod enc Try.prog W 0 (fun _ => true) true 41 v d p) : ∃ m : Mk, v = .agg #[.int .i64 m.ln, .int .i64 m.ds, .int .u8 (m.by' : Int)] ∧ (-9223372036854775808 ≤ m.ln ∧ m.ln ≤ 9223372036854775807) ∧ (-9223372036854775808 ≤ m.ds ∧ m.ds ≤ 9223372036854775807) ∧ m.by' < 256 := by
  obtain ⟨cs, rfl, hcs⟩ := Go.WideShapes.okWide_struct Try.underlying41 hv
  rw [cellsMark] at hcs
  obtain ⟨fuel, hf⟩ := h
  obtain ⟨m, e, b1, b2, b3⟩ := mark_cells (cs := cs.toList) (by simpa using hcs) hf
  refine ⟨m, ?_, b1, b2, b3⟩
  rw [← e]
theorem cap_mks {H : Type} {enc : TypeId × Value → H} {W : World} {a0 : Option Addr} {len cap fuel : Nat} {x : DataW H × List MemPlace}
    (hf : DataW.trod enc Try.prog W 0 (fun _ => true) true fuel 39 [.slice a0 len cap] = some x) : len ≤ cap ∧ cap ≤ maxLen := by
  rcases open_slice Try.underlying39 hf with ⟨hcs, _⟩ | ⟨a, len', cap', m, n, D, Pl, hcs, _, hl, hm, _⟩
  · simp at hcs
    obtain ⟨_, rfl, rfl⟩ := hcs
    exact ⟨Nat.le_refl _, Nat.zero_le _⟩
  · simp at hcs
    obtain ⟨_, rfl, rfl⟩ := hcs
    exact ⟨hl, hm⟩
end Go.Proofs.Ytpkidjledgcemaa
