/- Whatever is handed in, linenkeep.CodeBack answers true: what is written is read as it was, from whatever bit it begins at. No condition. -/
import Derived.Test.YtnoegodimiehhaaRows
import Derived.WalkKit
import Derived.ProofKit
import Derived.OpenShut
import Derived.ShutString
import Derived.SizedLaws
import Derived.Deep.OwnShut
import Derived.Test.YtnoegodimiehhaaCodeBackLaw
import Derived.Test.YtnoegodimiehhaaPcsOpen
import Derived.Test.YtnoegodimiehhaaWdsOpen
import Derived.Test.YtnoegodimiehhaaCapOpen
namespace Go.Proofs.Ytnoegodimiehhaa.codeBack
open Go.ChangeShapes Go.WideShapes Go.ChangeAt Go.RowKit
open Go.ChangeMaps (open_string shut_string)
set_option linter.unusedVariables false

theorem own : ownKnob Try.prog.godebug = none := by kernel_rfl
theorem laidOut : laidOutB Try.prog = true := by kernel_rfl

set_option maxRecDepth 100000 in
theorem lifted (os : Os) (started : os.Started) (H : Type) (enc : TypeId × Value → H) :
    ReturnsInHanded {} Try.checked os 4 .any (Rows.codeBackSpec.pre6 enc Try.prog Try.f4 Rows.codeBackRow.domain false) (Rows.codeBackSpec.post enc Try.prog Try.f4 false true false false) := by
  refine returnsInHanded_of_change_sized (C := Try.checked) own started (by kernel_rfl) Try.func4
    (ChangeSpec.witness6 (enc := enc) (C := Try.checked) false ⟨#[], #[.slice none 0 0, .slice none 0 0, .slice none 0 0], []⟩ 8 (by kernel_rfl) (by kernel_rfl) (by kernel_rfl) (by kernel_rfl)) ?_
  intro W base args ds gs before hval0 hW hcnd hsz _
  have hval : ∀ (j : Nat) t v, Try.f4.params[j]? = some t → args[j]? = some v → Value.okWide Try.prog W .any base t v := hval0
  have hW' := hW
  obtain ⟨p, q, hA0, hV, rfl, hfz, hnd⟩ := hW
  have hA : DataW.TrodAll enc Try.prog W 0 (fun _ => true) true Try.f4.params.toList args.toList ds p := hA0
  rw [Try.params4] at hA hval
  obtain ⟨v0, vs0, d0, ds0, p0, q0, hargs, rfl, rfl, h0, r0⟩ := trodAll_cons hA
  obtain ⟨v1, vs1, d1, ds1, p1, q1, rfl, rfl, rfl, h1, r1⟩ := trodAll_cons r0
  obtain ⟨v2, vs2, d2, ds2, p2, q2, rfl, rfl, rfl, h2, r2⟩ := trodAll_cons r1
  obtain ⟨rfl, rfl, rfl⟩ := trodAll_nil r2
  obtain rfl : args = #[v0, v1, v2] := by cases args; simp_all
  obtain ⟨rfl, rfl⟩ := trodVars_none hV
  obtain ⟨a0, len0, cap0, rfl⟩ := okWide_slice Try.underlying22 (hval 0 22 v0 rfl rfl)
  have k0 := h0
  have lt0 : ∀ x ∈ p0, x.block < W.heap.size := by obtain ⟨m, hm⟩ := k0; exact DataW.trod_lt m _ _ _ hm
  obtain ⟨X0, w0⟩ : ∃ Wd, Wds W a0 len0 Wd := by
    obtain ⟨fuel, hf⟩ := h0
    refine open_wds hf fun elems spare he => ?_
    have hb : (elems.length + spare.length) * Try.prog.bytesOf 3 ≤ reachBytes := sized_slice hsz (j := 0) (t := 22) (e := 3) (elems := elems) (spare := spare) (by kernel_rfl) (by simpa using he) Try.underlying22
    rwa [bytesInt] at hb
  have q0 : len0 ≤ cap0 ∧ cap0 ≤ maxLen := by
    obtain ⟨fuel, hf⟩ := k0
    exact len_cap Try.underlying22 hf
  obtain ⟨a1, len1, cap1, rfl⟩ := okWide_slice Try.underlying22 (hval 1 22 v1 rfl rfl)
  have k1 := h1
  have lt1 : ∀ x ∈ p1, x.block < W.heap.size := by obtain ⟨m, hm⟩ := k1; exact DataW.trod_lt m _ _ _ hm
  obtain ⟨X1, w1⟩ : ∃ Wd, Wds W a1 len1 Wd := by
    obtain ⟨fuel, hf⟩ := h1
    refine open_wds hf fun elems spare he => ?_
    have hb : (elems.length + spare.length) * Try.prog.bytesOf 3 ≤ reachBytes := sized_slice hsz (j := 1) (t := 22) (e := 3) (elems := elems) (spare := spare) (by kernel_rfl) (by simpa using he) Try.underlying22
    rwa [bytesInt] at hb
  have q1 : len1 ≤ cap1 ∧ cap1 ≤ maxLen := by
    obtain ⟨fuel, hf⟩ := k1
    exact len_cap Try.underlying22 hf
  obtain ⟨a2, len2, cap2, rfl⟩ := okWide_slice Try.underlying28 (hval 2 28 v2 rfl rfl)
  have k2 := h2
  have lt2 : ∀ x ∈ p2, x.block < W.heap.size := by obtain ⟨m, hm⟩ := k2; exact DataW.trod_lt m _ _ _ hm
  obtain ⟨V2, X2, w2⟩ : ∃ V Wd, Pcs W a2 len2 V Wd := by
    obtain ⟨fuel, hf⟩ := h2
    refine open_pcs hf fun elems spare he => ?_
    have hb : (elems.length + spare.length) * Try.prog.bytesOf 36 ≤ reachBytes := sized_slice hsz (j := 2) (t := 28) (e := 36) (elems := elems) (spare := spare) (by kernel_rfl) (by simpa using he) Try.underlying28
    rwa [bytesPiece] at hb
  have y2 : len2 ≤ 8796093021952 := by
    obtain ⟨fuel, hf⟩ := k2
    refine len_pcs hf fun elems spare he => ?_
    have hb : (elems.length + spare.length) * Try.prog.bytesOf 36 ≤ reachBytes := sized_slice hsz (j := 2) (t := 28) (e := 36) (elems := elems) (spare := spare) (by kernel_rfl) (by simpa using he) Try.underlying28
    rwa [bytesPiece] at hb
  have n2 : a2 = none → cap2 = 0 := by
    obtain ⟨fuel, hf⟩ := k2
    exact cap_pcs hf
  clear hA0 hval0
  refine (codeBack_walk a0 len0 cap0 X0 a1 len1 cap1 X1 a2 len2 cap2 V2 X2 W w0 q0 w1 q1 w2 y2 n2).mono fun e W' ⟨he, hg⟩ => ?_
  subst he
  exact ⟨_, rfl, _, _, _, [], _, [], hW', trodAll_mk1 (shut_bool Try.underlying4 _), (trodAll_cons_mk (Below.trod laidOut (by kernel_rfl) (of_decide_eq_true (by kernel_rfl)) k0 hg lt0) (trodAll_cons_mk (Below.trod laidOut (by kernel_rfl) (of_decide_eq_true (by kernel_rfl)) k1 hg lt1) (trodAll_cons_mk (Below.trod laidOut (by kernel_rfl) (of_decide_eq_true (by kernel_rfl)) k2 hg lt2) trodAll_mk0))), rfl, hg.frame _, fun h => by cases h⟩

theorem over : Rows.codeBackRow.holds Try.pinned (OpenSpec.ofChange Rows.codeBackSpec) :=
  OpenClaim.holds_of_wide 4 Try.f4 rfl rfl rfl rfl rfl rfl rfl ⟨rfl, rfl, rfl, rfl, rfl⟩ rfl rfl rfl rfl rfl (by kernel_rfl) Try.func4 (by kernel_rfl)
    (of_decide_eq_true (by kernel_rfl)) (by unfold Func.isWrapper; first | (rw [if_pos (by decide +kernel)]; kernel_rfl) | (rw [if_neg (by decide +kernel)]; exact ⟨rfl, rfl⟩))
    (fun os started H enc _ => lifted os started H enc)
end Go.Proofs.Ytnoegodimiehhaa.codeBack
namespace Go.Proofs.Ytnoegodimiehhaa
/-- the statement -/
theorem codeBack_holds : Rows.CodeBackSaid := codeBack.over
end Go.Proofs.Ytnoegodimiehhaa
