/- Maps whose keys are three bytes. -/
import Derived.Test.YtpkidjledgcemaaBase
import Derived.WideKeyArr2
import Derived.Maps.OwnSet
import Derived.Maps.Views
namespace Go.Proofs.Ytpkidjledgcemaa
open Go.RowKit Go.WideMaps Go.Maps

theorem arr3 : ArrKey Try.prog 81 5 3 := ⟨Try.underlying81, by kernel_rfl, by kernel_rfl, by kernel_rfl⟩
theorem law3 : Keyed Try.prog 81 := Keyed.of_law arr3.law
def v3 (a b c : UInt8) : Value := .agg #[.int .u8 (a.toNat : Int), .int .u8 (b.toNat : Int), .int .u8 (c.toNat : Int)]
def k3 (a b c : UInt8) : Lit := .string (keyBytes [.int .u8 (a.toNat : Int), .int .u8 (b.toNat : Int), .int .u8 (c.toNat : Int)])
theorem types_succ : ∃ m, Try.prog.types.size = m + 1 := ⟨Try.prog.types.size - 1, by
  have : 0 < Try.prog.types.size := of_decide_eq_true (by kernel_rfl)
  omega⟩
theorem wf_byte (a : UInt8) : (Lit.int .u8 (a.toNat : Int)).wf = true := by
  have := a.toNat_lt
  exact WalkArith.wf_u8 (by omega)
theorem key3 (a b c : UInt8) : keyOf Try.prog 81 (v3 a b c) = some (k3 a b c) := by
  have hkt := arr3.keyType types_succ
  obtain ⟨m, hm⟩ := types_succ
  unfold keyOf
  simp only [Try.underlying81]
  rw [if_pos (by simp [hkt, v3, Value.formed, Try.underlying81, arr3.size]), hm]
  unfold Program.keyLits
  simp only [Try.underlying81, v3, Value.cells]
  rw [if_pos (by rw [arr3.size]; rfl)]
  have e : ∀ x : UInt8, Try.prog.keyLits (m + 1) 5 [.int .u8 (x.toNat : Int)] = some [.int .u8 (x.toNat : Int)] := fun x => by
    unfold Program.keyLits
    simp [Try.underlying5, wf_byte x]
  rw [arr3.one, show List.range 3 = [0, 1, 2] from rfl]
  simp [List.mapM_cons, e, k3]
theorem k3_inj {a b c a' b' c' : UInt8} (h : k3 a b c = k3 a' b' c') : a = a' ∧ b = b' ∧ c = c' := by
  have := law3.inj (key3 a b c) (by rw [h]; exact key3 a' b' c')
  simp only [v3, Value.agg.injEq, Array.mk.injEq, List.cons.injEq, Value.int.injEq, true_and, and_true] at this
  obtain ⟨h1, h2, h3⟩ := this
  exact ⟨UInt8.toNat_inj.1 (by omega), UInt8.toNat_inj.1 (by omega), UInt8.toNat_inj.1 (by omega)⟩
theorem k3_key (a b c : UInt8) : WideAt.IsKeyLit (k3 a b c) := law3.key (key3 a b c)
end Go.Proofs.Ytpkidjledgcemaa
