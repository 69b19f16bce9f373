import Derived.Test.YtbakgobgjfhhhaaDoorPmab
import Derived.Test.YtbakgobgjfhhhaaDoorPmai
import Derived.Test.YtbakgobgjfhhhaaDoorPmaf
import Derived.Test.YtbakgobgjfhhhaaDoorPmad

/- Places that are read: kit. -/
namespace Go.Proofs.YtbakgobgjfhhhaaDoor
open Go.RowKit

theorem infoPlR : (Tryd.prog.info? 67).map (fun i => (i.zero, i.size, i.bytes)) = some (some (.agg #[.int .i64 0, .int .i64 0]), 2, 16) := by kernel_rfl
theorem results_boxV2 {P : Program} {t : TypeId} {fn : Func} {p q : Tmp} (h : fn.results = #[.cell p t, .tmp q]) (tmps : Array Value) (w : World) (g n : Nat) (vs : List Value) (u : Value) (hp : tmps.getD p undef = .pointer (some ⟨g, 0, none⟩)) (hq : tmps.getD q undef = u) (hb : BoxV w g vs) (hn : vs.length = n) (hs : (P.info? t).map (·.size) = some n) (hagg : (isAgg t).run P w = .ok true w) :
    (results fn tmps).run P w = .ok (.tuple #[.agg vs.toArray, u]) w := by
  have hp' : tmps[p]?.getD undef = .pointer (some ⟨g, 0, none⟩) := by simpa using hp
  have hq' : tmps[q]?.getD undef = u := by simpa using hq
  simp [results, h, hp', hq', asAddr, load_boxV hb hn hs hagg]
theorem empty_isP (b : ByteArray) : b.toList.isEmpty = decide (b.size = 0) := by
  rw [ByteArray.toList_eq]
  have h : b.data.toList.length = b.size := by rw [Array.length_toList]; rfl
  rw [← h]
  cases b.data.toList with
  | nil => rfl
  | cons x t => rfl
theorem cells_pl2 (w : World) (p : Pla) (t : TypeId) : ∀ j u, (pl2 p)[j]? = some u → (w.alloc (.cells #[.int .i64 p.cl, .int .i64 p.nh] t)).cell? ((⟨w.heap.size, 0, none⟩ : Addr).add j) = some u := by
  intro j u hj
  have h := (boxV_new w (pl2 p) t).c j u hj
  rw [addR, Nat.zero_add]; exact h
theorem pl2_one (p : Pla) : ∀ u ∈ pl2 p, u.oneCell' = true := by
  intro u hu
  simp only [pl2, List.mem_cons, List.not_mem_nil, or_false] at hu
  rcases hu with rfl | rfl <;> rfl
theorem plaB_rt {p : Pla} (h : rtB p = true) : PlaB p := by
  have := rtB_b h
  exact ⟨⟨by omega, by omega⟩, ⟨by omega, by omega⟩⟩
theorem plaB_rpl (x y : UInt8) : PlaB (rpl x y) := by
  have := x.toNat_lt; have := y.toNat_lt
  exact ⟨⟨by simp only [rpl]; omega, by simp only [rpl]; omega⟩, ⟨by simp only [rpl]; omega, by simp only [rpl]; omega⟩⟩
theorem plaB_prP (l : List UInt8) : ∀ p ∈ prP l, PlaB p := by
  induction l using two_ind with
  | h0 => intro p hp; rw [prP_nil] at hp; cases hp
  | h1 x => intro p hp; rw [prP_one] at hp; cases hp
  | h2 x y t ih =>
    intro p hp
    rw [prP_cons, List.mem_cons] at hp
    rcases hp with rfl | hp
    · exact plaB_rpl x y
    · exact ih p hp
theorem below_set4P {B g : Nat} {w0 w : World} (h : Below B w0 w) (hg : B ≤ g) (x y z u : Value) : Below B w0 ((((w.setCell ⟨g, 0, none⟩ x).setCell ⟨g, 1, none⟩ y).setCell ⟨g, 2, none⟩ z).setCell ⟨g, 3, none⟩ u) := (((h.setCell hg _).setCell hg _).setCell hg _).setCell hg _
theorem pls_own' {w : World} {N : Nat} {n : Nat} {L : List Pla} {ao : Option Addr} {cap : Nat} (h : w.ownsRow N 67 2 (.slice ao n cap) n (plC L)) (hl : L.length = n) (hn : n ≤ 8796093022208) (hb : ∀ b ∈ L, PlaB b) : Pls w ao n cap L := by
  obtain ⟨a, c, e, hp⟩ := pls_own h hl hn hb
  cases e
  exact hp
theorem own_set4P {w : World} {N n g : Nat} {v : Value} {xs : List Value} (h : w.ownsRow N 67 2 v n xs) (hg : g < N) (x y z u : Value) : ((((w.setCell ⟨g, 0, none⟩ x).setCell ⟨g, 1, none⟩ y).setCell ⟨g, 2, none⟩ z).setCell ⟨g, 3, none⟩ u).ownsRow N 67 2 v n xs :=
  ownsRow_setCell_below (ownsRow_setCell_below (ownsRow_setCell_below (ownsRow_setCell_below h (a := ⟨g, 0, none⟩) hg x) (a := ⟨g, 1, none⟩) hg y) (a := ⟨g, 2, none⟩) hg z) (a := ⟨g, 3, none⟩) hg u
def sizeOfS (v : Value) : Nat := match v with
  | .string b => b.size
  | _ => 0
end Go.Proofs.YtbakgobgjfhhhaaDoor
