/- Texts of ours, one behind the other: PtRdKit NwKit -/
import Derived.Test.YtbakgobgjfhhhaaDoorPmaj
import Derived.Test.YtbakgobgjfhhhaaDoorImReadWalks
import Derived.Test.YtbakgobgjfhhhaaDoorOpenWalks
import Derived.Test.YtbakgobgjfhhhaaDoorDiskReadWalks

/- What is read of a check point: kit. -/
namespace Go.Proofs.YtbakgobgjfhhhaaDoor
open Go.RowKit

def rdPT (s : List UInt8) : Int := match rdPt s with | some v => v.1 | none => 0
def rdPN (s : List UInt8) : Int := match rdPt s with | some v => v.2.1 | none => 0
def rdPP (s : List UInt8) : List Pla := match rdPt s with | some v => v.2.2.1 | none => []
def rdPG (s : List UInt8) : List Int := match rdPt s with | some v => v.2.2.2 | none => []
theorem rdP_no {s : List UInt8} (h : rdPt s = none) : rdPT s = 0 ∧ rdPN s = 0 ∧ rdPP s = [] ∧ rdPG s = [] := by unfold rdPT rdPN rdPP rdPG; rw [h]; exact ⟨rfl, rfl, rfl, rfl⟩
theorem rdP_yes {s : List UInt8} {t n : Int} {P : List Pla} {G : List Int} (h : rdPt s = some (t, n, P, G)) : rdPT s = t ∧ rdPN s = n ∧ rdPP s = P ∧ rdPG s = G := by unfold rdPT rdPN rdPP rdPG; rw [h]; exact ⟨rfl, rfl, rfl, rfl⟩
/-- what Read answers -/
def RdPA (N : Nat) (w' : World) (s : List UInt8) (z : Ending) : Prop := ∃ a c b e, z = .returned (.tuple #[.int .i64 (rdPT s), .agg #[.int .i64 (rdPN s), .slice a (rdPP s).length c, .slice b (rdPG s).length e], .int .i64 (rdPE s)]) ∧ Pls w' a (rdPP s).length c (rdPP s) ∧ Its w' b (rdPG s).length e (rdPG s) ∧ LowA N a ∧ LowA N b
theorem rdPA_no {N : Nat} {w' : World} {s : List UInt8} {z : Ending} {q : Int} (h : rdPt s = none) (he : rdPE s = q) (hz : z = .returned (.tuple #[.int .i64 0, .agg #[.int .i64 0, .slice none 0 0, .slice none 0 0], .int .i64 q])) : RdPA N w' s z := by
  obtain ⟨h1, h2, h3, h4⟩ := rdP_no h
  refine ⟨none, 0, none, 0, ?_, ?_, ?_, LowA.none _, LowA.none _⟩
  · rw [h1, h2, h3, h4, he]; exact hz
  · rw [h3]; exact pls_none w'
  · rw [h4]; exact its_none w'
theorem rdPA_yes {N : Nat} {w' : World} {s : List UInt8} {t u : Int} {P : List Pla} {G : List Int} {a b : Option Addr} {n m c e : Nat} {z : Ending} (h : rdPt s = some (t, u, P, G)) (hn : P.length = n) (hm : G.length = m) (hz : z = .returned (.tuple #[.int .i64 t, .agg #[.int .i64 u, .slice a n c, .slice b m e], .int .i64 0])) (hp : Pls w' a n c P) (hg : Its w' b m e G) (ha : LowA N a) (hb : LowA N b) : RdPA N w' s z := by
  subst hn hm
  obtain ⟨h1, h2, h3, h4⟩ := rdP_yes h
  refine ⟨a, c, b, e, ?_, ?_, ?_, ha, hb⟩
  · rw [h1, h2, h3, h4, rdPE_yes h]; exact hz
  · rw [h3]; exact hp
  · rw [h4]; exact hg
/-- a cell below the lists' blocks is written -/
theorem Rd.setLow {X : World} {a : Option Addr} {n size : Nat} {xs : List Value} (h : Rd X a n size xs) {N : Nat} (hl : LowA N a) {p : Addr} (hp : p.block < N) (v : Value) : Rd (X.setCell p v) a n size xs :=
  ⟨h.len, fun h0 => by
    obtain ⟨b, off, h1, h2, h3⟩ := h.at' h0
    refine ⟨b, off, h1, by simpa [World.setCell] using h2, fun j u hj => ?_⟩
    have hN := hl _ h1
    rw [World.cell?_setCell_other _ _ _ _ (by intro e; rw [e] at hp; exact absurd hp (Nat.not_lt.2 hN))]
    exact h3 j u hj⟩
theorem Pls.setLow {X : World} {a : Option Addr} {n c : Nat} {l : List Pla} (h : Pls X a n c l) {N : Nat} (hl : LowA N a) {p : Addr} (hp : p.block < N) (v : Value) : Pls (X.setCell p v) a n c l := ⟨h.nL, h.nB, h.rd.setLow hl hp v, h.bB, h.kc, h.km, h.nc⟩
theorem Its.setLow {X : World} {a : Option Addr} {n c : Nat} {l : List Int} (h : Its X a n c l) {N : Nat} (hl : LowA N a) {p : Addr} (hp : p.block < N) (v : Value) : Its (X.setCell p v) a n c l := ⟨h.nL, h.nB, h.rd.setLow hl hp v, h.bB, h.kc, h.km, h.nc⟩
theorem BoxV.set3P {w : World} {g : Nat} {a b c : Value} (h : BoxV w g [a, b, c]) (a' b' c' : Value) : BoxV (((w.setCell ⟨g, 0, none⟩ a').setCell ⟨g, 1, none⟩ b').setCell ⟨g, 2, none⟩ c') g [a', b', c'] :=
  ((h.set 0 a' (by simp)).set 1 b' (by simp)).set 2 c' (by simp)
theorem below_set3P {B g : Nat} {w0 w : World} (h : Below B w0 w) (hg : B ≤ g) (x y z : Value) : Below B w0 (((w.setCell ⟨g, 0, none⟩ x).setCell ⟨g, 1, none⟩ y).setCell ⟨g, 2, none⟩ z) := ((h.setCell (p := ⟨g, 0, none⟩) hg x).setCell (p := ⟨g, 1, none⟩) hg y).setCell (p := ⟨g, 2, none⟩) hg z
theorem infoSzPt : (Tryd.prog.info? 27).map (·.size) = some 3 := by kernel_rfl
theorem aggPt (w : World) : (isAgg 27).run Tryd.prog w = .ok true w := by
  unfold isAgg
  rw [Sem.run_bind, run_underlying Tryd.underlying27 w]
  rfl
theorem results_pt3 {P : Program} {t : TypeId} {fn : Func} {p q r : Tmp} (h : fn.results = #[.tmp q, .cell p t, .tmp r]) (tmps : Array Value) (w : World) (g n : Nat) (vs : List Value) (u v : Value) (hq : tmps.getD q undef = u) (hp : tmps.getD p undef = .pointer (some ⟨g, 0, none⟩)) (hr : tmps.getD r undef = v) (hb : BoxV w g vs) (hn : vs.length = n) (hs : (P.info? t).map (·.size) = some n) (hagg : (isAgg t).run P w = .ok true w) :
    (results fn tmps).run P w = .ok (.tuple #[u, .agg vs.toArray, v]) w := by
  have hp' : tmps[p]?.getD undef = .pointer (some ⟨g, 0, none⟩) := by simpa using hp
  have hq' : tmps[q]?.getD undef = u := by simpa using hq
  have hr' : tmps[r]?.getD undef = v := by simpa using hr
  simp [results, h, hp', hq', hr', asAddr, load_boxV hb hn hs hagg]
end Go.Proofs.YtbakgobgjfhhhaaDoor

/- The newest of check points: kit. -/
namespace Go.Proofs.YtbakgobgjfhhhaaDoor
open Go.RowKit

/-- a point that was found, or none -/
abbrev Fnd : Type := Option (Int × Int × List Pla × List Int)
def oT (O : Fnd) : Int := match O with | some v => v.1 | none => 0
def oN (O : Fnd) : Int := match O with | some v => v.2.1 | none => 0
def oP (O : Fnd) : List Pla := match O with | some v => v.2.2.1 | none => []
def oG (O : Fnd) : List Int := match O with | some v => v.2.2.2 | none => []
/-- its turn, or less than any -/
def nwI (O : Fnd) : Int := match O with | some v => v.1 | none => -1
/-- a further cell is looked at -/
def nwS (O : Fnd) (s : List UInt8) : Fnd := match rdPt s with | some v => if nwI O < v.1 then some v else O | none => O
theorem nwI_none : nwI none = -1 := rfl
theorem nwI_some (v : Int × Int × List Pla × List Int) : nwI (some v) = v.1 := rfl
theorem nwS_none {O : Fnd} {s : List UInt8} (h : rdPt s = none) : nwS O s = O := by unfold nwS; rw [h]
theorem nwS_some {O : Fnd} {s : List UInt8} {v : Int × Int × List Pla × List Int} (h : rdPt s = some v) : nwS O s = if nwI O < v.1 then some v else O := by unfold nwS; rw [h]
theorem rdPt_turn {s : List UInt8} {v : Int × Int × List Pla × List Int} (h : rdPt s = some v) : 0 ≤ v.1 ∧ v.1 ≤ 2147483647 := by
  obtain ⟨t, n, P, G⟩ := v
  obtain ⟨h1, _, _, _, _, rfl, _⟩ := rdPt_parts h
  have := ((mayS_iff _ _).1 (opE_ok h1).2.2.1).2
  exact ⟨this.1, this.2⟩
/-- it may be -/
def FOk (O : Fnd) : Prop := ∀ v, O = some v → 0 ≤ v.1 ∧ v.1 ≤ 2147483647
theorem FOk.none : FOk none := fun v h => by cases h
theorem FOk.of {s : List UInt8} : FOk (rdPt s) := fun _ h => rdPt_turn h
theorem FOk.step {O : Fnd} (h : FOk O) (s : List UInt8) : FOk (nwS O s) := by
  intro v hv
  cases hr : rdPt s with
  | none => rw [nwS_none hr] at hv; exact h v hv
  | some u =>
    rw [nwS_some hr] at hv
    split at hv
    · cases hv; exact rdPt_turn hr
    · exact h v hv
theorem FOk.bound {O : Fnd} (h : FOk O) : -1 ≤ nwI O ∧ nwI O ≤ 2147483647 := by
  cases O with
  | none => rw [nwI_none]; omega
  | some v => have := h v rfl; rw [nwI_some]; omega
theorem FOk.no {O : Fnd} (h : FOk O) : nwI O = -1 ↔ O = Option.none := by
  cases O with
  | none => exact ⟨fun _ => rfl, fun _ => rfl⟩
  | some v =>
    have := h v rfl
    exact ⟨fun e => by rw [nwI_some] at e; omega, fun e => by cases e⟩
theorem nwS_first (s : List UInt8) : nwS none s = rdPt s := by
  cases hr : rdPt s with
  | none => rw [nwS_none hr]
  | some v =>
    rw [nwS_some hr, if_pos]
    have := (rdPt_turn hr).1
    rw [nwI_none]; omega
/-- what a cell holds, as disk.Read reads it -/
def cel (C : List ByteArray) (P : List Pt) (k : Nat) : ByteArray := cellL allL (k : Int) P 0 (C.getD k ⟨#[]⟩)
/-- the newest of the first k cells -/
def nwK (C : List ByteArray) (P : List Pt) : Nat → Fnd
  | 0 => none
  | k + 1 => nwS (nwK C P k) (cel C P k).data.toList
theorem nwK_ok (C : List ByteArray) (P : List Pt) (k : Nat) : FOk (nwK C P k) := by
  induction k with
  | zero => exact FOk.none
  | succ k ih => exact ih.step _
theorem cellL_size (L : Nat → Bool) (a : Int) : ∀ (P : List Pt) (i : Nat) (s : ByteArray), s.size ≤ 140737488355328 → (∀ p ∈ P, p.tx.size ≤ 140737488355328) → (cellL L a P i s).size ≤ 140737488355328 := by
  intro P
  induction P with
  | nil => intro i s h _; exact h
  | cons p r ih =>
    intro i s h hp
    show (cellL L a r (i + 1) (if p.pl = a ∧ L i = true then p.tx else s)).size ≤ _
    refine ih _ _ ?_ (fun x hx => hp x (by simp [hx]))
    split
    · exact hp p (by simp)
    · exact h
theorem Dk.celB {w : World} {a0 : Option Addr} {n : Nat} {a1 : Option Addr} {m : Nat} {C : List ByteArray} {P : List Pt} (h : Dk w a0 n a1 m C P) (k : Nat) : (cel C P k).size ≤ 140737488355328 := by
  refine cellL_size _ _ _ _ _ ?_ h.tB
  rw [List.getD_eq_getElem?_getD]
  cases hk : C[k]? with
  | none => exact Nat.zero_le _
  | some s => exact h.sB s (List.mem_of_getElem? hk)
/-- a cell that is there, of a right disk -/
theorem dread_in (a0 a1 : Option Addr) (n c m d : Nat) (C : List ByteArray) (P : List Pt) (k : Nat) (w : World) (h : Dk w a0 n a1 m C P) (hc : chkD C P = 0) (hk : k < n) :
    Calls Tryd.prog 37 #[.agg #[.slice a0 n c, .slice a1 m d], .int .i64 (k : Int)] w fun e w' => e = .returned (.tuple #[.string (cel C P k), .int .i64 0]) ∧ Below w.heap.size w w' := by
  have h0 : rdD C P (k : Int) = 0 := by
    unfold rdD
    rw [if_pos hc, if_pos]
    unfold hasB
    exact decide_eq_true ⟨by omega, by rw [h.nC]; omega⟩
  refine (dread_any a0 a1 n c m d C P (k : Int) w h).mono fun e w' hh => ?_
  rcases hh with ⟨⟨_, rfl⟩ | ⟨q, hq, hq2, _⟩, hb⟩
  · exact ⟨by rw [Int.toNat_natCast]; rfl, hb⟩
  · exact absurd (hq2.out.symm.trans h0) hq
/-- what Newest answers -/
def NwA (N : Nat) (w' : World) (O : Fnd) (q : Int) (z : Ending) : Prop := ∃ a c b e, z = .returned (.tuple #[.int .i64 (oT O), .agg #[.int .i64 (oN O), .slice a (oP O).length c, .slice b (oG O).length e], .int .i64 q]) ∧ Pls w' a (oP O).length c (oP O) ∧ Its w' b (oG O).length e (oG O) ∧ LowA N a ∧ LowA N b
def nwM (n : Nat) : Nat := if n < 2 then n else 2
def nwD (C : List ByteArray) (P : List Pt) : Fnd := if chkD C P = 0 then nwK C P (nwM C.length) else none
def nwE (C : List ByteArray) (P : List Pt) : Int := if chkD C P = 0 then (if (nwK C P (nwM C.length)).isNone then 18 else 0) else chkD C P
theorem nwA_none {N : Nat} {w' : World} {O : Fnd} {r q : Int} {z : Ending} (hO : O = none) (hr : r = q) (hz : z = .returned (.tuple #[.int .i64 0, .agg #[.int .i64 0, .slice none 0 0, .slice none 0 0], .int .i64 q])) : NwA N w' O r z := by
  subst hO hr
  exact ⟨none, 0, none, 0, hz, pls_none w', its_none w', LowA.none _, LowA.none _⟩
theorem nwA_some {N : Nat} {w' : World} {O : Fnd} {v : Int × Int × List Pla × List Int} {r : Int} {a b : Option Addr} {n m c e : Nat} {z : Ending} (hO : O = some v) (hr : r = 0) (hn : v.2.2.1.length = n) (hm : v.2.2.2.length = m) (hz : z = .returned (.tuple #[.int .i64 v.1, .agg #[.int .i64 v.2.1, .slice a n c, .slice b m e], .int .i64 0])) (hp : Pls w' a n c v.2.2.1) (hg : Its w' b m e v.2.2.2) (la : LowA N a) (lb : LowA N b) : NwA N w' O r z := by
  subst hO hr hn hm
  exact ⟨a, c, b, e, hz, hp, hg, la, lb⟩
/-- what was found, in a box -/
structure NwS (X : World) (g : Nat) (O : Fnd) (a : Option Addr) (c : Nat) (b : Option Addr) (e : Nat) : Prop where
  at' : PtAt X g (oN O) a (oP O).length c b (oG O).length e (oP O) (oG O)
  la : LowA (g + 1) a
  lb : LowA (g + 1) b
theorem NwS.below {X Y : World} {g : Nat} {O : Fnd} {a : Option Addr} {c : Nat} {b : Option Addr} {e : Nat} (h : NwS X g O a c b e) (hb : Below X.heap.size X Y) : NwS Y g O a c b e := ⟨h.at'.below hb, h.la, h.lb⟩
theorem PtAt.setLow {X : World} {g : Nat} {t : Int} {a0 : Option Addr} {n c : Nat} {a1 : Option Addr} {m e : Nat} {P : List Pla} {G : List Int} (h : PtAt X g t a0 n c a1 m e P G) {N : Nat} (la : LowA N a0) (lb : LowA N a1) {p : Addr} (hp : p.block < N) (hg : p.block ≠ g) (v : Value) : PtAt (X.setCell p v) g t a0 n c a1 m e P G :=
  ⟨h.bx.other p v hg, h.pl.setLow la hp v, h.it.setLow lb hp v⟩
/-- another point is stored there -/
theorem NwS.store {X : World} {g : Nat} {O : Fnd} {a : Option Addr} {c : Nat} {b : Option Addr} {e : Nat} (h : NwS X g O a c b e) {t : Int} {a2 : Option Addr} {n2 c2 : Nat} {b2 : Option Addr} {m2 e2 : Nat} {P : List Pla} {G : List Int} (hp : Pls X a2 n2 c2 P) (hg : Its X b2 m2 e2 G) (la : LowA (g + 1) a2) (lb : LowA (g + 1) b2) :
    PtAt (((X.setCell ⟨g, 0, none⟩ (.int .i64 t)).setCell ⟨g, 1, none⟩ (.slice a2 n2 c2)).setCell ⟨g, 2, none⟩ (.slice b2 m2 e2)) g t a2 n2 c2 b2 m2 e2 P G :=
  ⟨h.at'.bx.set3P _ _ _, ((hp.setLow la (Nat.lt_succ_self g) _).setLow la (Nat.lt_succ_self g) _).setLow la (Nat.lt_succ_self g) _, ((hg.setLow lb (Nat.lt_succ_self g) _).setLow lb (Nat.lt_succ_self g) _).setLow lb (Nat.lt_succ_self g) _⟩
theorem box_store {X : World} {g : Nat} {x y z : Value} (h : BoxV X g [x, y, z]) {t : Int} {a2 : Option Addr} {n2 c2 : Nat} {b2 : Option Addr} {m2 e2 : Nat} {P : List Pla} {G : List Int} (hp : Pls X a2 n2 c2 P) (hg : Its X b2 m2 e2 G) (la : LowA (g + 1) a2) (lb : LowA (g + 1) b2) :
    PtAt (((X.setCell ⟨g, 0, none⟩ (.int .i64 t)).setCell ⟨g, 1, none⟩ (.slice a2 n2 c2)).setCell ⟨g, 2, none⟩ (.slice b2 m2 e2)) g t a2 n2 c2 b2 m2 e2 P G :=
  ⟨h.set3P _ _ _, ((hp.setLow la (Nat.lt_succ_self g) _).setLow la (Nat.lt_succ_self g) _).setLow la (Nat.lt_succ_self g) _, ((hg.setLow lb (Nat.lt_succ_self g) _).setLow lb (Nat.lt_succ_self g) _).setLow lb (Nat.lt_succ_self g) _⟩
/-- the same, its lists from block N on -/
structure NwT (X : World) (g N : Nat) (O : Fnd) (a : Option Addr) (c : Nat) (b : Option Addr) (e : Nat) : Prop where
  at' : PtAt X g (oN O) a (oP O).length c b (oG O).length e (oP O) (oG O)
  la : LowA N a
  lb : LowA N b
theorem NwT.below {X Y : World} {g N : Nat} {O : Fnd} {a : Option Addr} {c : Nat} {b : Option Addr} {e : Nat} (h : NwT X g N O a c b e) (hb : Below X.heap.size X Y) : NwT Y g N O a c b e := ⟨h.at'.below hb, h.la, h.lb⟩
end Go.Proofs.YtbakgobgjfhhhaaDoor
