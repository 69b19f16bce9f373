/- The law DiskOwn, walked as far as its second region: the disk with room behind its lists. -/
import Derived.Test.YtdhjadgmdmdnjaaOwnOpsKit
import Derived.Test.YtdhjadgmdmdnjaaSpoilS
import Derived.Test.YtdhjadgmdmdnjaaSpoilP
import Derived.Test.YtdhjadgmdmdnjaaFilledS
import Derived.Test.YtdhjadgmdmdnjaaFilledP
import Derived.Test.YtdhjadgmdmdnjaaDiskSyncWalks
import Derived.Test.YtdhjadgmdmdnjaaSameDkWalks
import Derived.Test.YtdhjadgmdmdnjaaBoxV
import Derived.Test.YtdhjadgmdmdnjaaRLandedE
import Derived.Test.YtdhjadgmdmdnjaaCloneDk
import Derived.Test.YtdhjadgmdmdnjaaDiskMakeWalks
import Derived.Test.YtdhjadgmdmdnjaaDkCapOpen
import Derived.Deep.RegionHeld3
import Derived.BigQuiet
import Derived.Deep.DeepCutAuto
namespace Go.Proofs.Ytdhjadgmdmdnjaa
open Go.RowKit

theorem ok_wrDO {C : List ByteArray} {P : List Pt} {p : Pt} (h : wrD C P p = 0) : OkD C (P ++ [p]) := by
  unfold wrD at h
  by_cases h0 : chkD C P = 0
  · rw [if_pos h0] at h
    have hok := chkD_ok h0
    unfold wrtE at h
    by_cases h1 : putE C.length p = 0
    · rw [if_pos h1] at h
      by_cases h2 : 400 ≤ P.length
      · rw [if_pos h2] at h; omega
      · exact ok_put hok h1 (by omega)
    · rw [if_neg h1] at h; exact absurd h h1
  · rw [if_neg h0] at h; exact absurd h h0
def mkP : Pt := ⟨7, ⟨#[109, 97, 114, 107]⟩⟩
def mkT : ByteArray := ⟨#[109, 97, 114, 107]⟩
theorem dk_of_room {w : World} {gi gj n m : Nat} {C : List ByteArray} {P : List Pt} {r q : List Value} {w0 : World} {a0 a1 : Option Addr} (h : BoxV w gi (stC C ++ r)) (h' : BoxV w gj (ptC P ++ q)) (ho : Dk w0 a0 n a1 m C P) : Dk w (some ⟨gi, 0, none⟩) n (some ⟨gj, 0, none⟩) m C P :=
  ⟨ho.nC, ho.mP, ho.nB, ho.mB, rd_of_box h (by rw [stC_length, ho.nC, Nat.mul_one]), rd_of_box h' (by rw [ptC_length, ho.mP]), ho.pB, ho.sB, ho.tB⟩
theorem roomySK (a0 : Option Addr) (n c : Nat) (a1 : Option Addr) (m : Nat) (C : List ByteArray) (P : List Pt) (w : World) (h : Dk w a0 n a1 m C P) (hc : a0 = none → c = 0) :
    Calls Try.prog 17 #[.slice a0 n c, .string ⟨#[109, 97, 114, 107]⟩] w fun e w' => (∃ g, e = .returned (.slice (some ⟨g, 0, none⟩) n (n + 3)) ∧ BoxV w' g (stC C ++ mk3S mkT 3) ∧ w.heap.size ≤ g) ∧ Below w.heap.size w w' := roomyS_any a0 n c C mkT w h.rc h.nC hc h.nB
theorem roomyPK (a0 : Option Addr) (n : Nat) (a1 : Option Addr) (m d : Nat) (C : List ByteArray) (P : List Pt) (w : World) (h : Dk w a0 n a1 m C P) (hd : a1 = none → d = 0) :
    Calls Try.prog 18 #[.slice a1 m d, .agg #[.int .i64 7, .string ⟨#[109, 97, 114, 107]⟩]] w fun e w' => (∃ g, e = .returned (.slice (some ⟨g, 0, none⟩) m (m + 3)) ∧ BoxV w' g (ptC P ++ mk3P mkP 3) ∧ w.heap.size ≤ g) ∧ Below w.heap.size w w' := roomyP_any a1 m d P mkP w h.rp h.mP hd h.mB
theorem filledSK (g n : Nat) (C : List ByteArray) (w : World) (h : BoxV w g (stC C ++ mk3S mkT 3)) (hn : C.length = n) (hB : n ≤ 8796093022208) :
    Calls Try.prog 21 #[.slice (some ⟨g, 0, none⟩) n (n + 3), .string ⟨#[109, 97, 114, 107]⟩] w fun e w' => e = .returned (.bool true) ∧ Below w.heap.size w w' := filledS_any g n C mkT w h hn hB
theorem filledPK (g n : Nat) (P : List Pt) (w : World) (h : BoxV w g (ptC P ++ mk3P mkP 3)) (hn : P.length = n) (hB : n ≤ 5864062014805) :
    Calls Try.prog 22 #[.slice (some ⟨g, 0, none⟩) n (n + 3), .agg #[.int .i64 7, .string ⟨#[109, 97, 114, 107]⟩]] w fun e w' => e = .returned (.bool true) ∧ Below w.heap.size w w' := filledP_any g n P mkP w h hn hB
theorem BoxV.set2D {w : World} {g : Nat} {a b : Value} (h : BoxV w g [a, b]) (a' b' : Value) : BoxV ((w.setCell ⟨g, 0, none⟩ a').setCell ⟨g, 1, none⟩ b') g [a', b'] :=
  (h.set 0 a' (by simp)).set 1 b' (by simp)
theorem cset2D {X : World} {g b k : Nat} {v : Value} (h : X.cell? ⟨g, k, none⟩ = some v) (hne : b ≠ g) (a c : Value) : ((X.setCell ⟨b, 0, none⟩ a).setCell ⟨b, 1, none⟩ c).cell? ⟨g, k, none⟩ = some v := by
  have hn : ∀ j, (⟨b, j, none⟩ : Addr) ≠ ⟨g, k, none⟩ := fun j e => by simp only [Addr.mk.injEq] at e; omega
  rw [World.cell?_setCell_other _ _ _ _ (hn 1), World.cell?_setCell_other _ _ _ _ (hn 0)]
  exact h
/-- the disk with room behind its lists, as it was made -/
def JDk (W0 X : World) (C : List ByteArray) (P : List Pt) (n m : Nat) (v : Value) : Prop :=
  ∃ gt gi gj, v = .pointer (some ⟨gt, 0, none⟩) ∧ BoxV X gt [.slice (some ⟨gi, 0, none⟩) n (n + 3), .slice (some ⟨gj, 0, none⟩) m (m + 3)] ∧ BoxV X gi (stC C ++ mk3S mkT 3) ∧ BoxV X gj (ptC P ++ mk3P mkP 3) ∧ (gt ≠ gi ∧ gt ≠ gj ∧ gi ≠ gj) ∧ (W0.heap.size ≤ gt ∧ W0.heap.size ≤ gi ∧ W0.heap.size ≤ gj) ∧ Below W0.heap.size W0 X
theorem jdk_set {W0 Z : World} {C : List ByteArray} {P : List Pt} {n m gt gi gj : Nat} {a b : Value} (hT : BoxV Z gt [a, b]) (hi : BoxV Z gi (stC C ++ mk3S mkT 3)) (hj : BoxV Z gj (ptC P ++ mk3P mkP 3)) (h1 : gt ≠ gi) (h2 : gt ≠ gj) (h3 : gi ≠ gj) (b1 : W0.heap.size ≤ gt) (b2 : W0.heap.size ≤ gi) (b3 : W0.heap.size ≤ gj) (hb : Below W0.heap.size W0 Z) :
    JDk W0 ((Z.setCell ⟨gt, 0, none⟩ (.slice (some ⟨gi, 0, none⟩) n (n + 3))).setCell ⟨gt, 1, none⟩ (.slice (some ⟨gj, 0, none⟩) m (m + 3))) C P n m (.pointer (some ⟨gt, 0, none⟩)) :=
  ⟨gt, gi, gj, rfl, hT.set2D _ _, (hi.other _ _ h1).other _ _ h1, (hj.other _ _ h2).other _ _ h2, ⟨h1, h2, h3⟩, ⟨b1, b2, b3⟩, (hb.setCell (p := ⟨gt, 0, none⟩) b1 _).setCell (p := ⟨gt, 1, none⟩) b1 _⟩
theorem jdk_new {W0 Z : World} {C : List ByteArray} {P : List Pt} {n m gi gj : Nat} (hi : BoxV Z gi (stC C ++ mk3S mkT 3)) (hj : BoxV Z gj (ptC P ++ mk3P mkP 3)) (h3 : gi ≠ gj) (b2 : W0.heap.size ≤ gi) (b3 : W0.heap.size ≤ gj) (hb : Below W0.heap.size W0 Z) :
    JDk W0 (Z.alloc (.cells #[.slice (some ⟨gi, 0, none⟩) n (n + 3), .slice (some ⟨gj, 0, none⟩) m (m + 3)] 25)) C P n m (.pointer (some ⟨Z.heap.size, 0, none⟩)) :=
  ⟨Z.heap.size, gi, gj, rfl, boxV_new Z _ _, hi.alloc _, hj.alloc _, ⟨by have := hi.lt; omega, by have := hj.lt; omega, h3⟩, ⟨hb.size, b2, b3⟩, hb.alloc hb.size _⟩
theorem wrD_cases (C : List ByteArray) (P : List Pt) (p : Pt) : wrD C P p = 0 ∨ wrD C P p = 1 ∨ wrD C P p = 2 ∨ wrD C P p = 9 := by
  have h1 := chkD_range C P
  unfold wrD
  split
  · unfold wrtE
    rcases putE_cases C.length p with ⟨h, _⟩ | ⟨h, _⟩ | ⟨h, _⟩
    · rw [if_pos h]; split <;> omega
    · rw [if_neg (by omega), h]; omega
    · rw [if_neg (by omega), h]; omega
  · omega
theorem fieldD (u0 : Option Addr) (a c : Nat) (w : World) : (Instr.field 25 (.agg #[.slice u0 a c, .slice none 0 0]) 0).run Try.prog w = .ok (.slice u0 a c) w := by kernel_rfl
theorem dmake_one (w : World) : Calls Try.prog 28 #[.int .i64 1] w fun e w' => (∃ u, e = .returned (.tuple #[.agg #[u, .slice none 0 0], .int .i64 0]) ∧ OwnDk w' w.heap.size u (.slice none 0 0) (List.replicate 1 ⟨#[]⟩) []) ∧ Below w.heap.size w w' := dmake_yes 1 w (by omega) (by omega)
theorem below_nD {B : Nat} {a w : World} (h : Below B a w) (q : Nat) : Below B a (w.drewN q) := ⟨h.os, h.tape, h.output, h.size, h.block⟩
theorem below_rD {w0 w w' : World} {r : Option Nat} (hb : Below w0.heap.size w0 w) (hg : w.grownBy w' r) (hr : ∀ k, r = some k → w0.heap.size ≤ k) : Below w0.heap.size w0 w' := by
  refine ⟨hg.os.trans hb.os, hg.tape.trans hb.tape, hg.output.trans hb.output, Nat.le_trans hb.size hg.size, fun i hi => ?_⟩
  refine (hg.block i (Nat.lt_of_lt_of_le hi hb.size) (fun e => ?_)).trans (hb.block i hi)
  have := hr i (by first | exact e.symm | exact e)
  omega
theorem box_rD {w w' : World} {g : Nat} {vs : List Value} {r : Option Nat} (h : BoxV w g vs) (hg : w.grownBy w' r) (hr : ∀ k, r = some k → k ≠ g) : BoxV w' g vs := h.grown hg (fun e => hr g e rfl)
theorem OwnRes.ge {w : World} {N : Nat} {q : Int} {u v : Value} {C : List ByteArray} {P : List Pt} (h : OwnRes w N q u v C P) : (∀ k, u.ownBlock = some k → N ≤ k) ∧ (∀ k, v.ownBlock = some k → N ≤ k) := by
  rcases h with ⟨_, _, g3⟩ | ⟨_, rfl, rfl⟩
  · exact ⟨fun k e => (g3.rc.lt k e).1, fun k e => (g3.rp.lt k e).1⟩
  · exact ⟨fun k e => by simp [Value.ownBlock] at e, fun k e => by simp [Value.ownBlock] at e⟩
theorem OwnRes.rD {w w' : World} {N : Nat} {q : Int} {u v : Value} {C : List ByteArray} {P : List Pt} {r : Option Nat} (h : OwnRes w N q u v C P) (hg : w.grownBy w' r) (hr : ∀ k, r = some k → k < N) : OwnRes w' N q u v C P :=
  h.keptR hg (fun k hk e => by have := hr k e; have := h.ge.1 k hk; omega) (fun k hk e => by have := hr k e; have := h.ge.2 k hk; omega)
/-- the cells of an answer are spoilt -/
theorem spoil_res (N : Nat) (q : Int) (u v : Value) (C : List ByteArray) (P : List Pt) (o : ByteArray) (w : World) (h : OwnRes w N q u v C P) :
    Calls Try.prog 26 #[u, .string o] w fun e w' => e = .returned (.tuple #[]) ∧ w.grownBy w' u.ownBlock := by
  rcases h with ⟨_, _, ho⟩ | ⟨_, rfl, _⟩
  · refine spoilS_own N C.length u (stC C) o w ho.rc fun a c e => ?_
    obtain ⟨ao, cap, hv, _, hc, _⟩ := Rd.of_own ho.rc
    rw [hv] at e
    cases e
    unfold maxLen at hc
    omega
  · exact spoilS_nil o w
/-- what stays while the given lists are spoilt -/
structure S9 (w w8 X : World) (Nu Ny No : Nat) (E q r : Int) (ga gb gc gx : Nat) (u u' y y' o o' ux v2 v3 : Value) (Cu Cy Co XA CY CO : List ByteArray) (Pu : List Pt) (ny no : Nat) : Prop where
  ru : OwnRes X Nu E u u' Cu Pu
  ry : OwnRes X Ny q y y' Cy []
  ro : OwnRes X No r o o' Co []
  xa : BoxV X ga [u, u']
  xb : BoxV X gb [y, y']
  xc : BoxV X gc [o, o']
  xx : BoxV X gx [ux, .slice none 0 0]
  rx : X.ownsRow w8.heap.size 9 1 ux XA.length (stC XA)
  r2 : X.ownsRow w8.heap.size 9 1 v2 ny (stC CY)
  r3 : X.ownsRow w8.heap.size 9 1 v3 no (stC CO)
  bl : Below w.heap.size w X
theorem S9.below {w w8 X Y : World} {Nu Ny No : Nat} {E q r : Int} {ga gb gc gx : Nat} {u u' y y' o o' ux v2 v3 : Value} {Cu Cy Co XA CY CO : List ByteArray} {Pu : List Pt} {ny no : Nat} (h : S9 w w8 X Nu Ny No E q r ga gb gc gx u u' y y' o o' ux v2 v3 Cu Cy Co XA CY CO Pu ny no) (hb : Below X.heap.size X Y) : S9 w w8 Y Nu Ny No E q r ga gb gc gx u u' y y' o o' ux v2 v3 Cu Cy Co XA CY CO Pu ny no :=
  ⟨h.ru.below hb, h.ry.below hb, h.ro.below hb, h.xa.below hb, h.xb.below hb, h.xc.below hb, h.xx.below hb, own_below h.rx hb, own_below h.r2 hb, own_below h.r3 hb, h.bl.trans (hb.mono h.bl.size)⟩
theorem S9.spoil {w w8 X Y : World} {Nu Ny No : Nat} {E q r : Int} {ga gb gc gx : Nat} {u u' y y' o o' ux v2 v3 : Value} {Cu Cy Co XA CY CO : List ByteArray} {Pu : List Pt} {ny no : Nat} (h : S9 w w8 X Nu Ny No E q r ga gb gc gx u u' y y' o o' ux v2 v3 Cu Cy Co XA CY CO Pu ny no) {g : Nat} (hg : X.grownBy Y (some g)) (n1 : g < Nu) (n2 : g < Ny) (n3 : g < No) (n4 : g < w8.heap.size) (k1 : g ≠ ga) (k2 : g ≠ gb) (k3 : g ≠ gc) (k4 : g ≠ gx) (k5 : w.heap.size ≤ g) : S9 w w8 Y Nu Ny No E q r ga gb gc gx u u' y y' o o' ux v2 v3 Cu Cy Co XA CY CO Pu ny no := by
  have hk : ∀ {Q : Nat → Prop}, Q g → ∀ k, some g = some k → Q k := fun h k e => (Option.some.inj e) ▸ h
  exact ⟨h.ru.rD hg (hk n1), h.ry.rD hg (hk n2), h.ro.rD hg (hk n3), box_rD h.xa hg (hk k1), box_rD h.xb hg (hk k2), box_rD h.xc hg (hk k3), box_rD h.xx hg (hk k4), own_keptR h.rx hg (hk n4), own_keptR h.r2 hg (hk n4), own_keptR h.r3 hg (hk n4), below_rD h.bl hg (hk k5)⟩
theorem own_neD {w w' : World} {N n size : Nat} {e : TypeId} {v : Value} {xs : List Value} {r : Option Nat} (h : w.ownsRow N e size v n xs) (hg : w.grownBy w' r) (hr : ∀ k, v.ownBlock = some k → r ≠ some k) : w'.ownsRow N e size v n xs :=
  h.kept hg (by
    cases hv : v.ownBlock with
    | none => exact .inl rfl
    | some k => exact .inr (fun e => hr k hv e.symm))
/-- what region 8 makes: a disk in a box, two rows -/
def J8 (W0 X : World) (XA CY CO : List ByteArray) (ny no : Nat) (v1 v2 v3 : Value) : Prop :=
  ∃ gx ux, v1 = .pointer (some ⟨gx, 0, none⟩) ∧ BoxV X gx [ux, .slice none 0 0] ∧ W0.heap.size ≤ gx ∧ X.ownsRow W0.heap.size 9 1 ux XA.length (stC XA) ∧ X.ownsRow W0.heap.size 9 1 v2 ny (stC CY) ∧ X.ownsRow W0.heap.size 9 1 v3 no (stC CO) ∧ Below W0.heap.size W0 X
/-- a row, and that block g is not its own -/
def Rw (W0 Z : World) (g n : Nat) (v : Value) (C : List ByteArray) : Prop := Z.ownsRow W0.heap.size 9 1 v n (stC C) ∧ ∀ k, v.ownBlock = some k → k ≠ g
theorem j8_set {W0 Z : World} {XA CY CO : List ByteArray} {gx ny no : Nat} {a b ux v2 v3 : Value} (hT : BoxV Z gx [a, b]) (hg : W0.heap.size ≤ gx) (h1 : Rw W0 Z gx XA.length ux XA) (h2 : Rw W0 Z gx ny v2 CY) (h3 : Rw W0 Z gx no v3 CO) (hb : Below W0.heap.size W0 Z) :
    J8 W0 ((Z.setCell ⟨gx, 0, none⟩ ux).setCell ⟨gx, 1, none⟩ (.slice none 0 0)) XA CY CO ny no (.pointer (some ⟨gx, 0, none⟩)) v2 v3 := by
  have hgr := but_set (but_set (World.grownBy.refl Z (some gx)) 0 ux) 1 (.slice none 0 0)
  have hk : ∀ {n : Nat} {v : Value} {C : List ByteArray}, Rw W0 Z gx n v C → ((Z.setCell ⟨gx, 0, none⟩ ux).setCell ⟨gx, 1, none⟩ (.slice none 0 0)).ownsRow W0.heap.size 9 1 v n (stC C) := fun h => own_neD h.1 hgr (fun k hk e => h.2 k hk (by first | exact (Option.some.inj e).symm | exact Option.some.inj e))
  exact ⟨gx, ux, rfl, hT.set2D _ _, hg, hk h1, hk h2, hk h3, (hb.setCell (p := ⟨gx, 0, none⟩) hg _).setCell (p := ⟨gx, 1, none⟩) hg _⟩
theorem j8_new {W0 Z : World} {XA CY CO : List ByteArray} {g ny no : Nat} {ux v2 v3 : Value} (h1 : Rw W0 Z g XA.length ux XA) (h2 : Rw W0 Z g ny v2 CY) (h3 : Rw W0 Z g no v3 CO) (hb : Below W0.heap.size W0 Z) :
    J8 W0 (Z.alloc (.cells #[ux, .slice none 0 0] 25)) XA CY CO ny no (.pointer (some ⟨Z.heap.size, 0, none⟩)) v2 v3 :=
  ⟨Z.heap.size, ux, rfl, boxV_new Z _ _, hb.size, h1.1.alloc _, h2.1.alloc _, h3.1.alloc _, hb.alloc hb.size _⟩
theorem J8.drew {W0 X : World} {XA CY CO : List ByteArray} {ny no : Nat} {v1 v2 v3 : Value} (h : J8 W0 X XA CY CO ny no v1 v2 v3) : J8 W0 X.drew XA CY CO ny no v1 v2 v3 := by
  obtain ⟨gx, ux, e, h1, h2, h3, h4, h5, h6⟩ := h
  exact ⟨gx, ux, e, h1.drew, h2, h3, h4, h5, h6.drew⟩
theorem JDk.drew {W0 X : World} {C : List ByteArray} {P : List Pt} {n m : Nat} {v : Value} (h : JDk W0 X C P n m v) : JDk W0 X.drew C P n m v := by
  obtain ⟨gt, gi, gj, e, h1, h2, h3, h4, h5, h6⟩ := h
  exact ⟨gt, gi, gj, e, h1.drew, h2.drew, h3.drew, h4, h5, h6.drew⟩
set_option maxRecDepth 20000 in
set_option maxHeartbeats 6400000 in
theorem diskOwn_walk (a0 : Option Addr) (n c : Nat) (b0 : Option Addr) (m d : Nat) (C : List ByteArray) (P : List Pt) (x : Int) (t : ByteArray) (ak : Option Addr) (k0' kcap : Nat) (K : List Bool) (w : World) (h : DkC w a0 n c b0 m d C P) (_hx : (Lit.int .i64 x).wf = true) (_hs : t.size ≤ maxLen) (zs : t.data.toList.length ≤ reachBytes) (hK : Bos w ak k0' K) :
    Calls Try.prog 5 #[.agg #[.slice a0 n c, .slice b0 m d], .int .i64 x, .string t, .slice ak k0' kcap] w fun e w' => e = .returned (.bool true) ∧ Below w.heap.size w w' := by
  have hm0 := boxV_new w [.slice a0 n c, .slice b0 m d] 25
  have hb0 : Below w.heap.size w (w.alloc (.cells #[.slice a0 n c, .slice b0 m d] 25)) := (Below.refl _ w).alloc (Nat.le_refl _) _
  have hs0 : (w.alloc (.cells #[.slice a0 n c, .slice b0 m d] 25)).heap.size = w.heap.size + 1 := by simp
  obtain ⟨Wa, hWa⟩ : ∃ W, Hid (w.alloc (.cells #[.slice a0 n c, .slice b0 m d] 25) = W) := ⟨_, Hid.mk' rfl⟩
  have ea : w.alloc (.cells [.slice a0 n c, .slice b0 m d].toArray 25) = Wa := hWa.out
  rw [ea] at hm0
  rw [hWa.out] at hb0 hs0
  have hx0 := boxV_new Wa [.int .i64 7, .string ⟨#[109, 97, 114, 107]⟩] 46
  have hb1 : Below Wa.heap.size Wa (Wa.alloc (.cells #[.int .i64 7, .string ⟨#[109, 97, 114, 107]⟩] 46)) := (Below.refl _ Wa).alloc (Nat.le_refl _) _
  have hs1 : (Wa.alloc (.cells #[.int .i64 7, .string ⟨#[109, 97, 114, 107]⟩] 46)).heap.size = w.heap.size + 2 := by simp; omega
  rw [hs0] at hx0
  obtain ⟨W0, hW0⟩ : ∃ W, Hid (Wa.alloc (.cells #[.int .i64 7, .string ⟨#[109, 97, 114, 107]⟩] 46) = W) := ⟨_, Hid.mk' rfl⟩
  have e0 : Wa.alloc (.cells [.int .i64 7, .string ⟨#[109, 97, 114, 107]⟩].toArray 46) = W0 := hW0.out
  rw [e0] at hx0
  rw [hW0.out] at hb1 hs1
  have HM := Hid.mk' (hm0.below hb1)
  have HQ := Hid.mk' hx0
  have HB := Hid.mk' (hb0.trans (hb1.mono hb0.size))
  have HK := Hid.mk' (h.below HB.out)
  have HBo := Hid.mk' (hK.below HB.out)
  have hz := Hid.mk' hs1
  have k0 := HM.out.c 0 _ rfl
  have k1 := HM.out.c 1 _ rfl
  have k2 := HQ.out.c 0 _ rfl
  have k3 := HQ.out.c 1 _ rfl
  have HBd : Hid (Below W0.heap.size W0 W0.drew) := (Below.refl _ W0).drew
  have HBa : Hid (Below W0.heap.size W0 (W0.alloc (.cells #[.slice none 0 0, .slice none 0 0] 25)).drew) := ((Below.refl _ W0).alloc (Nat.le_refl _) _).drew
  have HT0 : Hid (BoxV (W0.alloc (.cells #[.slice none 0 0, .slice none 0 0] 25)).drew W0.heap.size [.slice none 0 0, .slice none 0 0]) := (boxV_new W0 [.slice none 0 0, .slice none 0 0] 25).drew
  have hsd : Hid ((W0.alloc (.cells #[.slice none 0 0, .slice none 0 0] 25)).drew.heap.size = W0.heap.size + 1) := by show (W0.alloc (.cells #[.slice none 0 0, .slice none 0 0] 25)).heap.size = _; simp
  clear h hK hm0 hb0 hs0 hx0 hb1 hs1 e0 ea
  go_enter Try.func5, Try.ntmps5
  go_upto_region 2 with fail
  rw [hWa.out, hW0.out]
  go_cut [10] (fun v wx => JDk W0 wx C P n m v)
  case first =>
    go_region_held3 (fun X => X.cell? ⟨w.heap.size, 0, none⟩ = some (.slice a0 n c) ∧ X.cell? ⟨w.heap.size, 1, none⟩ = some (.slice b0 m d) ∧ X.cell? ⟨w.heap.size + 1, 0, none⟩ = some (.int .i64 7) ∧ X.cell? ⟨w.heap.size + 1, 1, none⟩ = some (.string ⟨#[109, 97, 114, 107]⟩)) (first | with_reducible exact ⟨p0, p1, p2, p3⟩ | with_reducible exact ⟨k0, k1, k2, k3⟩ | with_reducible exact ⟨(HMx.out.alloc _).c 0 _ rfl, (HMx.out.alloc _).c 1 _ rfl, (HQx.out.alloc _).c 0 _ rfl, (HQx.out.alloc _).c 1 _ rfl⟩ | with_reducible exact ⟨cset2D ((HMx.out.alloc _).c 0 _ rfl) (by have := HMx.out.lt; omega) _ _, cset2D ((HMx.out.alloc _).c 1 _ rfl) (by have := HMx.out.lt; omega) _ _, cset2D ((HQx.out.alloc _).c 0 _ rfl) (by have := HQx.out.lt; omega) _ _, cset2D ((HQx.out.alloc _).c 1 _ rfl) (by have := HQx.out.lt; omega) _ _⟩ | with_reducible exact ⟨cset2D p0 hnT _ _, cset2D p1 hnT _ _, cset2D p2 hnQ _ _, cset2D p3 hnQ _ _⟩ | with_reducible exact ⟨(HM.out.alloc _).c 0 _ rfl, (HM.out.alloc _).c 1 _ rfl, (HQ.out.alloc _).c 0 _ rfl, (HQ.out.alloc _).c 1 _ rfl⟩ | with_reducible exact ⟨((HM.out.alloc _).drew).c 0 _ rfl, ((HM.out.alloc _).drew).c 1 _ rfl, ((HQ.out.alloc _).drew).c 0 _ rfl, ((HQ.out.alloc _).drew).c 1 _ rfl⟩ | with_reducible exact ⟨(HM.out.drew.alloc _).c 0 _ rfl, (HM.out.drew.alloc _).c 1 _ rfl, (HQ.out.drew.alloc _).c 0 _ rfl, (HQ.out.drew.alloc _).c 1 _ rfl⟩ | exact ⟨HM.out.drew.c 0 _ rfl, HM.out.drew.c 1 _ rfl, HQ.out.drew.c 0 _ rfl, HQ.out.drew.c 1 _ rfl⟩) (first
      | (go_at_call 17; go_loud (refine (roomySK a0 n c b0 m C P _ (by first | with_reducible exact HK.out.dk.below HBd.out | with_reducible exact HK.out.dk.below HBa.out) HK.out.n0).mono ?_); rintro z w1 ⟨⟨gi, rfl, hbx, hgi⟩, hb⟩; have HIL := Hid.mk' hbx; go_loud (have HB1 : Hid (Below W0.heap.size W0 w1) := Hid.mk' (by first | with_reducible exact HBd.out.trans (hb.mono HBd.out.size) | with_reducible exact HBa.out.trans (hb.mono HBa.out.size))); go_loud (have hgiW : W0.heap.size ≤ gi := (by first | with_reducible exact Nat.le_trans HBd.out.size hgi | with_reducible exact Nat.le_trans HBa.out.size hgi)); (first | (have HT1 : Hid (BoxV w1 W0.heap.size [.slice none 0 0, .slice none 0 0]) := Hid.mk' (by with_reducible exact HT0.out.below hb); have hgT : W0.heap.size ≠ gi := (by have h9 := hgi; rw [hsd.out] at h9; omega)) | skip); clear hb hbx hgi; have HMx := Hid.mk' (HM.out.below HB1.out); have HQx := Hid.mk' (HQ.out.below HB1.out); have p0 := HMx.out.c 0 _ rfl; have p1 := HMx.out.c 1 _ rfl; have p2 := HQx.out.c 0 _ rfl; have p3 := HQx.out.c 1 _ rfl)
      | (go_at_call 18; refine (roomyPK a0 n b0 m d C P _ (by with_reducible exact HK.out.dk.below HB1.out) HK.out.n1).mono ?_; rintro z w2 ⟨⟨gj, rfl, hbx, hgj⟩, hb⟩; have HIN := Hid.mk' hbx; have HB2 : Hid (Below W0.heap.size W0 w2) := Hid.mk' (by with_reducible exact HB1.out.trans (hb.mono HB1.out.size)); have HI2 : Hid (BoxV w2 gi (stC C ++ mk3S mkT 3)) := Hid.mk' (by with_reducible exact HIL.out.below hb); have hgjW : W0.heap.size ≤ gj := (by with_reducible exact Nat.le_trans HB1.out.size hgj); have hgij : gi ≠ gj := (by have := HIL.out.lt; omega); (first | (have HT2 := Hid.mk' (HT1.out.below hb); have hgTj : W0.heap.size ≠ gj := (by have := HT1.out.lt; omega); have t0 := HT2.out.c 0 _ rfl; have t1 := HT2.out.c 1 _ rfl; have tf0 := HT2.out.f 0 (by simp); have tf1 := HT2.out.f 1 (by simp); have hnT : W0.heap.size ≠ w.heap.size := (by have := hz.out; omega); have hnQ : W0.heap.size ≠ w.heap.size + 1 := (by have := hz.out; omega); have HJ := Hid.mk' (jdk_set (n := n) (m := m) HT2.out HI2.out HIN.out hgT hgTj hgij (Nat.le_refl _) hgiW hgjW HB2.out)) | (have HJ := Hid.mk' (jdk_new (n := n) (m := m) HI2.out HIN.out hgij hgiW hgjW HB2.out))); clear hb hbx hgj; have HMx := Hid.mk' (HM.out.below HB2.out); have HQx := Hid.mk' (HQ.out.below HB2.out); have p0 := HMx.out.c 0 _ rfl; have p1 := HMx.out.c 1 _ rfl; have p2 := HQx.out.c 0 _ rfl; have p3 := HQx.out.c 1 _ rfl)
      | (go_at_call 18; have HB1a := HB1.out.alloc HB1.out.size (.cells #[.slice none 0 0, .slice none 0 0] 25); refine (roomyPK a0 n b0 m d C P _ (by with_reducible exact HK.out.dk.below HB1a) HK.out.n1).mono ?_; rintro z w2 ⟨⟨gj, rfl, hbx, hgj⟩, hb⟩; have HIN := Hid.mk' hbx; have HB2 : Hid (Below W0.heap.size W0 w2) := Hid.mk' (by with_reducible exact HB1a.trans (hb.mono HB1a.size)); have HI2 : Hid (BoxV w2 gi (stC C ++ mk3S mkT 3)) := Hid.mk' (by with_reducible exact (HIL.out.alloc _).below hb); have hgjW : W0.heap.size ≤ gj := (by with_reducible exact Nat.le_trans HB1a.size hgj); have h9 : w1.heap.size + 1 ≤ gj := (by simpa using hgj); have hgij : gi ≠ gj := (by have := HIL.out.lt; omega); have HT2 : Hid (BoxV w2 w1.heap.size [.slice none 0 0, .slice none 0 0]) := Hid.mk' ((boxV_new w1 [.slice none 0 0, .slice none 0 0] 25).below hb); have t0 := HT2.out.c 0 _ rfl; have t1 := HT2.out.c 1 _ rfl; have tf0 := HT2.out.f 0 (by simp); have tf1 := HT2.out.f 1 (by simp); have hnT : w1.heap.size ≠ w.heap.size := (by have := hz.out; have := HB1.out.size; omega); have hnQ : w1.heap.size ≠ w.heap.size + 1 := (by have := hz.out; have := HB1.out.size; omega); have HJ := Hid.mk' (jdk_set (n := n) (m := m) HT2.out HI2.out HIN.out (by have := HIL.out.lt; omega) (by omega) hgij HB1.out.size hgiW hgjW HB2.out); clear hb hbx hgj h9; have HMx := Hid.mk' (HM.out.below HB2.out); have HQx := Hid.mk' (HQ.out.below HB2.out); have p0 := HMx.out.c 0 _ rfl; have p1 := HMx.out.c 1 _ rfl; have p2 := HQx.out.c 0 _ rfl; have p3 := HQx.out.c 1 _ rfl)
      | fail)
    all_goals
      go_wp2_with fail
      go_meet
      first | exact HJ.out | exact HJ.out.drew
  case rest =>
    obtain ⟨gt, gi, gj, rfl, hT, hI, hJ, ⟨nti, ntj, nij⟩, ⟨b1, b2, b3⟩, hb⟩ := hcut
    have hs : t.size ≤ 140737488355328 := by
      have h1 : t.size = t.data.toList.length := by rw [Array.length_toList]; rfl
      have h2 := reachBytes_lt
      omega
    have HM1 := Hid.mk' (HM.out.below hb)
    have HQ1 := Hid.mk' (HQ.out.below hb)
    have HK1 := Hid.mk' (HK.out.below hb)
    have HBo1 := Hid.mk' (HBo.out.below hb)
    have HB1 := Hid.mk' (HB.out.trans (hb.mono HB.out.size))
    have HT1 := Hid.mk' hT
    have HI1 := Hid.mk' hI
    have HJ1 := Hid.mk' hJ
    have hz0 := hz.out
    rw [hz0] at b1 b2 b3
    have hgt : gt < wc.heap.size := hT.lt
    have hgi : gi < wc.heap.size := hI.lt
    have hgj : gj < wc.heap.size := hJ.lt
    have HD1 := Hid.mk' (dk_of_room hI hJ HK1.out.dk)
    have t0 := HT1.out.c 0 _ rfl
    have t1 := HT1.out.c 1 _ rfl
    clear hT hI hJ hb hz0 HM HQ HB HK HBo k0 k1 k2 k3 HBd HBa HT0 hsd
    go_wp2_with fail
    -- Write
    refine (dwrite_any (some ⟨gi, 0, none⟩) (some ⟨gj, 0, none⟩) n (n + 3) m (m + 3) C P x t wc HD1.out hs).mono ?_
    rintro e w3 ⟨hans, hb⟩
    obtain ⟨u0, un, uc, u1, um, ud, rfl, hres⟩ := ores_of_ans hans (fun h0 => ok_wrDO h0)
    have hbx : Below w3.heap.size w3 (w3.alloc (.cells #[.slice u0 un uc, .slice u1 um ud] 25)) := (Below.refl _ w3).alloc (Nat.le_refl _) _
    have hbb := hb.trans (hbx.mono hb.size)
    have HRu3 := Hid.mk' (hres.below hbx)
    have hLu := hres.lts.1
    have hnew := boxV_new w3 [.slice u0 un uc, .slice u1 um ud] 25
    have HM3 := Hid.mk' (HM1.out.below hbb)
    have HQ3 := Hid.mk' (HQ1.out.below hbb)
    have HK3 := Hid.mk' (HK1.out.below hbb)
    have HBo3 := Hid.mk' (HBo1.out.below hbb)
    have HT3 := Hid.mk' (HT1.out.below hbb)
    have HI3 := Hid.mk' (HI1.out.below hbb)
    have HJ3 := Hid.mk' (HJ1.out.below hbb)
    have HB3 := Hid.mk' (HB1.out.trans (hbb.mono HB1.out.size))
    have hs3 : (w3.alloc (.cells #[.slice u0 un uc, .slice u1 um ud] 25)).heap.size = w3.heap.size + 1 := by simp
    have hz3 := hb.size
    obtain ⟨W3, hW3⟩ : ∃ W, Hid (w3.alloc (.cells #[.slice u0 un uc, .slice u1 um ud] 25) = W) := ⟨_, Hid.mk' rfl⟩
    have e3 : w3.alloc (.cells [.slice u0 un uc, .slice u1 um ud].toArray 25) = W3 := hW3.out
    rw [e3] at hnew
    rw [hW3.out] at HRu3 HM3 HQ3 HK3 HBo3 HT3 HI3 HJ3 HB3 hs3
    obtain ⟨ga, hga⟩ : ∃ g, Hid (w3.heap.size = g) := ⟨_, Hid.mk' rfl⟩
    rw [hga.out] at hnew hs3 hz3 hLu
    have HLu := Hid.mk' hLu
    clear hLu
    have HXga3 := Hid.mk' hnew
    have HD3 := Hid.mk' (dk_of_room HI3.out HJ3.out HK3.out.dk)
    clear hans hb hres hbx hbb hnew e3
    clear t0 t1
    have t0 := HT3.out.c 0 _ rfl
    have t1 := HT3.out.c 1 _ rfl
    rw [← hW3.out] at t0 t1
    go_wp2_with fail
    rw [hW3.out, hga.out]
    -- Sync
    refine (dsync_any (some ⟨gi, 0, none⟩) (some ⟨gj, 0, none⟩) n (n + 3) m (m + 3) C P W3 HD3.out).mono ?_
    rintro e w4 ⟨hans, hb⟩
    obtain ⟨y0, yn, yc, y1, ym, yd, rfl, hres⟩ := ores_of_ans hans (fun h0 => ok_land (chkD_ok h0) allL)
    have hbx : Below w4.heap.size w4 (w4.alloc (.cells #[.slice y0 yn yc, .slice y1 ym yd] 25)) := (Below.refl _ w4).alloc (Nat.le_refl _) _
    have hbb := hb.trans (hbx.mono hb.size)
    have HRy4 := Hid.mk' (hres.below hbx)
    have hLy := hres.lts.1
    have hnew := boxV_new w4 [.slice y0 yn yc, .slice y1 ym yd] 25
    have HM4 := Hid.mk' (HM3.out.below hbb)
    have HQ4 := Hid.mk' (HQ3.out.below hbb)
    have HK4 := Hid.mk' (HK3.out.below hbb)
    have HBo4 := Hid.mk' (HBo3.out.below hbb)
    have HT4 := Hid.mk' (HT3.out.below hbb)
    have HI4 := Hid.mk' (HI3.out.below hbb)
    have HJ4 := Hid.mk' (HJ3.out.below hbb)
    have HRu4 := Hid.mk' (HRu3.out.below hbb)
    have HXga4 := Hid.mk' (HXga3.out.below hbb)
    have HB4 := Hid.mk' (HB3.out.trans (hbb.mono HB3.out.size))
    have hs4 : (w4.alloc (.cells #[.slice y0 yn yc, .slice y1 ym yd] 25)).heap.size = w4.heap.size + 1 := by simp
    have hz4 := hb.size
    obtain ⟨W4, hW4⟩ : ∃ W, Hid (w4.alloc (.cells #[.slice y0 yn yc, .slice y1 ym yd] 25) = W) := ⟨_, Hid.mk' rfl⟩
    have e4 : w4.alloc (.cells [.slice y0 yn yc, .slice y1 ym yd].toArray 25) = W4 := hW4.out
    rw [e4] at hnew
    rw [hW4.out] at HRy4 HM4 HQ4 HK4 HBo4 HT4 HI4 HJ4 HRu4 HXga4 HB4 hs4
    obtain ⟨gb, hgb⟩ : ∃ g, Hid (w4.heap.size = g) := ⟨_, Hid.mk' rfl⟩
    rw [hgb.out] at hnew hs4 hz4 hLy
    have HLy := Hid.mk' hLy
    clear hLy
    have HXgb4 := Hid.mk' hnew
    have HD4 := Hid.mk' (dk_of_room HI4.out HJ4.out HK4.out.dk)
    clear hans hb hres hbx hbb hnew e4
    clear t0 t1
    have t0 := HT4.out.c 0 _ rfl
    have t1 := HT4.out.c 1 _ rfl
    rw [← hW4.out] at t0 t1
    go_wp2_with fail
    rw [hW4.out, hgb.out]
    -- Crash
    refine (dcrash_any (some ⟨gi, 0, none⟩) (some ⟨gj, 0, none⟩) n (n + 3) m (m + 3) C P K k0' kcap ak W4 HD4.out HBo4.out HBo4.out.low).mono ?_
    rintro e w5 ⟨hans, hb⟩
    obtain ⟨o0, on, oc, o1, om, od, rfl, hres⟩ := ores_of_ans hans (fun h0 => ok_land (chkD_ok h0) (keepL K))
    have hbx : Below w5.heap.size w5 (w5.alloc (.cells #[.slice o0 on oc, .slice o1 om od] 25)) := (Below.refl _ w5).alloc (Nat.le_refl _) _
    have hbb := hb.trans (hbx.mono hb.size)
    have HRo5 := Hid.mk' (hres.below hbx)
    have hnew := boxV_new w5 [.slice o0 on oc, .slice o1 om od] 25
    have HM5 := Hid.mk' (HM4.out.below hbb)
    have HQ5 := Hid.mk' (HQ4.out.below hbb)
    have HK5 := Hid.mk' (HK4.out.below hbb)
    have HBo5 := Hid.mk' (HBo4.out.below hbb)
    have HT5 := Hid.mk' (HT4.out.below hbb)
    have HI5 := Hid.mk' (HI4.out.below hbb)
    have HJ5 := Hid.mk' (HJ4.out.below hbb)
    have HRu5 := Hid.mk' (HRu4.out.below hbb)
    have HXga5 := Hid.mk' (HXga4.out.below hbb)
    have HRy5 := Hid.mk' (HRy4.out.below hbb)
    have HXgb5 := Hid.mk' (HXgb4.out.below hbb)
    have HB5 := Hid.mk' (HB4.out.trans (hbb.mono HB4.out.size))
    have hs5 : (w5.alloc (.cells #[.slice o0 on oc, .slice o1 om od] 25)).heap.size = w5.heap.size + 1 := by simp
    have hz5 := hb.size
    obtain ⟨W5, hW5⟩ : ∃ W, Hid (w5.alloc (.cells #[.slice o0 on oc, .slice o1 om od] 25) = W) := ⟨_, Hid.mk' rfl⟩
    have e5 : w5.alloc (.cells [.slice o0 on oc, .slice o1 om od].toArray 25) = W5 := hW5.out
    rw [e5] at hnew
    rw [hW5.out] at HRo5 HM5 HQ5 HK5 HBo5 HT5 HI5 HJ5 HRu5 HXga5 HRy5 HXgb5 HB5 hs5
    obtain ⟨gc, hgc⟩ : ∃ g, Hid (w5.heap.size = g) := ⟨_, Hid.mk' rfl⟩
    rw [hgc.out] at hnew hs5 hz5
    have HXgc5 := Hid.mk' hnew
    have HD5 := Hid.mk' (dk_of_room HI5.out HJ5.out HK5.out.dk)
    clear hans hb hres hbx hbb hnew e5
    clear t0 t1
    have t0 := HT5.out.c 0 _ rfl
    have t1 := HT5.out.c 1 _ rfl
    have k0 := HM5.out.c 0 _ rfl
    have k1 := HM5.out.c 1 _ rfl
    rw [← hW5.out] at t0 t1 k0 k1
    go_wp2_with fail
    rw [hW5.out, hgc.out]
    refine (sameDk_any (some ⟨gi, 0, none⟩) (some ⟨gj, 0, none⟩) n (n + 3) m (m + 3) C P a0 b0 n c m d C P W5 HD5.out HK5.out.dk).mono ?_
    rintro e w6 ⟨⟨b, rfl, hbt⟩, hb⟩
    rw [hbt.yes ⟨rfl, rfl⟩]
    have HK6 := Hid.mk' (HK5.out.below hb)
    have HQ6 := Hid.mk' (HQ5.out.below hb)
    have HT6 := Hid.mk' (HT5.out.below hb)
    have HI6 := Hid.mk' (HI5.out.below hb)
    have HJ6 := Hid.mk' (HJ5.out.below hb)
    have HRu6 := Hid.mk' (HRu5.out.below hb)
    have HXga6 := Hid.mk' (HXga5.out.below hb)
    have HRy6 := Hid.mk' (HRy5.out.below hb)
    have HXgb6 := Hid.mk' (HXgb5.out.below hb)
    have HRo6 := Hid.mk' (HRo5.out.below hb)
    have HXgc6 := Hid.mk' (HXgc5.out.below hb)
    have HB6 := Hid.mk' (HB5.out.trans (hb.mono HB5.out.size))
    clear hb
    clear hbt t0 t1 k0 k1
    have t0 := HT6.out.c 0 _ rfl
    go_wp2_with fail
    refine (filledSK gi n C w6 HI6.out HK6.out.dk.nC HK6.out.dk.nB).mono ?_
    rintro e w7 ⟨rfl, hb⟩
    have HK7 := Hid.mk' (HK6.out.below hb)
    have HQ7 := Hid.mk' (HQ6.out.below hb)
    have HT7 := Hid.mk' (HT6.out.below hb)
    have HI7 := Hid.mk' (HI6.out.below hb)
    have HJ7 := Hid.mk' (HJ6.out.below hb)
    have HRu7 := Hid.mk' (HRu6.out.below hb)
    have HXga7 := Hid.mk' (HXga6.out.below hb)
    have HRy7 := Hid.mk' (HRy6.out.below hb)
    have HXgb7 := Hid.mk' (HXgb6.out.below hb)
    have HRo7 := Hid.mk' (HRo6.out.below hb)
    have HXgc7 := Hid.mk' (HXgc6.out.below hb)
    have HB7 := Hid.mk' (HB6.out.trans (hb.mono HB6.out.size))
    clear hb
    clear t0
    have t1 := HT7.out.c 1 _ rfl
    have p0 := HQ7.out.c 0 _ rfl
    have p1 := HQ7.out.c 1 _ rfl
    go_wp2_with fail
    refine (filledPK gj m P w7 HJ7.out HK7.out.dk.mP HK7.out.dk.mB).mono ?_
    rintro e w8 ⟨rfl, hb⟩
    have HK8 := Hid.mk' (HK7.out.below hb)
    have HQ8 := Hid.mk' (HQ7.out.below hb)
    have HT8 := Hid.mk' (HT7.out.below hb)
    have HI8 := Hid.mk' (HI7.out.below hb)
    have HJ8 := Hid.mk' (HJ7.out.below hb)
    have HRu8 := Hid.mk' (HRu7.out.below hb)
    have HXga8 := Hid.mk' (HXga7.out.below hb)
    have HRy8 := Hid.mk' (HRy7.out.below hb)
    have HXgb8 := Hid.mk' (HXgb7.out.below hb)
    have HRo8 := Hid.mk' (HRo7.out.below hb)
    have HXgc8 := Hid.mk' (HXgc7.out.below hb)
    have HB8 := Hid.mk' (HB7.out.trans (hb.mono HB7.out.size))
    clear hb
    clear t1 p0 p1
    go_wp2_with fail
    have hDa0 := HRu8.out.dk
    obtain ⟨CA, hCA⟩ : ∃ c, Hid ((if wrD C P ⟨x, t⟩ = 0 then C else []) = c) := ⟨_, Hid.mk' rfl⟩
    obtain ⟨PA, hPA⟩ : ∃ c, Hid ((if wrD C P ⟨x, t⟩ = 0 then P ++ [⟨x, t⟩] else []) = c) := ⟨_, Hid.mk' rfl⟩
    rw [hCA.out, hPA.out] at hDa0
    have hDa := Hid.mk' hDa0
    have hpa : Hid (∀ p ∈ PA, 0 ≤ p.pl) := fun p hp => by
      rw [← hPA.out] at hp
      split at hp
      · next h0 => exact (putE_zero ((ok_wrDO h0).ps p hp)).1
      · cases hp
    have hDy0 := HRy8.out.dk
    obtain ⟨CY, hCY⟩ : ∃ c, Hid ((if chkD C P = 0 then landL allL P 0 C else []) = c) := ⟨_, Hid.mk' rfl⟩
    rw [hCY.out] at hDy0
    have hDy := Hid.mk' hDy0
    have hDo0 := HRo8.out.dk
    obtain ⟨CO, hCO⟩ : ∃ c, Hid ((if chkD C P = 0 then landL (keepL K) P 0 C else []) = c) := ⟨_, Hid.mk' rfl⟩
    rw [hCO.out] at hDo0
    have hDo := Hid.mk' hDo0
    clear hDa0 hDy0 hDo0
    have HBd0 : Hid (Below w8.heap.size w8 w8) := Below.refl _ _
    have s0 := HXga8.out.c 0 _ rfl
    have s1 := HXga8.out.c 1 _ rfl
    have s2 := HXgb8.out.c 0 _ rfl
    have s3 := HXgc8.out.c 0 _ rfl
    have tokA : True := trivial
    have tokB : True := trivial
    go_cut [17, 18, 19] (fun v1 v2 v3 wx => J8 w8 wx (landL allL PA 0 CA) CY CO yn on v1 v2 v3)
    case first =>
      go_region_held3 (fun X => X.cell? ⟨ga, 0, none⟩ = some (.slice u0 un uc) ∧ X.cell? ⟨ga, 1, none⟩ = some (.slice u1 um ud) ∧ X.cell? ⟨gb, 0, none⟩ = some (.slice y0 yn yc) ∧ X.cell? ⟨gc, 0, none⟩ = some (.slice o0 on oc)) (first | with_reducible exact ⟨s0, s1, s2, s3⟩ | with_reducible exact ⟨(HXga8.out.below (HBd3.out)).c 0 _ rfl, (HXga8.out.below (HBd3.out)).c 1 _ rfl, (HXgb8.out.below (HBd3.out)).c 0 _ rfl, (HXgc8.out.below (HBd3.out)).c 0 _ rfl⟩ | with_reducible exact ⟨(HXga8.out.below (HBd3.out.drew)).c 0 _ rfl, (HXga8.out.below (HBd3.out.drew)).c 1 _ rfl, (HXgb8.out.below (HBd3.out.drew)).c 0 _ rfl, (HXgc8.out.below (HBd3.out.drew)).c 0 _ rfl⟩ | with_reducible exact ⟨(HXga8.out.below ((HBd3.out.alloc HBd3.out.size _).drew)).c 0 _ rfl, (HXga8.out.below ((HBd3.out.alloc HBd3.out.size _).drew)).c 1 _ rfl, (HXgb8.out.below ((HBd3.out.alloc HBd3.out.size _).drew)).c 0 _ rfl, (HXgc8.out.below ((HBd3.out.alloc HBd3.out.size _).drew)).c 0 _ rfl⟩ | with_reducible exact ⟨(HXga8.out.below ((HBd3.out.alloc HBd3.out.size _))).c 0 _ rfl, (HXga8.out.below ((HBd3.out.alloc HBd3.out.size _))).c 1 _ rfl, (HXgb8.out.below ((HBd3.out.alloc HBd3.out.size _))).c 0 _ rfl, (HXgc8.out.below ((HBd3.out.alloc HBd3.out.size _))).c 0 _ rfl⟩ | with_reducible exact ⟨(HXga8.out.below ((HBd3.out.drew.alloc HBd3.out.size _))).c 0 _ rfl, (HXga8.out.below ((HBd3.out.drew.alloc HBd3.out.size _))).c 1 _ rfl, (HXgb8.out.below ((HBd3.out.drew.alloc HBd3.out.size _))).c 0 _ rfl, (HXgc8.out.below ((HBd3.out.drew.alloc HBd3.out.size _))).c 0 _ rfl⟩ | with_reducible exact ⟨(HXga8.out.below ((HBd3.out.setCell (by first | with_reducible exact Nat.le_refl _ | with_reducible exact HBd1.out.size | with_reducible exact HBd2.out.size | with_reducible exact HBd3.out.size) _).setCell (by first | with_reducible exact Nat.le_refl _ | with_reducible exact HBd1.out.size | with_reducible exact HBd2.out.size | with_reducible exact HBd3.out.size) _)).c 0 _ rfl, (HXga8.out.below ((HBd3.out.setCell (by first | with_reducible exact Nat.le_refl _ | with_reducible exact HBd1.out.size | with_reducible exact HBd2.out.size | with_reducible exact HBd3.out.size) _).setCell (by first | with_reducible exact Nat.le_refl _ | with_reducible exact HBd1.out.size | with_reducible exact HBd2.out.size | with_reducible exact HBd3.out.size) _)).c 1 _ rfl, (HXgb8.out.below ((HBd3.out.setCell (by first | with_reducible exact Nat.le_refl _ | with_reducible exact HBd1.out.size | with_reducible exact HBd2.out.size | with_reducible exact HBd3.out.size) _).setCell (by first | with_reducible exact Nat.le_refl _ | with_reducible exact HBd1.out.size | with_reducible exact HBd2.out.size | with_reducible exact HBd3.out.size) _)).c 0 _ rfl, (HXgc8.out.below ((HBd3.out.setCell (by first | with_reducible exact Nat.le_refl _ | with_reducible exact HBd1.out.size | with_reducible exact HBd2.out.size | with_reducible exact HBd3.out.size) _).setCell (by first | with_reducible exact Nat.le_refl _ | with_reducible exact HBd1.out.size | with_reducible exact HBd2.out.size | with_reducible exact HBd3.out.size) _)).c 0 _ rfl⟩ | with_reducible exact ⟨(HXga8.out.below ((HBd3.out.drew.setCell (by first | with_reducible exact Nat.le_refl _ | with_reducible exact HBd1.out.size | with_reducible exact HBd2.out.size | with_reducible exact HBd3.out.size) _).setCell (by first | with_reducible exact Nat.le_refl _ | with_reducible exact HBd1.out.size | with_reducible exact HBd2.out.size | with_reducible exact HBd3.out.size) _)).c 0 _ rfl, (HXga8.out.below ((HBd3.out.drew.setCell (by first | with_reducible exact Nat.le_refl _ | with_reducible exact HBd1.out.size | with_reducible exact HBd2.out.size | with_reducible exact HBd3.out.size) _).setCell (by first | with_reducible exact Nat.le_refl _ | with_reducible exact HBd1.out.size | with_reducible exact HBd2.out.size | with_reducible exact HBd3.out.size) _)).c 1 _ rfl, (HXgb8.out.below ((HBd3.out.drew.setCell (by first | with_reducible exact Nat.le_refl _ | with_reducible exact HBd1.out.size | with_reducible exact HBd2.out.size | with_reducible exact HBd3.out.size) _).setCell (by first | with_reducible exact Nat.le_refl _ | with_reducible exact HBd1.out.size | with_reducible exact HBd2.out.size | with_reducible exact HBd3.out.size) _)).c 0 _ rfl, (HXgc8.out.below ((HBd3.out.drew.setCell (by first | with_reducible exact Nat.le_refl _ | with_reducible exact HBd1.out.size | with_reducible exact HBd2.out.size | with_reducible exact HBd3.out.size) _).setCell (by first | with_reducible exact Nat.le_refl _ | with_reducible exact HBd1.out.size | with_reducible exact HBd2.out.size | with_reducible exact HBd3.out.size) _)).c 0 _ rfl⟩ | with_reducible exact ⟨(HXga8.out.below (((HBd3.out.alloc HBd3.out.size _).drew.setCell (by first | with_reducible exact Nat.le_refl _ | with_reducible exact HBd1.out.size | with_reducible exact HBd2.out.size | with_reducible exact HBd3.out.size) _).setCell (by first | with_reducible exact Nat.le_refl _ | with_reducible exact HBd1.out.size | with_reducible exact HBd2.out.size | with_reducible exact HBd3.out.size) _)).c 0 _ rfl, (HXga8.out.below (((HBd3.out.alloc HBd3.out.size _).drew.setCell (by first | with_reducible exact Nat.le_refl _ | with_reducible exact HBd1.out.size | with_reducible exact HBd2.out.size | with_reducible exact HBd3.out.size) _).setCell (by first | with_reducible exact Nat.le_refl _ | with_reducible exact HBd1.out.size | with_reducible exact HBd2.out.size | with_reducible exact HBd3.out.size) _)).c 1 _ rfl, (HXgb8.out.below (((HBd3.out.alloc HBd3.out.size _).drew.setCell (by first | with_reducible exact Nat.le_refl _ | with_reducible exact HBd1.out.size | with_reducible exact HBd2.out.size | with_reducible exact HBd3.out.size) _).setCell (by first | with_reducible exact Nat.le_refl _ | with_reducible exact HBd1.out.size | with_reducible exact HBd2.out.size | with_reducible exact HBd3.out.size) _)).c 0 _ rfl, (HXgc8.out.below (((HBd3.out.alloc HBd3.out.size _).drew.setCell (by first | with_reducible exact Nat.le_refl _ | with_reducible exact HBd1.out.size | with_reducible exact HBd2.out.size | with_reducible exact HBd3.out.size) _).setCell (by first | with_reducible exact Nat.le_refl _ | with_reducible exact HBd1.out.size | with_reducible exact HBd2.out.size | with_reducible exact HBd3.out.size) _)).c 0 _ rfl⟩ | with_reducible exact ⟨(HXga8.out.below (((HBd3.out.alloc HBd3.out.size _).setCell (by first | with_reducible exact Nat.le_refl _ | with_reducible exact HBd1.out.size | with_reducible exact HBd2.out.size | with_reducible exact HBd3.out.size) _).setCell (by first | with_reducible exact Nat.le_refl _ | with_reducible exact HBd1.out.size | with_reducible exact HBd2.out.size | with_reducible exact HBd3.out.size) _)).c 0 _ rfl, (HXga8.out.below (((HBd3.out.alloc HBd3.out.size _).setCell (by first | with_reducible exact Nat.le_refl _ | with_reducible exact HBd1.out.size | with_reducible exact HBd2.out.size | with_reducible exact HBd3.out.size) _).setCell (by first | with_reducible exact Nat.le_refl _ | with_reducible exact HBd1.out.size | with_reducible exact HBd2.out.size | with_reducible exact HBd3.out.size) _)).c 1 _ rfl, (HXgb8.out.below (((HBd3.out.alloc HBd3.out.size _).setCell (by first | with_reducible exact Nat.le_refl _ | with_reducible exact HBd1.out.size | with_reducible exact HBd2.out.size | with_reducible exact HBd3.out.size) _).setCell (by first | with_reducible exact Nat.le_refl _ | with_reducible exact HBd1.out.size | with_reducible exact HBd2.out.size | with_reducible exact HBd3.out.size) _)).c 0 _ rfl, (HXgc8.out.below (((HBd3.out.alloc HBd3.out.size _).setCell (by first | with_reducible exact Nat.le_refl _ | with_reducible exact HBd1.out.size | with_reducible exact HBd2.out.size | with_reducible exact HBd3.out.size) _).setCell (by first | with_reducible exact Nat.le_refl _ | with_reducible exact HBd1.out.size | with_reducible exact HBd2.out.size | with_reducible exact HBd3.out.size) _)).c 0 _ rfl⟩ | with_reducible exact ⟨(HXga8.out.below (((HBd3.out.drew.alloc HBd3.out.size _).setCell (by first | with_reducible exact Nat.le_refl _ | with_reducible exact HBd1.out.size | with_reducible exact HBd2.out.size | with_reducible exact HBd3.out.size) _).setCell (by first | with_reducible exact Nat.le_refl _ | with_reducible exact HBd1.out.size | with_reducible exact HBd2.out.size | with_reducible exact HBd3.out.size) _)).c 0 _ rfl, (HXga8.out.below (((HBd3.out.drew.alloc HBd3.out.size _).setCell (by first | with_reducible exact Nat.le_refl _ | with_reducible exact HBd1.out.size | with_reducible exact HBd2.out.size | with_reducible exact HBd3.out.size) _).setCell (by first | with_reducible exact Nat.le_refl _ | with_reducible exact HBd1.out.size | with_reducible exact HBd2.out.size | with_reducible exact HBd3.out.size) _)).c 1 _ rfl, (HXgb8.out.below (((HBd3.out.drew.alloc HBd3.out.size _).setCell (by first | with_reducible exact Nat.le_refl _ | with_reducible exact HBd1.out.size | with_reducible exact HBd2.out.size | with_reducible exact HBd3.out.size) _).setCell (by first | with_reducible exact Nat.le_refl _ | with_reducible exact HBd1.out.size | with_reducible exact HBd2.out.size | with_reducible exact HBd3.out.size) _)).c 0 _ rfl, (HXgc8.out.below (((HBd3.out.drew.alloc HBd3.out.size _).setCell (by first | with_reducible exact Nat.le_refl _ | with_reducible exact HBd1.out.size | with_reducible exact HBd2.out.size | with_reducible exact HBd3.out.size) _).setCell (by first | with_reducible exact Nat.le_refl _ | with_reducible exact HBd1.out.size | with_reducible exact HBd2.out.size | with_reducible exact HBd3.out.size) _)).c 0 _ rfl⟩ | with_reducible exact ⟨(HXga8.out.below (HBd2.out)).c 0 _ rfl, (HXga8.out.below (HBd2.out)).c 1 _ rfl, (HXgb8.out.below (HBd2.out)).c 0 _ rfl, (HXgc8.out.below (HBd2.out)).c 0 _ rfl⟩ | with_reducible exact ⟨(HXga8.out.below (HBd2.out.drew)).c 0 _ rfl, (HXga8.out.below (HBd2.out.drew)).c 1 _ rfl, (HXgb8.out.below (HBd2.out.drew)).c 0 _ rfl, (HXgc8.out.below (HBd2.out.drew)).c 0 _ rfl⟩ | with_reducible exact ⟨(HXga8.out.below ((HBd2.out.alloc HBd2.out.size _).drew)).c 0 _ rfl, (HXga8.out.below ((HBd2.out.alloc HBd2.out.size _).drew)).c 1 _ rfl, (HXgb8.out.below ((HBd2.out.alloc HBd2.out.size _).drew)).c 0 _ rfl, (HXgc8.out.below ((HBd2.out.alloc HBd2.out.size _).drew)).c 0 _ rfl⟩ | with_reducible exact ⟨(HXga8.out.below ((HBd2.out.alloc HBd2.out.size _))).c 0 _ rfl, (HXga8.out.below ((HBd2.out.alloc HBd2.out.size _))).c 1 _ rfl, (HXgb8.out.below ((HBd2.out.alloc HBd2.out.size _))).c 0 _ rfl, (HXgc8.out.below ((HBd2.out.alloc HBd2.out.size _))).c 0 _ rfl⟩ | with_reducible exact ⟨(HXga8.out.below ((HBd2.out.drew.alloc HBd2.out.size _))).c 0 _ rfl, (HXga8.out.below ((HBd2.out.drew.alloc HBd2.out.size _))).c 1 _ rfl, (HXgb8.out.below ((HBd2.out.drew.alloc HBd2.out.size _))).c 0 _ rfl, (HXgc8.out.below ((HBd2.out.drew.alloc HBd2.out.size _))).c 0 _ rfl⟩ | with_reducible exact ⟨(HXga8.out.below ((HBd2.out.setCell (by first | with_reducible exact Nat.le_refl _ | with_reducible exact HBd1.out.size | with_reducible exact HBd2.out.size | with_reducible exact HBd3.out.size) _).setCell (by first | with_reducible exact Nat.le_refl _ | with_reducible exact HBd1.out.size | with_reducible exact HBd2.out.size | with_reducible exact HBd3.out.size) _)).c 0 _ rfl, (HXga8.out.below ((HBd2.out.setCell (by first | with_reducible exact Nat.le_refl _ | with_reducible exact HBd1.out.size | with_reducible exact HBd2.out.size | with_reducible exact HBd3.out.size) _).setCell (by first | with_reducible exact Nat.le_refl _ | with_reducible exact HBd1.out.size | with_reducible exact HBd2.out.size | with_reducible exact HBd3.out.size) _)).c 1 _ rfl, (HXgb8.out.below ((HBd2.out.setCell (by first | with_reducible exact Nat.le_refl _ | with_reducible exact HBd1.out.size | with_reducible exact HBd2.out.size | with_reducible exact HBd3.out.size) _).setCell (by first | with_reducible exact Nat.le_refl _ | with_reducible exact HBd1.out.size | with_reducible exact HBd2.out.size | with_reducible exact HBd3.out.size) _)).c 0 _ rfl, (HXgc8.out.below ((HBd2.out.setCell (by first | with_reducible exact Nat.le_refl _ | with_reducible exact HBd1.out.size | with_reducible exact HBd2.out.size | with_reducible exact HBd3.out.size) _).setCell (by first | with_reducible exact Nat.le_refl _ | with_reducible exact HBd1.out.size | with_reducible exact HBd2.out.size | with_reducible exact HBd3.out.size) _)).c 0 _ rfl⟩ | with_reducible exact ⟨(HXga8.out.below ((HBd2.out.drew.setCell (by first | with_reducible exact Nat.le_refl _ | with_reducible exact HBd1.out.size | with_reducible exact HBd2.out.size | with_reducible exact HBd3.out.size) _).setCell (by first | with_reducible exact Nat.le_refl _ | with_reducible exact HBd1.out.size | with_reducible exact HBd2.out.size | with_reducible exact HBd3.out.size) _)).c 0 _ rfl, (HXga8.out.below ((HBd2.out.drew.setCell (by first | with_reducible exact Nat.le_refl _ | with_reducible exact HBd1.out.size | with_reducible exact HBd2.out.size | with_reducible exact HBd3.out.size) _).setCell (by first | with_reducible exact Nat.le_refl _ | with_reducible exact HBd1.out.size | with_reducible exact HBd2.out.size | with_reducible exact HBd3.out.size) _)).c 1 _ rfl, (HXgb8.out.below ((HBd2.out.drew.setCell (by first | with_reducible exact Nat.le_refl _ | with_reducible exact HBd1.out.size | with_reducible exact HBd2.out.size | with_reducible exact HBd3.out.size) _).setCell (by first | with_reducible exact Nat.le_refl _ | with_reducible exact HBd1.out.size | with_reducible exact HBd2.out.size | with_reducible exact HBd3.out.size) _)).c 0 _ rfl, (HXgc8.out.below ((HBd2.out.drew.setCell (by first | with_reducible exact Nat.le_refl _ | with_reducible exact HBd1.out.size | with_reducible exact HBd2.out.size | with_reducible exact HBd3.out.size) _).setCell (by first | with_reducible exact Nat.le_refl _ | with_reducible exact HBd1.out.size | with_reducible exact HBd2.out.size | with_reducible exact HBd3.out.size) _)).c 0 _ rfl⟩ | with_reducible exact ⟨(HXga8.out.below (((HBd2.out.alloc HBd2.out.size _).drew.setCell (by first | with_reducible exact Nat.le_refl _ | with_reducible exact HBd1.out.size | with_reducible exact HBd2.out.size | with_reducible exact HBd3.out.size) _).setCell (by first | with_reducible exact Nat.le_refl _ | with_reducible exact HBd1.out.size | with_reducible exact HBd2.out.size | with_reducible exact HBd3.out.size) _)).c 0 _ rfl, (HXga8.out.below (((HBd2.out.alloc HBd2.out.size _).drew.setCell (by first | with_reducible exact Nat.le_refl _ | with_reducible exact HBd1.out.size | with_reducible exact HBd2.out.size | with_reducible exact HBd3.out.size) _).setCell (by first | with_reducible exact Nat.le_refl _ | with_reducible exact HBd1.out.size | with_reducible exact HBd2.out.size | with_reducible exact HBd3.out.size) _)).c 1 _ rfl, (HXgb8.out.below (((HBd2.out.alloc HBd2.out.size _).drew.setCell (by first | with_reducible exact Nat.le_refl _ | with_reducible exact HBd1.out.size | with_reducible exact HBd2.out.size | with_reducible exact HBd3.out.size) _).setCell (by first | with_reducible exact Nat.le_refl _ | with_reducible exact HBd1.out.size | with_reducible exact HBd2.out.size | with_reducible exact HBd3.out.size) _)).c 0 _ rfl, (HXgc8.out.below (((HBd2.out.alloc HBd2.out.size _).drew.setCell (by first | with_reducible exact Nat.le_refl _ | with_reducible exact HBd1.out.size | with_reducible exact HBd2.out.size | with_reducible exact HBd3.out.size) _).setCell (by first | with_reducible exact Nat.le_refl _ | with_reducible exact HBd1.out.size | with_reducible exact HBd2.out.size | with_reducible exact HBd3.out.size) _)).c 0 _ rfl⟩ | with_reducible exact ⟨(HXga8.out.below (((HBd2.out.alloc HBd2.out.size _).setCell (by first | with_reducible exact Nat.le_refl _ | with_reducible exact HBd1.out.size | with_reducible exact HBd2.out.size | with_reducible exact HBd3.out.size) _).setCell (by first | with_reducible exact Nat.le_refl _ | with_reducible exact HBd1.out.size | with_reducible exact HBd2.out.size | with_reducible exact HBd3.out.size) _)).c 0 _ rfl, (HXga8.out.below (((HBd2.out.alloc HBd2.out.size _).setCell (by first | with_reducible exact Nat.le_refl _ | with_reducible exact HBd1.out.size | with_reducible exact HBd2.out.size | with_reducible exact HBd3.out.size) _).setCell (by first | with_reducible exact Nat.le_refl _ | with_reducible exact HBd1.out.size | with_reducible exact HBd2.out.size | with_reducible exact HBd3.out.size) _)).c 1 _ rfl, (HXgb8.out.below (((HBd2.out.alloc HBd2.out.size _).setCell (by first | with_reducible exact Nat.le_refl _ | with_reducible exact HBd1.out.size | with_reducible exact HBd2.out.size | with_reducible exact HBd3.out.size) _).setCell (by first | with_reducible exact Nat.le_refl _ | with_reducible exact HBd1.out.size | with_reducible exact HBd2.out.size | with_reducible exact HBd3.out.size) _)).c 0 _ rfl, (HXgc8.out.below (((HBd2.out.alloc HBd2.out.size _).setCell (by first | with_reducible exact Nat.le_refl _ | with_reducible exact HBd1.out.size | with_reducible exact HBd2.out.size | with_reducible exact HBd3.out.size) _).setCell (by first | with_reducible exact Nat.le_refl _ | with_reducible exact HBd1.out.size | with_reducible exact HBd2.out.size | with_reducible exact HBd3.out.size) _)).c 0 _ rfl⟩ | with_reducible exact ⟨(HXga8.out.below (((HBd2.out.drew.alloc HBd2.out.size _).setCell (by first | with_reducible exact Nat.le_refl _ | with_reducible exact HBd1.out.size | with_reducible exact HBd2.out.size | with_reducible exact HBd3.out.size) _).setCell (by first | with_reducible exact Nat.le_refl _ | with_reducible exact HBd1.out.size | with_reducible exact HBd2.out.size | with_reducible exact HBd3.out.size) _)).c 0 _ rfl, (HXga8.out.below (((HBd2.out.drew.alloc HBd2.out.size _).setCell (by first | with_reducible exact Nat.le_refl _ | with_reducible exact HBd1.out.size | with_reducible exact HBd2.out.size | with_reducible exact HBd3.out.size) _).setCell (by first | with_reducible exact Nat.le_refl _ | with_reducible exact HBd1.out.size | with_reducible exact HBd2.out.size | with_reducible exact HBd3.out.size) _)).c 1 _ rfl, (HXgb8.out.below (((HBd2.out.drew.alloc HBd2.out.size _).setCell (by first | with_reducible exact Nat.le_refl _ | with_reducible exact HBd1.out.size | with_reducible exact HBd2.out.size | with_reducible exact HBd3.out.size) _).setCell (by first | with_reducible exact Nat.le_refl _ | with_reducible exact HBd1.out.size | with_reducible exact HBd2.out.size | with_reducible exact HBd3.out.size) _)).c 0 _ rfl, (HXgc8.out.below (((HBd2.out.drew.alloc HBd2.out.size _).setCell (by first | with_reducible exact Nat.le_refl _ | with_reducible exact HBd1.out.size | with_reducible exact HBd2.out.size | with_reducible exact HBd3.out.size) _).setCell (by first | with_reducible exact Nat.le_refl _ | with_reducible exact HBd1.out.size | with_reducible exact HBd2.out.size | with_reducible exact HBd3.out.size) _)).c 0 _ rfl⟩ | with_reducible exact ⟨(HXga8.out.below (HBd1.out)).c 0 _ rfl, (HXga8.out.below (HBd1.out)).c 1 _ rfl, (HXgb8.out.below (HBd1.out)).c 0 _ rfl, (HXgc8.out.below (HBd1.out)).c 0 _ rfl⟩ | with_reducible exact ⟨(HXga8.out.below (HBd1.out.drew)).c 0 _ rfl, (HXga8.out.below (HBd1.out.drew)).c 1 _ rfl, (HXgb8.out.below (HBd1.out.drew)).c 0 _ rfl, (HXgc8.out.below (HBd1.out.drew)).c 0 _ rfl⟩ | with_reducible exact ⟨(HXga8.out.below ((HBd1.out.alloc HBd1.out.size _).drew)).c 0 _ rfl, (HXga8.out.below ((HBd1.out.alloc HBd1.out.size _).drew)).c 1 _ rfl, (HXgb8.out.below ((HBd1.out.alloc HBd1.out.size _).drew)).c 0 _ rfl, (HXgc8.out.below ((HBd1.out.alloc HBd1.out.size _).drew)).c 0 _ rfl⟩ | with_reducible exact ⟨(HXga8.out.below ((HBd1.out.alloc HBd1.out.size _))).c 0 _ rfl, (HXga8.out.below ((HBd1.out.alloc HBd1.out.size _))).c 1 _ rfl, (HXgb8.out.below ((HBd1.out.alloc HBd1.out.size _))).c 0 _ rfl, (HXgc8.out.below ((HBd1.out.alloc HBd1.out.size _))).c 0 _ rfl⟩ | with_reducible exact ⟨(HXga8.out.below ((HBd1.out.drew.alloc HBd1.out.size _))).c 0 _ rfl, (HXga8.out.below ((HBd1.out.drew.alloc HBd1.out.size _))).c 1 _ rfl, (HXgb8.out.below ((HBd1.out.drew.alloc HBd1.out.size _))).c 0 _ rfl, (HXgc8.out.below ((HBd1.out.drew.alloc HBd1.out.size _))).c 0 _ rfl⟩ | with_reducible exact ⟨(HXga8.out.below ((HBd1.out.setCell (by first | with_reducible exact Nat.le_refl _ | with_reducible exact HBd1.out.size | with_reducible exact HBd2.out.size | with_reducible exact HBd3.out.size) _).setCell (by first | with_reducible exact Nat.le_refl _ | with_reducible exact HBd1.out.size | with_reducible exact HBd2.out.size | with_reducible exact HBd3.out.size) _)).c 0 _ rfl, (HXga8.out.below ((HBd1.out.setCell (by first | with_reducible exact Nat.le_refl _ | with_reducible exact HBd1.out.size | with_reducible exact HBd2.out.size | with_reducible exact HBd3.out.size) _).setCell (by first | with_reducible exact Nat.le_refl _ | with_reducible exact HBd1.out.size | with_reducible exact HBd2.out.size | with_reducible exact HBd3.out.size) _)).c 1 _ rfl, (HXgb8.out.below ((HBd1.out.setCell (by first | with_reducible exact Nat.le_refl _ | with_reducible exact HBd1.out.size | with_reducible exact HBd2.out.size | with_reducible exact HBd3.out.size) _).setCell (by first | with_reducible exact Nat.le_refl _ | with_reducible exact HBd1.out.size | with_reducible exact HBd2.out.size | with_reducible exact HBd3.out.size) _)).c 0 _ rfl, (HXgc8.out.below ((HBd1.out.setCell (by first | with_reducible exact Nat.le_refl _ | with_reducible exact HBd1.out.size | with_reducible exact HBd2.out.size | with_reducible exact HBd3.out.size) _).setCell (by first | with_reducible exact Nat.le_refl _ | with_reducible exact HBd1.out.size | with_reducible exact HBd2.out.size | with_reducible exact HBd3.out.size) _)).c 0 _ rfl⟩ | with_reducible exact ⟨(HXga8.out.below ((HBd1.out.drew.setCell (by first | with_reducible exact Nat.le_refl _ | with_reducible exact HBd1.out.size | with_reducible exact HBd2.out.size | with_reducible exact HBd3.out.size) _).setCell (by first | with_reducible exact Nat.le_refl _ | with_reducible exact HBd1.out.size | with_reducible exact HBd2.out.size | with_reducible exact HBd3.out.size) _)).c 0 _ rfl, (HXga8.out.below ((HBd1.out.drew.setCell (by first | with_reducible exact Nat.le_refl _ | with_reducible exact HBd1.out.size | with_reducible exact HBd2.out.size | with_reducible exact HBd3.out.size) _).setCell (by first | with_reducible exact Nat.le_refl _ | with_reducible exact HBd1.out.size | with_reducible exact HBd2.out.size | with_reducible exact HBd3.out.size) _)).c 1 _ rfl, (HXgb8.out.below ((HBd1.out.drew.setCell (by first | with_reducible exact Nat.le_refl _ | with_reducible exact HBd1.out.size | with_reducible exact HBd2.out.size | with_reducible exact HBd3.out.size) _).setCell (by first | with_reducible exact Nat.le_refl _ | with_reducible exact HBd1.out.size | with_reducible exact HBd2.out.size | with_reducible exact HBd3.out.size) _)).c 0 _ rfl, (HXgc8.out.below ((HBd1.out.drew.setCell (by first | with_reducible exact Nat.le_refl _ | with_reducible exact HBd1.out.size | with_reducible exact HBd2.out.size | with_reducible exact HBd3.out.size) _).setCell (by first | with_reducible exact Nat.le_refl _ | with_reducible exact HBd1.out.size | with_reducible exact HBd2.out.size | with_reducible exact HBd3.out.size) _)).c 0 _ rfl⟩ | with_reducible exact ⟨(HXga8.out.below (((HBd1.out.alloc HBd1.out.size _).drew.setCell (by first | with_reducible exact Nat.le_refl _ | with_reducible exact HBd1.out.size | with_reducible exact HBd2.out.size | with_reducible exact HBd3.out.size) _).setCell (by first | with_reducible exact Nat.le_refl _ | with_reducible exact HBd1.out.size | with_reducible exact HBd2.out.size | with_reducible exact HBd3.out.size) _)).c 0 _ rfl, (HXga8.out.below (((HBd1.out.alloc HBd1.out.size _).drew.setCell (by first | with_reducible exact Nat.le_refl _ | with_reducible exact HBd1.out.size | with_reducible exact HBd2.out.size | with_reducible exact HBd3.out.size) _).setCell (by first | with_reducible exact Nat.le_refl _ | with_reducible exact HBd1.out.size | with_reducible exact HBd2.out.size | with_reducible exact HBd3.out.size) _)).c 1 _ rfl, (HXgb8.out.below (((HBd1.out.alloc HBd1.out.size _).drew.setCell (by first | with_reducible exact Nat.le_refl _ | with_reducible exact HBd1.out.size | with_reducible exact HBd2.out.size | with_reducible exact HBd3.out.size) _).setCell (by first | with_reducible exact Nat.le_refl _ | with_reducible exact HBd1.out.size | with_reducible exact HBd2.out.size | with_reducible exact HBd3.out.size) _)).c 0 _ rfl, (HXgc8.out.below (((HBd1.out.alloc HBd1.out.size _).drew.setCell (by first | with_reducible exact Nat.le_refl _ | with_reducible exact HBd1.out.size | with_reducible exact HBd2.out.size | with_reducible exact HBd3.out.size) _).setCell (by first | with_reducible exact Nat.le_refl _ | with_reducible exact HBd1.out.size | with_reducible exact HBd2.out.size | with_reducible exact HBd3.out.size) _)).c 0 _ rfl⟩ | with_reducible exact ⟨(HXga8.out.below (((HBd1.out.alloc HBd1.out.size _).setCell (by first | with_reducible exact Nat.le_refl _ | with_reducible exact HBd1.out.size | with_reducible exact HBd2.out.size | with_reducible exact HBd3.out.size) _).setCell (by first | with_reducible exact Nat.le_refl _ | with_reducible exact HBd1.out.size | with_reducible exact HBd2.out.size | with_reducible exact HBd3.out.size) _)).c 0 _ rfl, (HXga8.out.below (((HBd1.out.alloc HBd1.out.size _).setCell (by first | with_reducible exact Nat.le_refl _ | with_reducible exact HBd1.out.size | with_reducible exact HBd2.out.size | with_reducible exact HBd3.out.size) _).setCell (by first | with_reducible exact Nat.le_refl _ | with_reducible exact HBd1.out.size | with_reducible exact HBd2.out.size | with_reducible exact HBd3.out.size) _)).c 1 _ rfl, (HXgb8.out.below (((HBd1.out.alloc HBd1.out.size _).setCell (by first | with_reducible exact Nat.le_refl _ | with_reducible exact HBd1.out.size | with_reducible exact HBd2.out.size | with_reducible exact HBd3.out.size) _).setCell (by first | with_reducible exact Nat.le_refl _ | with_reducible exact HBd1.out.size | with_reducible exact HBd2.out.size | with_reducible exact HBd3.out.size) _)).c 0 _ rfl, (HXgc8.out.below (((HBd1.out.alloc HBd1.out.size _).setCell (by first | with_reducible exact Nat.le_refl _ | with_reducible exact HBd1.out.size | with_reducible exact HBd2.out.size | with_reducible exact HBd3.out.size) _).setCell (by first | with_reducible exact Nat.le_refl _ | with_reducible exact HBd1.out.size | with_reducible exact HBd2.out.size | with_reducible exact HBd3.out.size) _)).c 0 _ rfl⟩ | with_reducible exact ⟨(HXga8.out.below (((HBd1.out.drew.alloc HBd1.out.size _).setCell (by first | with_reducible exact Nat.le_refl _ | with_reducible exact HBd1.out.size | with_reducible exact HBd2.out.size | with_reducible exact HBd3.out.size) _).setCell (by first | with_reducible exact Nat.le_refl _ | with_reducible exact HBd1.out.size | with_reducible exact HBd2.out.size | with_reducible exact HBd3.out.size) _)).c 0 _ rfl, (HXga8.out.below (((HBd1.out.drew.alloc HBd1.out.size _).setCell (by first | with_reducible exact Nat.le_refl _ | with_reducible exact HBd1.out.size | with_reducible exact HBd2.out.size | with_reducible exact HBd3.out.size) _).setCell (by first | with_reducible exact Nat.le_refl _ | with_reducible exact HBd1.out.size | with_reducible exact HBd2.out.size | with_reducible exact HBd3.out.size) _)).c 1 _ rfl, (HXgb8.out.below (((HBd1.out.drew.alloc HBd1.out.size _).setCell (by first | with_reducible exact Nat.le_refl _ | with_reducible exact HBd1.out.size | with_reducible exact HBd2.out.size | with_reducible exact HBd3.out.size) _).setCell (by first | with_reducible exact Nat.le_refl _ | with_reducible exact HBd1.out.size | with_reducible exact HBd2.out.size | with_reducible exact HBd3.out.size) _)).c 0 _ rfl, (HXgc8.out.below (((HBd1.out.drew.alloc HBd1.out.size _).setCell (by first | with_reducible exact Nat.le_refl _ | with_reducible exact HBd1.out.size | with_reducible exact HBd2.out.size | with_reducible exact HBd3.out.size) _).setCell (by first | with_reducible exact Nat.le_refl _ | with_reducible exact HBd1.out.size | with_reducible exact HBd2.out.size | with_reducible exact HBd3.out.size) _)).c 0 _ rfl⟩ | with_reducible exact ⟨(HXga8.out.below (HBd0.out)).c 0 _ rfl, (HXga8.out.below (HBd0.out)).c 1 _ rfl, (HXgb8.out.below (HBd0.out)).c 0 _ rfl, (HXgc8.out.below (HBd0.out)).c 0 _ rfl⟩ | with_reducible exact ⟨(HXga8.out.below (HBd0.out.drew)).c 0 _ rfl, (HXga8.out.below (HBd0.out.drew)).c 1 _ rfl, (HXgb8.out.below (HBd0.out.drew)).c 0 _ rfl, (HXgc8.out.below (HBd0.out.drew)).c 0 _ rfl⟩ | with_reducible exact ⟨(HXga8.out.below ((HBd0.out.alloc HBd0.out.size _).drew)).c 0 _ rfl, (HXga8.out.below ((HBd0.out.alloc HBd0.out.size _).drew)).c 1 _ rfl, (HXgb8.out.below ((HBd0.out.alloc HBd0.out.size _).drew)).c 0 _ rfl, (HXgc8.out.below ((HBd0.out.alloc HBd0.out.size _).drew)).c 0 _ rfl⟩ | with_reducible exact ⟨(HXga8.out.below ((HBd0.out.alloc HBd0.out.size _))).c 0 _ rfl, (HXga8.out.below ((HBd0.out.alloc HBd0.out.size _))).c 1 _ rfl, (HXgb8.out.below ((HBd0.out.alloc HBd0.out.size _))).c 0 _ rfl, (HXgc8.out.below ((HBd0.out.alloc HBd0.out.size _))).c 0 _ rfl⟩ | with_reducible exact ⟨(HXga8.out.below ((HBd0.out.drew.alloc HBd0.out.size _))).c 0 _ rfl, (HXga8.out.below ((HBd0.out.drew.alloc HBd0.out.size _))).c 1 _ rfl, (HXgb8.out.below ((HBd0.out.drew.alloc HBd0.out.size _))).c 0 _ rfl, (HXgc8.out.below ((HBd0.out.drew.alloc HBd0.out.size _))).c 0 _ rfl⟩ | with_reducible exact ⟨(HXga8.out.below ((HBd0.out.setCell (by first | with_reducible exact Nat.le_refl _ | with_reducible exact HBd1.out.size | with_reducible exact HBd2.out.size | with_reducible exact HBd3.out.size) _).setCell (by first | with_reducible exact Nat.le_refl _ | with_reducible exact HBd1.out.size | with_reducible exact HBd2.out.size | with_reducible exact HBd3.out.size) _)).c 0 _ rfl, (HXga8.out.below ((HBd0.out.setCell (by first | with_reducible exact Nat.le_refl _ | with_reducible exact HBd1.out.size | with_reducible exact HBd2.out.size | with_reducible exact HBd3.out.size) _).setCell (by first | with_reducible exact Nat.le_refl _ | with_reducible exact HBd1.out.size | with_reducible exact HBd2.out.size | with_reducible exact HBd3.out.size) _)).c 1 _ rfl, (HXgb8.out.below ((HBd0.out.setCell (by first | with_reducible exact Nat.le_refl _ | with_reducible exact HBd1.out.size | with_reducible exact HBd2.out.size | with_reducible exact HBd3.out.size) _).setCell (by first | with_reducible exact Nat.le_refl _ | with_reducible exact HBd1.out.size | with_reducible exact HBd2.out.size | with_reducible exact HBd3.out.size) _)).c 0 _ rfl, (HXgc8.out.below ((HBd0.out.setCell (by first | with_reducible exact Nat.le_refl _ | with_reducible exact HBd1.out.size | with_reducible exact HBd2.out.size | with_reducible exact HBd3.out.size) _).setCell (by first | with_reducible exact Nat.le_refl _ | with_reducible exact HBd1.out.size | with_reducible exact HBd2.out.size | with_reducible exact HBd3.out.size) _)).c 0 _ rfl⟩ | with_reducible exact ⟨(HXga8.out.below ((HBd0.out.drew.setCell (by first | with_reducible exact Nat.le_refl _ | with_reducible exact HBd1.out.size | with_reducible exact HBd2.out.size | with_reducible exact HBd3.out.size) _).setCell (by first | with_reducible exact Nat.le_refl _ | with_reducible exact HBd1.out.size | with_reducible exact HBd2.out.size | with_reducible exact HBd3.out.size) _)).c 0 _ rfl, (HXga8.out.below ((HBd0.out.drew.setCell (by first | with_reducible exact Nat.le_refl _ | with_reducible exact HBd1.out.size | with_reducible exact HBd2.out.size | with_reducible exact HBd3.out.size) _).setCell (by first | with_reducible exact Nat.le_refl _ | with_reducible exact HBd1.out.size | with_reducible exact HBd2.out.size | with_reducible exact HBd3.out.size) _)).c 1 _ rfl, (HXgb8.out.below ((HBd0.out.drew.setCell (by first | with_reducible exact Nat.le_refl _ | with_reducible exact HBd1.out.size | with_reducible exact HBd2.out.size | with_reducible exact HBd3.out.size) _).setCell (by first | with_reducible exact Nat.le_refl _ | with_reducible exact HBd1.out.size | with_reducible exact HBd2.out.size | with_reducible exact HBd3.out.size) _)).c 0 _ rfl, (HXgc8.out.below ((HBd0.out.drew.setCell (by first | with_reducible exact Nat.le_refl _ | with_reducible exact HBd1.out.size | with_reducible exact HBd2.out.size | with_reducible exact HBd3.out.size) _).setCell (by first | with_reducible exact Nat.le_refl _ | with_reducible exact HBd1.out.size | with_reducible exact HBd2.out.size | with_reducible exact HBd3.out.size) _)).c 0 _ rfl⟩ | with_reducible exact ⟨(HXga8.out.below (((HBd0.out.alloc HBd0.out.size _).drew.setCell (by first | with_reducible exact Nat.le_refl _ | with_reducible exact HBd1.out.size | with_reducible exact HBd2.out.size | with_reducible exact HBd3.out.size) _).setCell (by first | with_reducible exact Nat.le_refl _ | with_reducible exact HBd1.out.size | with_reducible exact HBd2.out.size | with_reducible exact HBd3.out.size) _)).c 0 _ rfl, (HXga8.out.below (((HBd0.out.alloc HBd0.out.size _).drew.setCell (by first | with_reducible exact Nat.le_refl _ | with_reducible exact HBd1.out.size | with_reducible exact HBd2.out.size | with_reducible exact HBd3.out.size) _).setCell (by first | with_reducible exact Nat.le_refl _ | with_reducible exact HBd1.out.size | with_reducible exact HBd2.out.size | with_reducible exact HBd3.out.size) _)).c 1 _ rfl, (HXgb8.out.below (((HBd0.out.alloc HBd0.out.size _).drew.setCell (by first | with_reducible exact Nat.le_refl _ | with_reducible exact HBd1.out.size | with_reducible exact HBd2.out.size | with_reducible exact HBd3.out.size) _).setCell (by first | with_reducible exact Nat.le_refl _ | with_reducible exact HBd1.out.size | with_reducible exact HBd2.out.size | with_reducible exact HBd3.out.size) _)).c 0 _ rfl, (HXgc8.out.below (((HBd0.out.alloc HBd0.out.size _).drew.setCell (by first | with_reducible exact Nat.le_refl _ | with_reducible exact HBd1.out.size | with_reducible exact HBd2.out.size | with_reducible exact HBd3.out.size) _).setCell (by first | with_reducible exact Nat.le_refl _ | with_reducible exact HBd1.out.size | with_reducible exact HBd2.out.size | with_reducible exact HBd3.out.size) _)).c 0 _ rfl⟩ | with_reducible exact ⟨(HXga8.out.below (((HBd0.out.alloc HBd0.out.size _).setCell (by first | with_reducible exact Nat.le_refl _ | with_reducible exact HBd1.out.size | with_reducible exact HBd2.out.size | with_reducible exact HBd3.out.size) _).setCell (by first | with_reducible exact Nat.le_refl _ | with_reducible exact HBd1.out.size | with_reducible exact HBd2.out.size | with_reducible exact HBd3.out.size) _)).c 0 _ rfl, (HXga8.out.below (((HBd0.out.alloc HBd0.out.size _).setCell (by first | with_reducible exact Nat.le_refl _ | with_reducible exact HBd1.out.size | with_reducible exact HBd2.out.size | with_reducible exact HBd3.out.size) _).setCell (by first | with_reducible exact Nat.le_refl _ | with_reducible exact HBd1.out.size | with_reducible exact HBd2.out.size | with_reducible exact HBd3.out.size) _)).c 1 _ rfl, (HXgb8.out.below (((HBd0.out.alloc HBd0.out.size _).setCell (by first | with_reducible exact Nat.le_refl _ | with_reducible exact HBd1.out.size | with_reducible exact HBd2.out.size | with_reducible exact HBd3.out.size) _).setCell (by first | with_reducible exact Nat.le_refl _ | with_reducible exact HBd1.out.size | with_reducible exact HBd2.out.size | with_reducible exact HBd3.out.size) _)).c 0 _ rfl, (HXgc8.out.below (((HBd0.out.alloc HBd0.out.size _).setCell (by first | with_reducible exact Nat.le_refl _ | with_reducible exact HBd1.out.size | with_reducible exact HBd2.out.size | with_reducible exact HBd3.out.size) _).setCell (by first | with_reducible exact Nat.le_refl _ | with_reducible exact HBd1.out.size | with_reducible exact HBd2.out.size | with_reducible exact HBd3.out.size) _)).c 0 _ rfl⟩ | with_reducible exact ⟨(HXga8.out.below (((HBd0.out.drew.alloc HBd0.out.size _).setCell (by first | with_reducible exact Nat.le_refl _ | with_reducible exact HBd1.out.size | with_reducible exact HBd2.out.size | with_reducible exact HBd3.out.size) _).setCell (by first | with_reducible exact Nat.le_refl _ | with_reducible exact HBd1.out.size | with_reducible exact HBd2.out.size | with_reducible exact HBd3.out.size) _)).c 0 _ rfl, (HXga8.out.below (((HBd0.out.drew.alloc HBd0.out.size _).setCell (by first | with_reducible exact Nat.le_refl _ | with_reducible exact HBd1.out.size | with_reducible exact HBd2.out.size | with_reducible exact HBd3.out.size) _).setCell (by first | with_reducible exact Nat.le_refl _ | with_reducible exact HBd1.out.size | with_reducible exact HBd2.out.size | with_reducible exact HBd3.out.size) _)).c 1 _ rfl, (HXgb8.out.below (((HBd0.out.drew.alloc HBd0.out.size _).setCell (by first | with_reducible exact Nat.le_refl _ | with_reducible exact HBd1.out.size | with_reducible exact HBd2.out.size | with_reducible exact HBd3.out.size) _).setCell (by first | with_reducible exact Nat.le_refl _ | with_reducible exact HBd1.out.size | with_reducible exact HBd2.out.size | with_reducible exact HBd3.out.size) _)).c 0 _ rfl, (HXgc8.out.below (((HBd0.out.drew.alloc HBd0.out.size _).setCell (by first | with_reducible exact Nat.le_refl _ | with_reducible exact HBd1.out.size | with_reducible exact HBd2.out.size | with_reducible exact HBd3.out.size) _).setCell (by first | with_reducible exact Nat.le_refl _ | with_reducible exact HBd1.out.size | with_reducible exact HBd2.out.size | with_reducible exact HBd3.out.size) _)).c 0 _ rfl⟩) (first
        | (go_at_call 23; have _t := tokA; refine (rlandedE_any u0 u1 un uc um ud CA PA _ (by first | with_reducible exact hDa.out.below (HBd0.out) | with_reducible exact hDa.out.below (HBd0.out.drew) | with_reducible exact hDa.out.below ((HBd0.out.alloc HBd0.out.size _).drew) | with_reducible exact hDa.out.below ((HBd0.out.alloc HBd0.out.size _)) | with_reducible exact hDa.out.below ((HBd0.out.drew.alloc HBd0.out.size _))) hpa.out).mono ?_; rintro z wd1 ⟨⟨ux, rfl, hox⟩, hb⟩; obtain ⟨uxa, uxc, rfl, _⟩ := Rd.of_own hox.rc; have hstep : Below w8.heap.size w8 wd1 := (by first | exact hb | exact ((Below.refl _ w8).drew).trans hb | exact (((Below.refl _ w8).alloc (Nat.le_refl _) _).drew).trans (hb.mono (by simp)) | exact ((Below.refl _ w8).alloc (Nat.le_refl _) _).trans (hb.mono (by simp)) | exact (((Below.refl _ w8).drew).alloc (Nat.le_refl _) _).trans (hb.mono (by simp))); have HBd1 := Hid.mk' hstep; have HO1 := Hid.mk' hox.rc; (first | (have HTd1 : Hid (BoxV wd1 w8.heap.size [.slice none 0 0, .slice none 0 0]) := Hid.mk' (by first | with_reducible exact (boxV_new w8 [.slice none 0 0, .slice none 0 0] 25).below hb | with_reducible exact (boxV_new w8 [.slice none 0 0, .slice none 0 0] 25).drew.below hb)) | skip); clear hb hox hstep tokA)
        | (go_at_call 25; have _t := tokB; refine (cloneS_any y0 yn yc CY _ (by first | with_reducible exact hDy.out.rc.below (HBd1.out) | with_reducible exact hDy.out.rc.below (HBd1.out.drew) | with_reducible exact hDy.out.rc.below ((HBd1.out.alloc HBd1.out.size _).drew) | with_reducible exact hDy.out.rc.below ((HBd1.out.alloc HBd1.out.size _)) | with_reducible exact hDy.out.rc.below ((HBd1.out.drew.alloc HBd1.out.size _))) hDy.out.nC hDy.out.nB).mono ?_; rintro z wd2 ⟨⟨vy, rfl, hoy⟩, hb⟩; have hstep : Below wd1.heap.size wd1 wd2 := (by first | exact hb | exact ((Below.refl _ wd1).drew).trans hb | exact (((Below.refl _ wd1).alloc (Nat.le_refl _) _).drew).trans (hb.mono (by simp)) | exact ((Below.refl _ wd1).alloc (Nat.le_refl _) _).trans (hb.mono (by simp)) | exact (((Below.refl _ wd1).drew).alloc (Nat.le_refl _) _).trans (hb.mono (by simp))); have HBd2 := Hid.mk' (HBd1.out.trans (hstep.mono HBd1.out.size)); have HO12 := Hid.mk' (own_below HO1.out hstep); have HO2 := Hid.mk' hoy; have HSd12 := Hid.mk' hstep.size; (first | (have HTd2 := Hid.mk' (HTd1.out.below hstep)) | (have HTd2 : Hid (BoxV wd2 wd1.heap.size [.slice none 0 0, .slice none 0 0]) := Hid.mk' (by first | with_reducible exact (boxV_new wd1 [.slice none 0 0, .slice none 0 0] 25).below hb | with_reducible exact (boxV_new wd1 [.slice none 0 0, .slice none 0 0] 25).drew.below hb)) | skip); clear hb hoy hstep tokB)
        | (go_at_call 25; refine (cloneS_any o0 on oc CO _ (by first | with_reducible exact hDo.out.rc.below (HBd2.out) | with_reducible exact hDo.out.rc.below (HBd2.out.drew) | with_reducible exact hDo.out.rc.below ((HBd2.out.alloc HBd2.out.size _).drew) | with_reducible exact hDo.out.rc.below ((HBd2.out.alloc HBd2.out.size _)) | with_reducible exact hDo.out.rc.below ((HBd2.out.drew.alloc HBd2.out.size _))) hDo.out.nC hDo.out.nB).mono ?_; rintro z wd3 ⟨⟨vo, rfl, hoo⟩, hb⟩; have hstep : Below wd2.heap.size wd2 wd3 := (by first | exact hb | exact ((Below.refl _ wd2).drew).trans hb | exact (((Below.refl _ wd2).alloc (Nat.le_refl _) _).drew).trans (hb.mono (by simp)) | exact ((Below.refl _ wd2).alloc (Nat.le_refl _) _).trans (hb.mono (by simp)) | exact (((Below.refl _ wd2).drew).alloc (Nat.le_refl _) _).trans (hb.mono (by simp))); have HBd3 := Hid.mk' (HBd2.out.trans (hstep.mono HBd2.out.size)); have HO13 := Hid.mk' (own_below HO12.out hstep); have HO23 := Hid.mk' (own_below HO2.out hstep); have HO3 := Hid.mk' hoo; have HSd23 := Hid.mk' hstep.size; (first | (have HTd3 := Hid.mk' (HTd2.out.below hstep)) | (have HTd3 : Hid (BoxV wd3 wd2.heap.size [.slice none 0 0, .slice none 0 0]) := Hid.mk' (by first | with_reducible exact (boxV_new wd2 [.slice none 0 0, .slice none 0 0] 25).below hb | with_reducible exact (boxV_new wd2 [.slice none 0 0, .slice none 0 0] 25).drew.below hb)) | skip); (first | (have HJ := Hid.mk' (j8_set HTd3.out (by first | exact Nat.le_refl _ | exact HBd1.out.size | exact HBd2.out.size) ⟨HO13.out.mono (by have h9 := HBd0.out.size; first | exact h9 | (simp; omega) | simp), fun k hk => by have b1 := HSd12.out; have b2 := HSd23.out; have b3 := HBd1.out.size; (try have b4 := HTd1.out.lt); (try have b5 := HTd2.out.lt); (try have b6 := HTd3.out.lt); have a1 := HO1.out.lt k hk; have a2 := a1; have a3 := a1; (try simp at a1); (try simp at a2); (try simp at a3); omega⟩ ⟨HO23.out.mono (by have h9 := HBd1.out.size; first | exact h9 | (simp; omega) | simp), fun k hk => by have b1 := HSd12.out; have b2 := HSd23.out; have b3 := HBd1.out.size; (try have b4 := HTd1.out.lt); (try have b5 := HTd2.out.lt); (try have b6 := HTd3.out.lt); have a1 := HO2.out.lt k hk; have a2 := a1; have a3 := a1; (try simp at a1); (try simp at a2); (try simp at a3); omega⟩ ⟨HO3.out.mono (by have h9 := HBd2.out.size; first | exact h9 | (simp; omega) | simp), fun k hk => by have b1 := HSd12.out; have b2 := HSd23.out; have b3 := HBd1.out.size; (try have b4 := HTd1.out.lt); (try have b5 := HTd2.out.lt); (try have b6 := HTd3.out.lt); have a1 := HO3.out.lt k hk; have a2 := a1; have a3 := a1; (try simp at a1); (try simp at a2); (try simp at a3); omega⟩ HBd3.out); have t0 := HTd3.out.c 0 _ rfl; have t1 := HTd3.out.c 1 _ rfl; have tf0 := HTd3.out.f 0 (by simp); have tf1 := HTd3.out.f 1 (by simp)) | (have HJ := Hid.mk' (j8_new (g := wd3.heap.size) ⟨HO13.out.mono (by have h9 := HBd0.out.size; first | exact h9 | (simp; omega) | simp), fun k hk => by have a1 := (HO13.out.lt k hk).2; omega⟩ ⟨HO23.out.mono (by have h9 := HBd1.out.size; first | exact h9 | (simp; omega) | simp), fun k hk => by have a1 := (HO23.out.lt k hk).2; omega⟩ ⟨HO3.out.mono (by have h9 := HBd2.out.size; first | exact h9 | (simp; omega) | simp), fun k hk => by have a1 := (HO3.out.lt k hk).2; omega⟩ HBd3.out))); clear hb hoo hstep)
        | fail)
      all_goals
        go_wp2_with fail
        go_meet
        first | exact HJ.out | exact HJ.out.drew
    case rest =>
      obtain ⟨gx, ux, rfl, hX, hgx, hx1, hx2, hx3, hb⟩ := hcut
      have h9 : S9 w w8 wc _ _ _ _ _ _ ga gb gc gx _ _ _ _ _ _ ux u18 u19 _ _ _ _ _ _ _ yn on := ⟨HRu8.out.below hb, HRy8.out.below hb, HRo8.out.below hb, HXga8.out.below hb, HXgb8.out.below hb, HXgc8.out.below hb, hX, hx1, hx2, hx3, HB8.out.trans (hb.mono HB8.out.size)⟩
      have HT9 := Hid.mk' (HT8.out.below hb)
      have HI9 := Hid.mk' (HI8.out.below hb)
      have HJ9 := Hid.mk' (HJ8.out.below hb)
      have hc8 := HXgc8.out.lt
      have hnB := HK8.out.dk.nB
      have hmB := HK8.out.dk.mB
      have hl1 : (stC C ++ mk3S mkT 3).length = n + 3 := by rw [List.length_append, stC_length, HK8.out.dk.nC, mk3S_length]
      have hl2 : (ptC P ++ mk3P mkP 3).length = (m + 3) * 2 := by rw [List.length_append, ptC_length, HK8.out.dk.mP, mk3P_length]; omega
      have HL1 := Hid.mk' hl1
      have HL2 := Hid.mk' hl2
      have HgT := Hid.mk' (And.intro nti ntj)
      clear hX hx1 hx2 hx3 hb hl1 hl2 s0 s1 s2 s3 tokA tokB
      have t0 := HT9.out.c 0 _ rfl
      go_wp2_with fail
      refine (spoilS_any gi n (n + 3) _ ⟨#[115, 112, 111, 105, 108, 116]⟩ wc HI9.out HL1.out (by omega)).mono ?_
      rintro e wd ⟨rfl, hg9⟩
      have HS10 := Hid.mk' (h9.spoil hg9 (by omega) (by omega) (by omega) (by omega) (by omega) (by omega) (by omega) (by omega) (by omega))
      have HT10 := Hid.mk' (box_rD HT9.out hg9 (fun k e => by have := Option.some.inj e; have := HgT.out.1; omega))
      have HJ10 := Hid.mk' (box_rD HJ9.out hg9 (fun k e => by have := Option.some.inj e; omega))
      clear h9 hg9 t0
      have t1 := HT10.out.c 1 _ rfl
      go_wp2_with fail
      refine (spoilP_any gj m (m + 3) _ ⟨0, ⟨#[115, 112, 111, 105, 108, 116]⟩⟩ wd HJ10.out HL2.out (by omega)).mono ?_
      rintro e we ⟨rfl, hg10⟩
      have HS11 := Hid.mk' (HS10.out.spoil hg10 (by omega) (by omega) (by omega) (by omega) (by omega) (by omega) (by omega) (by omega) (by omega))
      clear hg10 t1
      have s0 := HS11.out.xa.c 0 _ rfl
      have s1 := HS11.out.xa.c 1 _ rfl
      have s2 := HS11.out.xb.c 0 _ rfl
      have s3 := HS11.out.xc.c 0 _ rfl
      have s4 := HS11.out.xx.c 0 _ rfl
      go_wp2_with fail
      have hDa1 := HS11.out.ru.dk
      rw [hCA.out, hPA.out] at hDa1
      have hDy1 := HS11.out.ry.dk
      rw [hCY.out] at hDy1
      have hDo1 := HS11.out.ro.dk
      rw [hCO.out] at hDo1
      have HDa1 := Hid.mk' hDa1
      have HDy1 := Hid.mk' hDy1
      have HDo1 := Hid.mk' hDo1
      have hld := Hid.mk' (fun w h => rlandedE_any u0 u1 un uc um ud CA PA w h hpa.out)
      have hXl : (landL allL PA 0 CA).length = un := by rw [landL_length, hDa1.nC]
      have hXn : un ≤ 8796093022208 := hDa1.nB
      have hYn : yn ≤ 8796093022208 := hDy1.nB
      have hOn : on ≤ 8796093022208 := hDo1.nB
      obtain ⟨XA, hXA⟩ : ∃ c, Hid (landL allL PA 0 CA = c) := ⟨_, Hid.mk' rfl⟩
      rw [hXA.out] at hld HS11 hXl
      obtain ⟨uxa, uxc, rfl, _, _, _, hrx⟩ := Rd.of_own HS11.out.rx
      obtain ⟨yya, yyc, rfl, _, _, _, hry⟩ := Rd.of_own HS11.out.r2
      obtain ⟨ooa, ooc, rfl, _, _, _, hro⟩ := Rd.of_own HS11.out.r3
      have HRx := Hid.mk' hrx
      have HRyy := Hid.mk' hry
      have HRoo := Hid.mk' hro
      have HXl := Hid.mk' hXl
      have hXb : XA.length ≤ 8796093022208 := by rw [hXl]; exact hXn
      have HXb := Hid.mk' hXb
      have HYn := Hid.mk' hYn
      have HOn := Hid.mk' hOn
      have HBe0 : Hid (Below we.heap.size we we) := Below.refl _ _
      clear hDa1 hDy1 hDo1 hXl hXn hYn hOn hrx hry hro hXb
      have tokL : True := trivial
      have tokE1 : True := trivial
      have tokE2 : True := trivial
      obtain ⟨E, hE⟩ : ∃ E, Hid (wrD C P ⟨x, t⟩ = E) := ⟨_, Hid.mk' rfl⟩
      rw [hE.out]
      go_cut [105] (fun v wx => v = .bool false ∧ Below we.heap.size we wx)
      case first =>
        by_cases hE0 : E = 0
        · subst hE0
          have hfd := fun u a c w => fieldD u a c w
          go_region_held3 (fun X => X.cell? ⟨ga, 0, none⟩ = some (.slice u0 un uc) ∧ X.cell? ⟨ga, 1, none⟩ = some (.slice u1 um ud) ∧ X.cell? ⟨gb, 0, none⟩ = some (.slice y0 yn yc) ∧ X.cell? ⟨gc, 0, none⟩ = some (.slice o0 on oc) ∧ X.cell? ⟨gx, 0, none⟩ = some (.slice uxa XA.length uxc)) (first | with_reducible exact ⟨s0, s1, s2, s3, s4⟩ | with_reducible exact ⟨(HS11.out.xa.below (HBe4.out)).c 0 _ rfl, (HS11.out.xa.below (HBe4.out)).c 1 _ rfl, (HS11.out.xb.below (HBe4.out)).c 0 _ rfl, (HS11.out.xc.below (HBe4.out)).c 0 _ rfl, (HS11.out.xx.below (HBe4.out)).c 0 _ rfl⟩ | with_reducible exact ⟨(HS11.out.xa.below (HBe4.out.drew)).c 0 _ rfl, (HS11.out.xa.below (HBe4.out.drew)).c 1 _ rfl, (HS11.out.xb.below (HBe4.out.drew)).c 0 _ rfl, (HS11.out.xc.below (HBe4.out.drew)).c 0 _ rfl, (HS11.out.xx.below (HBe4.out.drew)).c 0 _ rfl⟩ | with_reducible exact ⟨(HS11.out.xa.below (HBe3.out)).c 0 _ rfl, (HS11.out.xa.below (HBe3.out)).c 1 _ rfl, (HS11.out.xb.below (HBe3.out)).c 0 _ rfl, (HS11.out.xc.below (HBe3.out)).c 0 _ rfl, (HS11.out.xx.below (HBe3.out)).c 0 _ rfl⟩ | with_reducible exact ⟨(HS11.out.xa.below (HBe3.out.drew)).c 0 _ rfl, (HS11.out.xa.below (HBe3.out.drew)).c 1 _ rfl, (HS11.out.xb.below (HBe3.out.drew)).c 0 _ rfl, (HS11.out.xc.below (HBe3.out.drew)).c 0 _ rfl, (HS11.out.xx.below (HBe3.out.drew)).c 0 _ rfl⟩ | with_reducible exact ⟨(HS11.out.xa.below (HBe2.out)).c 0 _ rfl, (HS11.out.xa.below (HBe2.out)).c 1 _ rfl, (HS11.out.xb.below (HBe2.out)).c 0 _ rfl, (HS11.out.xc.below (HBe2.out)).c 0 _ rfl, (HS11.out.xx.below (HBe2.out)).c 0 _ rfl⟩ | with_reducible exact ⟨(HS11.out.xa.below (HBe2.out.drew)).c 0 _ rfl, (HS11.out.xa.below (HBe2.out.drew)).c 1 _ rfl, (HS11.out.xb.below (HBe2.out.drew)).c 0 _ rfl, (HS11.out.xc.below (HBe2.out.drew)).c 0 _ rfl, (HS11.out.xx.below (HBe2.out.drew)).c 0 _ rfl⟩ | with_reducible exact ⟨(HS11.out.xa.below (HBe1.out)).c 0 _ rfl, (HS11.out.xa.below (HBe1.out)).c 1 _ rfl, (HS11.out.xb.below (HBe1.out)).c 0 _ rfl, (HS11.out.xc.below (HBe1.out)).c 0 _ rfl, (HS11.out.xx.below (HBe1.out)).c 0 _ rfl⟩ | with_reducible exact ⟨(HS11.out.xa.below (HBe1.out.drew)).c 0 _ rfl, (HS11.out.xa.below (HBe1.out.drew)).c 1 _ rfl, (HS11.out.xb.below (HBe1.out.drew)).c 0 _ rfl, (HS11.out.xc.below (HBe1.out.drew)).c 0 _ rfl, (HS11.out.xx.below (HBe1.out.drew)).c 0 _ rfl⟩ | with_reducible exact ⟨(HS11.out.xa.below (HBe0.out)).c 0 _ rfl, (HS11.out.xa.below (HBe0.out)).c 1 _ rfl, (HS11.out.xb.below (HBe0.out)).c 0 _ rfl, (HS11.out.xc.below (HBe0.out)).c 0 _ rfl, (HS11.out.xx.below (HBe0.out)).c 0 _ rfl⟩ | with_reducible exact ⟨(HS11.out.xa.below (HBe0.out.drew)).c 0 _ rfl, (HS11.out.xa.below (HBe0.out.drew)).c 1 _ rfl, (HS11.out.xb.below (HBe0.out.drew)).c 0 _ rfl, (HS11.out.xc.below (HBe0.out.drew)).c 0 _ rfl, (HS11.out.xx.below (HBe0.out.drew)).c 0 _ rfl⟩) (first
            | (go_at_call 23; have _t := tokL; refine (hld.out _ (by first | with_reducible exact HDa1.out.below (HBe0.out) | with_reducible exact HDa1.out.below (HBe0.out.drew))).mono ?_; rintro z wl ⟨⟨uz, rfl, hoz⟩, hb⟩; obtain ⟨za, zc, rfl, _, _, _, hrz⟩ := Rd.of_own hoz.rc; have hstep : Below we.heap.size we wl := (by first | exact hb | exact ((Below.refl _ we).drew).trans hb); have HBe1 := Hid.mk' hstep; have HRz := Hid.mk' hrz; have HBz0 : Hid (Below wl.heap.size wl wl) := Below.refl _ _; clear hb hoz hrz hstep tokL)
            | (go_at_call 10; have _t := tokE1; refine (equalS_any za uxa XA.length zc XA.length uxc XA XA _ (by first | with_reducible exact HRz.out.below (HBz0.out) | with_reducible exact HRz.out.below (HBz0.out.drew)) (by first | with_reducible exact HRx.out.below (HBe1.out) | with_reducible exact HRx.out.below (HBe1.out.drew)) rfl rfl HXb.out HXb.out).mono ?_; rintro z wm ⟨⟨b, rfl, hbt⟩, qq, hwm⟩; rw [hbt.yes rfl]; have HBe2 : Hid (Below we.heap.size we wm) := (by rw [hwm]; first | exact below_nD HBe1.out _ | exact below_nD HBe1.out.drew _); clear hbt hwm tokE1)
            | (go_at_call 10; have _t := tokE2; refine (equalS_any y0 yya yn yc yn yyc CY CY _ (by first | with_reducible exact HDy1.out.rc.below (HBe2.out) | with_reducible exact HDy1.out.rc.below (HBe2.out.drew) | with_reducible exact HDy1.out.rc.below (HBe0.out) | with_reducible exact HDy1.out.rc.below (HBe0.out.drew)) (by first | with_reducible exact HRyy.out.below (HBe2.out) | with_reducible exact HRyy.out.below (HBe2.out.drew) | with_reducible exact HRyy.out.below (HBe0.out) | with_reducible exact HRyy.out.below (HBe0.out.drew)) HDy1.out.nC HDy1.out.nC HYn.out HYn.out).mono ?_; rintro z wn ⟨⟨b, rfl, hbt⟩, qq, hwm⟩; rw [hbt.yes rfl]; have HBe3 : Hid (Below we.heap.size we wn) := (by rw [hwm]; first | exact below_nD HBe2.out _ | exact below_nD HBe2.out.drew _ | exact below_nD HBe0.out _ | exact below_nD HBe0.out.drew _); clear hbt hwm tokE2)
            | (go_at_call 10; refine (equalS_any o0 ooa on oc on ooc CO CO _ (by first | with_reducible exact HDo1.out.rc.below (HBe3.out) | with_reducible exact HDo1.out.rc.below (HBe3.out.drew)) (by first | with_reducible exact HRoo.out.below (HBe3.out) | with_reducible exact HRoo.out.below (HBe3.out.drew)) HDo1.out.nC HDo1.out.nC HOn.out HOn.out).mono ?_; rintro z wo ⟨⟨b, rfl, hbt⟩, qq, hwm⟩; rw [hbt.yes rfl]; have HBe4 : Hid (Below we.heap.size we wo) := (by rw [hwm]; first | exact below_nD HBe3.out _ | exact below_nD HBe3.out.drew _); clear hbt hwm)
            | fail)
          all_goals
            go_wp2_with fail
            go_meet
            exact ⟨rfl, by first | exact HBe4.out | exact HBe4.out.drew⟩
        · have hEc := wrD_cases C P ⟨x, t⟩
          rw [hE.out] at hEc
          rcases hEc with h | rfl | rfl | rfl
          · exact absurd h hE0
          all_goals
            clear hE0
            have HQ2 := Hid.mk' (fun q => ((equalS_any y0 yya yn yc yn yyc CY CY (we.drewN q) (HDy1.out.rc.below (below_nD HBe0.out q)) (HRyy.out.below (below_nD HBe0.out q)) HDy1.out.nC HDy1.out.nC HYn.out HYn.out).mono (fun e w' hq => by obtain ⟨⟨b, hb, hbt⟩, qq, hw⟩ := hq; exact ⟨by rw [hb, hbt.yes rfl], qq, hw⟩) : Calls Try.prog 10 #[.slice y0 yn yc, .slice yya yn yyc] (we.drewN q) fun e w' => e = .returned (.bool true) ∧ ∃ m, w' = (we.drewN q).drewN m))
            have HQ3 := Hid.mk' (fun q => ((equalS_any o0 ooa on oc on ooc CO CO (we.drewN q) (HDo1.out.rc.below (below_nD HBe0.out q)) (HRoo.out.below (below_nD HBe0.out q)) HDo1.out.nC HDo1.out.nC HOn.out HOn.out).mono (fun e w' hq => by obtain ⟨⟨b, hb, hbt⟩, qq, hw⟩ := hq; exact ⟨by rw [hb, hbt.yes rfl], qq, hw⟩) : Calls Try.prog 10 #[.slice o0 on oc, .slice ooa on ooc] (we.drewN q) fun e w' => e = .returned (.bool true) ∧ ∃ m, w' = (we.drewN q).drewN m))
            go_quiet ((go_at_call 10; first | with_reducible exact Calls.quiet_of (HQ2.out _) | with_reducible exact Calls.quiet_of (HQ3.out _)))
            go_wp2_with fail
            go_meet
            exact ⟨rfl, by first | exact below_nD HBe0.out _ | exact below_nD HBe0.out.drew _ | exact (below_nD HBe0.out _).drew⟩
      case rest =>
        obtain ⟨rfl, hb⟩ := hcut
        have HS12 := Hid.mk' (HS11.out.below hb)
        clear hb s0 s1 s2 s3 s4
        have HB1s := HB1.out.size
        have s0 := HS12.out.xa.c 0 _ rfl
        go_wp2_with fail
        refine (spoil_res _ _ _ _ _ _ ⟨#[115, 112, 111, 105, 108, 116]⟩ wc HS12.out.ru).mono ?_
        rintro e wf ⟨rfl, hg⟩
        have hge := HS12.out.ru.ge.1
        have hlt := HLu.out
        have Ry := Hid.mk' (HS12.out.ry.rD hg (fun k e => by have := hlt k e; omega))
        have Ro := Hid.mk' (HS12.out.ro.rD hg (fun k e => by have := hlt k e; omega))
        have Xb := Hid.mk' (box_rD HS12.out.xb hg (fun k e => by have := hlt k e; omega))
        have Xc := Hid.mk' (box_rD HS12.out.xc hg (fun k e => by have := hlt k e; omega))
        have R3 := Hid.mk' (own_keptR HS12.out.r3 hg (fun k e => by have := hlt k e; omega))
        have Bl := Hid.mk' (below_rD HS12.out.bl hg (fun k e => by have := hge k e; omega))
        clear hg hge hlt s0
        have s2 := Xb.out.c 0 _ rfl
        go_wp2_with fail
        refine (spoil_res _ _ _ _ _ _ ⟨#[115, 112, 111, 105, 108, 116]⟩ wf Ry.out).mono ?_
        rintro e wg ⟨rfl, hg⟩
        have hge := Ry.out.ge.1
        have hlt := HLy.out
        have Ro2 := Hid.mk' (Ro.out.rD hg (fun k e => by have := hlt k e; omega))
        have Xc2 := Hid.mk' (box_rD Xc.out hg (fun k e => by have := hlt k e; omega))
        have R32 := Hid.mk' (own_keptR R3.out hg (fun k e => by have := hlt k e; omega))
        have Bl2 := Hid.mk' (below_rD Bl.out hg (fun k e => by have := hge k e; omega))
        clear hg hge hlt s2
        go_wp2_with fail
        refine (dmake_one wg).mono ?_
        rintro e wh ⟨⟨us, rfl, hos⟩, hb⟩
        obtain ⟨⟨sa, sc, e1⟩, _⟩ := hos.shapes
        have e2 : us = .slice sa 1 sc := e1
        clear e1 hos
        subst e2
        have hbx : Below wh.heap.size wh (wh.alloc (.cells #[.slice sa 1 sc, .slice none 0 0] 25)) := (Below.refl _ wh).alloc (Nat.le_refl _) _
        have hbb := hb.trans (hbx.mono hb.size)
        have hnew := boxV_new wh [.slice sa 1 sc, .slice none 0 0] 25
        have Ro3 := Hid.mk' (Ro2.out.below hbb)
        have Xc3 := Hid.mk' (Xc2.out.below hbb)
        have R33 := Hid.mk' (own_below R32.out hbb)
        have Bl3 := Hid.mk' (Bl2.out.trans (hbb.mono Bl2.out.size))
        obtain ⟨W9, hW9⟩ : ∃ W, Hid (wh.alloc (.cells #[.slice sa 1 sc, .slice none 0 0] 25) = W) := ⟨_, Hid.mk' rfl⟩
        have e9 : wh.alloc (.cells [.slice sa 1 sc, .slice none 0 0].toArray 25) = W9 := hW9.out
        rw [e9] at hnew
        rw [hW9.out] at Ro3 Xc3 R33 Bl3
        have Xs := Hid.mk' hnew
        have s3 := Xc3.out.c 0 _ rfl
        have s5 := Xs.out.c 0 _ rfl
        rw [← hW9.out] at s3 s5
        clear hb hbx hbb e9 hnew
        go_wp2_with fail
        rw [hW9.out]
        have hDo3 := Ro3.out.dk
        rw [hCO.out] at hDo3
        obtain ⟨oa', oc', e3, _, _, _, hro3⟩ := Rd.of_own R33.out
        cases e3
        refine (equalS_any o0 ooa on oc on ooc CO CO W9 hDo3.rc hro3 hDo3.nC hDo3.nC HOn.out HOn.out).mono ?_
        rintro e wk ⟨⟨b, rfl, hbt⟩, q, rfl⟩
        rw [hbt.yes rfl]
        have Bl4 := Hid.mk' (Bl3.out.trans ((below_nD (Below.refl _ W9) q).mono Bl3.out.size))
        have Xs4 := Hid.mk' (Xs.out.below (below_nD (Below.refl _ W9) q))
        obtain ⟨W10, hW10⟩ : ∃ W, Hid (W9.drewN q = W) := ⟨_, Hid.mk' rfl⟩
        rw [hW10.out] at Bl4 Xs4 ⊢
        have s6 := Xs4.out.c 0 _ rfl
        clear s3 s5 hDo3 hro3 hbt
        go_wp2_with fail
        go_ret
        exact ⟨rfl, Bl4.out⟩
end Go.Proofs.Ytdhjadgmdmdnjaa
