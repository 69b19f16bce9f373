/- A map in a box, with its lists. -/
import Derived.Test.YtbailfianjmflabImCutWalks
import Derived.Test.YtbailfianjmflabFreshWalks
namespace Go.Proofs.Ytbailfianjmflab
open Go.RowKit

structure MapAt (X : World) (g : Nat) (a0 : Option Addr) (n c : Nat) (a1 : Option Addr) (m e : Nat) (P : List Pla) (G : List Int) : Prop where
  bx : BoxV X g [.slice a0 n c, .slice a1 m e]
  pl : Pls X a0 n c P
  it : Its X a1 m e G
theorem MapAt.below {X Y : World} {g : Nat} {a0 : Option Addr} {n c : Nat} {a1 : Option Addr} {m e : Nat} {P : List Pla} {G : List Int} (h : MapAt X g a0 n c a1 m e P G) (hb : Below X.heap.size X Y) : MapAt Y g a0 n c a1 m e P G := ⟨h.bx.below hb, h.pl.below hb, h.it.below hb⟩
theorem MapAt.new {w : World} {a0 : Option Addr} {n c : Nat} {a1 : Option Addr} {m e : Nat} {P : List Pla} {G : List Int} (h1 : Pls w a0 n c P) (h2 : Its w a1 m e G) (t : TypeId) : MapAt (w.alloc (.cells #[.slice a0 n c, .slice a1 m e] t)) w.heap.size a0 n c a1 m e P G := by
  have hb := below_boxP (w := w) #[.slice a0 n c, .slice a1 m e] t
  exact ⟨boxV_new w _ t, h1.below hb, h2.below hb⟩
theorem MapAt.c0 {X : World} {g : Nat} {a0 : Option Addr} {n c : Nat} {a1 : Option Addr} {m e : Nat} {P : List Pla} {G : List Int} (h : MapAt X g a0 n c a1 m e P G) : X.cell? ⟨g, 0, none⟩ = some (.slice a0 n c) := h.bx.c 0 _ rfl
theorem MapAt.c1 {X : World} {g : Nat} {a0 : Option Addr} {n c : Nat} {a1 : Option Addr} {m e : Nat} {P : List Pla} {G : List Int} (h : MapAt X g a0 n c a1 m e P G) : X.cell? ⟨g, 1, none⟩ = some (.slice a1 m e) := h.bx.c 1 _ rfl
theorem OkM.setP {P : List Pla} {G : List Int} (h : OkM P G) (k : Nat) {p : Pla} (hp : rtB p = true) : OkM (P.set k p) G := by
  refine ⟨by rw [List.length_set]; exact h.p, h.g, fun j hj => ?_, h.n⟩
  rw [getD_setM P k j p noPl (by rw [h.p]; exact hj)]
  split
  · exact hp
  · exact h.r j hj
theorem OkM.setG {P : List Pla} {G : List Int} (h : OkM P G) (k : Nat) {g : Int} (hg : 0 ≤ g ∧ g ≤ 2147483647) : OkM P (G.set k g) := by
  refine ⟨h.p, by rw [List.length_set]; exact h.g, h.r, fun j hj => ?_⟩
  rw [getD_setM G k j g 0 (by rw [h.g]; exact hj)]
  split
  · exact hg
  · exact h.n j hj
theorem plaB_set {P : List Pla} (h : ∀ p ∈ P, PlaB p) (k : Nat) {p : Pla} (hp : PlaB p) : ∀ q ∈ P.set k p, PlaB q := by
  intro q hq
  rcases List.mem_or_eq_of_mem_set hq with h1 | rfl
  · exact h q h1
  · exact hp
theorem i64_set {G : List Int} (h : ∀ g ∈ G, I64 g) (k : Nat) {x : Int} (hx : I64 x) : ∀ q ∈ G.set k x, I64 q := by
  intro q hq
  rcases List.mem_or_eq_of_mem_set hq with h1 | rfl
  · exact h q h1
  · exact hx
theorem plaB_none : PlaB noPl := ⟨⟨by decide, by decide⟩, ⟨by decide, by decide⟩⟩
theorem fresh_plaB : ∀ p ∈ frA, PlaB p := by
  intro p hp
  rw [frA] at hp
  rw [(List.mem_replicate.1 hp).2]
  exact plaB_none
theorem fresh_i64 : ∀ g ∈ frG, I64 g := by
  intro g hg
  rw [frG] at hg
  rw [(List.mem_replicate.1 hg).2]
  exact ⟨by decide, by decide⟩
/-- what Fresh answers, to be read -/
theorem fresh_maps {w' : World} {N : Nat} {z : Ending} (h : FreshA w' N z) : ∃ a c b e, z = .returned (.agg #[.slice a 48 c, .slice b 48 e]) ∧ Pls w' a 48 c frA ∧ Its w' b 48 e frG := by
  obtain ⟨a, b, rfl, ho⟩ := h
  obtain ⟨a0, c, a1, e, h1, h2, h3, h4⟩ := ho.pls (by omega) (by omega) fresh_plaB fresh_i64
  exact ⟨a0, c, a1, e, by rw [h1, h2], h3, h4⟩
theorem take_fresh {z : Ending} (h : TakeA frA frG z) : z = .returned (.tuple #[.int .i64 1, .int .i64 0]) := by
  obtain ⟨k, q, rfl, h⟩ := h
  have hf : chkM frA frG = 0 := chkM_yes fresh_ok
  rcases h with ⟨h, _⟩ | ⟨_, h⟩
  · exact absurd hf h
  · have hfr : frS frA frG 1 := ⟨by rw [frA, getD_rep 48 _ _ 1 (by omega)]; decide, by rw [frG, getD_rep 48 _ _ 1 (by omega)]; decide⟩
    rcases h with ⟨a, b, c, d, e⟩ | ⟨_, d, _⟩
    · have : k = 1 := by
        rcases Nat.lt_or_ge 1 k with hl | hl
        · exact absurd hfr (d 1 (by omega) hl)
        · omega
      subst this
      subst e
      rfl
    · exact absurd hfr (d 1 (by omega) (by omega))
end Go.Proofs.Ytbailfianjmflab
