/- What linenkeep.cost answers. -/
import Derived.Test.YthdgfanecfdlkaaHLensWalks
import Derived.Test.YthdgfanecfdlkaaLnFacts
import Derived.Test.YthdgfanecfdlkaaCostWalks
namespace Go.Proofs.Ythdgfanecfdlkaa
open Go.RowKit

theorem wds_row {w : World} {g len : Nat} {T : Nat → Nat} (h : Row64 w g len (fun i => (T i : Int))) (hl : len ≤ 320) (hT : ∀ i, i < len → T i ≤ 15) : Wds w (some ⟨g, 0, none⟩) len (fun i => (T i : Int)) :=
  ⟨by omega, fun _ => ⟨g, 0, rfl, h.lt, fun i hi => by rw [Nat.zero_add]; exact h.cell i hi⟩, fun i hi => by have := hT i hi; omega⟩
/-- what cost answers -/
def KcAns (F : Nat → Int) (len : Nat) (most : Int) (x : Int) : Prop :=
  (lensE F len most ≠ 0 ∧ x = -1) ∨ (lensE F len most = 0 ∧ ∃ n : Nat, x = n ∧ n ≤ 5033164800 ∧ Opt (wsL F len) most.toNat n)

set_option maxRecDepth 20000 in
set_option maxHeartbeats 800000 in
theorem kcost_any (a0 : Option Addr) (len cap : Nat) (F : Nat → Int) (most : Int) (w : World) (hP : Wds w a0 len F) (hb : -9223372036854775808 ≤ most ∧ most ≤ 9223372036854775807) :
    Calls Try.prog 5 #[.slice a0 len cap, .int .i64 most] w fun e w' => (∃ x, e = .returned (.int .i64 x) ∧ KcAns F len most x) ∧ Below w.heap.size w w' := by
  have HP := Hid.mk' hP
  have HB := Hid.mk' hb
  clear hP hb
  go_enter Try.func5, Try.ntmps5
  go_wp2_with fail
  refine (hlens_any a0 len cap F most _ HP.out HB.out).mono ?_
  rintro e w1 ⟨⟨v, rfl, hans⟩, hb1⟩
  have HB1 := Hid.mk' hb1
  clear hb1
  have his := lensE_is F len most
  rcases hans with ⟨hne, rfl⟩ | ⟨h0, T, g, rfl, hg, hrow, hok⟩
  · have HN := Hid.mk' hne
    have hn2 : (lensE F len most != 0) = true := by rw [bne_iff_ne]; exact hne
    obtain ⟨x, hx⟩ : ∃ x, Hid (lensE F len most = x) := ⟨_, Hid.mk' rfl⟩
    rw [hx.out] at his hn2 ⊢
    clear hne
    go_wp2_with fail
    go_ret
    exact ⟨⟨_, rfl, .inl ⟨HN.out, rfl⟩⟩, HB1.out⟩
  · have H0 := Hid.mk' h0
    have HC := Hid.mk' (hok.cost h0)
    have HO := Hid.mk' hok.opt
    have HW : Hid (Wds w1 (some ⟨g, 0, none⟩) len (fun i => (T i : Int))) := by
      obtain ⟨h1, h2, h3, _⟩ := lensE_zero h0
      exact wds_row hrow (freqE_zero h1).1 (hok.le (by omega))
    have hcb := (hok.cost h0).2.2
    clear hrow hok his
    rw [h0]
    clear h0
    go_wp2_with fail
    refine (cost_any a0 len cap F _ len len (fun i => (T i : Int)) _ (wds_below HP.out HB1.out) HW.out).mono ?_
    rintro e w' ⟨rfl, hw'⟩; obtain rfl := hw'.symm
    rw [HC.out.1, HC.out.2.1]
    obtain ⟨c, hc⟩ : ∃ c, Hid (costN F (fun i => (T i : Int)) len = c) := ⟨_, Hid.mk' rfl⟩
    rw [hc.out] at hcb HO ⊢
    go_wp2_with fail
    go_ret
    exact ⟨⟨_, rfl, .inr ⟨H0.out, c, rfl, hcb, HO.out⟩⟩, HB1.out⟩
end Go.Proofs.Ythdgfanecfdlkaa
