/- Places, inodes and maps of inodes, as lists. No Go in sight. -/
import Derived.Test.YtbakgobgjfhhhaaDoorNumOneMath
import Derived.Test.YtbakgobgjfhhhaaDoorNumBackMath
import Derived.Test.YtbakgobgjfhhhaaDoorFixMath
namespace Go.Proofs.YtbakgobgjfhhhaaDoor

/-- a place -/
structure Pla where
  cl : Int
  nh : Int
def noPl : Pla := ⟨0, 0⟩
theorem Pla.ext' {p q : Pla} (h1 : p.cl = q.cl) (h2 : p.nh = q.nh) : p = q := by cases p; cases q; simp_all
/-- is it none? -/
def nonB (p : Pla) : Bool := decide (p.cl = 0 ∧ p.nh = 0)
/-- is it right? -/
def rtB (p : Pla) : Bool := decide ((p.cl = 0 ∧ p.nh = 0) ∨ (2 ≤ p.cl ∧ p.cl ≤ 127 ∧ 0 ≤ p.nh ∧ p.nh ≤ 39))
theorem rtB_yes {p : Pla} (h : (p.cl = 0 ∧ p.nh = 0) ∨ (2 ≤ p.cl ∧ p.cl ≤ 127 ∧ 0 ≤ p.nh ∧ p.nh ≤ 39)) : rtB p = true := decide_eq_true h
theorem rtB_no {p : Pla} (h : ¬ ((p.cl = 0 ∧ p.nh = 0) ∨ (2 ≤ p.cl ∧ p.cl ≤ 127 ∧ 0 ≤ p.nh ∧ p.nh ≤ 39))) : rtB p = false := decide_eq_false h
theorem rtB_is {p : Pla} (h : rtB p = true) : (p.cl = 0 ∧ p.nh = 0) ∨ (2 ≤ p.cl ∧ p.cl ≤ 127 ∧ 0 ≤ p.nh ∧ p.nh ≤ 39) := of_decide_eq_true h
theorem rtB_b {p : Pla} (h : rtB p = true) : 0 ≤ p.cl ∧ p.cl ≤ 127 ∧ 0 ≤ p.nh ∧ p.nh ≤ 39 := by rcases rtB_is h with h | h <;> omega
/-- a right place that is none -/
theorem rt_none {p : Pla} (h : rtB p = true) : p.cl = 0 ↔ nonB p = true := by
  unfold nonB
  rw [decide_eq_true_iff]
  rcases rtB_is h with h | h <;> omega
/-- a place as bytes, and two bytes as a place -/
def plB (p : Pla) : List UInt8 := [UInt8.ofNat p.cl.toNat, UInt8.ofNat p.nh.toNat]
def rpl (x y : UInt8) : Pla := ⟨x.toNat, y.toNat⟩
theorem plB_rpl (x y : UInt8) : plB (rpl x y) = [x, y] := by simp [plB, rpl]
theorem rpl_plB {p : Pla} (h : rtB p = true) : rpl (UInt8.ofNat p.cl.toNat) (UInt8.ofNat p.nh.toNat) = p := by
  have := rtB_b h
  apply Pla.ext'
  · show ((UInt8.ofNat p.cl.toNat).toNat : Int) = p.cl
    rw [UInt8.toNat_ofNat']; omega
  · show ((UInt8.ofNat p.nh.toNat).toNat : Int) = p.nh
    rw [UInt8.toNat_ofNat']; omega
theorem fix_two {p : Pla} (h : rtB p = true) : fixB (p.cl * 256 + p.nh).toNat 2 = plB p := by
  have := rtB_b h
  simp only [fixB, plB]
  have e1 : (p.cl * 256 + p.nh).toNat / 256 ^ 1 = p.cl.toNat := by omega
  have e2 : UInt8.ofNat ((p.cl * 256 + p.nh).toNat / 256 ^ 0) = UInt8.ofNat p.nh.toNat := by
    apply UInt8.toNat_inj.1
    rw [UInt8.toNat_ofNat', UInt8.toNat_ofNat']; omega
  rw [e1, e2]
def plsB (l : List Pla) : List UInt8 := l.flatMap plB
theorem plsB_len (l : List Pla) : (plsB l).length = 2 * l.length := by
  induction l with
  | nil => rfl
  | cons p t ih => rw [plsB, List.flatMap_cons, List.length_append, ← plsB, ih]; simp [plB]; omega
theorem plsB_snoc (l : List Pla) (p : Pla) : plsB (l ++ [p]) = plsB l ++ plB p := by simp [plsB]
theorem plsB_app (l m : List Pla) : plsB (l ++ m) = plsB l ++ plsB m := by simp [plsB]
theorem plsB_take (l : List Pla) (k : Nat) (h : k < l.length) : plsB (l.take (k + 1)) = plsB (l.take k) ++ plB (l.getD k noPl) := by
  rw [List.take_succ_eq_append_getElem h, plsB_snoc, List.getD_eq_getElem?_getD, List.getElem?_eq_getElem h]; rfl
/-- two by two -/
def prP : List UInt8 → List Pla
  | x :: y :: t => rpl x y :: prP t
  | _ => []
theorem prP_nil : prP [] = [] := by simp [prP]
theorem prP_one (x : UInt8) : prP [x] = [] := by simp [prP]
theorem prP_cons (x y : UInt8) (t : List UInt8) : prP (x :: y :: t) = rpl x y :: prP t := by simp [prP]
theorem two_ind {P : List UInt8 → Prop} (h0 : P []) (h1 : ∀ x, P [x]) (h2 : ∀ x y t, P t → P (x :: y :: t)) : ∀ l, P l := by
  intro l
  have : ∀ n, ∀ l : List UInt8, l.length ≤ n → P l := by
    intro n
    induction n with
    | zero => intro l h; rw [List.length_eq_zero_iff.1 (Nat.le_zero.1 h)]; exact h0
    | succ n ih =>
      intro l h
      match l, h with
      | [], _ => exact h0
      | [x], _ => exact h1 x
      | x :: y :: t, h => exact h2 x y t (ih t (by simp at h; omega))
  exact this l.length l (Nat.le_refl _)
theorem prP_len (l : List UInt8) : (prP l).length = l.length / 2 := by
  induction l using two_ind with
  | h0 => simp [prP]
  | h1 x => simp [prP]
  | h2 x y t ih => rw [prP_cons]; simp only [List.length_cons]; omega
theorem plsB_prP (l : List UInt8) (h : l.length % 2 = 0) : plsB (prP l) = l := by
  induction l using two_ind with
  | h0 => simp [prP, plsB]
  | h1 x => simp at h
  | h2 x y t ih =>
    have : t.length % 2 = 0 := by simp only [List.length_cons] at h; omega
    rw [prP_cons, plsB, List.flatMap_cons, ← plsB, ih this, plB_rpl]; rfl
theorem prP_plsB (l : List Pla) (h : ∀ p ∈ l, rtB p = true) : prP (plsB l) = l := by
  induction l with
  | nil => simp [prP, plsB]
  | cons p t ih =>
    rw [plsB, List.flatMap_cons, ← plsB]
    show prP (UInt8.ofNat p.cl.toNat :: UInt8.ofNat p.nh.toNat :: plsB t) = _
    rw [prP_cons, rpl_plB (h p (by simp)), ih (fun q hq => h q (by simp [hq]))]
theorem prP_snoc (a : List UInt8) (x y : UInt8) (h : a.length % 2 = 0) : prP (a ++ [x, y]) = prP a ++ [rpl x y] := by
  induction a using two_ind with
  | h0 => simp [prP]
  | h1 x => simp at h
  | h2 u v t ih =>
    have : t.length % 2 = 0 := by simp only [List.length_cons] at h; omega
    rw [List.cons_append, List.cons_append, prP_cons, prP_cons, ih this]; rfl

/-- an inode -/
structure Ino where
  kd : Int
  gn : Int
  sz : Int
  ps : List Pla
def ArgI (i : Ino) : Prop := (i.kd ≠ 1 ∧ i.kd ≠ 2) ∨ i.gn < 0 ∨ 2147483647 < i.gn
/-- what Check answers -/
def chkI (i : Ino) : Int := if (i.kd ≠ 1 ∧ i.kd ≠ 2) ∨ i.gn < 0 ∨ 2147483647 < i.gn then 1 else if i.sz < 0 ∨ 4096 < i.sz then 2 else if (i.ps.length : Int) ≠ (i.sz + 511) / 512 then 4 else if i.ps.all rtB then 0 else 4
structure OkI (i : Ino) : Prop where
  k : i.kd = 1 ∨ i.kd = 2
  g0 : 0 ≤ i.gn
  g1 : i.gn ≤ 2147483647
  s0 : 0 ≤ i.sz
  s1 : i.sz ≤ 4096
  n : (i.ps.length : Int) = (i.sz + 511) / 512
  r : ∀ p ∈ i.ps, rtB p = true
theorem chkI_ok {i : Ino} (h : chkI i = 0) : OkI i := by
  unfold chkI at h
  split at h
  · simp at h
  · split at h
    · simp at h
    · split at h
      · simp at h
      · split at h
        · exact ⟨by omega, by omega, by omega, by omega, by omega, by omega, fun p hp => List.all_eq_true.1 ‹_› p hp⟩
        · simp at h
theorem chkI_yes {i : Ino} (h : OkI i) : chkI i = 0 := by
  unfold chkI
  have := h.k; have := h.g0; have := h.g1; have := h.s0; have := h.s1; have := h.n
  rw [if_neg (by omega), if_neg (by omega), if_neg (by omega), if_pos (List.all_eq_true.2 fun p hp => h.r p hp)]
theorem chkI_cases (i : Ino) : chkI i = 0 ∨ chkI i = 1 ∨ chkI i = 2 ∨ chkI i = 4 := by
  unfold chkI
  split
  · simp
  · split
    · simp
    · split
      · simp
      · split <;> simp
theorem chkI_arg {i : Ino} (h : ArgI i) : chkI i = 1 := by unfold chkI; exact if_pos h
theorem chkI_large {i : Ino} (h : ¬ ArgI i) (hs : i.sz < 0 ∨ 4096 < i.sz) : chkI i = 2 := by unfold chkI; exact (if_neg h).trans (if_pos hs)
theorem chkI_form {i : Ino} (h : ¬ ArgI i) (hs : ¬ (i.sz < 0 ∨ 4096 < i.sz)) (hn : (i.ps.length : Int) ≠ (i.sz + 511) / 512) : chkI i = 4 := by unfold chkI; exact (if_neg h).trans ((if_neg hs).trans (if_pos hn))
theorem chkI_all {i : Ino} (h : ¬ ArgI i) (hs : ¬ (i.sz < 0 ∨ 4096 < i.sz)) (hn : ¬ (i.ps.length : Int) ≠ (i.sz + 511) / 512) : chkI i = if i.ps.all rtB then 0 else 4 := by unfold chkI; exact (if_neg h).trans ((if_neg hs).trans (if_neg hn))
/-- an inode as bytes -/
def hdI (i : Ino) : List UInt8 := fixB i.kd.toNat 1 ++ fixB i.gn.toNat 4 ++ fixB i.sz.toNat 2
def inB (i : Ino) : List UInt8 := hdI i ++ plsB i.ps
theorem hdI_len (i : Ino) : (hdI i).length = 7 := by simp [hdI, fixB_length]
theorem inB_len (i : Ino) : (inB i).length = 7 + 2 * i.ps.length := by rw [inB, List.length_append, hdI_len, plsB_len]
/-- bytes as an inode: what is odd at the end is left out -/
def parI (s : List UInt8) : Ino := ⟨unfN (s.take 1), unfN ((s.drop 1).take 4), unfN ((s.drop 5).take 2), prP (s.drop 7)⟩
/-- what Read answers -/
def readI (s : List UInt8) : Option Ino := if 7 ≤ s.length ∧ s.length % 2 = 1 ∧ chkI (parI s) = 0 then some (parI s) else none
theorem fix_unf (l : List UInt8) : ∀ n, l.length = n → fixB (unfN l) n = l := by
  induction l with
  | nil => intro n h; subst h; rfl
  | cons b l ih =>
    intro n h
    subst h
    have hlt := unfN_lt l
    have hb := b.toNat_lt
    show UInt8.ofNat (unfN (b :: l) / 256 ^ l.length) :: fixB (unfN (b :: l)) l.length = _
    have e1 : unfN (b :: l) / 256 ^ l.length = b.toNat := by
      show (b.toNat * 256 ^ l.length + unfN l) / 256 ^ l.length = _
      rw [Nat.mul_comm, Nat.mul_add_div (by omega), Nat.div_eq_of_lt hlt, Nat.add_zero]
    have hc : ∀ m k, k ≤ l.length → fixB (m * 256 ^ l.length + unfN l) k = fixB (unfN l) k := by
      intro m k
      induction k with
      | zero => intro _; rfl
      | succ k ihk =>
        intro hk
        show UInt8.ofNat _ :: _ = UInt8.ofNat _ :: _
        rw [ihk (by omega)]
        congr 1
        apply UInt8.toNat_inj.1
        rw [UInt8.toNat_ofNat', UInt8.toNat_ofNat']
        have e : 256 ^ l.length = 256 ^ k * (256 * 256 ^ (l.length - k - 1)) := by
          rw [← Nat.pow_succ', ← Nat.pow_add]; congr 1; omega
        rw [e, Nat.mul_comm m, Nat.mul_assoc, Nat.mul_add_div (Nat.pow_pos (by omega)), Nat.mul_assoc, Nat.mul_add_mod]
    rw [e1]
    have := hc b.toNat l.length (Nat.le_refl _)
    rw [show unfN (b :: l) = b.toNat * 256 ^ l.length + unfN l from rfl, this, ih _ rfl]
    simp
theorem hd_par {s : List UInt8} (h : 7 ≤ s.length) : hdI (parI s) = s.take 7 := by
  unfold hdI parI
  simp only [Int.toNat_natCast]
  rw [fix_unf _ 1 (by rw [List.length_take]; omega), fix_unf _ 4 (by rw [List.length_take, List.length_drop]; omega), fix_unf _ 2 (by rw [List.length_take, List.length_drop]; omega)]
  rw [show 7 = 5 + 2 from rfl, List.take_add, show 5 = 1 + 4 from rfl, List.take_add]
/-- it is written as just that text, just where nothing odd is left -/
theorem inB_par {s : List UInt8} (h : 7 ≤ s.length) : inB (parI s) = s ↔ s.length % 2 = 1 := by
  constructor
  · intro e
    have := congrArg List.length e
    rw [inB_len] at this; omega
  · intro e
    rw [inB, hd_par h]
    show s.take 7 ++ plsB (prP (s.drop 7)) = s
    rw [plsB_prP _ (by rw [List.length_drop]; omega), List.take_append_drop]
theorem unf_fix (n k : Nat) (h : n < 256 ^ k) : unfN (fixB n k) = n := by rw [unfN_fixB, Nat.mod_eq_of_lt h]
theorem par_inB {i : Ino} (h : OkI i) : parI (inB i) = i := by
  have := h.k; have := h.g0; have := h.g1; have := h.s0; have := h.s1
  have e1 : (inB i).take 1 = fixB i.kd.toNat 1 := by
    unfold inB hdI
    rw [List.append_assoc, List.append_assoc]
    rw [List.take_append_of_le_length (by rw [fixB_length]; omega), List.take_of_length_le (by rw [fixB_length]; omega)]
  have e2 : ((inB i).drop 1).take 4 = fixB i.gn.toNat 4 := by
    unfold inB hdI
    rw [List.append_assoc, List.append_assoc, List.drop_left' (by rw [fixB_length])]
    rw [List.take_append_of_le_length (by rw [fixB_length]; omega), List.take_of_length_le (by rw [fixB_length]; omega)]
  have e3 : ((inB i).drop 5).take 2 = fixB i.sz.toNat 2 := by
    unfold inB hdI
    rw [List.append_assoc, List.drop_left' (by rw [List.length_append, fixB_length, fixB_length])]
    rw [List.take_append_of_le_length (by rw [fixB_length]; omega), List.take_of_length_le (by rw [fixB_length]; omega)]
  have e4 : (inB i).drop 7 = plsB i.ps := by
    unfold inB
    rw [List.drop_left' (hdI_len i)]
  unfold parI
  rw [e1, e2, e3, e4, unf_fix _ _ (by omega), unf_fix _ _ (by omega), unf_fix _ _ (by omega), prP_plsB _ h.r]
  obtain ⟨kd, gn, sz, ps⟩ := i
  simp only at *
  congr 1 <;> omega
theorem readI_back {i : Ino} (h : chkI i = 0) : readI (inB i) = some i := by
  have hk := par_inB (chkI_ok h)
  unfold readI
  rw [hk, if_pos ⟨by rw [inB_len]; omega, by rw [inB_len]; omega, h⟩]
theorem readI_inv {s : List UInt8} {i : Ino} (h : readI s = some i) : chkI i = 0 ∧ inB i = s := by
  unfold readI at h
  split at h
  · next hh =>
    simp only [Option.some.injEq] at h
    subst h
    exact ⟨hh.2.2, (inB_par hh.1).2 hh.2.1⟩
  · simp at h
theorem okI_len {i : Ino} (h : OkI i) : i.ps.length ≤ 8 := by have := h.n; have := h.s1; have := h.s0; omega
theorem readI_long {s : List UInt8} (h : 23 < s.length) : readI s = none := by
  cases hr : readI s with
  | none => rfl
  | some i =>
    have hi := readI_inv hr
    have := okI_len (chkI_ok hi.1)
    have e := congrArg List.length hi.2
    rw [inB_len] at e; omega
end Go.Proofs.YtbakgobgjfhhhaaDoor
