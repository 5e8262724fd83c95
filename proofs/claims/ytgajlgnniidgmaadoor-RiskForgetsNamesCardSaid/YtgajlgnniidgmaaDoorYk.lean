/-
  Stage 12: the maths of RiskOfCopies: copies of one piece, and a chunk whose pieces are all in one domain.
-/
import Derived.Test.YtgajlgnniidgmaaDoorYh
namespace Go.Proofs.YtgajlgnniidgmaaDoor
set_option linter.unusedVariables false
set_option linter.unusedSimpArgs false
open Go.RowKit Go.Maps

/-- The product of chances of the domains of a set, and 16 for each other one. -/
def cop : Nat → List Int → Int
  | _, [] => 1
  | h, c :: l => (if h % 2 = 1 then c else 16) * cop (h / 2) l
open Classical in
/-- Is h part of f, as a number. -/
noncomputable def subI (h f : Nat) : Int := if ∀ i, h.testBit i = true → f.testBit i = true then 1 else 0
theorem sub_odd (h k : Nat) : subI h (2 * k + 1) = subI (h / 2) k := by
  unfold subI
  have e : (∀ i, h.testBit i = true → (2 * k + 1).testBit i = true) ↔ ∀ i, (h / 2).testBit i = true → k.testBit i = true := by
    constructor
    · intro hh i hi
      have := hh (i + 1) (by rw [Nat.testBit_succ]; exact hi)
      rw [bit_oneS] at this
      exact this
    · intro hh i hi
      cases i with
      | zero => exact bit_one0 k
      | succ i => rw [bit_oneS]; exact hh i (by rw [Nat.testBit_succ] at hi; exact hi)
  by_cases hc : ∀ i, (h / 2).testBit i = true → k.testBit i = true
  · rw [if_pos hc, if_pos (e.2 hc)]
  · rw [if_neg hc, if_neg (fun hh => hc (e.1 hh))]
theorem sub_even (h k : Nat) : subI h (2 * k) = if h % 2 = 1 then 0 else subI (h / 2) k := by
  by_cases h1 : h % 2 = 1
  · rw [if_pos h1]
    unfold subI
    rw [if_neg]
    intro hh
    have := hh 0 (by rw [Nat.testBit_zero]; simpa using h1)
    rw [bit_two0] at this
    cases this
  · rw [if_neg h1]
    unfold subI
    have e : (∀ i, h.testBit i = true → (2 * k).testBit i = true) ↔ ∀ i, (h / 2).testBit i = true → k.testBit i = true := by
      constructor
      · intro hh i hi
        have := hh (i + 1) (by rw [Nat.testBit_succ]; exact hi)
        rw [bit_twoS] at this
        exact this
      · intro hh i hi
        cases i with
        | zero =>
          rw [Nat.testBit_zero, decide_eq_true_eq] at hi
          exact absurd hi h1
        | succ i => rw [bit_twoS]; exact hh i (by rw [Nat.testBit_succ] at hi; exact hi)
    by_cases hc : ∀ i, (h / 2).testBit i = true → k.testBit i = true
    · rw [if_pos hc, if_pos (e.2 hc)]
    · rw [if_neg hc, if_neg (fun hh => hc (e.1 hh))]
theorem ex_zero : ∀ l : List Int, Ex l (fun _ => 0) = 0
  | [] => rfl
  | c :: l => by rw [Ex, ex_zero l, Int.mul_zero, Int.mul_zero]; rfl
theorem ex_cop : ∀ (l : List Int) (h : Nat), h < 2 ^ l.length → Ex l (subI h) = cop h l
  | [], h, hh => by
    have : h = 0 := by simpa using hh
    subst this
    rw [Ex, cop]
    unfold subI
    rw [if_pos (fun i hi => by rw [Nat.zero_testBit] at hi; cases hi)]
  | c :: l, h, hh => by
    rw [List.length_cons, Nat.pow_succ] at hh
    rw [Ex, cop, ex_congr l (sub_odd h), ex_cop l (h / 2) (by omega)]
    by_cases h1 : h % 2 = 1
    · rw [if_pos h1, ex_congr (M := fun _ => 0) l (fun f => by rw [sub_even, if_pos h1]), ex_zero, Int.mul_zero, Int.add_zero]
    · rw [if_neg h1, ex_congr (M := subI (h / 2)) l (fun f => by rw [sub_even, if_neg h1]), ex_cop l (h / 2) (by omega), ← Int.add_mul, show c + (16 - c) = 16 by omega]
/-- The product, domain by domain. -/
def cpy (h : Nat) : List Int → Nat → Int → Int
  | [], _, u => u
  | c :: l, k, u => cpy h l (k + 1) (u * (if h.testBit k = true then c else 16))
theorem cpy_cop (h : Nat) : ∀ (l : List Int) (k : Nat) (u : Int), cpy h l k u = u * cop (h / 2 ^ k) l
  | [], k, u => by rw [cpy, cop, Int.mul_one]
  | c :: l, k, u => by
    rw [cpy, cpy_cop h l, cop, Nat.div_div_eq_div_mul, ← Nat.pow_succ, bit0, Int.mul_assoc]
theorem cop_one : ∀ (l : List Int) (d : Nat) (c : Int), l[d]? = some c → cop (2 ^ d) l = c * 16 ^ (l.length - 1)
  | [], d, c, h => by simp at h
  | x :: l, 0, c, h => by
    have : x = c := by simpa using h
    subst this
    rw [Nat.pow_zero, cop, if_pos rfl, List.length_cons, Nat.add_sub_cancel, show (1 : Nat) / 2 = 0 from rfl, show cop 0 l = 16 ^ l.length from ?_]
    clear h
    induction l with
    | nil => rfl
    | cons y l ih => rw [cop, if_neg (by decide), show (0 : Nat) / 2 = 0 from rfl, ih, List.length_cons, Int.pow_succ, Int.mul_comm]
  | x :: l, d + 1, c, h => by
    have h' : l[d]? = some c := by simpa using h
    have hl := (List.getElem?_eq_some_iff.1 h').1
    rw [cop, Nat.pow_succ, if_neg (by omega), Nat.mul_div_cancel _ (by decide), cop_one l d c h', List.length_cons, Nat.add_sub_cancel]
    obtain ⟨m, hm⟩ : ∃ m, l.length = m + 1 := ⟨l.length - 1, by omega⟩
    rw [hm, Nat.add_sub_cancel, Int.pow_succ, Int.mul_left_comm, Int.mul_comm 16]
/-- Copies: all rows are the one that tells the piece. -/
theorem copy_row (k : Nat) : crow 1 [] k 1 = [1] := by
  unfold crow
  show [cr 1 [] k 0] = [1]
  congr 1
  unfold cr
  by_cases h : k < 1
  · rw [if_pos h, if_pos (by omega)]
  · rw [if_neg h, if_neg (by rw [List.length_nil]; omega), Nat.zero_mul]
    decide +kernel
theorem copy_full {s N : Nat} (hs : s < 2 ^ N) : Full7 (pcL 1 [] s N) 1 ↔ s ≠ 0 := by
  constructor
  · intro h h0
    subst h0
    have := h (fun _ => 1) (fun r hr => by
      obtain ⟨k, _, hb, _⟩ := pcL_mem.1 hr
      rw [Nat.zero_testBit] at hb
      cases hb) 0 (by omega)
    revert this
    decide
  · intro h x hx k hk
    obtain ⟨j, hj⟩ : ∃ j, s.testBit j = true := by
      by_cases hh : ∃ j, s.testBit j = true
      · exact hh
      · refine absurd (Nat.eq_of_testBit_eq fun i => ?_) h
        rw [Nat.zero_testBit]
        cases hb : s.testBit i with
        | false => rfl
        | true => exact absurd ⟨i, hb⟩ hh
    have hjN : j < N := by
      rcases Nat.lt_or_ge j N with hh | hh
      · exact hh
      · have := Nat.testBit_lt_two_pow (Nat.lt_of_lt_of_le hs (Nat.pow_le_pow_right (by decide) hh))
        rw [this] at hj; cases hj
    have h1 := hx _ (pcL_mem.2 ⟨j, hjN, hj, rfl⟩)
    rw [copy_row] at h1
    have e : dot7 1 (rfn [1]) x = x 0 := by
      unfold dot7 xsum xsum
      show 0 ^^^ Gf.mul 1 (x 0) = x 0
      rw [Gf.one_mul, UInt8.zero_xor]
    rw [e] at h1
    rw [show k = 0 by omega]
    exact h1
/-- A peril of copies. -/
structure CopP (q : Prl) (N : Nat) : Prop where
  D : q.D = 1
  G : q.G = (N : Int) - 1
  Gs : q.Gs = []
  n1 : q.al.length = N
  al : ∀ d ∈ q.al, 0 ≤ d ∧ d < q.ch.length
  ch : ∀ c ∈ q.ch, 0 ≤ c ∧ c ≤ 16
  N0 : 1 ≤ N
  N5 : N ≤ 5
  l9 : q.ch.length ≤ 9
theorem CopP.ok {q : Prl} {N : Nat} (h : CopP q N) : PrlOk q := by
  have h0 := h.N0
  have h5 := h.N5
  have h9 := h.l9
  refine ⟨?_, by omega, ?_, fun d hd => by have := h.al d hd; omega, h.ch⟩
  · rw [h.D, h.G, h.Gs]
    unfold chkE
    rw [if_neg (by omega), if_neg (by rw [List.length_nil]; omega)]
    rfl
  · rw [h.D, h.G, h.Gs, h.n1, List.length_nil]; omega
theorem CopP.los {q : Prl} {N : Nat} (h : CopP q N) (f : Nat) : LosP q f ↔ ∀ d ∈ q.al, f.testBit d.toNat = true := by
  have h0 := h.N0
  have h5 := h.N5
  have hlt := lft_lt f q.al 0 0 (by decide)
  rw [h.n1, Nat.zero_add] at hlt
  have hN : (1 : Int).toNat + ([] : List (List Int)).length + ((N : Int) - 1).toNat = N := by rw [List.length_nil]; omega
  have hN2 : (1 : Int).toNat + (([] : List (List Int)).length + ((N : Int) - 1).toNat) = N := by rw [List.length_nil]; omega
  have key : LosP q f ↔ lft f q.al 0 0 = 0 := by
    unfold LosP RecP
    rw [h.D, h.G, h.Gs, hN, hN2, Int.toNat_natCast, show (1 : Int).toNat = 1 from rfl, copy_full hlt]
    constructor
    · intro hh
      by_cases hz : lft f q.al 0 0 = 0
      · exact hz
      · refine absurd ⟨?_, Int.natCast_nonneg _, ?_, hz⟩ hh
        · have := h.ok.cod; rw [h.D, h.G, h.Gs] at this; exact this
        · have e : (2 : Int) ^ N = ((2 ^ N : Nat) : Int) := by rw [Int.natCast_pow]; rfl
          rw [e]; exact Int.ofNat_lt.2 hlt
    · intro hz hh
      exact hh.2.2.2 hz
  rw [key]
  constructor
  · intro hz d hd
    obtain ⟨j, hj⟩ := List.getElem?_of_mem hd
    cases hb : f.testBit d.toNat with
    | true => rfl
    | false =>
      have h1 : (lft f q.al 0 0).testBit j = true := (lft_bit f q.al 0 0 j).2 (.inr ⟨j, d, by omega, hj, by have := h.al d hd; omega, hb⟩)
      rw [hz, Nat.zero_testBit] at h1
      cases h1
  · intro hall
    apply Nat.eq_of_testBit_eq
    intro i
    rw [Nat.zero_testBit]
    cases hb : (lft f q.al 0 0).testBit i with
    | false => rfl
    | true =>
      rcases (lft_bit f q.al 0 0 i).1 hb with h1 | ⟨j, d, h1, h2, h3, h4⟩
      · rw [Nat.zero_testBit] at h1; cases h1
      · have := hall d (List.mem_of_getElem? h2)
        rw [h4] at this; cases this
/-- The loss of copies: h is the set of the domains that have one. -/
theorem CopP.loss {q : Prl} {N h : Nat} (hq : CopP q N) (hh : ∀ i, h.testBit i = true ↔ ∃ d ∈ q.al, d.toNat = i) : lsum q (2 ^ q.ch.length) = cpy h q.ch 0 1 := by
  have hlt : h < 2 ^ q.ch.length := by
    refine Nat.lt_pow_two_of_testBit h fun i hi => ?_
    cases hb : h.testBit i with
    | false => rfl
    | true =>
      obtain ⟨d, hd, rfl⟩ := (hh i).1 hb
      have := hq.al d hd
      omega
  rw [lsum_ex, cpy_cop, Nat.pow_zero, Nat.div_one, Int.one_mul, ← ex_cop q.ch h hlt]
  refine ex_congr _ fun f => ?_
  have e : LosP q f ↔ ∀ i, h.testBit i = true → f.testBit i = true := by
    rw [hq.los]
    constructor
    · intro ha i hi
      obtain ⟨d, hd, rfl⟩ := (hh i).1 hi
      exact ha d hd
    · intro ha d hd
      exact ha _ ((hh _).2 ⟨d, hd, rfl⟩)
  unfold indL subI
  by_cases hc : LosP q f
  · rw [if_pos hc, if_pos (e.1 hc)]
  · rw [if_neg hc, if_neg (fun h2 => hc (e.2 h2))]
/-- All pieces in one domain. -/
theorem one_loss {q : Prl} (OK : PrlOk q) {d : Nat} {c : Int} (ha : ∀ x ∈ q.al, x = (d : Int)) (hc : q.ch[d]? = some c) : lsum q (2 ^ q.ch.length) = c * 16 ^ (q.ch.length - 1) := by
  have hd := (List.getElem?_eq_some_iff.1 hc).1
  rw [lsum_ex, ← cop_one q.ch d c hc, ← ex_cop q.ch (2 ^ d) (Nat.pow_lt_pow_right (by decide) hd)]
  refine ex_congr _ fun f => ?_
  have e1 : (∀ i, (2 ^ d).testBit i = true → f.testBit i = true) ↔ f.testBit d = true := by
    constructor
    · intro h; exact h d (by rw [Nat.testBit_two_pow]; simp)
    · intro h i hi
      rw [Nat.testBit_two_pow, decide_eq_true_eq] at hi
      rw [← hi]; exact h
  have e2 : LosP q f ↔ f.testBit d = true := by
    constructor
    · intro hl
      cases hb : f.testBit d with
      | true => rfl
      | false =>
        refine absurd ?_ hl
        obtain ⟨b1, b2, b3, b4, b5, b6⟩ := cchk_ok OK.cod
        have hp := OK.pcs
        have hlt := lft_lt f q.al 0 0 (by decide)
        rw [show 0 + q.al.length = q.D.toNat + q.Gs.length + q.G.toNat by omega] at hlt
        refine ⟨OK.cod, Int.natCast_nonneg _, ?_, fun x hx k hk => ?_⟩
        · have e : (2 : Int) ^ (q.D.toNat + q.Gs.length + q.G.toNat) = ((2 ^ (q.D.toNat + q.Gs.length + q.G.toNat) : Nat) : Int) := by rw [Int.natCast_pow]; rfl
          rw [e]; exact Int.ofNat_lt.2 hlt
        · rw [Int.toNat_natCast] at hx
          have hkl : k < q.al.length := by omega
          have hbit : (lft f q.al 0 0).testBit k = true := (lft_bit f q.al 0 0 k).2 (.inr ⟨k, q.al[k], by omega, List.getElem?_eq_getElem hkl, by rw [ha _ (List.getElem_mem hkl)]; omega, by rw [ha _ (List.getElem_mem hkl), Int.toNat_natCast]; exact hb⟩)
          have := hx _ (pcL_mem.2 ⟨k, by omega, hbit, rfl⟩)
          rw [unit_dot hk] at this
          exact this
    · intro hb hR
      have hz : lft f q.al 0 0 = 0 := by
        apply Nat.eq_of_testBit_eq
        intro i
        rw [Nat.zero_testBit]
        cases hbi : (lft f q.al 0 0).testBit i with
        | false => rfl
        | true =>
          rcases (lft_bit f q.al 0 0 i).1 hbi with h1 | ⟨j, x, h1, h2, h3, h4⟩
          · rw [Nat.zero_testBit] at h1; cases h1
          · rw [ha x (List.mem_of_getElem? h2), Int.toNat_natCast, hb] at h4; cases h4
      rw [hz] at hR
      have := hR.2.2.2 (fun _ => 1) (fun r hr => by
        obtain ⟨k, _, hb, _⟩ := pcL_mem.1 hr
        rw [show ((0 : Nat) : Int).toNat = 0 from rfl, Nat.zero_testBit] at hb
        cases hb) 0 (by have := (cchk_ok OK.cod).1; omega)
      revert this
      decide
  unfold indL subI
  by_cases hl : LosP q f
  · rw [if_pos hl, if_pos (e1.2 (e2.1 hl))]
  · rw [if_neg hl, if_neg (fun h2 => hl (e2.2 (e1.1 h2)))]
end Go.Proofs.YtgajlgnniidgmaaDoor
