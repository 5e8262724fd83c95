/-
  Stage 12: the maths of RiskForgetsNames: two domains exchanged.
-/
import Derived.Test.YtgajlgnniidgmaaDoorYl
namespace Go.Proofs.YtgajlgnniidgmaaDoor
set_option linter.unusedVariables false
set_option linter.unusedSimpArgs false
open Go.RowKit Go.Maps

/-- A domain when a and b are exchanged. -/
def tau (a b : Nat) (d : Int) : Int := if d = a then b else if d = b then a else d
theorem tau_rng {a b n : Nat} (ha : a < n) (hb : b < n) {d : Int} (h : -1 ≤ d ∧ d < n) : -1 ≤ tau a b d ∧ tau a b d < n := by
  unfold tau
  split
  · omega
  · split
    · omega
    · exact h
theorem tau_bit (a b f : Nat) {d : Int} (h : -1 ≤ d) : (tau a b d ≠ -1 ∧ f.testBit (tau a b d).toNat = false) ↔ (d ≠ -1 ∧ (xch a b f).testBit d.toNat = false) := by
  rw [xch_bit]
  unfold tau
  by_cases e1 : d = a
  · rw [if_pos e1, e1, Int.toNat_natCast, Int.toNat_natCast, if_pos rfl]
    constructor
    · intro h; exact ⟨by omega, h.2⟩
    · intro h; exact ⟨by omega, h.2⟩
  · rw [if_neg e1]
    by_cases e2 : d = b
    · have e3 : ¬ d.toNat = a := by omega
      rw [if_pos e2, if_neg e3, if_pos (show d.toNat = b by omega), Int.toNat_natCast]
      constructor
      · intro h; exact ⟨by omega, h.2⟩
      · intro h; exact ⟨by omega, h.2⟩
    · rw [if_neg e2]
      by_cases e3 : d = -1
      · exact ⟨fun h => absurd e3 h.1, fun h => absurd e3 h.1⟩
      · rw [if_neg (show ¬ d.toNat = a by omega), if_neg (show ¬ d.toNat = b by omega)]
theorem lft_tau (a b f : Nat) : ∀ (l : List Int) (k u : Nat), (∀ d ∈ l, -1 ≤ d) → lft f (l.map (tau a b)) k u = lft (xch a b f) l k u
  | [], k, u, h => rfl
  | d :: l, k, u, h => by
    rw [List.map_cons, lft, lft, lft_tau a b f l _ _ fun d hd => h d (List.mem_cons_of_mem _ hd)]
    have e := tau_bit a b f (h d List.mem_cons_self)
    by_cases c : d ≠ -1 ∧ (xch a b f).testBit d.toNat = false
    · rw [if_pos c, if_pos (e.mpr c)]
    · rw [if_neg c, if_neg fun hc => c (e.mp hc)]
/-- One peril is another with domains a and b exchanged. -/
structure NamP (p q : Prl) (a b : Nat) : Prop where
  D : q.D = p.D
  G : q.G = p.G
  Gs : q.Gs = p.Gs
  al : q.al = p.al.map (tau a b)
  ch : ∃ x y, p.ch[a]? = some x ∧ p.ch[b]? = some y ∧ q.ch = (p.ch.set a y).set b x
theorem NamP.len {p q : Prl} {a b : Nat} (N : NamP p q a b) : q.ch.length = p.ch.length := by
  obtain ⟨x, y, _, _, e⟩ := N.ch
  rw [e]; simp
theorem NamP.lt {p q : Prl} {a b : Nat} (N : NamP p q a b) : a < p.ch.length ∧ b < p.ch.length := by
  obtain ⟨x, y, h1, h2, _⟩ := N.ch
  obtain ⟨g1, _⟩ := List.getElem?_eq_some_iff.1 h1
  obtain ⟨g2, _⟩ := List.getElem?_eq_some_iff.1 h2
  exact ⟨g1, g2⟩
theorem NamP.los {p q : Prl} {a b : Nat} (N : NamP p q a b) (OK : PrlOk p) (f : Nat) : LosP q f ↔ LosP p (xch a b f) := by
  unfold LosP
  rw [N.D, N.G, N.Gs, N.al, lft_tau a b f p.al 0 0 fun d hd => (OK.al d hd).1]
theorem NamP.ok {p q : Prl} {a b : Nat} (N : NamP p q a b) (OK : PrlOk p) : PrlOk q := by
  obtain ⟨ha, hb⟩ := N.lt
  refine ⟨?_, ?_, ?_, ?_, ?_⟩
  · rw [N.D, N.G, N.Gs]; exact OK.cod
  · rw [N.len]; exact OK.l12
  · rw [N.D, N.G, N.Gs, N.al, List.length_map]; exact OK.pcs
  · intro d hd
    rw [N.al, List.mem_map] at hd
    obtain ⟨c, hc, rfl⟩ := hd
    rw [N.len]
    exact tau_rng ha hb (OK.al c hc)
  · intro c hc
    obtain ⟨x, y, h1, h2, e⟩ := N.ch
    rw [e] at hc
    rcases List.mem_or_eq_of_mem_set hc with h | h
    · rcases List.mem_or_eq_of_mem_set h with h | h
      · exact OK.ch c h
      · rw [h]; exact OK.ch y (List.mem_of_getElem? h2)
    · rw [h]; exact OK.ch x (List.mem_of_getElem? h1)
theorem xch_self (a f : Nat) : xch a a f = f := if_pos rfl
theorem set_twice12 : ∀ (l : List Int) (a : Nat) (x : Int), l[a]? = some x → (l.set a x).set a x = l
  | [], a, x, h => rfl
  | c :: l, 0, x, h => by
    simp only [List.getElem?_cons_zero, Option.some.injEq] at h
    subst h; rfl
  | c :: l, a + 1, x, h => by
    rw [List.set_cons_succ, List.set_cons_succ, set_twice12 l a x (by simpa using h)]
theorem NamP.sum {p q : Prl} {a b : Nat} (N : NamP p q a b) (OK : PrlOk p) : lsum q (2 ^ q.ch.length) = lsum p (2 ^ p.ch.length) := by
  rw [lsum_ex, lsum_ex]
  have e : Ex q.ch (indL q) = Ex q.ch (fun f => indL p (xch a b f)) := ex_congr _ fun f => by
    unfold indL
    by_cases h : LosP q f
    · rw [if_pos h, if_pos ((N.los OK f).1 h)]
    · rw [if_neg h, if_neg fun hh => h ((N.los OK f).2 hh)]
  rw [e]
  obtain ⟨x, y, h1, h2, e⟩ := N.ch
  rw [e]
  by_cases c : a = b
  · subst c
    rw [h1] at h2
    cases h2
    rw [set_twice12 _ _ _ h1]
    exact ex_congr _ fun f => by rw [xch_self]
  · exact ex_xch p.ch (indL p) a b x y c h1 h2
theorem NamP.scl {p q : Prl} {a b : Nat} (N : NamP p q a b) (OK : PrlOk p) : scl q = scl p := by
  unfold Go.Proofs.YtgajlgnniidgmaaDoor.scl
  rw [N.sum OK, N.len]
theorem drop_bit {f d : Nat} (h : f.testBit d = true) (i : Nat) : (f - 2 ^ d).testBit i = (f.testBit i && decide (i ≠ d)) := by
  obtain ⟨u, v, hv, rfl⟩ := bit_parts h
  have e : 2 ^ d * (2 * u + 1) + v - 2 ^ d = 2 ^ d * (2 * u) + v := by rw [Nat.mul_add, Nat.mul_one]; omega
  rw [e, Nat.testBit_two_pow_mul_add _ hv, Nat.testBit_two_pow_mul_add _ hv]
  by_cases c : i < d
  · rw [if_pos c, if_pos c, decide_eq_true (show i ≠ d by omega), Bool.and_true]
  · rw [if_neg c, if_neg c]
    by_cases c2 : i = d
    · subst c2
      rw [Nat.sub_self, decide_eq_false (by simp), Bool.and_false]
      rw [Nat.testBit_zero, decide_eq_false]; omega
    · obtain ⟨k, hk⟩ : ∃ k, i - d = k + 1 := ⟨i - d - 1, by omega⟩
      rw [hk, decide_eq_true c2, Bool.and_true, Nat.testBit_succ, Nat.testBit_succ]
      congr 1; omega
theorem cnt7_xch1 {a b f : Nat} (ha : f.testBit a = true) (hb : f.testBit b = false) : cnt7 (xch a b f) = cnt7 f := by
  have hx : (xch a b f).testBit b = true := by
    rw [xch_bit]
    by_cases c : b = a
    · subst c; rw [ha] at hb; cases hb
    · rw [if_neg c, if_pos rfl]; exact ha
  have e : xch a b f - 2 ^ b = f - 2 ^ a := Nat.eq_of_testBit_eq fun i => by
    rw [drop_bit hx, drop_bit ha, xch_bit]
    by_cases c1 : i = a
    · subst c1
      rw [if_pos rfl, hb]; simp
    · rw [if_neg c1]
      by_cases c2 : i = b
      · subst c2
        rw [if_pos rfl, hb]; simp
      · rw [if_neg c2, decide_eq_true c1, decide_eq_true c2]
  have h1 := (cnt7_drop hx).1
  have h2 := (cnt7_drop ha).1
  rw [e] at h1
  omega
theorem xch_comm (a b f : Nat) : xch a b f = xch b a f := Nat.eq_of_testBit_eq fun i => by
  rw [xch_bit, xch_bit]
  by_cases c1 : i = a
  · by_cases c2 : i = b
    · rw [if_pos c1, if_pos c2, ← c1, ← c2]
    · rw [if_pos c1, if_neg c2, if_pos c1]
  · by_cases c2 : i = b
    · rw [if_neg c1, if_pos c2, if_pos c2]
    · rw [if_neg c1, if_neg c2, if_neg c2, if_neg c1]
theorem cnt7_xch (a b f : Nat) : cnt7 (xch a b f) = cnt7 f := by
  cases ha : f.testBit a <;> cases hb : f.testBit b
  · unfold xch; rw [if_pos (by rw [ha, hb])]
  · rw [xch_comm]; exact cnt7_xch1 hb ha
  · exact cnt7_xch1 ha hb
  · unfold xch; rw [if_pos (by rw [ha, hb])]
theorem xch_lt {a b f n : Nat} (ha : a < n) (hb : b < n) (hf : f < 2 ^ n) : xch a b f < 2 ^ n :=
  Nat.lt_pow_two_of_testBit _ fun i hi => by
    rw [xch_bit, if_neg (by omega), if_neg (by omega)]
    exact Nat.testBit_lt_two_pow (Nat.lt_of_lt_of_le hf (Nat.pow_le_pow_right (by omega) hi))
theorem NamP.lst {p q : Prl} {a b : Nat} (N : NamP p q a b) (OK : PrlOk p) : cnt7 (lstV q) = cnt7 (lstV p) := by
  obtain ⟨ha, hb⟩ := N.lt
  obtain ⟨h1, h2, h3⟩ := lst_facts OK
  obtain ⟨g1, g2, g3⟩ := lst_facts (N.ok OK)
  rw [N.len] at g2 g3
  have i1 := h3 (xch a b (lstV q)) (xch_lt ha hb g2) ((N.los OK _).1 g1)
  have i2 := g3 (xch a b (lstV p)) (xch_lt ha hb h2) ((N.los OK _).2 (by rw [xch_xch]; exact h1))
  rw [cnt7_xch] at i1 i2
  omega
theorem cmpI_self (x : Int) : cmpI x x = 0 := by
  unfold cmpI; rw [if_neg (by omega), if_neg (by omega)]
theorem cmpI_neg (x y : Int) : cmpI x y = - cmpI y x := by
  unfold cmpI
  by_cases h1 : x < y
  · rw [if_pos h1, if_neg (by omega), if_pos h1]
  · rw [if_neg h1]
    by_cases h2 : y < x
    · rw [if_pos h2, if_pos h2]; rfl
    · rw [if_neg h2, if_neg h2, if_neg h1]; rfl
/-- What Compare answers for two perils, of which the first has no error, in both orders. -/
theorem cmp_turned {p q : Prl} (h : chkP p = 0) : cmpE q p = cmpE p q ∧ (if cmpE p q = 0 then cmpI (scl p) (scl q) else 0) = - (if cmpE q p = 0 then cmpI (scl q) (scl p) else 0) := by
  have e : cmpE q p = cmpE p q := by
    unfold cmpE
    rw [if_pos h, h]
    by_cases c : chkP q = 0
    · rw [if_pos c, c]
    · rw [if_neg c]
  refine ⟨e, ?_⟩
  rw [e]
  by_cases c : cmpE p q = 0
  · rw [if_pos c, if_pos c]; exact cmpI_neg _ _
  · rw [if_neg c, if_neg c]; rfl
theorem cmp_same {p q : Prl} {a b : Nat} (N : NamP p q a b) (OK : PrlOk p) : cmpE p q = 0 ∧ (if cmpE p q = 0 then cmpI (scl p) (scl q) else 0) = 0 := by
  have e : cmpE p q = 0 := by
    unfold cmpE
    rw [if_pos (chkP_ok.2 OK), chkP_ok.2 (N.ok OK)]
  refine ⟨e, ?_⟩
  rw [if_pos e, N.scl OK, cmpI_self]
end Go.Proofs.YtgajlgnniidgmaaDoor
