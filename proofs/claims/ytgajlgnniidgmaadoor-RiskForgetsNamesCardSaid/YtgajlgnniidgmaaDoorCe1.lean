/-
  Stage 7, the mathematics of recoverable sets: kernels; the rank as the specification counts it; rows that become stairs. No Go in sight. Contracts of stage 7: slices.IndexFunc over bytes, (*stairs).add. Contracts of stage 7: (*stairs).add for any row of the call's own; equations' iterator.
-/
import Derived.Test.YtgajlgnniidgmaaDoorCd1
import Derived.Test.YtgajlgnniidgmaaDoorCd2
namespace Go.Proofs.YtgajlgnniidgmaaDoor
set_option linter.unusedVariables false
set_option linter.unusedSimpArgs false

/-- A row as a function; the product of two rows, as far as n columns; rows that only 0 is perpendicular to. -/
def rfn (r : List UInt8) : Nat → UInt8 := fun k => r.getD k 0
def dot7 (n : Nat) (r x : Nat → UInt8) : UInt8 := xsum n fun k => Gf.mul (r k) (x k)
def Full7 (l : List (List UInt8)) (n : Nat) : Prop := ∀ x : Nat → UInt8, (∀ r ∈ l, dot7 n (rfn r) x = 0) → ∀ k, k < n → x k = 0
theorem xsum_head (f : Nat → UInt8) : ∀ n, xsum (n + 1) f = f 0 ^^^ xsum n fun k => f (k + 1)
  | 0 => by rw [xsum_succ]; show (0 : UInt8) ^^^ f 0 = f 0 ^^^ 0; rw [UInt8.zero_xor, UInt8.xor_zero]
  | n + 1 => by rw [xsum_succ, xsum_head f n, xsum_succ, UInt8.xor_assoc]
theorem dot7_congr {n : Nat} {r s x : Nat → UInt8} (h : ∀ k, k < n → r k = s k) : dot7 n r x = dot7 n s x := xsum_congr fun k hk => by rw [h k hk]
theorem dot7_congr2 {n : Nat} {r x y : Nat → UInt8} (h : ∀ k, k < n → x k = y k) : dot7 n r x = dot7 n r y := xsum_congr fun k hk => by rw [h k hk]
theorem dot7_add (n : Nat) (a b x : Nat → UInt8) : dot7 n (fun k => a k ^^^ b k) x = dot7 n a x ^^^ dot7 n b x := by
  unfold dot7
  rw [← xsum_add]
  exact xsum_congr fun k _ => Gf.xor_mul _ _ _
theorem dot7_smul (n : Nat) (c : UInt8) (a x : Nat → UInt8) : dot7 n (fun k => Gf.mul c (a k)) x = Gf.mul c (dot7 n a x) := by
  unfold dot7
  rw [mul_xsum]
  exact xsum_congr fun k _ => Gf.mul_assoc _ _ _
theorem dot7_zero (n : Nat) (x : Nat → UInt8) : dot7 n (fun _ => 0) x = 0 := xsum_none _ fun k _ => Gf.zero_mul _
theorem dot7_sum (n : Nat) (f : Nat → Nat → UInt8) (x : Nat → UInt8) : ∀ m, dot7 n (fun k => xsum m fun i => f i k) x = xsum m fun i => dot7 n (f i) x
  | 0 => dot7_zero n x
  | m + 1 => by
    show dot7 n (fun k => (xsum m fun i => f i k) ^^^ f m k) x = _
    rw [dot7_add, dot7_sum n f x m]
    rfl
theorem dot7_less {n m : Nat} {r x : Nat → UInt8} (h : n ≤ m) (hx : ∀ k, n ≤ k → k < m → x k = 0) : dot7 m r x = dot7 n r x :=
  xsum_more _ h fun k h1 h2 => by rw [hx k h1 h2, Gf.mul_zero]
theorem xor_eq7 {a b : UInt8} (h : a ^^^ b = 0) : a = b := UInt8.xor_eq_zero_iff.1 h

/-- What the specification's elimination makes of rows: each but the pivot is lessened. -/
def lessL (l : List (List UInt8)) (p a : Nat) : List (List UInt8) := (l.eraseIdx p).map fun r => lessF r (l.getD p []) a r.length
/-- The rank of the columns a, .., a + m - 1, as the specification counts it. -/
def rk7 : Nat → Nat → List (List UInt8) → Nat
  | 0, _, _ => 0
  | m + 1, a, l => match l.findIdx? (fun r => r.getD a 0 != 0) with
    | none => rk7 m (a + 1) l
    | some p => rk7 m (a + 1) (lessL l p a) + 1
def FullA (l : List (List UInt8)) (a m : Nat) : Prop := ∀ x : Nat → UInt8, (∀ r ∈ l, dot7 m (fun k => r.getD (a + k) 0) x = 0) → ∀ k, k < m → x k = 0
theorem fullA_zero (l : List (List UInt8)) (m : Nat) : FullA l 0 m ↔ Full7 l m := by
  have e : ∀ r : List UInt8, (fun k => r.getD (0 + k) 0) = rfn r := fun r => by funext k; rw [Nat.zero_add]; rfl
  unfold FullA Full7
  simp only [e]
theorem lessF_at (r o : List UInt8) (a m j : Nat) (h : j < m) : (lessF r o a m).getD j 0 = r.getD j 0 ^^^ Gf.mul (Gf.mul (r.getD a 0) (Gf.inv (o.getD a 0))) (o.getD j 0) := by
  unfold lessF
  rw [List.getD_eq_getElem?_getD, List.getElem?_map, List.getElem?_range h]
  rfl
theorem rk7_le : ∀ m a l, rk7 m a l ≤ m
  | 0, _, _ => Nat.le_refl _
  | m + 1, a, l => by
    unfold rk7
    cases l.findIdx? (fun r => r.getD a 0 != 0) with
    | none => have := rk7_le m (a + 1) l; simp only; omega
    | some p => have := rk7_le m (a + 1) (lessL l p a); simp only; omega
theorem lessL_len {l : List (List UInt8)} {p a N : Nat} (h : ∀ r ∈ l, r.length = N) : ∀ r ∈ lessL l p a, r.length = N := fun r hr => by
  unfold lessL at hr
  obtain ⟨s, hs, rfl⟩ := List.mem_map.1 hr
  rw [lessF_len]
  exact h s (List.mem_of_mem_eraseIdx hs)
theorem dot_less {r o : List UInt8} {a m N : Nat} (hr : r.length = N) (ha : a + (m + 1) ≤ N) (y : Nat → UInt8) :
    dot7 m (fun k => (lessF r o a r.length).getD (a + 1 + k) 0) y = dot7 m (fun k => r.getD (a + 1 + k) 0) y ^^^ Gf.mul (Gf.mul (r.getD a 0) (Gf.inv (o.getD a 0))) (dot7 m (fun k => o.getD (a + 1 + k) 0) y) := by
  rw [← dot7_smul, ← dot7_add]
  exact dot7_congr fun k hk => lessF_at _ _ _ _ _ (by omega)
theorem dot_head (r : List UInt8) (a m : Nat) (x : Nat → UInt8) : dot7 (m + 1) (fun k => r.getD (a + k) 0) x = Gf.mul (r.getD a 0) (x 0) ^^^ dot7 m (fun k => r.getD (a + 1 + k) 0) fun k => x (k + 1) := by
  unfold dot7
  rw [xsum_head]
  congr 1
  exact xsum_congr fun k _ => by show Gf.mul (r.getD (a + (k + 1)) 0) _ = Gf.mul (r.getD (a + 1 + k) 0) _; rw [show a + (k + 1) = a + 1 + k by omega]
theorem rk7_iff : ∀ m a N (l : List (List UInt8)), (∀ r ∈ l, r.length = N) → a + m ≤ N → (rk7 m a l = m ↔ FullA l a m)
  | 0, a, N, l, _, _ => ⟨fun _ x _ k hk => by omega, fun _ => rfl⟩
  | m + 1, a, N, l, hl, hN => by
    unfold rk7
    cases hf : l.findIdx? (fun r => r.getD a 0 != 0) with
    | none =>
      have h0 : ∀ r ∈ l, r.getD a 0 = 0 := fun r hr => by
        have := List.findIdx?_eq_none_iff.1 hf r hr
        simpa using this
      have hle := rk7_le m (a + 1) l
      refine ⟨fun h => by simp only at h; omega, fun h => ?_⟩
      have := h (fun k => if k = 0 then 1 else 0) (fun r hr => by
        rw [dot_head, h0 r hr, Gf.zero_mul, UInt8.zero_xor]
        exact xsum_none _ fun k _ => by simp [Gf.mul_zero]) 0 (by omega)
      simp at this
    | some p =>
      obtain ⟨hp, hpa, _⟩ := List.findIdx?_eq_some_iff_getElem.1 hf
      have hpl : l.getD p [] = l[p] := by rw [List.getD_eq_getElem?_getD, List.getElem?_eq_getElem hp]; rfl
      have hne : l[p].getD a 0 ≠ 0 := by simpa using hpa
      have ih := rk7_iff m (a + 1) N (lessL l p a) (lessL_len hl) (by omega)
      have hi : Gf.mul (l[p].getD a 0) (Gf.inv (l[p].getD a 0)) = 1 := Gf.mul_inv hne
      have hkey : ∀ (r : List UInt8) (x : Nat → UInt8), r.length = N → Gf.mul (l[p].getD a 0) (x 0) = dot7 m (fun k => l[p].getD (a + 1 + k) 0) (fun k => x (k + 1)) →
          dot7 (m + 1) (fun k => r.getD (a + k) 0) x = dot7 m (fun k => (lessF r l[p] a r.length).getD (a + 1 + k) 0) fun k => x (k + 1) := fun r x hr hx => by
        rw [dot_head, dot_less hr (by omega), ← hx, Gf.mul_assoc, ← Gf.mul_assoc (Gf.inv _), Gf.mul_comm (Gf.inv _), hi, Gf.one_mul, UInt8.xor_comm]
      constructor
      · intro h x hx
        have hfull := ih.1 (by simp only at h; omega)
        have hp0 := hx l[p] (List.getElem_mem hp)
        rw [dot_head] at hp0
        have hp1 := xor_eq7 hp0
        have hy := hfull (fun k => x (k + 1)) (fun r hr => by
          unfold lessL at hr
          obtain ⟨s, hs, rfl⟩ := List.mem_map.1 hr
          rw [hpl, ← hkey s x (hl s (List.mem_of_mem_eraseIdx hs)) hp1]
          exact hx s (List.mem_of_mem_eraseIdx hs))
        intro k hk
        cases k with
        | zero =>
          have : dot7 m (fun k => l[p].getD (a + 1 + k) 0) (fun k => x (k + 1)) = 0 := xsum_none _ fun k hk => by show Gf.mul _ (x (k + 1)) = 0; rw [hy k hk, Gf.mul_zero]
          rw [this] at hp1
          exact ((Gf.mul_eq_zero _ _).1 hp1).resolve_left hne
        | succ k => exact hy k (by omega)
      · intro h
        have hfull : FullA (lessL l p a) (a + 1) m := fun y hy k hk => by
          obtain ⟨x, hx⟩ : ∃ x : Nat → UInt8, x = fun k => match k with
            | 0 => Gf.mul (Gf.inv (l[p].getD a 0)) (dot7 m (fun k => l[p].getD (a + 1 + k) 0) y)
            | k + 1 => y k := ⟨_, rfl⟩
          have hx0 : Gf.mul (l[p].getD a 0) (x 0) = dot7 m (fun k => l[p].getD (a + 1 + k) 0) (fun k => x (k + 1)) := by
            rw [hx]
            show Gf.mul _ (Gf.mul _ _) = _
            rw [← Gf.mul_assoc, hi, Gf.one_mul]
          have := h x (fun r hr => by
            rcases List.getElem?_of_mem hr with ⟨i, hi'⟩
            by_cases hip : i = p
            · subst hip
              rw [List.getElem?_eq_getElem hp] at hi'
              obtain rfl := Option.some.inj hi'
              rw [dot_head, hx0, UInt8.xor_self]
            · rw [hkey r x (hl r hr) hx0]
              have hxy : (fun k => x (k + 1)) = y := by rw [hx]
              rw [hxy]
              refine hy _ ?_
              unfold lessL
              rw [hpl]
              exact List.mem_map.2 ⟨r, List.mem_eraseIdx_iff_getElem?.2 ⟨i, hip, hi'⟩, rfl⟩) (k + 1) (by omega)
          rw [hx] at this
          exact this
        have := ih.2 hfull
        simp only
        omega
/-- The rank is full exactly if only 0 is perpendicular to all rows. -/
theorem rk7_full {l : List (List UInt8)} {n : Nat} (hl : ∀ r ∈ l, r.length = n) : rk7 n 0 l = n ↔ Full7 l n := (rk7_iff n 0 n l hl (by omega)).trans (fullA_zero l n)

/-- Stairs, with the number of rows in them. -/
structure Sts where
  st : Nat → List UInt8
  ht : Nat
def fst0 (wd : Nat) (r : List UInt8) : Option Nat := (List.range wd).find? fun k => r.getD k 0 != 0
theorem fst0_none {wd : Nat} {r : List UInt8} (h : fst0 wd r = none) : ∀ k, k < wd → r.getD k 0 = 0 := fun k hk => by
  have := List.find?_eq_none.1 h k (List.mem_range.2 hk)
  simpa using this
theorem fst0_some {wd k : Nat} {r : List UInt8} (h : fst0 wd r = some k) : k < wd ∧ r.getD k 0 ≠ 0 ∧ ∀ j, j < k → r.getD j 0 = 0 := by
  obtain ⟨h1, h2, h3⟩ := List.find?_range_eq_some.1 h
  refine ⟨List.mem_range.1 h2, by simpa using h1, fun j hj => ?_⟩
  have := h3 j hj
  simpa using this
def setS (st : Nat → List UInt8) (k : Nat) (r : List UInt8) : Nat → List UInt8 := fun t => if t = k then r else st t
def addS (wd : Nat) (S : Sts) (row : List UInt8) : Sts :=
  match fst0 wd (low S.st row 0 wd) with
  | none => S
  | some k => ⟨setS S.st k (mulR (Gf.inv ((low S.st row 0 wd).getD k 0)) (low S.st row 0 wd)), S.ht + 1⟩
def runS (wd : Nat) : Sts → List (List UInt8) → Sts
  | S, [] => S
  | S, row :: rows => if (addS wd S row).ht = wd then addS wd S row else runS wd (addS wd S row) rows
def hts (st : Nat → List UInt8) (wd : Nat) : Nat := ((List.range wd).filter fun k => !(st k).isEmpty).length
def noS : Sts := ⟨fun _ => [], 0⟩
/-- The stairs stand for the rows P. -/
structure SI (wd len : Nat) (S : Sts) (P : List (List UInt8)) : Prop where
  stc : Stc S.st wd len
  ht : S.ht = hts S.st wd
  snd : ∀ z, (∀ r ∈ P, dot7 len (rfn r) z = 0) → ∀ k, k < wd → dot7 len (rfn (S.st k)) z = 0
  cmp : ∀ x, (∀ k, k < wd → dot7 wd (rfn (S.st k)) x = 0) → ∀ r ∈ P, dot7 wd (rfn r) x = 0
theorem hts_none (wd : Nat) : hts (fun _ => []) wd = 0 := by unfold hts; simp
theorem si_none (wd len : Nat) : SI wd len noS [] := ⟨⟨fun k _ => .inl rfl, fun k _ h => absurd rfl h, fun k j _ _ => rfl⟩, (hts_none wd).symm, fun z _ k _ => dot7_zero _ _, fun x _ r hr => by cases hr⟩
theorem setS_same (st : Nat → List UInt8) (k : Nat) (r : List UInt8) : setS st k r k = r := if_pos rfl
theorem setS_other (st : Nat → List UInt8) {k t : Nat} (r : List UInt8) (h : t ≠ k) : setS st k r t = st t := if_neg h
theorem hts_set {st : Nat → List UInt8} {k : Nat} {r : List UInt8} (h0 : st k = []) (hr : r ≠ []) : ∀ wd, hts (setS st k r) wd = hts st wd + if k < wd then 1 else 0
  | 0 => by rw [if_neg (by omega)]; rfl
  | wd + 1 => by
    have ih := hts_set h0 hr wd
    unfold hts at ih ⊢
    rw [List.range_succ, List.filter_append, List.length_append, List.filter_append, List.length_append, ih]
    by_cases e : wd = k
    · subst e
      rw [if_neg (by omega), if_pos (by omega)]
      have e1 : ((setS st wd r wd).isEmpty) = false := by rw [setS_same]; cases r with | nil => exact absurd rfl hr | cons _ _ => rfl
      simp [e1, h0]
    · have e1 : setS st k r wd = st wd := setS_other st r e
      by_cases hk : k < wd
      · rw [if_pos hk, if_pos (by omega)]
        simp only [List.filter_cons, e1, List.filter_nil]
        split <;> simp <;> omega
      · rw [if_neg hk, if_neg (by omega)]
        simp only [List.filter_cons, e1, List.filter_nil]
        split <;> simp
/-- The product with what is left of a row. -/
theorem dot_low {st : Nat → List UInt8} {wd len f n : Nat} (h : Stc st wd len) {r : List UInt8} (hr : r.length = len) (hn : f + n ≤ wd) (N : Nat) : ∃ c : Nat → UInt8, ∀ z, dot7 N (rfn (low st r f n)) z = dot7 N (rfn r) z ^^^ xsum n fun i => Gf.mul (c i) (dot7 N (rfn (st (f + i))) z) := by
  obtain ⟨c, hc⟩ := low_sum (f := f) h hr n hn
  refine ⟨c, fun z => ?_⟩
  have e : dot7 N (rfn (low st r f n)) z = dot7 N (fun j => rfn r j ^^^ xsum n fun i => Gf.mul (c i) (rfn (st (f + i)) j)) z := dot7_congr fun k _ => hc k
  rw [e, dot7_add, dot7_sum N (fun i j => Gf.mul (c i) (rfn (st (f + i)) j))]
  congr 1
  exact xsum_congr fun i _ => dot7_smul _ _ _ _
theorem dot_mulR (N : Nat) (c : UInt8) (r : List UInt8) (z : Nat → UInt8) : dot7 N (rfn (mulR c r)) z = Gf.mul c (dot7 N (rfn r) z) := by
  rw [← dot7_smul]
  exact dot7_congr fun k _ => mulR_getD c r k
theorem mulR_ne {c : UInt8} {r : List UInt8} (h : r ≠ []) : mulR c r ≠ [] := fun hh => by
  have := mulR_len c r
  rw [hh] at this
  exact h (List.length_eq_zero_iff.1 this.symm)
theorem si_add {wd len : Nat} {S : Sts} {P : List (List UInt8)} (h : SI wd len S P) {row : List UInt8} (hr : row.length = len) (hw : wd ≤ len) : SI wd len (addS wd S row) (row :: P) := by
  have hll : (low S.st row 0 wd).length = len := by rw [low_len]; exact hr
  obtain ⟨c, hc⟩ := dot_low (N := len) h.stc hr (f := 0) (n := wd) (by omega)
  obtain ⟨d, hd⟩ := dot_low (N := wd) h.stc hr (f := 0) (n := wd) (by omega)
  have hsum : ∀ z, (∀ k, k < wd → dot7 len (rfn (S.st k)) z = 0) → dot7 len (rfn (low S.st row 0 wd)) z = dot7 len (rfn row) z := fun z hz => by
    rw [hc z, xsum_none _ fun i hi => by rw [hz (0 + i) (by omega), Gf.mul_zero], UInt8.xor_zero]
  have hsum2 : ∀ x, (∀ k, k < wd → dot7 wd (rfn (S.st k)) x = 0) → dot7 wd (rfn (low S.st row 0 wd)) x = dot7 wd (rfn row) x := fun x hx => by
    rw [hd x, xsum_none _ fun i hi => by rw [hx (0 + i) (by omega), Gf.mul_zero], UInt8.xor_zero]
  unfold addS
  cases hf : fst0 wd (low S.st row 0 wd) with
  | none =>
    refine ⟨h.stc, h.ht, fun z hz => h.snd z fun r hr => hz r (List.mem_cons_of_mem _ hr), fun x hx r hr' => ?_⟩
    rcases List.mem_cons.1 hr' with rfl | hr'
    · rw [← hsum2 x hx]
      exact xsum_none _ fun k hk => by show Gf.mul (List.getD _ k 0) _ = 0; rw [fst0_none hf k hk, Gf.zero_mul]
    · exact h.cmp x hx r hr'
  | some k =>
    obtain ⟨hk, hne, hz0⟩ := fst0_some hf
    have he : S.st k = [] := by
      rcases Classical.em (S.st k = []) with e | e
      · exact e
      · exact absurd (low_done h.stc hr wd (by omega) k (by omega) (by omega) e) hne
    have hnil : low S.st row 0 wd ≠ [] := fun hh => by rw [hh] at hll; simp at hll; omega
    have hone : Gf.mul (Gf.inv ((low S.st row 0 wd).getD k 0)) ((low S.st row 0 wd).getD k 0) = 1 := by rw [Gf.mul_comm]; exact Gf.mul_inv hne
    show SI wd len ⟨setS S.st k (mulR (Gf.inv ((low S.st row 0 wd).getD k 0)) (low S.st row 0 wd)), S.ht + 1⟩ (row :: P)
    refine ⟨⟨fun t ht => ?_, fun t ht hh => ?_, fun t j ht hj => ?_⟩, ?_, fun z hz t ht => ?_, fun x hx => ?_⟩
    · show setS _ _ _ t = [] ∨ (setS _ _ _ t).length = _
      by_cases e : t = k
      · subst e; rw [setS_same]; exact .inr (by rw [mulR_len]; exact hll)
      · rw [setS_other _ _ e]; exact h.stc.len t ht
    · show (setS _ _ _ t).getD t 0 = 1
      by_cases e : t = k
      · subst e; rw [setS_same, mulR_getD]; exact hone
      · have hh' : setS S.st k (mulR (Gf.inv ((low S.st row 0 wd).getD k 0)) (low S.st row 0 wd)) t ≠ [] := hh
        rw [setS_other _ _ e] at hh' ⊢; exact h.stc.one t ht hh'
    · show (setS _ _ _ t).getD j 0 = 0
      by_cases e : t = k
      · subst e; rw [setS_same, mulR_getD, hz0 j hj, Gf.mul_zero]
      · rw [setS_other _ _ e]; exact h.stc.zero t j ht hj
    · show S.ht + 1 = hts (setS _ _ _) wd
      rw [hts_set he (mulR_ne hnil), if_pos hk, h.ht]
    · show dot7 len (rfn (setS _ _ _ t)) z = 0
      have hz' := h.snd z fun r hr => hz r (List.mem_cons_of_mem _ hr)
      by_cases e : t = k
      · subst e; rw [setS_same, dot_mulR, hsum z hz', hz row (List.mem_cons_self ..), Gf.mul_zero]
      · rw [setS_other _ _ e]; exact hz' t ht
    · have hx1 : ∀ t, t < wd → dot7 wd (rfn (S.st t)) x = 0 := fun t ht => by
        by_cases e : t = k
        · subst e; rw [he]; exact dot7_zero _ _
        · have := hx t ht
          rw [show (Sts.mk (setS S.st k (mulR (Gf.inv ((low S.st row 0 wd).getD k 0)) (low S.st row 0 wd))) (S.ht + 1)).st t = S.st t from setS_other _ _ e] at this
          exact this
      intro r hr'
      rcases List.mem_cons.1 hr' with rfl | hr'
      · rw [← hsum2 x hx1]
        have := hx k hk
        rw [show (Sts.mk (setS S.st k (mulR (Gf.inv ((low S.st r 0 wd).getD k 0)) (low S.st r 0 wd))) (S.ht + 1)).st k = mulR (Gf.inv ((low S.st r 0 wd).getD k 0)) (low S.st r 0 wd) from setS_same _ _ _, dot_mulR] at this
        rcases (Gf.mul_eq_zero _ _).1 this with e | e
        · rw [e, Gf.zero_mul] at hone
          cases hone
        · exact e
      · exact h.cmp x hx1 r hr'
/-- Rows that come one after the other, until the stairs are full. -/
theorem si_run {wd len : Nat} (hw : wd ≤ len) : ∀ (rows : List (List UInt8)) (S : Sts) (P : List (List UInt8)), SI wd len S P → (∀ r ∈ rows, r.length = len) →
    ∃ Q, SI wd len (runS wd S rows) Q ∧ (∀ r ∈ Q, r ∈ P ∨ r ∈ rows) ∧ ((runS wd S rows).ht = wd ∨ ∀ r, r ∈ P ∨ r ∈ rows → r ∈ Q)
  | [], S, P, h, _ => ⟨P, h, fun r hr => .inl hr, .inr fun r hr => hr.resolve_right (by simp)⟩
  | row :: rows, S, P, h, hl => by
    have h1 := si_add h (hl row (List.mem_cons_self ..)) hw
    unfold runS
    by_cases e : (addS wd S row).ht = wd
    · rw [if_pos e]
      exact ⟨_, h1, fun r hr => (List.mem_cons.1 hr).elim (fun hh => .inr (by rw [hh]; exact List.mem_cons_self ..)) .inl, .inl e⟩
    · rw [if_neg e]
      obtain ⟨Q, h2, h3, h4⟩ := si_run hw rows _ _ h1 fun r hr => hl r (List.mem_cons_of_mem _ hr)
      refine ⟨Q, h2, fun r hr => ?_, h4.imp id fun hh r hr => hh r ?_⟩
      · rcases h3 r hr with hh | hh
        · rcases List.mem_cons.1 hh with rfl | hh
          · exact .inr (List.mem_cons_self ..)
          · exact .inl hh
        · exact .inr (List.mem_cons_of_mem _ hh)
      · rcases hr with hr | hr
        · exact .inl (List.mem_cons_of_mem _ hr)
        · rcases List.mem_cons.1 hr with rfl | hr
          · exact .inl (List.mem_cons_self ..)
          · exact .inr hr
theorem hts_le (st : Nat → List UInt8) (wd : Nat) : hts st wd ≤ wd := by
  have := List.length_filter_le (fun k => !(st k).isEmpty) (List.range wd)
  rw [List.length_range] at this
  exact this
theorem hts_all {st : Nat → List UInt8} {wd : Nat} (h : hts st wd = wd) : ∀ k, k < wd → st k ≠ [] := fun k hk hh => by
  unfold hts at h
  have h2 : ((List.range wd).filter fun k => !(st k).isEmpty).length = (List.range wd).length := by rw [List.length_range]; exact h
  have := List.length_filter_eq_length_iff.1 h2 k (List.mem_range.2 hk)
  rw [hh] at this
  cases this
/-- Full stairs: only 0 is perpendicular to all rows. -/
theorem stairs_only {st : Nat → List UInt8} {wd len : Nat} (h : Stc st wd len) (hf : ∀ k, k < wd → st k ≠ []) {x : Nat → UInt8} (hx : ∀ k, k < wd → dot7 wd (rfn (st k)) x = 0) : ∀ m k, m + k = wd → ∀ j, k ≤ j → j < wd → x j = 0
  | 0, k, e, j, h1, h2 => by omega
  | m + 1, k, e, j, h1, h2 => by
    have ih := stairs_only h hf hx m (k + 1) (by omega)
    by_cases ej : j = k
    · subst ej
      have := hx j h2
      unfold dot7 at this
      rw [xsum_one (a := j) _ h2 fun i hi hne => by
        by_cases hlt : i < j
        · show Gf.mul ((st j).getD i 0) _ = 0
          rw [h.zero j i h2 hlt, Gf.zero_mul]
        · rw [ih i (by omega) hi, Gf.mul_zero]] at this
      have e1 : rfn (st j) j = 1 := h.one j h2 (hf j h2)
      rw [e1, Gf.one_mul] at this
      exact this
    · exact ih j (by omega) h2
theorem si_full {wd len : Nat} {S : Sts} {P : List (List UInt8)} (h : SI wd len S P) (hw : wd ≤ len) : S.ht = wd ↔ Full7 P wd := by
  constructor
  · intro e x hx
    rw [h.ht] at e
    have hz := h.snd (fun k => if k < wd then x k else 0) fun r hr => by
      rw [dot7_less hw fun k h1 _ => if_neg (by omega), dot7_congr2 (y := x) fun k hk => if_pos hk]
      exact hx r hr
    intro k hk
    refine stairs_only h.stc (hts_all e) (fun t ht => ?_) wd 0 (by omega) k (by omega) hk
    have := hz t ht
    rw [dot7_less hw fun k h1 _ => if_neg (by omega), dot7_congr2 (y := x) fun k hk => if_pos hk] at this
    exact this
  · intro hF
    rcases Nat.lt_or_ge S.ht wd with hlt | hge
    · exfalso
      rw [h.ht] at hlt
      obtain ⟨L, hL⟩ : ∃ L, L = (List.range wd).filter fun k => !(S.st k).isEmpty := ⟨_, rfl⟩
      obtain ⟨z, ⟨k, hk, hzk⟩, hz⟩ := more_unknowns (hts S.st wd) wd hlt fun i k => rfn (S.st (L.getD i 0)) k
      refine hzk (hF z (h.cmp z fun t ht => ?_) k hk)
      by_cases e : S.st t = []
      · rw [e]; exact dot7_zero _ _
      · have hm : t ∈ L := by
          rw [hL]
          refine List.mem_filter.2 ⟨List.mem_range.2 ht, ?_⟩
          cases hs : S.st t with
          | nil => exact absurd hs e
          | cons _ _ => rfl
        obtain ⟨i, hi⟩ := List.getElem?_of_mem hm
        have hil : i < hts S.st wd := by
          have := (List.getElem?_eq_some_iff.1 hi).1
          rw [hL] at this
          exact this
        have := hz i hil
        rw [show L.getD i 0 = t by rw [List.getD_eq_getElem?_getD, hi]; rfl] at this
        exact this
    · have := hts_le S.st wd
      have := h.ht
      omega
/-- What comes of all rows: the stairs are full exactly if only 0 is perpendicular to all rows; and who is perpendicular to all rows is so to the stairs. -/
theorem run_full {wd len : Nat} {rows : List (List UInt8)} (hw : wd ≤ len) (hl : ∀ r ∈ rows, r.length = len) :
    Stc (runS wd noS rows).st wd len ∧ (runS wd noS rows).ht = hts (runS wd noS rows).st wd ∧ ((runS wd noS rows).ht = wd ↔ Full7 rows wd) ∧ ∀ z, (∀ r ∈ rows, dot7 len (rfn r) z = 0) → ∀ k, k < wd → dot7 len (rfn ((runS wd noS rows).st k)) z = 0 := by
  obtain ⟨Q, h1, h2, h3⟩ := si_run hw rows noS [] (si_none wd len) hl
  have hQ : ∀ r ∈ Q, r ∈ rows := fun r hr => (h2 r hr).resolve_left (by simp)
  refine ⟨h1.stc, h1.ht, ⟨fun e x hx => (si_full h1 hw).1 e x fun r hr => hx r (hQ r hr), fun hF => ?_⟩, fun z hz => h1.snd z fun r hr => hz r (hQ r hr)⟩
  rcases h3 with e | e
  · exact e
  · exact (si_full h1 hw).2 fun x hx => hF x fun r hr => hx r (e r (.inr hr))
/-- The stairs as results leaves them, when m steps have been lowered (from the last one on). -/
def lowD (wd : Nat) (st : Nat → List UInt8) : Nat → Nat → List UInt8
  | 0 => st
  | m + 1 => setS (lowD wd st m) (wd - 1 - m) (low (lowD wd st m) (lowD wd st m (wd - 1 - m)) (wd - m) m)
structure LI (wd len m : Nat) (st : Nat → List UInt8) : Prop where
  stc : Stc st wd len
  full : ∀ k, k < wd → st k ≠ []
  unit : ∀ k, wd - m ≤ k → k < wd → ∀ j, j < wd → (st k).getD j 0 = if j = k then 1 else 0
theorem li_next {wd len m : Nat} {st : Nat → List UInt8} (h : LI wd len m (lowD wd st m)) (hm : m < wd) (hw : wd ≤ len) : LI wd len (m + 1) (lowD wd st (m + 1)) ∧ ∀ z, (∀ k, k < wd → dot7 len (rfn (lowD wd st m k)) z = 0) → ∀ k, k < wd → dot7 len (rfn (lowD wd st (m + 1) k)) z = 0 := by
  generalize hs : lowD wd st m = s at h
  have e : lowD wd st (m + 1) = setS s (wd - 1 - m) (low s (s (wd - 1 - m)) (wd - m) m) := by rw [← hs]; rfl
  rw [e]
  obtain ⟨k0, hk0⟩ : ∃ k, k = wd - 1 - m := ⟨_, rfl⟩
  rw [← hk0, show wd - m = k0 + 1 by omega]
  have hlen : (s k0).length = len := (h.stc.len k0 (by omega)).resolve_left (h.full k0 (by omega))
  have hb : ∀ j, j < k0 + 1 → (low s (s k0) (k0 + 1) m).getD j 0 = (s k0).getD j 0 := low_before h.stc hlen m (by omega)
  have hd : ∀ k, k0 + 1 ≤ k → k < k0 + 1 + m → (low s (s k0) (k0 + 1) m).getD k 0 = 0 := fun k h1 h2 => low_done h.stc hlen m (by omega) k h1 h2 (h.full k (by omega))
  have hll : (low s (s k0) (k0 + 1) m).length = len := by rw [low_len]; exact hlen
  have hne : low s (s k0) (k0 + 1) m ≠ [] := fun hh => by rw [hh] at hll; simp at hll; omega
  obtain ⟨c, hc⟩ := dot_low (N := len) h.stc hlen (f := k0 + 1) (n := m) (by omega)
  refine ⟨⟨⟨fun t ht => ?_, fun t ht hh => ?_, fun t j ht hj => ?_⟩, fun t ht => ?_, fun t h1 h2 j hj => ?_⟩, fun z hz t ht => ?_⟩
  · by_cases e : t = k0
    · subst e; rw [setS_same]; exact .inr hll
    · rw [setS_other _ _ e]; exact h.stc.len t ht
  · by_cases e : t = k0
    · subst e; rw [setS_same, hb t (by omega)]; exact h.stc.one t ht (h.full t ht)
    · rw [setS_other _ _ e]; exact h.stc.one t ht (h.full t ht)
  · by_cases e : t = k0
    · subst e; rw [setS_same, hb j (by omega)]; exact h.stc.zero t j ht hj
    · rw [setS_other _ _ e]; exact h.stc.zero t j ht hj
  · by_cases e : t = k0
    · subst e; rw [setS_same]; exact hne
    · rw [setS_other _ _ e]; exact h.full t ht
  · by_cases e : t = k0
    · subst e
      rw [setS_same]
      by_cases hjt : j ≤ t
      · rw [hb j (by omega)]
        by_cases ej : j = t
        · subst ej; rw [if_pos rfl]; exact h.stc.one j hj (h.full j hj)
        · rw [if_neg ej]; exact h.stc.zero t j h2 (by omega)
      · rw [hd j (by omega) (by omega), if_neg (by omega)]
    · rw [setS_other _ _ e]; exact h.unit t (by omega) h2 j hj
  · by_cases e : t = k0
    · subst e
      rw [setS_same, hc z, hz t ht, UInt8.zero_xor]
      exact xsum_none _ fun i hi => by rw [hz (t + 1 + i) (by omega), Gf.mul_zero]
    · rw [setS_other _ _ e]; exact hz t ht
theorem li_run {wd len : Nat} {st : Nat → List UInt8} (h : Stc st wd len) (hf : ∀ k, k < wd → st k ≠ []) (hw : wd ≤ len) : ∀ m, m ≤ wd → LI wd len m (lowD wd st m) ∧ ∀ z, (∀ k, k < wd → dot7 len (rfn (st k)) z = 0) → ∀ k, k < wd → dot7 len (rfn (lowD wd st m k)) z = 0
  | 0, _ => ⟨⟨h, hf, fun k h1 h2 => by omega⟩, fun z hz => hz⟩
  | m + 1, hm => by
    obtain ⟨h1, h2⟩ := li_run h hf hw m (by omega)
    obtain ⟨h3, h4⟩ := li_next h1 (by omega) hw
    exact ⟨h3, fun z hz => h4 z (h2 z hz)⟩
/-- What results reads: the bytes that go with each column, if there are any that solve all equations. -/
theorem li_value {wd len : Nat} {st : Nat → List UInt8} (h : LI wd len wd st) (hw : wd ≤ len) {y : Nat → Nat → UInt8} {t : Nat} (ht : wd + t < len) {z : Nat → UInt8} (hz0 : ∀ j, j < wd → z j = y j t) (hz1 : z (wd + t) = 1) (hz2 : ∀ j, wd ≤ j → j ≠ wd + t → z j = 0)
    (hz : ∀ k, k < wd → dot7 len (rfn (st k)) z = 0) {k : Nat} (hk : k < wd) : (st k).getD (wd + t) 0 = y k t := by
  have := hz k hk
  unfold dot7 at this
  rw [xsum_two (a := k) (b := wd + t) _ (by omega) ht (by omega) fun j hj h1 h2 => by
    by_cases hjw : j < wd
    · show Gf.mul ((st k).getD j 0) _ = 0
      rw [h.unit k (by omega) hk j hjw, if_neg h1, Gf.zero_mul]
    · rw [hz2 j (by omega) h2, Gf.mul_zero]] at this
  rw [hz1, hz0 k hk, Gf.mul_one] at this
  have e1 : rfn (st k) k = 1 := by show (st k).getD k 0 = 1; rw [h.unit k (by omega) hk k hk, if_pos rfl]
  rw [e1, Gf.one_mul] at this
  exact (xor_eq7 this).symm
end Go.Proofs.YtgajlgnniidgmaaDoor

namespace Go.Proofs.YtgajlgnniidgmaaDoor
set_option linter.unusedVariables false
set_option linter.unusedSimpArgs false
open Go.RowKit

/-- The number that IndexFunc returns. -/
def ixV : Option Nat → Int
  | none => -1
  | some k => k
theorem fst0_is {wd k : Nat} {r : List UInt8} (h1 : k < wd) (h2 : r.getD k 0 ≠ 0) (h3 : ∀ j, j < k → r.getD j 0 = 0) : fst0 wd r = some k := by
  unfold fst0
  rw [List.find?_range_eq_some]
  refine ⟨by simpa using h2, List.mem_range.2 h1, fun j hj => ?_⟩
  have := h3 j hj
  rw [List.getD_eq_getElem?_getD] at this
  simp [this]
theorem fst0_not {wd : Nat} {r : List UInt8} (h : ∀ j, j < wd → r.getD j 0 = 0) : fst0 wd r = none := by
  unfold fst0
  rw [List.find?_eq_none]
  intro k hk
  have := h k (List.mem_range.1 hk)
  rw [List.getD_eq_getElem?_getD] at this
  simp [this]
theorem nz_int {y : UInt8} : ((y.toNat : Int) != 0) = decide (y ≠ 0) := by
  by_cases h : y = 0
  · subst h; rfl
  · have : y.toNat ≠ 0 := fun hh => h (UInt8.toNat_inj.1 hh)
    rw [decide_eq_true h]
    simp; omega
set_option maxRecDepth 100000 in
theorem hcf_add1 (args : Array Value) (W : World) : (callFunc 91 args).run Tryd.prog W = .ok (.enter 91 args) W := by
  first
    | rfl
    | (with_unfolding_all rfl)
    | kernel_rfl
set_option maxRecDepth 100000 in
set_option maxHeartbeats 1000000 in
theorem add1_any (y : UInt8) (w : World) : Calls Tryd.prog 91 #[bv y] w fun e w' => e = .returned (.bool (decide (y ≠ 0))) ∧ w' = w := by
  rw [← nz_int]
  unfold bv
  go_enter Tryd.func91, Tryd.ntmps91
  go_wp2_with fail
  go_ret
  exact ⟨rfl, rfl⟩
set_option maxRecDepth 100000 in
set_option maxHeartbeats 4000000 in
theorem index8_any {r : List UInt8} {wd gr c : Nat} {rest : List Value} {w : World} (hR : Blk w gr (r.map bv ++ rest) 5) (hw : wd ≤ r.length) (h5 : r.length ≤ 1000000) :
    Calls Tryd.prog 90 #[.slice (some ⟨gr, 0, none⟩) wd c, .func (.func 91) #[] #[]] w fun e w' => e = .returned (.int .i64 (ixV (fst0 wd r))) ∧ w' = w := by
  have hRH := Lib.hid hR
  have HC : Hid (∀ (y : UInt8) (W : World), Calls Tryd.prog 91 #[bv y] W fun e w' => e = .returned (.bool (decide (y ≠ 0))) ∧ w' = W) := fun y W => add1_any y W
  have hcf := hcf_add1
  have hwH := Lib.hid hw
  have hw5 : wd ≤ 1000000 := by omega
  obtain ⟨Z, hZ⟩ : ∃ Z, Z = ixV (fst0 wd r) := ⟨_, rfl⟩
  rw [← hZ]
  have hZH := Lib.hid hZ
  clear hR hw h5 hZ
  unfold bv at HC
  go_enter Tryd.func90, Tryd.ntmps90
  go_wp2_with fail
  go_loopw [8] (fun i wr => ∃ k : Nat, k ≤ wd ∧ i = .int .i64 k ∧ Hid (∀ j, j < k → r.getD j 0 = 0) ∧ wr = w) (fun i _ => wd - (intOf i).toNat)
  case atStart => exact ⟨0, by omega, rfl, fun j hj => by omega, rfl⟩
  case round =>
    obtain ⟨k, hk, rfl, hno, rfl⟩ := hrel
    by_cases hlt : k < wd
    · have t : (k : Int) < (wd : Int) := by omega
      have t0 : 0 ≤ (k : Int) := by omega
      obtain ⟨y, hy⟩ : ∃ y, y = r.getD k 0 := ⟨_, rfl⟩
      have p1 : wr.cell? ⟨gr, k, none⟩ = some (.int .u8 y.toNat) := by
        rw [hy]; exact hRH.out.cell (row_cell (by have := hwH.out; omega))
      have hyH := Lib.hid hy
      have H1 := Lib.hid (HC.out y wr)
      clear hy
      by_cases hy0 : y = 0
      · have hd : decide (y ≠ 0) = false := decide_eq_false (fun h => h hy0)
        rw [hd] at H1
        have hnext : Hid (∀ j, j < k + 1 → r.getD j 0 = 0) := fun j hj => by
          by_cases e : j = k
          · subst e; rw [← hyH.out]; exact hy0
          · exact hno.out j (by omega)
        clear hd hy0
        go_wp2_with fail
        refine H1.out.mono ?_
        rintro e w' ⟨rfl, rfl⟩
        go_wp2_with fail
        go_roundw
        case rel => exact ⟨k + 1, by omega, by go_num, hnext, trivial⟩
        case measure => simp [intOf]; omega
      · have hd : decide (y ≠ 0) = true := decide_eq_true hy0
        rw [hd] at H1
        have hfin : Hid (Z = (k : Int)) := by
          show _ = _
          rw [hZH.out, fst0_is hlt (by rw [← hyH.out]; exact hy0) hno.out]
          rfl
        clear hd hy0
        go_wp2_with fail
        refine H1.out.mono ?_
        rintro e w' ⟨rfl, rfl⟩
        go_wp2_with fail
        go_ret
        exact ⟨by rw [hfin.out]; rfl, rfl⟩
    · have t : ¬ (k : Int) < (wd : Int) := by omega
      have hfin : Hid (Z = -1) := by
        show _ = _
        rw [hZH.out, fst0_not fun j hj => hno.out j (by omega)]
        rfl
      go_wp2_with fail
      go_ret
      exact ⟨by rw [hfin.out]; rfl, rfl⟩

/-- The struct of the stairs, cell by cell. -/
def stL (wd : Nat) (S : Sts) (sb sc : Nat → Nat) : List Value :=
  .int .i64 wd :: .int .i64 S.ht :: (List.range 16).map fun k => .slice (if (S.st k).isEmpty then none else some ⟨sb k, 0, none⟩) (S.st k).length (sc k)
/-- Stairs, as they lie in memory: each step in a block of its own, behind the struct's. -/
structure StM (W : World) (gs wd : Nat) (S : Sts) (sb sc : Nat → Nat) (sr : Nat → List Value) : Prop where
  out : Blk W gs (stL wd S sb sc) 100
  row : ∀ k, k < wd → S.st k ≠ [] → gs < sb k ∧ Blk W (sb k) ((S.st k).map bv ++ sr k) 5
  inj : ∀ j k, j < wd → k < wd → S.st j ≠ [] → S.st k ≠ [] → sb j = sb k → j = k
  cap : ∀ k, k < wd → (S.st k).length ≤ sc k
def setN {α : Type} (f : Nat → α) (k : Nat) (x : α) : Nat → α := fun t => if t = k then x else f t
theorem stL_len (wd : Nat) (S : Sts) (sb sc : Nat → Nat) : (stL wd S sb sc).length = 18 := by unfold stL; simp
theorem stL_at {wd : Nat} {S : Sts} {sb sc : Nat → Nat} {k : Nat} (h : k < 16) : (stL wd S sb sc)[2 + k]? = some (.slice (if (S.st k).isEmpty then none else some ⟨sb k, 0, none⟩) (S.st k).length (sc k)) := by
  unfold stL
  rw [show 2 + k = k + 1 + 1 by omega, List.getElem?_cons_succ, List.getElem?_cons_succ, List.getElem?_map, List.getElem?_range h]
  rfl
theorem stL_set {wd gr c : Nat} {S : Sts} {sb sc : Nat → Nat} {k : Nat} {r : List UInt8} (hk : k < 16) (hr : r ≠ []) :
    ((stL wd S sb sc).set (2 + k) (.slice (some ⟨gr, 0, none⟩) r.length c)).set 1 (.int .i64 ((S.ht + 1 : Nat) : Int)) = stL wd ⟨setS S.st k r, S.ht + 1⟩ (setN sb k gr) (setN sc k c) := by
  unfold stL
  rw [show 2 + k = k + 1 + 1 by omega, List.set_cons_succ, List.set_cons_succ, List.set_cons_succ, List.set_cons_zero]
  congr 2
  apply List.ext_getElem?
  intro t
  rw [List.getElem?_set]
  by_cases ht : t < 16
  · rw [List.getElem?_map, List.getElem?_map, List.getElem?_range ht]
    by_cases e : k = t
    · subst e
      have he : r.isEmpty = false := by cases r with | nil => exact absurd rfl hr | cons _ _ => rfl
      rw [if_pos rfl, if_pos (by simp; omega)]
      simp only [Option.map_some, setS, setN, if_true, he]
      rfl
    · rw [if_neg e]
      simp only [Option.map_some, setS, setN, if_neg (fun h : t = k => e h.symm)]
  · rw [if_neg (by omega), List.getElem?_eq_none (by simp; omega), List.getElem?_eq_none (by simp; omega)]
theorem mixF_set (F : Nat → UInt8) (Y : List UInt8) (j : Nat) (h : j < Y.length) : (mixF F Y j).set j (F j) = mixF F Y (j + 1) := by
  apply List.ext_getElem?
  intro t
  rw [List.getElem?_set]
  by_cases e : j = t
  · subst e
    rw [if_pos rfl, if_pos (by rw [mixF_len F Y j (by omega)]; exact h), mixF_get_lt F Y (j + 1) j (by omega)]
  · rw [if_neg e]
    by_cases hlt : t < j
    · rw [mixF_get_lt F Y j t hlt, mixF_get_lt F Y (j + 1) t (by omega)]
    · rw [mixF_get_ge F Y j t (by omega), mixF_get_ge F Y (j + 1) t (by omega)]
/-- What add ends with. -/
def AddEnd (w : World) (gs gr wd : Nat) (S' : Sts) (e : Ending) (w' : World) : Prop :=
  (∃ b, e = .returned (.bool b) ∧ (b = true ↔ S'.ht ≠ wd)) ∧ (∃ sb sc sr, StM w' gs wd S' sb sc sr) ∧ Chg [gs, gr] w w'
theorem beq_not {a b : Nat} : ((!((a : Int) == (b : Int))) = true) ↔ a ≠ b := by
  rw [Bool.not_eq_true', beq_eq_false_iff_ne]
  omega
theorem size_stairs_cell : (Tryd.prog.info? 3).map (·.size) = some 1 := by kernel_rfl
set_option maxRecDepth 100000 in
set_option maxHeartbeats 8000000 in
theorem add_any {gs gr wd c : Nat} {S : Sts} {sb sc : Nat → Nat} {sr : Nat → List Value} (r : List UInt8) (rest : List Value) (w : World) (hM : StM w gs wd S sb sc sr) (hs : Stc S.st wd r.length) (hR : Blk w gr (r.map bv ++ rest) 5) (hgr : gs < gr)
    (hnew : ∀ k, k < wd → S.st k ≠ [] → sb k ≠ gr) (hw : wd ≤ r.length) (hw16 : wd ≤ 16) (hr5 : r.length ≤ 1000000) (hrc : r.length ≤ c) (ht : PTab 2 w) (hg0 : 2 < gs) (hht : S.ht ≤ 1000) :
    Calls Tryd.prog 82 #[.pointer (some ⟨gs, 0, none⟩), .slice (some ⟨gr, 0, none⟩) r.length c] w (AddEnd w gs gr wd (addS wd S r)) := by
  have hgsl := hM.out.lt
  have hgrl := hR.lt
  have hT : Hid (∀ W, Chg [gs, gr] w W → PTab 2 W) := fun W h => ht.below (h.below (B := gs) (fun x hx => by simp at hx; omega) (by omega)) hg0
  obtain ⟨sA, hsA⟩ : ∃ sA : Nat → Option Addr, sA = fun k => if (S.st k).isEmpty then none else some ⟨sb k, 0, none⟩ := ⟨_, rfl⟩
  have hne : gs ≠ gr := by omega
  have hrds : ∀ k, 0 ≤ k → k < wd → ∀ W, Chg [gr] w W → Rds W W.heap.size (sA k) ((S.st k).map bv) := fun k _ hk W hW => by
    rw [hsA]
    by_cases e : S.st k = []
    · rw [e]; exact Rds.empty
    · have he : (S.st k).isEmpty = false := by cases h : S.st k with | nil => exact absurd h e | cons _ _ => rfl
      obtain ⟨h1, h2⟩ := hM.row k hk e
      have h3 := hW.blk h2 (by simpa using hnew k hk e)
      have h4 := h3.rds 0 (S.st k).length
      rw [List.drop_zero, List.take_append_of_le_length (by rw [List.length_map]; exact Nat.le_refl _), List.take_of_length_le (by rw [List.length_map]; exact Nat.le_refl _)] at h4
      simp only [he]
      exact h4
  have CL := Lib.hid (lower_any S.st gs gr wd 0 c (stL wd S sb sc) sA sc r rest w hM.out rfl (fun k hk => by rw [stL_at (by omega), hsA]) hne hR (fun k _ hk => hs.le hk) hrds hw hw16 (by omega) hr5 (fun W hW => hT.out W (hW.more fun x hx => by simp at hx ⊢; exact .inr hx)))
  rw [Nat.sub_zero] at CL
  obtain ⟨R, hRr⟩ : ∃ R, R = low S.st r 0 wd := ⟨_, rfl⟩
  have hRl : R.length = r.length := by rw [hRr, low_len]
  obtain ⟨S', hS'⟩ : ∃ S', S' = addS wd S r := ⟨_, rfl⟩
  rw [← hS']
  rw [← hRr] at CL
  obtain ⟨n, hn⟩ : ∃ n, n = r.length := ⟨_, rfl⟩
  rw [← hn] at CL hw hr5 hrc hRl ⊢
  have hMH := Lib.hid hM
  have hnewH := Lib.hid hnew
  have hSH := Lib.hid hS'
  have hRH := Lib.hid hRr
  have hnH := Lib.hid hRl
  have hneH := Lib.hid hne
  have hgrH := Lib.hid hgr
  have hwcI : wd ≤ c := by omega
  obtain ⟨o, ho⟩ : ∃ o, o = fst0 wd R := ⟨_, rfl⟩
  have hoH := Lib.hid ho
  have FU : Hid (∀ (h : Nat) W, W.cell? ⟨gs, 0, none⟩ = some (.int .i64 wd) → W.cell? ⟨gs, 1, none⟩ = some (.int .i64 (h : Int)) → Calls Tryd.prog 83 #[.pointer (some ⟨gs, 0, none⟩)] W fun e w' => e = .returned (.bool ((h : Int) == (wd : Int))) ∧ Below W.heap.size W w') := fun h W h1 h2 => full_any gs wd h W h1 h2
  clear hM hs hR hgr hnew ht hrds hsA hRr hS' hn hRl hne ho
  go_enter Tryd.func82, Tryd.ntmps82
  go_wp2_with fail
  refine CL.out.mono ?_
  rintro e w1 ⟨rfl, hRow, hCh⟩
  have hOut1 := Lib.hid (hCh.blk hMH.out.out (by simpa using hneH.out))
  have hRowH := Lib.hid hRow
  have hChH : Hid (Chg [gs, gr] w w1) := hCh.more fun x hx => by simp at hx ⊢; exact .inr hx
  have hCh1 := Lib.hid hCh
  have CI := Lib.hid (index8_any (c := c) (wd := wd) hRow (by rw [hnH.out]; exact hw) (by rw [hnH.out]; exact hr5))
  have p0 : w1.cell? ⟨gs, 0, none⟩ = some (.int .i64 wd) := hOut1.out.cell (j := 0) rfl
  have p1 : w1.cell? ⟨gs, 1, none⟩ = some (.int .i64 (S.ht : Int)) := hOut1.out.cell (j := 1) rfl
  rw [← hoH.out] at CI
  have t0 : 0 ≤ (wd : Int) := by omega
  clear hRow hCh CL
  cases o with
  | none =>
    have hst : Hid (S' = S) := by
      show _ = _
      rw [hSH.out]; unfold addS; rw [← hRH.out, ← hoH.out]
    unfold ixV at CI
    have F1 := Lib.hid (FU.out S.ht w1 p0 p1)
    go_wp2_with fail
    refine CI.out.mono ?_
    rintro e w2 ⟨rfl, rfl⟩
    go_wp2_with fail
    refine F1.out.mono ?_
    rintro e w3 ⟨rfl, hb3⟩
    have hb3H := Lib.hid hb3
    clear hb3
    go_wp2_with fail
    go_ret
    refine ⟨⟨_, rfl, by rw [hst.out]; exact beq_not⟩, ⟨sb, sc, sr, ?_⟩, hChH.out.trans (Chg.of hb3H.out)⟩
    rw [hst.out]
    refine ⟨hOut1.out.below hb3H.out hOut1.out.lt, fun k hk e => ?_, hMH.out.inj, hMH.out.cap⟩
    obtain ⟨h1, h2⟩ := hMH.out.row k hk e
    have h3 := hCh1.out.blk h2 (by simpa using hnewH.out k hk e)
    exact ⟨h1, h3.below hb3H.out h3.lt⟩
  | some k =>
    obtain ⟨hk, hkn, hkz⟩ := fst0_some hoH.out.symm
    have hknH := Lib.hid hkn
    obtain ⟨y, hy⟩ : ∃ y, y = R.getD k 0 := ⟨_, rfl⟩
    have hyH := Lib.hid hy
    have pk : w1.cell? ⟨gr, k, none⟩ = some (.int .u8 y.toNat) := by
      rw [hy]; exact hRowH.out.cell (row_cell (by have := hnH.out; omega))
    have hy0 : y ≠ 0 := by rw [hy]; exact hkn
    obtain ⟨z, hz⟩ : ∃ z, z = Gf.inv y := ⟨_, rfl⟩
    have CV := Lib.hid (inv_any y w1 hy0 (hT.out w1 hChH.out))
    rw [← hz] at CV
    obtain ⟨Q, hQ⟩ : ∃ Q, Q = mulR z R := ⟨_, rfl⟩
    have hst : Hid (S' = ⟨setS S.st k Q, S.ht + 1⟩) := by
      show _ = _
      rw [hSH.out]; unfold addS; rw [← hRH.out, ← hoH.out]
      show Sts.mk (setS S.st k (mulR (Gf.inv (R.getD k 0)) R)) (S.ht + 1) = _
      rw [← hy, ← hz, ← hQ]
    have hQH := Lib.hid hQ
    have tk : (k : Int) < (n : Int) := by omega
    have tk0 : 0 ≤ (k : Int) := by omega
    have tk16 : (k : Int) < 16 := by omega
    have hQn : Q ≠ [] := fun hh => by
      have := mulR_len z R
      rw [← hQ, hh, hnH.out] at this
      simp at this; omega
    have hQnH := Lib.hid hQn
    have hkH := Lib.hid hk
    have hr0 : Hid (Blk w1 gr ((mixF (fun j => Gf.mul z (R.getD j 0)) R 0).map bv ++ rest) 5) := by show Blk _ _ _ _; rw [mixF_zero]; exact hRowH.out
    unfold ixV at CI
    unfold bv at CV
    clear hkn hkz hy hy0 hz hQ hQn hk
    go_wp2_with fail
    refine CI.out.mono ?_
    rintro e w2 ⟨rfl, rfl⟩
    go_wp2_with fail
    refine CV.out.mono ?_
    rintro e w3 ⟨rfl, rfl⟩
    go_wp2_with fail
    clear pk
    go_loopw [32] (fun v wr => ∃ j : Nat, v = .int .i64 j ∧ j ≤ n ∧ Hid (Blk wr gr ((mixF (fun j => Gf.mul z (R.getD j 0)) R j).map bv ++ rest) 5) ∧ Hid (Chg [gr] w2 wr)) (fun v _ => n - (intOf v).toNat)
    case atStart => exact ⟨0, rfl, by omega, hr0, Chg.refl _ _⟩
    case round =>
      obtain ⟨j, rfl, hj, hrw, hcw⟩ := hrel
      clear hr0 p0 p1 CI CV
      by_cases hlt : j < n
      · have tj : (j : Int) < (n : Int) := by omega
        have tj0 : 0 ≤ (j : Int) := by omega
        obtain ⟨x, hx⟩ : ∃ x, x = R.getD j 0 := ⟨_, rfl⟩
        have hjR : j < R.length := by rw [hnH.out]; exact hlt
        have px : wr.cell? ⟨gr, j, none⟩ = some (.int .u8 x.toNat) := by
          have h := hrw.out.cell (j := j) (v := bv (R.getD j 0)) (by
            rw [List.getElem?_append_left (by rw [List.length_map, mixF_len _ _ _ (by omega)]; exact hjR), List.getElem?_map, mixF_get_ge _ _ _ _ (Nat.le_refl _), List.getElem?_eq_getElem hjR, List.getD_eq_getElem?_getD, List.getElem?_eq_getElem hjR]
            rfl)
          rw [hx]; exact h
        obtain ⟨u, hu⟩ : ∃ u, u = Gf.mul z x := ⟨_, rfl⟩
        have CM := Lib.hid (mul_any z x wr (hT.out wr (hChH.out.trans (hcw.out.more fun x hx => by simp at hx ⊢; exact .inr hx))))
        rw [← hu] at CM
        unfold bv at CM
        have hfit : Hid (j + (bv u).cells.size ≤ ((mixF (fun j => Gf.mul z (R.getD j 0)) R j).map bv ++ rest).length) := by
          show j + 1 ≤ _
          rw [List.length_append, List.length_map, mixF_len _ _ _ (by omega)]; omega
        have hset : Hid (splice ((mixF (fun j => Gf.mul z (R.getD j 0)) R j).map bv ++ rest) j (bv u).cells.toList = (mixF (fun j => Gf.mul z (R.getD j 0)) R (j + 1)).map bv ++ rest) := by
          show _ = _
          rw [set_row (by rw [mixF_len _ _ _ (by omega)]; exact hjR), hu, hx, mixF_set (fun j => Gf.mul z (R.getD j 0)) R j hjR]
        clear hx hu hjR
        go_wp2_with fail
        refine CM.out.mono ?_
        rintro e w4 ⟨rfl, m4, rfl⟩
        have hrw4 : Hid (Blk (wr.drewN m4) gr ((mixF (fun j => Gf.mul z (R.getD j 0)) R j).map bv ++ rest) 5) := hrw.out
        have hcw4 : Hid (Chg [gr] w2 (wr.drewN m4)) := hcw.out.trans (Chg.of (below_drewN (Below.refl _ _) m4))
        go_wp2_with (refine wpList_blk_store rfl 5 _ _ rfl j (bv u) rfl rfl hrw4.out size_u8 hfit.out (one_u8b u) ?_; intro w5 hw5 ho5)
        have f1 : Hid (Blk w5 gr ((mixF (fun j => Gf.mul z (R.getD j 0)) R (j + 1)).map bv ++ rest) 5) := by
          have h := hw5.out
          rw [hset.out] at h
          exact h
        have f2 : Hid (Chg [gr] w2 w5) := hcw4.out.trans (Chg.only ho5 (List.mem_singleton.2 rfl))
        clear hw5 ho5
        go_roundw
        case rel => exact ⟨j + 1, by go_num, by omega, f1, f2⟩
        case measure => simp [intOf]; omega
      · have tj : ¬ (j : Int) < (n : Int) := by omega
        have hQr : Hid (Blk wr gr (Q.map bv ++ rest) 5) := by
          have h := hrw.out
          rw [mixF_all _ _ _ (by rw [hnH.out]; omega)] at h
          show Blk _ _ _ _
          rw [hQH.out]
          unfold mulR
          rw [show R.length = j by rw [hnH.out]; omega]
          exact h
        have hQl : Hid (Q.length = n) := by show _ = _; rw [hQH.out, mulR_len, hnH.out]
        have ho1 : Hid (Blk wr gs (stL wd S sb sc) 100) := hcw.out.blk hOut1.out (by simpa using hneH.out)
        clear hrw
        obtain ⟨wS, rfl⟩ : ∃ x, x = wr := ⟨_, rfl⟩
        have hS1 : Hid (∀ (W : World), Blk W gs (splice (stL wd S sb sc) (2 + k) (Value.slice (some ⟨gr, 0, none⟩) n c).cells.toList) 100 → W.cell? ⟨gs, 1, none⟩ = some (.int .i64 (S.ht : Int))) := fun W h => h.cell (by
          show (splice _ _ [_])[1]? = _
          rw [splice_set _ _ _ (by rw [stL_len]; have := hkH.out; omega), List.getElem?_set_ne (by omega)]
          rfl)
        go_wp2_with (first
          | (refine wpList_blk_store rfl 52 _ _ rfl (2 + k) (.slice (some ⟨gr, 0, none⟩) n c) rfl rfl ho1.out size_row (by rw [stL_len]; show 2 + k + 1 ≤ 18; have := hkH.out; omega) (one_slice _ _ _) ?_; intro w5 hw5 ho5; have p1 := hS1.out w5 hw5.out)
          | (refine wpList_blk_store rfl 3 _ _ rfl 1 (.int .i64 ((S.ht : Int) + 1)) rfl rfl hw5.out size_stairs_cell (by
              show 1 + 1 ≤ (splice _ _ [_]).length
              rw [splice_set _ _ _ (by rw [stL_len]; have := hkH.out; omega), List.length_set, stL_len]; omega) (one_int .i64 _) ?_; intro w6 hw6 ho6))
        have hS6 : Blk w6 gs (stL wd ⟨setS S.st k Q, S.ht + 1⟩ (setN sb k gr) (setN sc k c)) 100 := by
          have h := hw6.out
          rw [show (Value.int .i64 ((S.ht : Int) + 1)).cells.toList = [Value.int .i64 ((S.ht + 1 : Nat) : Int)] from rfl, show (Value.slice (some ⟨gr, 0, none⟩) n c).cells.toList = [Value.slice (some ⟨gr, 0, none⟩) n c] from rfl,
            splice_set (stL wd S sb sc) _ _ (by rw [stL_len]; have := hkH.out; omega), splice_set _ _ _ (by rw [List.length_set, stL_len]; omega), ← hQl.out, stL_set (by have := hkH.out; omega) hQnH.out] at h
          exact h
        have q0 : w6.cell? ⟨gs, 0, none⟩ = some (.int .i64 wd) := hS6.cell (j := 0) rfl
        have q1 : w6.cell? ⟨gs, 1, none⟩ = some (.int .i64 ((S.ht + 1 : Nat) : Int)) := hS6.cell (j := 1) rfl
        have F1 := Lib.hid (FU.out (S.ht + 1) w6 q0 q1)
        have hS6H := Lib.hid hS6
        have hQ6 : Hid (Blk w6 gr (Q.map bv ++ rest) 5) := (hQr.out.only ho5 (fun h => hneH.out h.symm)).only ho6 (fun h => hneH.out h.symm)
        have hC6 : Hid (Chg [gs, gr] w w6) := ((hChH.out.trans (hcw.out.more fun x hx => by simp at hx ⊢; exact .inr hx)).trans (Chg.only ho5 (List.mem_cons_self ..))).trans (Chg.only ho6 (List.mem_cons_self ..))
        clear hw5 hw6 ho5 ho6 q0 q1 hS6 hQr ho1
        go_wp2_with fail
        refine F1.out.mono ?_
        rintro e w7 ⟨rfl, hb7⟩
        have hb7H := Lib.hid hb7
        clear hb7
        go_wp2_with fail
        go_ret
        refine ⟨⟨_, rfl, by rw [hst.out]; exact beq_not⟩, ⟨setN sb k gr, setN sc k c, setN sr k rest, ?_⟩, hC6.out.trans (Chg.of hb7H.out)⟩
        rw [hst.out]
        have hold : ∀ t, t < wd → S.st t ≠ [] → gs < sb t ∧ Blk w7 (sb t) ((S.st t).map bv ++ sr t) 5 := fun t ht he => by
          obtain ⟨h1, h2⟩ := hMH.out.row t ht he
          have h3 := hC6.out.blk h2 (by
            intro hh
            rcases List.mem_cons.1 hh with hh | hh
            · omega
            · exact hnewH.out t ht he (List.mem_singleton.1 hh))
          exact ⟨h1, h3.below hb7H.out h3.lt⟩
        refine ⟨hS6H.out.below hb7H.out hS6H.out.lt, fun t ht he => ?_, fun i j hi hj hei hej e => ?_, fun t ht => ?_⟩
        · by_cases ek : t = k
          · subst ek
            show gs < setN sb t gr t ∧ Blk w7 (setN sb t gr t) ((setS S.st t Q t).map bv ++ setN sr t rest t) _
            simp only [setN, setS, if_true]
            exact ⟨hgrH.out, hQ6.out.below hb7H.out hQ6.out.lt⟩
          · have he' : setS S.st k Q t ≠ [] := he
            show gs < setN sb k gr t ∧ Blk w7 (setN sb k gr t) ((setS S.st k Q t).map bv ++ setN sr k rest t) _
            simp only [setN, setS, if_neg ek] at he' ⊢
            exact hold t ht he'
        · have hei' : setS S.st k Q i ≠ [] := hei
          have hej' : setS S.st k Q j ≠ [] := hej
          have e' : setN sb k gr i = setN sb k gr j := e
          by_cases hik : i = k
          · by_cases hjk : j = k
            · rw [hik, hjk]
            · simp only [setN, setS, if_pos hik, if_neg hjk] at hej' e'
              exact absurd e'.symm (hnewH.out j hj hej')
          · by_cases hjk : j = k
            · simp only [setN, setS, if_pos hjk, if_neg hik] at hei' e'
              exact absurd e' (hnewH.out i hi hei')
            · simp only [setN, setS, if_neg hjk, if_neg hik] at hei' hej' e'
              exact hMH.out.inj i j hi hj hei' hej' e'
        · show (setS S.st k Q t).length ≤ setN sc k c t
          by_cases ek : t = k
          · subst ek
            simp only [setN, setS, if_true]
            rw [hQl.out]; exact hrc
          · simp only [setN, setS, if_neg ek]
            exact hMH.out.cap t ht
end Go.Proofs.YtgajlgnniidgmaaDoor

namespace Go.Proofs.YtgajlgnniidgmaaDoor
set_option linter.unusedVariables false
set_option linter.unusedSimpArgs false
open Go.RowKit

theorem ownB_of_blk {w : World} {g base : Nat} {r : List UInt8} (h : Blk w g (r.map bv) 5) (hb : base ≤ g) (hl : r.length ≤ maxLen) : OwnB w base (.slice (some ⟨g, 0, none⟩) r.length r.length) r :=
  ⟨by simp, .inr ⟨g, r.length, (r.map bv).toArray, rfl, hb, h, Nat.le_refl _, hl, by simp, by rw [Nat.mul_one]; exact List.take_of_length_le (by simp)⟩⟩
theorem ownB_blk {w : World} {base : Nat} {v : Value} {r : List UInt8} (h : OwnB w base v r) : (v = .slice none 0 0 ∧ r.length = 0) ∨ ∃ g c rest, v = .slice (some ⟨g, 0, none⟩) r.length c ∧ base ≤ g ∧ Blk w g (r.map bv ++ rest) 5 ∧ r.length ≤ c := by
  rcases h.2 with hn | ⟨g, cap, cur, hv, hg, hh, h1, h2, h3, h4⟩
  · exact .inl hn
  · refine .inr ⟨g, cap, cur.toList.drop (r.length * 1), hv, hg, ?_, h1⟩
    rw [← h4, List.take_append_drop]
    exact hh
theorem Only.refl' (g : Nat) (w : World) : Only g w w := ⟨rfl, rfl, rfl, rfl, fun _ _ => rfl⟩
theorem Chg.past {gs gr : Nat} {w0 w w' : World} (h : Chg [gs] w0 w) (h2 : Chg [gs, gr] w w') (hg : w0.heap.size ≤ gr) : Chg [gs] w0 w' :=
  ⟨h2.os.trans h.os, h2.tape.trans h.tape, h2.output.trans h.output, Nat.le_trans h.size h2.size, fun k hk hn => (h2.block k (Nat.lt_of_lt_of_le hk h.size) (fun hh => by
    rcases List.mem_cons.1 hh with hh | hh
    · exact hn (by rw [hh]; exact List.mem_cons_self ..)
    · have := List.mem_singleton.1 hh; omega)).trans (h.block k hk hn)⟩
theorem StM.keep {W W' : World} {gs wd : Nat} {S : Sts} {sb sc : Nat → Nat} {sr : Nat → List Value} (h : StM W gs wd S sb sc sr) (hb : Below W.heap.size W W') : StM W' gs wd S sb sc sr :=
  ⟨h.out.below hb h.out.lt, fun k hk e => ⟨(h.row k hk e).1, (h.row k hk e).2.below hb (h.row k hk e).2.lt⟩, h.inj, h.cap⟩
theorem ownB_keep7 {w w' : World} {base : Nat} {v : Value} {l : List UInt8} (h : OwnB w base v l) (hb : Below w.heap.size w w') : OwnB w' base v l := by
  refine ⟨h.1, ?_⟩
  rcases h.2 with hn | ⟨g, cap, cur, hv, hg, hh, rest⟩
  · exact .inl hn
  · exact .inr ⟨g, cap, cur, hv, hg, by rw [hb.block g (Array.getElem?_eq_some_iff.1 hh).1]; exact hh, rest⟩
/-- What add ends with, for a row that was made after w0. -/
def AddEnd2 (w0 : World) (gs wd : Nat) (S' : Sts) (e : Ending) (w' : World) : Prop :=
  (∃ b, e = .returned (.bool b) ∧ (b = true ↔ S'.ht ≠ wd)) ∧ (∃ sb sc sr, StM w' gs wd S' sb sc sr) ∧ Chg [gs] w0 w'
set_option maxRecDepth 100000 in
set_option maxHeartbeats 1000000 in
theorem lower0_any (gs : Nat) (v : Value) (w : World) (p0 : w.cell? ⟨gs, 0, none⟩ = some (.int .i64 (0 : Nat))) : Calls Tryd.prog 89 #[.pointer (some ⟨gs, 0, none⟩), v, .int .i64 0] w fun e w' => e = .returned (.tuple #[]) ∧ w' = w := by
  have p0 : w.cell? ⟨gs, 0, none⟩ = some (.int .i64 0) := p0
  go_enter Tryd.func89, Tryd.ntmps89
  go_wp2_with fail
  go_loopw [6] (fun i wr => i = .int .i64 0 ∧ wr = w) (fun _ _ => 0)
  case atStart => exact ⟨rfl, rfl⟩
  case round =>
    obtain ⟨rfl, rfl⟩ := hrel
    go_wp2_with fail
    exact bodyPost_end (results_none rfl _ _ _) rfl ⟨rfl, rfl⟩
set_option maxRecDepth 100000 in
set_option maxHeartbeats 1000000 in
theorem index0_any (A : Option Addr) (c : Nat) (f : Value) (w : World) : Calls Tryd.prog 90 #[.slice A 0 c, f] w fun e w' => e = .returned (.int .i64 (-1)) ∧ w' = w := by
  go_enter Tryd.func90, Tryd.ntmps90
  go_wp2_with fail
  go_loopw [8] (fun i wr => i = .int .i64 0 ∧ wr = w) (fun _ _ => 0)
  case atStart => exact ⟨rfl, rfl⟩
  case round =>
    obtain ⟨rfl, rfl⟩ := hrel
    go_wp2_with fail
    go_ret
    exact ⟨rfl, rfl⟩
set_option maxRecDepth 100000 in
set_option maxHeartbeats 4000000 in
theorem add0_any {gs : Nat} (A : Option Addr) (n c : Nat) (w : World) (hA : (A = none ∧ c = 0) ∨ ∃ g, A = some ⟨g, 0, none⟩) (p0 : w.cell? ⟨gs, 0, none⟩ = some (.int .i64 (0 : Nat))) (p1 : w.cell? ⟨gs, 1, none⟩ = some (.int .i64 (0 : Nat))) :
    Calls Tryd.prog 82 #[.pointer (some ⟨gs, 0, none⟩), .slice A n c] w fun e w' => e = .returned (.bool false) ∧ Below w.heap.size w w' := by
  have CL := Lib.hid (lower0_any gs (.slice A n c) w p0)
  have FU := Lib.hid (full_any gs (0 : Nat) (0 : Nat) w p0 p1)
  have IX : Hid (∀ (A : Option Addr) (c : Nat) (f : Value), Calls Tryd.prog 90 #[.slice A 0 c, f] w fun e w' => e = .returned (.int .i64 (-1)) ∧ w' = w) := fun A c f => index0_any A c f w
  have p0' : w.cell? ⟨gs, 0, none⟩ = some (.int .i64 0) := p0
  have hcf := hcf_add1
  clear p0 p1
  rcases hA with ⟨rfl, rfl⟩ | ⟨g, rfl⟩
  all_goals
    go_enter Tryd.func82, Tryd.ntmps82
    go_wp2_with fail
    refine CL.out.mono ?_
    rintro e w1 ⟨rfl, rfl⟩
    go_wp2_with fail
    refine (IX.out _ _ _).mono ?_
    rintro e w2 ⟨rfl, rfl⟩
    go_wp2_with fail
    refine FU.out.mono ?_
    rintro e w3 ⟨rfl, hb⟩
    have hbH := Lib.hid hb
    clear hb
    go_wp2_with fail
    go_ret
    exact ⟨rfl, hbH.out⟩
theorem addS_zero (S : Sts) (row : List UInt8) : addS 0 S row = S := by
  have : fst0 0 (low S.st row 0 0) = none := fst0_not fun j hj => by omega
  unfold addS
  rw [this]
theorem addV_any {gs wd : Nat} {S : Sts} {sb sc : Nat → Nat} {sr : Nat → List Value} (v : Value) (row : List UInt8) (w0 w : World) (hM : StM w gs wd S sb sc sr) (hs : Stc S.st wd row.length) (hO : OwnB w w0.heap.size v row) (hc : Chg [gs] w0 w) (hgs : gs < w0.heap.size)
    (hsb : ∀ k, k < wd → S.st k ≠ [] → sb k < w0.heap.size) (hw : wd ≤ row.length) (hw16 : wd ≤ 16) (hr5 : row.length ≤ 1000000) (ht : PTab 2 w) (hg0 : 2 < gs) (hht : S.ht ≤ wd) :
    Calls Tryd.prog 82 #[.pointer (some ⟨gs, 0, none⟩), v] w (AddEnd2 w0 gs wd (addS wd S row)) := by
  have hzero : wd = 0 → ∀ A n c, v = .slice A n c → ((A = none ∧ c = 0) ∨ ∃ g, A = some ⟨g, 0, none⟩) → Calls Tryd.prog 82 #[.pointer (some ⟨gs, 0, none⟩), v] w (AddEnd2 w0 gs wd (addS wd S row)) := fun e A n c ev hA => by
    subst e
    subst ev
    have h0 : S.ht = 0 := by omega
    refine (add0_any A n c w hA (hM.out.cell (j := 0) rfl) (hM.out.cell (j := 1) (by unfold stL; rw [h0]; rfl))).mono ?_
    rintro e w' ⟨rfl, hb⟩
    rw [addS_zero]
    exact ⟨⟨_, rfl, ⟨fun h => absurd h (by decide), fun h => absurd h0 h⟩⟩, ⟨sb, sc, sr, hM.keep hb⟩, hc.on (hb.mono hc.size)⟩
  rcases ownB_blk hO with ⟨hv, h0⟩ | ⟨g, c, rest, hv, hg, hB, hrc⟩
  · exact hzero (by omega) none 0 0 hv (.inl ⟨rfl, rfl⟩)
  · by_cases e : wd = 0
    · exact hzero e _ _ _ hv (.inr ⟨g, rfl⟩)
    · subst hv
      refine (add_any row rest w hM hs hB (by omega) (fun k hk hk2 => by have := hsb k hk hk2; omega) hw hw16 hr5 hrc ht hg0 (by omega)).mono ?_
      rintro e w' ⟨h1, h2, h3⟩
      exact ⟨h1, h2, hc.past h3 hg⟩

/-- An equation: the coefficients of the lost pieces, and the bytes of its sum; the equations of a set, from the k-th row on. -/
def eqn (M : List (List UInt8)) (l : List Nat) (su : Nat → List UInt8) (k : Nat) : List UInt8 := l.map (fun i => el M k i) ++ su k
def eqL (M : List (List UInt8)) (l : List Nat) (su : Nat → List UInt8) (s N k : Nat) : List (List UInt8) := ((List.range' k (N - k)).filter fun t => s.testBit t).map (eqn M l su)
theorem eqL_end (M : List (List UInt8)) (l : List Nat) (su : Nat → List UInt8) (s N : Nat) : eqL M l su s N N = [] := by unfold eqL; simp
theorem eqL_yes {M : List (List UInt8)} {l : List Nat} {su : Nat → List UInt8} {s N k : Nat} (hk : k < N) (h : s.testBit k = true) : eqL M l su s N k = eqn M l su k :: eqL M l su s N (k + 1) := by
  unfold eqL
  rw [show N - k = (N - (k + 1)) + 1 by omega, List.range'_succ, List.filter_cons, if_pos h]
  rfl
theorem eqL_no {M : List (List UInt8)} {l : List Nat} {su : Nat → List UInt8} {s N k : Nat} (hk : k < N) (h : s.testBit k = false) : eqL M l su s N k = eqL M l su s N (k + 1) := by
  unfold eqL
  rw [show N - k = (N - (k + 1)) + 1 by omega, List.range'_succ, List.filter_cons, if_neg (by rw [h]; decide)]
theorem eqL_mem {M : List (List UInt8)} {l : List Nat} {su : Nat → List UInt8} {s N k : Nat} {r : List UInt8} : r ∈ eqL M l su s N k ↔ ∃ t, k ≤ t ∧ t < N ∧ s.testBit t = true ∧ r = eqn M l su t := by
  unfold eqL
  rw [List.mem_map]
  constructor
  · rintro ⟨t, ht, rfl⟩
    obtain ⟨h1, h2⟩ := List.mem_filter.1 ht
    have := List.mem_range'_1.1 h1
    exact ⟨t, by omega, by omega, h2, rfl⟩
  · rintro ⟨t, h1, h2, h3, rfl⟩
    exact ⟨t, List.mem_filter.2 ⟨List.mem_range'_1.2 ⟨h1, by omega⟩, h3⟩, rfl⟩
theorem runS_cons (wd : Nat) (S : Sts) (r : List UInt8) (rs : List (List UInt8)) : runS wd S (r :: rs) = if (addS wd S r).ht = wd then addS wd S r else runS wd (addS wd S r) rs := rfl
theorem runS_nil (wd : Nat) (S : Sts) : runS wd S [] = S := rfl
theorem rowF_map (M : List (List UInt8)) (l : List Nat) (k : Nat) : rowF (fun j => el M k (l.getD j 0)) l.length = l.map fun i => el M k i := by
  apply List.ext_getElem?
  intro t
  by_cases h : t < l.length
  · rw [rowF_get _ h, List.getElem?_map, List.getElem?_eq_getElem h, List.getD_eq_getElem?_getD, List.getElem?_eq_getElem h]
    rfl
  · rw [List.getElem?_eq_none (by rw [rowF_len]; omega), List.getElem?_eq_none (by rw [List.length_map]; omega)]
set_option maxRecDepth 100000 in
theorem hcf_add (args : Array Value) (W : World) : (callFunc 82 args).run Tryd.prog W = .ok (.enter 82 args) W := by
  first
    | rfl
    | (with_unfolding_all rfl)
    | kernel_rfl
/-- What the iterator over equations ends with. -/
def EqsEnd (w : World) (gs wd : Nat) (S : Sts) (e : Ending) (w' : World) : Prop := e = .returned (.tuple #[]) ∧ (∃ sb sc sr, StM w' gs wd S sb sc sr) ∧ Chg [gs] w w'
set_option maxRecDepth 100000 in
set_option maxHeartbeats 16000000 in
theorem eqs_any {B gs wd N D ex s g1 g2 g3 g4 lc fs : Nat} {MA LA : Option Addr} {M : List (List UInt8)} {l : List Nat} {cap : List Value} {sb sc : Nat → Nat} {sr : Nat → List Value} (su : Nat → List UInt8) (w : World)
    (hM : Mat w B MA M) (hMN : M.length = N) (hMD : ∀ m ∈ M, m.length = D) (hL : Rds w B LA (l.map pv)) (hwd : l.length = wd) (hl : ∀ i ∈ l, i < D) (hB : B ≤ gs) (hS : StM w gs wd noS sb sc sr)
    (b1 : Blk w g1 [.slice MA N N] 84) (b2 : Blk w g2 [.int .i64 s] 3) (b3 : Blk w g3 [.slice LA wd lc] 25) (b4 : Blk w g4 [.func (.func fs) #[] cap.toArray] 104) (hne : gs ≠ g1 ∧ gs ≠ g2 ∧ gs ≠ g3 ∧ gs ≠ g4)
    (hcf : ∀ (args : Array Value) (W : World), (callFunc fs args).run Tryd.prog W = .ok (.enter fs args) W)
    (HG : ∀ k, k < N → s.testBit k = true → ∀ W, Chg [gs] w W → Calls Tryd.prog fs (Value.int .i64 k :: cap).toArray W fun e W' => e = .returned (sv (su k)) ∧ Below W.heap.size W W')
    (hsl : ∀ k, k < N → s.testBit k = true → (su k).length = ex) (hN : N ≤ 28) (hD : D ≤ 16) (hwd16 : wd ≤ 16) (hex : ex ≤ 4096) (ht : PTab 2 w) (hg0 : 2 < gs) :
    Calls Tryd.prog 88 #[.func (.func 82) #[.pointer (some ⟨gs, 0, none⟩)] #[], .pointer (some ⟨g1, 0, none⟩), .pointer (some ⟨g2, 0, none⟩), .pointer (some ⟨g3, 0, none⟩), .pointer (some ⟨g4, 0, none⟩)] w
      (EqsEnd w gs wd (runS wd noS (eqL M l su s N 0))) := by
  have hMH : Hid (∀ W, Chg [gs] w W → Mat W B MA M) := fun W h => hM.below (h.below (fun x hx => by simp at hx; omega) (by have := hS.out.lt; omega))
  have hLH : Hid (∀ W, Chg [gs] w W → Rds W B LA (l.map pv)) := fun W h => hL.below (h.below (fun x hx => by simp at hx; omega) (by have := hS.out.lt; omega))
  have hTH : Hid (∀ W, Chg [gs] w W → PTab 2 W) := fun W h => ht.below (h.below (B := gs) (fun x hx => by simp at hx; omega) (by have := hS.out.lt; omega)) hg0
  have c1 : Hid (∀ W, Chg [gs] w W → W.cell? ⟨g1, 0, none⟩ = some (.slice MA N N)) := fun W h => (h.blk b1 (by simpa using fun hh => hne.1 hh.symm)).cell rfl
  have c2 : Hid (∀ W, Chg [gs] w W → W.cell? ⟨g2, 0, none⟩ = some (.int .i64 s)) := fun W h => (h.blk b2 (by simpa using fun hh => hne.2.1 hh.symm)).cell rfl
  have c3 : Hid (∀ W, Chg [gs] w W → W.cell? ⟨g3, 0, none⟩ = some (.slice LA wd lc)) := fun W h => (h.blk b3 (by simpa using fun hh => hne.2.2.1 hh.symm)).cell rfl
  have c4 : Hid (∀ W, Chg [gs] w W → W.cell? ⟨g4, 0, none⟩ = some (.func (.func fs) #[] cap.toArray)) := fun W h => (h.blk b4 (by simpa using fun hh => hne.2.2.2 hh.symm)).cell rfl
  have hgsl : Hid (gs < w.heap.size) := hS.out.lt
  have hS0 : Hid (∃ sb sc sr, StM w gs wd noS sb sc sr) := ⟨sb, sc, sr, hS⟩
  have hNH := Lib.hid hMN
  have hDH := Lib.hid hMD
  have hwH := Lib.hid hwd
  have hlH := Lib.hid hl
  have HGH := Lib.hid HG
  have hslH := Lib.hid hsl
  have hBH := Lib.hid hB
  have hcfA := hcf_add
  obtain ⟨FIN, hFIN⟩ : ∃ F, F = runS wd noS (eqL M l su s N 0) := ⟨_, rfl⟩
  rw [← hFIN]
  have hF0 : Hid (FIN = runS wd noS (eqL M l su s N 0)) := hFIN
  have hI0 : Hid (SI wd (wd + ex) noS []) := si_none wd (wd + ex)
  have hr0 := Lib.hid (Chg.refl [gs] w)
  have q1 := c1.out w hr0.out
  clear hM hMN hMD hL hwd hl hB hS b1 b2 b3 b4 hne HG hsl ht hFIN
  go_enter Tryd.func88, Tryd.ntmps88
  go_wp2_with fail
  clear q1
  go_loopw [13] (fun i wr => ∃ (k : Nat) (S : Sts) (P : List (List UInt8)), k ≤ N ∧ i = .int .i64 k ∧ Hid (SI wd (wd + ex) S P) ∧ Hid (FIN = runS wd S (eqL M l su s N k)) ∧ Hid (∃ sb sc sr, StM wr gs wd S sb sc sr) ∧ Hid (Chg [gs] w wr)) (fun i _ => N - (intOf i).toNat)
  case atStart => exact ⟨0, noS, [], by omega, rfl, hI0, hF0, hS0, hr0⟩
  case round =>
    obtain ⟨k, S, P, hk, rfl, hI, hF, hSt, hCh⟩ := hrel
    clear hI0 hF0 hS0 hr0
    by_cases hlt : k < N
    · have tk : (k : Int) < (N : Int) := by omega
      have tk0 : 0 ≤ (k : Int) := by omega
      obtain ⟨m, hm⟩ : ∃ m, M[k]? = some m := ⟨_, List.getElem?_eq_getElem (by have := hNH.out; omega)⟩
      obtain ⟨ad, vr, hA, hab, hcr, ra, rc, rfl, hrl, hrc, hra, hrr⟩ := (hMH.out wr hCh.out).at hm
      subst hA
      have hml : m.length = D := hDH.out m (List.mem_of_getElem? hm)
      rw [hml] at hcr
      have q2 := c2.out wr hCh.out
      have hmH := Lib.hid hm
      have hmlH := Lib.hid hml
      have hrrH := Lib.hid hrr
      clear hm hml hrl hrc hra hrr
      have hc := has_any s k wr (by omega)
      cases hb : s.testBit k with
      | false =>
        have hn := Lib.hid (eqL_no (M := M) (l := l) (su := su) hlt hb)
        rw [hb] at hc
        have hcH := Lib.hid hc
        clear hb hc
        go_wp2_with fail
        refine hcH.out.mono ?_
        rintro e v1 ⟨rfl, rfl⟩
        go_wp2_with fail
        go_roundw
        case rel => exact ⟨k + 1, S, P, by omega, by go_num, hI, by rw [← hn.out]; exact hF, hSt, hCh⟩
        case measure => simp [intOf]; omega
      | true =>
        have hy := Lib.hid (eqL_yes (M := M) (l := l) (su := su) hlt hb)
        have hbH := Lib.hid hb
        rw [hb] at hc
        have hcH := Lib.hid hc
        obtain ⟨W5, hW5⟩ : ∃ W5, W5 = wr.alloc (.cells (madeCells #[.int .u8 0] wd) 5) := ⟨_, rfl⟩
        have hb5 : Hid (Below wr.heap.size wr W5) := by show Below _ _ _; rw [hW5]; exact (Below.refl _ _).alloc (Nat.le_refl _) _
        have hZ5 : Hid (Blk W5 wr.heap.size ((mixF (fun j => el M k (l.getD j 0)) (List.replicate wd (0 : UInt8)) 0).map bv) 5) := by
          show Blk _ _ _ _
          rw [mixF_zero, hW5, made_zeros, zeros_row]
          exact Blk.new _ _ _
        have hmk2 := run_make_row' (P := Tryd.prog) 52 5 (.int .u8 0) 1 Tryd.underlying52 infoByte rfl .i64 .i64 wd (by omega) (by omega) wr
        rw [← hW5] at hmk2
        have hC5 : Hid (Chg [gs] w W5) := hCh.out.on (hb5.out.mono hCh.out.size)
        have q3 := c3.out wr hCh.out
        have q35 := c3.out W5 hC5.out
        have hrow : Hid (∀ W, Below wr.heap.size wr W → Rds W B ra (m.map bv)) := fun W h => hrrH.out.below (h.mono (by have := hBH.out; have := hgsl.out; have := hCh.out.size; omega))
        clear hb hc hW5
        go_wp2_with fail
        refine hcH.out.mono ?_
        rintro e v1 ⟨rfl, rfl⟩
        go_wp2_with fail
        clear q2 q3 q35 hmk2 hcr hcH
        obtain ⟨wA, rfl⟩ : ∃ x, x = v1 := ⟨_, rfl⟩
        have hB0 := Lib.hid (Only.refl' wA.heap.size W5)
        go_loopw [27] (fun i wq => ∃ j : Nat, j ≤ wd ∧ i = .int .i64 j ∧ Hid (Blk wq wA.heap.size ((mixF (fun j => el M k (l.getD j 0)) (List.replicate wd (0 : UInt8)) j).map bv) 5) ∧ Hid (Only wA.heap.size W5 wq)) (fun i _ => wd - (intOf i).toNat)
        case atStart => exact ⟨0, by omega, rfl, hZ5, hB0⟩
        case round =>
          clear hB0 hZ5
          obtain ⟨j, hj, rfl, hK, hOn⟩ := hrel
          have hBq : Hid (Below wA.heap.size wA wr) := hb5.out.trans (hOn.out.below (Nat.le_refl _))
          have hCq : Hid (Chg [gs] w wr) := hCh.out.on (hBq.out.mono hCh.out.size)
          by_cases hjl : j < wd
          · have tj : (j : Int) < (wd : Int) := by omega
            have tj0 : 0 ≤ (j : Int) := by omega
            obtain ⟨i, hi⟩ : ∃ i, l[j]? = some i := ⟨_, List.getElem?_eq_getElem (by have := hwH.out; omega)⟩
            obtain ⟨al, hal, _, hcl⟩ := (hLH.out wr hCq.out).look (k := j) (u := pv i) (by rw [List.getElem?_map, hi]; rfl)
            subst hal
            have hiD := hlH.out i (List.mem_of_getElem? hi)
            obtain ⟨x, hx⟩ : ∃ x, m[i]? = some x := ⟨_, List.getElem?_eq_getElem (by have := hmlH.out; omega)⟩
            obtain ⟨am, ham, _, hcm⟩ := (hrow.out wr hBq.out).look (k := i) (u := bv x) (by rw [List.getElem?_map, hx]; rfl)
            subst ham
            have tiD : (i : Int) < (D : Int) := by omega
            have ti0 : 0 ≤ (i : Int) := by omega
            have hxe : el M k (l.getD j 0) = x := by
              rw [List.getD_eq_getElem?_getD, hi]
              exact el_of hmH.out hx
            have hnx : Hid (splice ((mixF (fun j => el M k (l.getD j 0)) (List.replicate wd (0 : UInt8)) j).map bv) j (bv x).cells.toList = (mixF (fun j => el M k (l.getD j 0)) (List.replicate wd (0 : UInt8)) (j + 1)).map bv) := by
              show _ = _
              have := mixF_next (fun j => el M k (l.getD j 0)) (List.replicate wd (0 : UInt8)) j (by rw [List.length_replicate]; exact hjl)
              rw [hxe] at this
              exact this
            have hfit : Hid (j + (bv x).cells.size ≤ ((mixF (fun j => el M k (l.getD j 0)) (List.replicate wd (0 : UInt8)) j).map bv).length) := by
              show j + 1 ≤ _
              rw [List.length_map, mixF_len _ _ _ (by rw [List.length_replicate]; omega), List.length_replicate]; omega
            have q3 : wr.cell? ⟨g3, 0, none⟩ = some (.slice (some al) wd lc) := c3.out wr hCq.out
            unfold pv at hcl
            unfold bv at hcm
            clear hi hx hxe hiD
            go_wp2_with (refine wpList_blk_store rfl 5 _ _ rfl j (bv x) rfl rfl hK.out size_u8 hfit.out (one_u8b x) ?_; intro w5 hw5 ho5)
            have f1 : Hid (Blk w5 wA.heap.size ((mixF (fun j => el M k (l.getD j 0)) (List.replicate wd (0 : UInt8)) (j + 1)).map bv) 5) := by
              have h := hw5.out
              rw [hnx.out] at h
              exact h
            have f2 : Hid (Only wA.heap.size W5 w5) := hOn.out.trans ho5
            clear hw5 ho5
            go_roundw
            case rel => exact ⟨j + 1, by omega, by go_num, f1, f2⟩
            case measure => simp [intOf]; omega
          · have tj : ¬ (j : Int) < (wd : Int) := by omega
            have hE : Hid (OwnB wr wA.heap.size (.slice (some ⟨wA.heap.size, 0, none⟩) wd wd) (l.map fun i => el M k i)) := by
              have h := hK.out
              rw [mixF_all _ _ _ (by rw [List.length_replicate]; omega), show j = l.length by have := hwH.out; omega, rowF_map] at h
              have h2 := ownB_of_blk h (Nat.le_refl _) (by rw [List.length_map]; have := hwH.out; unfold maxLen; omega)
              rw [List.length_map, hwH.out] at h2
              exact h2
            have q4 := c4.out wr hCq.out
            have CS := Lib.hid (HGH.out k hlt hbH.out wr hCq.out)
            have hsl := hslH.out k hlt hbH.out
            obtain ⟨S8, hS8⟩ : ∃ S8, S8 = bs (su k) := ⟨_, rfl⟩
            unfold sv at CS
            rw [← hS8] at CS
            have hS8H := Lib.hid hS8
            have hslH2 := Lib.hid hsl
            obtain ⟨wB, rfl⟩ : ∃ x, x = wr := ⟨_, rfl⟩
            clear hK hS8 hsl hjl
            go_wp2_with fail
            refine CS.out.mono ?_
            rintro e w6 ⟨rfl, hb6⟩
            have hE6 := Lib.hid (ownB_keep7 hE.out hb6)
            have hB6 : Hid (Below wA.heap.size wA w6) := hBq.out.trans (hb6.mono hBq.out.size)
            clear hb6 q4
            go_wp2_with (at_builtin; go_must (refine push_str rfl _ _ rfl wA.heap.size _ (l.map fun i => el M k i) (su k) S8 hS8H.out rfl rfl hE6.out (by rw [List.length_map, hwH.out, hslH2.out]; omega) hB6.out.size ?_); intro v7 w7 ho7 hb7)
            have hB7 : Hid (Below wA.heap.size wA w7) := hB6.out.trans hb7
            have ho7H : Hid (OwnB w7 wA.heap.size v7 (eqn M l su k)) := ho7
            have hel : Hid ((eqn M l su k).length = wd + ex) := by show List.length (_ ++ _) = _; rw [List.length_append, List.length_map, hwH.out, hslH2.out]
            obtain ⟨sb, sc, sr, hSM⟩ := hSt.out
            have hSM7 := hSM.keep hB7.out
            have hCA : Hid (Chg [gs] wA w7) := Chg.of hB7.out
            have hC7 : Hid (Chg [gs] w w7) := hCh.out.trans hCA.out
            have hhl := hts_le S.st wd
            have CAd := Lib.hid (addV_any v7 (eqn M l su k) wA w7 hSM7 (by rw [hel.out]; exact hI.out.stc) ho7H.out hCA.out (by have := hgsl.out; have := hCh.out.size; omega) (fun t ht he => (hSM.row t ht he).2.lt) (by rw [hel.out]; omega) hwd16 (by rw [hel.out]; omega) (hTH.out w7 hC7.out) hg0 (by rw [hI.out.ht]; exact hhl))
            have hI2 : Hid (SI wd (wd + ex) (addS wd S (eqn M l su k)) (eqn M l su k :: P)) := si_add hI.out hel.out (by omega)
            have hF2 : Hid (FIN = if (addS wd S (eqn M l su k)).ht = wd then addS wd S (eqn M l su k) else runS wd (addS wd S (eqn M l su k)) (eqL M l su s N (k + 1))) := by
              show _ = _
              rw [hF.out, hy.out, runS_cons]
            generalize addS wd S (eqn M l su k) = S' at CAd hI2 hF2
            clear hSM hSM7 ho7 hb7 hE hE6 CS hhl hCA hBq hOn
            go_wp2_with fail
            refine CAd.out.mono ?_
            rintro e w8 ⟨⟨b, rfl, hbi⟩, hSt8, hC8⟩
            have hC8H : Hid (Chg [gs] w w8) := hCh.out.trans hC8
            have hSt8H := Lib.hid hSt8
            clear hC8 hSt8
            cases b with
            | true =>
              have hne := hbi.1 rfl
              have hF3 : Hid (FIN = runS wd S' (eqL M l su s N (k + 1))) := by show _ = _; rw [hF2.out, if_neg hne]
              clear hbi hne
              go_wp2_with fail
              go_roundw
              case rel => exact ⟨k + 1, S', _, by omega, by go_num, hI2, hF3, hSt8H, hC8H⟩
              case measure => simp [intOf]; omega
            | false =>
              have heq : S'.ht = wd := by
                rcases Classical.em (S'.ht = wd) with h | h
                · exact h
                · exact absurd (hbi.2 h) (by decide)
              have hF3 : Hid (FIN = S') := by show _ = _; rw [hF2.out, if_pos heq]
              clear hbi heq
              go_wp2_with fail
              exact bodyPost_ret (results_none rfl _ _ _) rfl ⟨rfl, by rw [hF3.out]; exact hSt8H.out, hC8H.out⟩
    · have tk : ¬ (k : Int) < (N : Int) := by omega
      have hfin : Hid (FIN = S) := by
        show _ = _
        rw [hF.out, show k = N by omega, eqL_end, runS_nil]
      go_wp2_with fail
      exact bodyPost_end (results_none rfl _ _ _) rfl ⟨rfl, by rw [hfin.out]; exact hSt.out, hCh.out⟩
end Go.Proofs.YtgajlgnniidgmaaDoor
