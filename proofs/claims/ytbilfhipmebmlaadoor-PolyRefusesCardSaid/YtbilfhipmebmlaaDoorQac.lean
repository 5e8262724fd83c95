/-
  The maths of polynomials: values of sums and products, roots, degrees of products, division. The maths of polynomials: lines through points, and what a decoder finds. The maths of the reference's decoder: sets of points as numbers.
-/
import Derived.Test.YtbilfhipmebmlaaDoorPjl
import Derived.Test.YtbilfhipmebmlaaDoorPmp
namespace Go.Proofs.YtbilfhipmebmlaaDoor
set_option linter.unusedVariables false
set_option linter.unusedSimpArgs false

theorem dg_below {p : List UInt8} {n : Nat} (h : ∀ k, n ≤ k → co p k = 0) : dg p ≤ n := by
  rcases Nat.lt_or_ge n (dg p) with hh | hh
  · exact absurd (h (dg p - 1) (by omega)) (dg_top p (by omega))
  · exact hh
theorem co_drop (p : List UInt8) (m k : Nat) : co (p.drop m) k = co p (m + k) := by
  unfold co
  rw [List.getD_eq_getElem?_getD, List.getElem?_drop, List.getD_eq_getElem?_getD]
theorem xor_eq {a b : UInt8} (h : a ^^^ b = 0) : a = b := by
  have : a ^^^ b ^^^ b = 0 ^^^ b := by rw [h]
  rwa [UInt8.xor_assoc, UInt8.xor_self, UInt8.xor_zero, UInt8.zero_xor] at this
theorem xor4 (a b c d : UInt8) : (a ^^^ b) ^^^ (c ^^^ d) = (a ^^^ c) ^^^ (b ^^^ d) := by
  rw [UInt8.xor_assoc, UInt8.xor_assoc, ← UInt8.xor_assoc b, ← UInt8.xor_assoc c, UInt8.xor_comm b c]
theorem xor_cancel (a b : UInt8) : (a ^^^ b) ^^^ b = a := by rw [UInt8.xor_assoc, UInt8.xor_self, UInt8.xor_zero]

/-- The value of the first n coefficients of a function. -/
def evf (f : Nat → UInt8) (x : UInt8) : Nat → UInt8
  | 0 => 0
  | n + 1 => evf f x n ^^^ Gf.mul (f n) (xp x n)
theorem evf_take (p : List UInt8) (x : UInt8) : ∀ n, n ≤ p.length → ev (p.take n) x = evf (co p) x n := by
  intro n
  induction n with
  | zero => intro _; simp [ev, evf]
  | succ n ih => intro h; rw [ev_take_succ x (by omega), ih (by omega), evf]
theorem evf_ext {f g : Nat → UInt8} {x : UInt8} : ∀ n, (∀ j, j < n → f j = g j) → evf f x n = evf g x n := by
  intro n
  induction n with
  | zero => intro _; rfl
  | succ n ih => intro h; rw [evf, evf, ih (fun j hj => h j (by omega)), h n (by omega)]
theorem evf_more {f : Nat → UInt8} {x : UInt8} {n : Nat} (h : ∀ j, n ≤ j → f j = 0) : ∀ d, evf f x (n + d) = evf f x n := by
  intro d
  induction d with
  | zero => rfl
  | succ d ih => rw [← Nat.add_assoc, evf, ih, h (n + d) (by omega), Gf.zero_mul, UInt8.xor_zero]
theorem ev_evf (p : List UInt8) (x : UInt8) {n : Nat} (h : p.length ≤ n) : ev p x = evf (co p) x n := by
  obtain ⟨d, rfl⟩ : ∃ d, n = p.length + d := ⟨n - p.length, by omega⟩
  rw [evf_more (fun j hj => co_out hj), ← evf_take p x _ (Nat.le_refl _), List.take_length]
theorem ev_congr {p q : List UInt8} (x : UInt8) (h : ∀ j, co p j = co q j) : ev p x = ev q x := by
  rw [ev_evf p x (Nat.le_max_left p.length q.length), ev_evf q x (Nat.le_max_right p.length q.length)]
  exact evf_ext _ fun j _ => h j
theorem ev_trim (p : List UInt8) (x : UInt8) : ev (trim p) x = ev p x := ev_congr x (co_trim p)
theorem ev_null {p : List UInt8} (x : UInt8) (h : ∀ j, co p j = 0) : ev p x = 0 := (ev_congr (q := []) x fun j => by rw [h, co_nil]).trans rfl
theorem evf_xor (f g : Nat → UInt8) (x : UInt8) : ∀ n, evf (fun j => f j ^^^ g j) x n = evf f x n ^^^ evf g x n := by
  intro n
  induction n with
  | zero => simp [evf]
  | succ n ih => rw [evf, evf, evf, ih, Gf.xor_mul, xor4]
theorem evf_mul (c : UInt8) (f : Nat → UInt8) (x : UInt8) : ∀ n, evf (fun j => Gf.mul c (f j)) x n = Gf.mul c (evf f x n) := by
  intro n
  induction n with
  | zero => rw [evf, evf, Gf.mul_zero]
  | succ n ih => rw [evf, evf, ih, Gf.mul_xor, Gf.mul_assoc]
theorem evf_null (x : UInt8) : ∀ n, evf (fun _ => 0) x n = 0 := by
  intro n
  induction n with
  | zero => rfl
  | succ n ih => rw [evf, ih, Gf.zero_mul]; rfl
theorem xp_add (x : UInt8) (i : Nat) : ∀ k, xp x (i + k) = Gf.mul (xp x i) (xp x k) := by
  intro k
  induction k with
  | zero => rw [xp, Gf.mul_one]; rfl
  | succ k ih => rw [← Nat.add_assoc, xp, ih, xp, Gf.mul_assoc]
theorem evf_sh (b : List UInt8) (x : UInt8) (i : Nat) : ∀ m, evf (sh b i) x (i + m) = Gf.mul (xp x i) (evf (co b) x m) := by
  intro m
  induction m with
  | zero => rw [Nat.add_zero, evf_ext (g := fun _ => 0) i (fun j hj => by rw [sh, if_neg (by omega)]), evf_null, evf, Gf.mul_zero]
  | succ m ih =>
    rw [← Nat.add_assoc, evf, ih, evf, Gf.mul_xor, xp_add, sh, if_pos (by omega), show i + m - i = m by omega]
    congr 1
    rw [← Gf.mul_assoc, Gf.mul_comm (co b m), Gf.mul_assoc]
theorem evf_pc (a b : List UInt8) (x : UInt8) : ∀ i, i ≤ a.length → evf (pc a b i) x (a.length + b.length) = Gf.mul (evf (co a) x i) (ev b x) := by
  intro i
  induction i with
  | zero => intro _; rw [show pc a b 0 = fun _ => 0 from funext fun j => rfl, evf_null, evf, Gf.zero_mul]
  | succ i ih =>
    intro h
    rw [show pc a b (i + 1) = fun j => pc a b i j ^^^ Gf.mul (co a i) (sh b i j) from funext fun j => rfl, evf_xor, ih (by omega), evf_mul, show a.length + b.length = i + (a.length + b.length - i) by omega, evf_sh, ← ev_evf b x (by omega), evf, Gf.xor_mul, Gf.mul_assoc]
theorem ev_pmul (a b : List UInt8) (x : UInt8) : ev (pmul a b) x = Gf.mul (ev a x) (ev b x) := by
  rw [ev_evf (pmul a b) x (n := a.length + b.length) (by rw [pmul_len]; exact Nat.le_refl _), evf_ext (g := pc a b a.length) _ (fun j _ => co_pmul a b j), evf_pc a b x _ (Nat.le_refl _), ← ev_evf a x (Nat.le_refl _)]
theorem ev_vsum (a b : List UInt8) (x : UInt8) : ev (Gf.vsum a b) x = ev a x ^^^ ev b x := by
  rw [ev_evf (Gf.vsum a b) x (n := max a.length b.length) (by rw [Gf.vsum_len]; exact Nat.le_refl _), ev_evf a x (Nat.le_max_left a.length b.length), ev_evf b x (Nat.le_max_right a.length b.length), ← evf_xor]
  exact evf_ext _ fun j _ => co_vsum a b j

/-- The quotient of p - p(a) and x - a. -/
def syn (a : UInt8) : List UInt8 → List UInt8
  | [] => []
  | c :: p => ev p a :: syn a p
theorem co_syn (a : UInt8) : ∀ (p : List UInt8) (k : Nat), co (syn a p) k = ev (p.drop (k + 1)) a := by
  intro p
  induction p with
  | nil => intro k; simp [syn, ev]
  | cons c p ih =>
    intro k
    cases k with
    | zero => simp [syn]
    | succ k => rw [syn, co_succ, ih, List.drop_succ_cons]
theorem ev_syn (a x : UInt8) : ∀ p, ev p x ^^^ ev p a = Gf.mul (x ^^^ a) (ev (syn a p) x) := by
  intro p
  induction p with
  | nil => simp [ev, syn, Gf.mul_zero]
  | cons c p ih =>
    simp only [ev, syn]
    rw [xor4, UInt8.xor_self, UInt8.xor_zero, Gf.mul_xor, ← Gf.mul_assoc, ← ih, Gf.xor_mul, Gf.xor_mul, Gf.mul_comm x (ev p a), Gf.mul_comm a (ev p a), UInt8.xor_assoc, ← UInt8.xor_assoc (Gf.mul (ev p a) x), UInt8.xor_self, UInt8.zero_xor]
/-- At most as many roots as the degree. -/
theorem roots : ∀ (S p : List UInt8), S.Nodup → (∀ x ∈ S, ev p x = 0) → dg p ≤ S.length → ∀ j, co p j = 0 := by
  intro S
  induction S with
  | nil => intro p _ _ h j; exact co_above p j (by simp at h; omega)
  | cons a S ih =>
    intro p hn hz hd j
    simp only [List.nodup_cons, List.length_cons] at hn hd
    have hq : ∀ j, co (syn a p) j = 0 := by
      refine ih (syn a p) hn.2 (fun x hx => ?_) (dg_below fun k hk => ?_)
      · have h1 := ev_syn a x p
        rw [hz x (List.mem_cons_of_mem _ hx), hz a List.mem_cons_self] at h1
        rcases (Gf.mul_eq_zero _ _).1 h1.symm with h | h
        · exact absurd hx (by rw [xor_eq h]; exact hn.1)
        · exact h
      · rw [co_syn]
        exact ev_null a fun i => by rw [co_drop]; exact co_above p _ (by omega)
    rcases Nat.lt_or_ge j p.length with hj | hj
    · have h1 := ev_drop (p := p) (k := j) a hj
      rw [← co_syn, hq, Gf.zero_mul, UInt8.zero_xor] at h1
      rw [← h1]
      cases j with
      | zero => exact hz a List.mem_cons_self
      | succ j => rw [← co_syn]; exact hq j
    · exact co_out hj
theorem uniq {S p q : List UInt8} (hn : S.Nodup) (h : ∀ x ∈ S, ev p x = ev q x) (hp : dg p ≤ S.length) (hq : dg q ≤ S.length) : ∀ j, co p j = co q j := fun j => by
  have := roots S (Gf.vsum p q) hn (fun x hx => by rw [ev_vsum, h x hx, UInt8.xor_self]) (dg_below fun k hk => by
    rw [co_vsum, co_above p k (by omega), co_above q k (by omega)]; rfl) j
  rw [co_vsum] at this
  exact xor_eq this

theorem pc_null {a b : List UInt8} {j : Nat} : ∀ i, (∀ t, t < i → co a t = 0 ∨ sh b t j = 0) → pc a b i j = 0 := by
  intro i
  induction i with
  | zero => intro _; rfl
  | succ i ih =>
    intro h
    rw [pc, ih (fun t ht => h t (by omega)), (Gf.mul_eq_zero _ _).2 (h i (by omega))]
    rfl
theorem sh_above {b : List UInt8} {t j : Nat} (h : t + dg b ≤ j) : sh b t j = 0 := by
  unfold sh
  split
  · exact co_above b _ (by omega)
  · rfl
theorem pmul_above {a b : List UInt8} {j : Nat} (h : dg a + dg b ≤ j + 1) : co (pmul a b) j = 0 := by
  rw [co_pmul]
  refine pc_null _ fun t _ => ?_
  by_cases ht : dg a ≤ t
  · exact .inl (co_above a t ht)
  · exact .inr (sh_above (by omega))
theorem pc_one {a b : List UInt8} {j s : Nat} : ∀ i, (∀ t, t < i → t ≠ s → co a t = 0 ∨ sh b t j = 0) → pc a b i j = if s < i then Gf.mul (co a s) (sh b s j) else 0 := by
  intro i
  induction i with
  | zero => intro _; rfl
  | succ i ih =>
    intro h
    rw [pc, ih (fun t ht => h t (by omega))]
    by_cases hs : s = i
    · subst hs
      rw [if_neg (by omega), if_pos (by omega), UInt8.zero_xor]
    · rw [(Gf.mul_eq_zero _ _).2 (h i (by omega) (fun e => hs e.symm)), UInt8.xor_zero]
      by_cases h2 : s < i
      · rw [if_pos h2, if_pos (by omega)]
      · rw [if_neg h2, if_neg (by omega)]
theorem pmul_top {a b : List UInt8} (ha : 0 < dg a) (hb : 0 < dg b) : co (pmul a b) (dg a + dg b - 2) = Gf.mul (top a) (top b) := by
  rw [co_pmul, pc_one (s := dg a - 1) a.length (fun t _ hne => ?_), if_pos (by have := dg_le a; omega)]
  · unfold sh top
    rw [if_pos (by omega), show dg a + dg b - 2 - (dg a - 1) = dg b - 1 by omega]
  · rcases Nat.lt_or_ge t (dg a) with h | h
    · exact .inr (sh_above (by omega))
    · exact .inl (co_above a t h)
theorem dg_pmul {a b : List UInt8} (ha : 0 < dg a) (hb : 0 < dg b) : dg (pmul a b) = dg a + dg b - 1 :=
  dg_uni (fun k hk => pmul_above (by omega)) (fun _ => by
    rw [show dg a + dg b - 1 - 1 = dg a + dg b - 2 by omega, pmul_top ha hb]
    exact Gf.mul_ne (top_ne ha) (top_ne hb))
theorem dg_pmul_le (a b : List UInt8) : dg (pmul a b) ≤ dg a + dg b - 1 := dg_below fun k hk => pmul_above (by omega)
theorem dg_pmul_null {a b : List UInt8} (h : dg a = 0 ∨ dg b = 0) : dg (pmul a b) = 0 := by
  have : dg (pmul a b) ≤ 0 := dg_below fun k _ => by
    rw [co_pmul]
    refine pc_null _ fun t _ => ?_
    rcases h with h | h
    · exact .inl (co_above a t (by omega))
    · refine .inr ?_
      unfold sh
      split
      · exact co_above b _ (by omega)
      · rfl
  omega
theorem pc_more {a b : List UInt8} {j n : Nat} (h : ∀ t, n ≤ t → co a t = 0) : ∀ d, pc a b (n + d) j = pc a b n j := by
  intro d
  induction d with
  | zero => rfl
  | succ d ih => rw [← Nat.add_assoc, pc, ih, h (n + d) (by omega), Gf.zero_mul, UInt8.xor_zero]
theorem co_pmul_at (a b : List UInt8) (j : Nat) {n : Nat} (h : a.length ≤ n) : co (pmul a b) j = pc a b n j := by
  obtain ⟨d, rfl⟩ : ∃ d, n = a.length + d := ⟨n - a.length, by omega⟩
  rw [co_pmul, pc_more (fun t ht => co_out ht)]
theorem pc_xor {a a' a'' b : List UInt8} {j : Nat} (h : ∀ t, co a'' t = co a t ^^^ co a' t) : ∀ i, pc a'' b i j = pc a b i j ^^^ pc a' b i j := by
  intro i
  induction i with
  | zero => simp [pc]
  | succ i ih => rw [pc, pc, pc, ih, h, Gf.xor_mul, xor4]
theorem pmul_vsum (a a' b : List UInt8) (j : Nat) : co (pmul (Gf.vsum a a') b) j = co (pmul a b) j ^^^ co (pmul a' b) j := by
  have h1 : (Gf.vsum a a').length ≤ a.length + a'.length := by rw [Gf.vsum_len]; omega
  rw [co_pmul_at _ b j h1, co_pmul_at a b j (n := a.length + a'.length) (by omega), co_pmul_at a' b j (n := a.length + a'.length) (by omega), pc_xor (co_vsum a a')]
theorem pc_congr {a a' b b' : List UInt8} {j : Nat} (h : ∀ t, co a t = co a' t) (h' : ∀ t, co b t = co b' t) : ∀ i, pc a b i j = pc a' b' i j := by
  intro i
  induction i with
  | zero => rfl
  | succ i ih => rw [pc, pc, ih, h, show sh b i j = sh b' i j by unfold sh; rw [h']]
theorem pmul_congr {a a' b b' : List UInt8} (h : ∀ t, co a t = co a' t) (h' : ∀ t, co b t = co b' t) (j : Nat) : co (pmul a b) j = co (pmul a' b') j := by
  rw [co_pmul_at a b j (n := a.length + a'.length) (by omega), co_pmul_at a' b' j (n := a.length + a'.length) (by omega), pc_congr h h']
/-- Quotient and remainder are one. -/
theorem div_uniq {q r q' r' b : List UInt8} (hb : 0 < dg b) (h : ∀ j, co (pmul q b) j ^^^ co r j = co (pmul q' b) j ^^^ co r' j) (hr : dg r < dg b) (hr' : dg r' < dg b) : (∀ j, co q j = co q' j) ∧ ∀ j, co r j = co r' j := by
  have hs : ∀ j, co (pmul (Gf.vsum q q') b) j = co r j ^^^ co r' j := fun j => by
    rw [pmul_vsum]
    have := h j
    apply xor_eq
    rw [xor4, this, UInt8.xor_self]
  have hd : dg (pmul (Gf.vsum q q') b) ≤ dg b - 1 := dg_below fun k hk => by
    rw [hs, co_above r k (by omega), co_above r' k (by omega)]; rfl
  have h0 : dg (Gf.vsum q q') = 0 := by
    rcases Nat.eq_zero_or_pos (dg (Gf.vsum q q')) with h | h
    · exact h
    · have := dg_pmul h hb; omega
  have hq : ∀ j, co q j = co q' j := fun j => by
    have := co_above (Gf.vsum q q') j (by omega)
    rw [co_vsum] at this
    exact xor_eq this
  refine ⟨hq, fun j => ?_⟩
  have := h j
  rw [pmul_congr hq (fun _ => rfl)] at this
  have e : (co (pmul q' b) j ^^^ co r j) ^^^ (co (pmul q' b) j ^^^ co r' j) = 0 := by rw [this, UInt8.xor_self]
  rw [xor4, UInt8.xor_self, UInt8.zero_xor] at e
  exact xor_eq e

/-- A multiple of a shifted list is taken away. -/
def rsub (R b : List UInt8) (k : Nat) (c : UInt8) : List UInt8 := (List.range R.length).map fun j => co R j ^^^ Gf.mul c (sh b k j)
theorem rsub_len (R b : List UInt8) (k : Nat) (c : UInt8) : (rsub R b k c).length = R.length := by simp [rsub]
theorem co_rsub {R b : List UInt8} {k : Nat} (c : UInt8) (h : k + dg b ≤ R.length) (j : Nat) : co (rsub R b k c) j = co R j ^^^ Gf.mul c (sh b k j) := by
  rcases Nat.lt_or_ge j R.length with hj | hj
  · unfold rsub
    conv => lhs; unfold co
    rw [List.getD_eq_getElem?_getD, List.getElem?_map, List.getElem?_range hj]
    rfl
  · rw [co_out (by rw [rsub_len]; exact hj), co_out hj, sh_above (by omega), Gf.mul_zero]
    rfl
/-- The coefficient that comes next. -/
def dvc (b R : List UInt8) (k : Nat) : UInt8 := Gf.mul (co R (k + (dg b - 1))) (Gf.inv (top b))
/-- Long division: quotient and remainder, when k coefficients are left. -/
def dvd (b : List UInt8) : Nat → List UInt8 → List UInt8 → List UInt8 × List UInt8
  | 0, Q, R => (Q, R)
  | k + 1, Q, R => dvd b k (Q.set k (dvc b R k)) (rsub R b k (dvc b R k))
theorem pc_set {Q b : List UInt8} {k j : Nat} (hk : k < Q.length) (h0 : co Q k = 0) (c : UInt8) : ∀ i, pc (Q.set k c) b i j = pc Q b i j ^^^ (if k < i then Gf.mul c (sh b k j) else 0) := by
  intro i
  induction i with
  | zero => simp [pc]
  | succ i ih =>
    rw [pc, pc, ih, co_set hk]
    by_cases e : i = k
    · subst e
      rw [if_neg (by omega), if_pos rfl, if_pos (by omega), h0, Gf.zero_mul, UInt8.xor_zero]
    · rw [if_neg e]
      by_cases hl : k < i
      · rw [if_pos hl, if_pos (by omega), UInt8.xor_assoc, UInt8.xor_assoc, UInt8.xor_comm (Gf.mul c _)]
      · rw [if_neg hl, if_neg (by omega), UInt8.xor_zero, UInt8.xor_zero]
theorem pmul_set {Q b : List UInt8} {k : Nat} (hk : k < Q.length) (h0 : co Q k = 0) (c : UInt8) (j : Nat) : co (pmul (Q.set k c) b) j = co (pmul Q b) j ^^^ Gf.mul c (sh b k j) := by
  rw [co_pmul, co_pmul, List.length_set, pc_set hk h0, if_pos hk]
theorem dvc_top {b R : List UInt8} (hb : 0 < dg b) (k : Nat) : Gf.mul (dvc b R k) (top b) = co R (k + (dg b - 1)) := by
  unfold dvc
  rw [Gf.mul_assoc, Gf.mul_comm (Gf.inv _), Gf.mul_inv (top_ne hb), Gf.mul_one]
theorem dvd_spec {b : List UInt8} (hb : 0 < dg b) : ∀ k Q R, k ≤ Q.length → k + (dg b - 1) ≤ R.length → (∀ j, j < k → co Q j = 0) → dg R ≤ k + (dg b - 1) →
    (∀ j, co (pmul (dvd b k Q R).1 b) j ^^^ co (dvd b k Q R).2 j = co (pmul Q b) j ^^^ co R j) ∧ dg (dvd b k Q R).2 < dg b ∧ (dvd b k Q R).1.length = Q.length ∧ (dvd b k Q R).2.length = R.length := by
  intro k
  induction k with
  | zero => intro Q R _ _ _ hd; exact ⟨fun j => rfl, by simp only [dvd]; omega, rfl, rfl⟩
  | succ k ih =>
    intro Q R hQ hR h0 hd
    have hc := fun j => co_rsub (R := R) (b := b) (k := k) (dvc b R k) (by omega) j
    have := ih (Q.set k (dvc b R k)) (rsub R b k (dvc b R k)) (by rw [List.length_set]; omega) (by rw [rsub_len]; omega) (fun j hj => by rw [co_set (by omega), if_neg (by omega)]; exact h0 j (by omega)) (dg_below fun j hj => by
      rw [hc]
      by_cases e : j = k + (dg b - 1)
      · subst e
        unfold sh
        rw [if_pos (by omega), show k + (dg b - 1) - k = dg b - 1 by omega]
        have := dvc_top (R := R) hb k
        unfold top at this
        rw [this, UInt8.xor_self]
      · rw [co_above R j (by omega), sh_above (by omega), Gf.mul_zero]
        rfl)
    refine ⟨fun j => ?_, this.2.1, ?_, ?_⟩
    · rw [dvd, this.1 j, pmul_set (by omega) (h0 k (by omega)), hc, xor4, UInt8.xor_self, UInt8.xor_zero]
    · rw [dvd, this.2.2.1, List.length_set]
    · rw [dvd, this.2.2.2, rsub_len]
end Go.Proofs.YtbilfhipmebmlaaDoor

namespace Go.Proofs.YtbilfhipmebmlaaDoor
set_option linter.unusedVariables false
set_option linter.unusedSimpArgs false

theorem nodup_pts {xs : List UInt8} {n : Nat} (hd : Dist xs n) {I : List Nat} (hI : I.Nodup) (hlt : ∀ i ∈ I, i < n) : (I.map (co xs)).Nodup := by
  unfold List.Nodup at hI ⊢
  rw [List.pairwise_map]
  refine List.Pairwise.imp_of_mem (fun {a b} ha hb hab => ?_) hI
  rcases Nat.lt_trichotomy a b with h | h | h
  · exact fun e => hd b a h (hlt b hb) e.symm
  · exact absurd h hab
  · exact fun e => hd a b h (hlt a ha) e
theorem uniq_pts {xs : List UInt8} {n : Nat} (hd : Dist xs n) {I : List Nat} (hI : I.Nodup) (hlt : ∀ i ∈ I, i < n) {p q : List UInt8} (h : ∀ i ∈ I, ev p (co xs i) = ev q (co xs i)) (hp : dg p ≤ I.length) (hq : dg q ≤ I.length) : ∀ j, co p j = co q j :=
  uniq (nodup_pts hd hI hlt) (fun x hx => by
    obtain ⟨i, hi, rfl⟩ := List.mem_map.1 hx
    exact h i hi) (by rw [List.length_map]; exact hp) (by rw [List.length_map]; exact hq)
theorem uniq_all {xs : List UInt8} {n : Nat} (hd : Dist xs n) {p q : List UInt8} (h : ∀ i, i < n → ev p (co xs i) = ev q (co xs i)) (hp : dg p ≤ n) (hq : dg q ≤ n) : ∀ j, co p j = co q j :=
  uniq_pts hd (I := List.range n) List.nodup_range (fun i hi => List.mem_range.1 hi) (fun i hi => h i (List.mem_range.1 hi)) (by rw [List.length_range]; exact hp) (by rw [List.length_range]; exact hq)

/-- The quotient and the remainder of the program's division. -/
def dq (a b : List UInt8) : List UInt8 := trim (dvd b (dg a + 1 - dg b) (List.replicate a.length 0) (trim a)).1
def dr (a b : List UInt8) : List UInt8 := trim (dvd b (dg a + 1 - dg b) (List.replicate a.length 0) (trim a)).2
theorem div_spec {b : List UInt8} (a : List UInt8) (hb : 0 < dg b) : (∀ j, co (pmul (dq a b) b) j ^^^ co (dr a b) j = co a j) ∧ dg (dr a b) < dg b := by
  have hl := dg_le a
  by_cases h : dg b ≤ dg a
  · have := dvd_spec hb (dg a + 1 - dg b) (List.replicate a.length 0) (trim a) (by rw [List.length_replicate]; omega) (by rw [trim_len]; omega) (fun j _ => co_zeros _ _) (by rw [dg_trim]; omega)
    refine ⟨fun j => ?_, by unfold dr; rw [dg_trim]; exact this.2.1⟩
    unfold dq dr
    rw [co_trim, pmul_congr (co_trim _) (fun _ => rfl), this.1, co_trim]
    rw [co_pmul, pc_null _ (fun t _ => .inl (co_zeros _ _)), UInt8.zero_xor]
  · have e : dg a + 1 - dg b = 0 := by omega
    refine ⟨fun j => ?_, by unfold dr; rw [dg_trim, e, dvd, dg_trim]; omega⟩
    unfold dq dr
    rw [co_trim, pmul_congr (co_trim _) (fun _ => rfl), e, dvd, co_trim]
    rw [co_pmul, pc_null _ (fun t _ => .inl (co_zeros _ _)), UInt8.zero_xor]
theorem dq_len (a b : List UInt8) : (dq a b).length ≤ a.length := by
  have hk : ∀ k Q R, (dvd b k Q R).1.length = Q.length := by
    intro k
    induction k with
    | zero => intro Q R; rfl
    | succ k ih => intro Q R; rw [dvd, ih, List.length_set]
  unfold dq
  rw [trim_len]
  refine Nat.le_trans (dg_le _) ?_
  rw [hk, List.length_replicate]
  exact Nat.le_refl _
theorem trim_dq (a b : List UInt8) : trim (dq a b) = dq a b := trim_trim _
theorem ev_const {r : List UInt8} (h : dg r ≤ 1) (x : UInt8) : ev r x = co r 0 := by
  rw [← ev_trim, ev_congr (p := trim r) (q := [co r 0]) x (fun j => by
    rw [co_trim]
    cases j with
    | zero => rfl
    | succ j => rw [co_succ, co_nil]; exact co_above r _ (by omega))]
  simp [ev, Gf.zero_mul]
theorem ev_root (a x : UInt8) : ev [a, 1] x = x ^^^ a := by simp [ev, Gf.zero_mul, Gf.one_mul]
theorem dg_root (a : UInt8) : dg [a, 1] = 2 := by simp [dg]
theorem van_dg (xs : List UInt8) : ∀ k, dg (van xs k) = k + 1 := by
  intro k
  induction k with
  | zero => simp [van, dg]
  | succ k ih => rw [van, dg_trim, dg_pmul (by omega) (by rw [dg_root]; omega), ih, dg_root]; omega
theorem van_ev (xs : List UInt8) : ∀ k i, i < k → ev (van xs k) (co xs i) = 0 := by
  intro k
  induction k with
  | zero => intro i h; omega
  | succ k ih =>
    intro i h
    rw [van, ev_trim, ev_pmul, ev_root]
    by_cases e : i = k
    · subst e; rw [UInt8.xor_self, Gf.mul_zero]
    · rw [ih i (by omega), Gf.zero_mul]
/-- The product of all others. -/
def oth (xs : List UInt8) (n i : Nat) : List UInt8 := dq (van xs n) [co xs i, 1]
theorem oth_spec {xs : List UInt8} {n i : Nat} (hd : Dist xs n) (hi : i < n) : dg (oth xs n i) = n ∧ (∀ j, j < n → j ≠ i → ev (oth xs n i) (co xs j) = 0) ∧ ev (oth xs n i) (co xs i) ≠ 0 := by
  obtain ⟨h1, h2⟩ := div_spec (b := [co xs i, 1]) (van xs n) (by rw [dg_root]; omega)
  rw [dg_root] at h2
  have hev : ∀ x, Gf.mul (ev (oth xs n i) x) (x ^^^ co xs i) ^^^ co (dr (van xs n) [co xs i, 1]) 0 = ev (van xs n) x := fun x => by
    rw [← ev_root (co xs i) x, ← ev_pmul, ← ev_const (by omega) x, ← ev_vsum]
    exact ev_congr x fun j => by rw [co_vsum]; exact h1 j
  have hr0 : co (dr (van xs n) [co xs i, 1]) 0 = 0 := by
    have := hev (co xs i)
    rw [UInt8.xor_self, Gf.mul_zero, van_ev xs n i hi, UInt8.zero_xor] at this
    exact this
  have hdn : dg (oth xs n i) = n := by
    have hw : dg (pmul (oth xs n i) [co xs i, 1]) = n + 1 := by
      rw [← van_dg xs n]
      refine dg_congr fun j => ?_
      have h := h1 j
      have hz : co (dr (van xs n) [co xs i, 1]) j = 0 := by
        cases j with
        | zero => exact hr0
        | succ j => exact co_above _ _ (by omega)
      rw [hz, UInt8.xor_zero] at h
      exact h
    rcases Nat.eq_zero_or_pos (dg (oth xs n i)) with h0 | h0
    · rw [dg_pmul_null (.inl h0)] at hw; omega
    · rw [dg_pmul h0 (by rw [dg_root]; omega), dg_root] at hw; omega
  have hz : ∀ j, j < n → j ≠ i → ev (oth xs n i) (co xs j) = 0 := fun j hj hne => by
    have := hev (co xs j)
    rw [hr0, UInt8.xor_zero, van_ev xs n j hj] at this
    rcases (Gf.mul_eq_zero _ _).1 this with h | h
    · exact h
    · exfalso
      have e := xor_eq h
      rcases Nat.lt_or_ge j i with hh | hh
      · exact hd i j hh hi e.symm
      · exact hd j i (by omega) hj e
  refine ⟨hdn, hz, fun h0 => ?_⟩
  have hall := uniq_all hd (p := oth xs n i) (q := []) (fun j hj => by
    rw [show ev [] (co xs j) = 0 from rfl]
    by_cases e : j = i
    · rw [e]; exact h0
    · exact hz j hj e) (by omega) (by simp [dg])
  have := dg_congr hall
  simp [dg] at this
  omega
/-- The term of a point. -/
def trmP (xs ys : List UInt8) (n i : Nat) : List UInt8 := trim (pmul [Gf.mul (co ys i) (Gf.inv (ev (oth xs n i) (co xs i)))] (oth xs n i))
theorem trmP_spec {xs ys : List UInt8} {n i : Nat} (hd : Dist xs n) (hi : i < n) : dg (trmP xs ys n i) ≤ n ∧ ∀ j, j < n → ev (trmP xs ys n i) (co xs j) = if j = i then co ys i else 0 := by
  obtain ⟨h1, h2, h3⟩ := oth_spec hd hi
  refine ⟨?_, fun j hj => ?_⟩
  · unfold trmP
    rw [dg_trim]
    have := dg_pmul_le [Gf.mul (co ys i) (Gf.inv (ev (oth xs n i) (co xs i)))] (oth xs n i)
    have h4 := dg_le [Gf.mul (co ys i) (Gf.inv (ev (oth xs n i) (co xs i)))]
    simp only [List.length_cons, List.length_nil] at h4
    omega
  · unfold trmP
    rw [ev_trim, ev_pmul]
    have e1 : ∀ c x, ev [c] x = c := fun c x => by simp [ev, Gf.zero_mul]
    rw [e1]
    by_cases e : j = i
    · rw [if_pos e, e, Gf.mul_assoc, Gf.mul_comm (Gf.inv _), Gf.mul_inv h3, Gf.mul_one]
    · rw [if_neg e, h2 j hj e, Gf.mul_zero]
/-- The sum of values. -/
def evM (M : List (List UInt8)) (x : UInt8) : Nat → UInt8
  | 0 => 0
  | k + 1 => evM M x k ^^^ ev (M.getD k []) x
theorem mx_mono (M : List (List UInt8)) {k m : Nat} (h : k ≤ m) : mx M k ≤ mx M m := by
  induction m with
  | zero => rw [show k = 0 by omega]; exact Nat.le_refl _
  | succ m ih =>
    by_cases e : k = m + 1
    · rw [e]; exact Nat.le_refl _
    · simp only [mx]; have := ih (by omega); omega
theorem evf_cs (M : List (List UInt8)) (x : UInt8) (n : Nat) : ∀ k, mx M k ≤ n → evf (cs M k) x n = evM M x k := by
  intro k
  induction k with
  | zero => intro _; rw [show cs M 0 = fun _ => 0 from funext fun j => rfl, evf_null]; rfl
  | succ k ih =>
    intro h
    simp only [mx] at h
    rw [show cs M (k + 1) = fun j => cs M k j ^^^ co (M.getD k []) j from funext fun j => rfl, evf_xor, ih (by omega), ← ev_evf _ x (by omega)]
    rfl
theorem ev_sumL (M : List (List UInt8)) (x : UInt8) : ev (sumL M) x = evM M x M.length := by
  rw [ev_evf (sumL M) x (n := mx M M.length) (by simp [sumL]), evf_ext (g := cs M M.length) _ (fun j _ => co_sumL M j), evf_cs M x _ _ (Nat.le_refl _)]
theorem dg_sumL {M : List (List UInt8)} {n : Nat} (h : ∀ m ∈ M, dg m ≤ n) : dg (sumL M) ≤ n := dg_below fun j hj => by
  rw [co_sumL]
  have : ∀ k, cs M k j = 0 := by
    intro k
    induction k with
    | zero => rfl
    | succ k ih =>
      rw [cs, ih]
      rcases Nat.lt_or_ge k M.length with hk | hk
      · rw [List.getD_eq_getElem?_getD, List.getElem?_eq_getElem hk]
        have := h _ (List.getElem_mem hk)
        rw [show (some M[k]).getD [] = M[k] from rfl, co_above _ j (by omega)]
        rfl
      · rw [List.getD_eq_getElem?_getD, List.getElem?_eq_none hk]
        rw [show (none : Option (List UInt8)).getD [] = [] from rfl, co_nil]
        rfl
  exact this _
/-- The program's polynomial through points. -/
def lineP (xs ys : List UInt8) (n : Nat) : List UInt8 := trim (sumL ((List.range n).map (trmP xs ys n)))
theorem lineP_spec {xs ys : List UInt8} {n : Nat} (hd : Dist xs n) : dg (lineP xs ys n) ≤ n ∧ ∀ j, j < n → ev (lineP xs ys n) (co xs j) = co ys j := by
  refine ⟨?_, fun j hj => ?_⟩
  · unfold lineP
    rw [dg_trim]
    refine dg_sumL fun m hm => ?_
    obtain ⟨i, hi, rfl⟩ := List.mem_map.1 hm
    exact (trmP_spec hd (List.mem_range.1 hi)).1
  · unfold lineP
    rw [ev_trim, ev_sumL, List.length_map, List.length_range]
    have : ∀ k, k ≤ n → evM ((List.range n).map (trmP xs ys n)) (co xs j) k = if j < k then co ys j else 0 := by
      intro k
      induction k with
      | zero => intro _; rfl
      | succ k ih =>
        intro hk
        rw [evM, ih (by omega), List.getD_eq_getElem?_getD, List.getElem?_map, List.getElem?_range (by omega)]
        rw [show (Option.map (trmP xs ys n) (some k)).getD [] = trmP xs ys n k from rfl, (trmP_spec hd (by omega)).2 j hj]
        by_cases e : j = k
        · subst e; rw [if_neg (by omega), if_pos rfl, if_pos (by omega), UInt8.zero_xor]
        · by_cases h : j < k
          · rw [if_pos h, if_neg e, if_pos (by omega), UInt8.xor_zero]
          · rw [if_neg h, if_neg e, if_neg (by omega), UInt8.xor_zero]
    rw [this n (Nat.le_refl _), if_pos hj]
theorem lineP_trim (xs ys : List UInt8) (n : Nat) : trim (lineP xs ys n) = lineP xs ys n := trim_trim _
/-- The only one. -/
theorem lineP_uni {xs ys p : List UInt8} {n : Nat} (hd : Dist xs n) (hp : dg p ≤ n) (h : ∀ j, j < n → ev p (co xs j) = co ys j) : lineP xs ys n = trim p := by
  rw [← lineP_trim]
  obtain ⟨h1, h2⟩ := lineP_spec (ys := ys) hd
  exact trim_ext (uniq_all hd (fun i hi => by rw [h2 i hi, h i hi]) h1 hp)
theorem lterm_spec {xs ys : List UInt8} {n k : Nat} (hd : Dist xs n) (hk : k < n) : ∀ i, i ≤ n → dg (lterm xs ys k i) + (if k < i then 1 else 0) ≤ i + 1 ∧ ev (lterm xs ys k i) (co xs k) = co ys k ∧ ∀ t, t < i → t ≠ k → ev (lterm xs ys k i) (co xs t) = 0 := by
  intro i
  induction i with
  | zero =>
    intro _
    refine ⟨?_, by simp [lterm, ev, Gf.zero_mul], fun t h => by omega⟩
    have := dg_le [co ys k]
    rw [lterm, if_neg (by omega)]
    simpa using this
  | succ i ih =>
    intro hi
    obtain ⟨h1, h2, h3⟩ := ih (by omega)
    rw [lterm]
    by_cases e : i = k
    · subst e
      rw [if_pos rfl]
      refine ⟨?_, h2, fun t ht hne => h3 t (by omega) hne⟩
      rw [if_neg (by omega)] at h1
      rw [if_pos (by omega)]
      omega
    · rw [if_neg e]
      have hne : co xs k ^^^ co xs i ≠ 0 := fun h => by
        have e2 := xor_eq h
        rcases Nat.lt_or_ge i k with hh | hh
        · exact hd k i hh hk e2
        · exact hd i k (by omega) (by omega) e2.symm
      have hf : ∀ x, ev [Gf.mul (co xs i) (Gf.inv (co xs k ^^^ co xs i)), Gf.inv (co xs k ^^^ co xs i)] x = Gf.mul (x ^^^ co xs i) (Gf.inv (co xs k ^^^ co xs i)) := fun x => by
        simp only [ev, Gf.zero_mul, UInt8.zero_xor]
        rw [Gf.xor_mul, Gf.mul_comm x]
      refine ⟨?_, ?_, fun t ht hne2 => ?_⟩
      · rw [dg_trim]
        have a1 := dg_pmul_le (lterm xs ys k i) [Gf.mul (co xs i) (Gf.inv (co xs k ^^^ co xs i)), Gf.inv (co xs k ^^^ co xs i)]
        have a2 := dg_le [Gf.mul (co xs i) (Gf.inv (co xs k ^^^ co xs i)), Gf.inv (co xs k ^^^ co xs i)]
        simp only [List.length_cons, List.length_nil] at a2
        by_cases hki : k < i
        · rw [if_pos hki] at h1; rw [if_pos (by omega)]; omega
        · rw [if_neg hki] at h1; rw [if_neg (by omega)]; omega
      · rw [ev_trim, ev_pmul, hf, h2, Gf.mul_inv hne, Gf.mul_one]
      · rw [ev_trim, ev_pmul, hf]
        by_cases e2 : t = i
        · rw [e2, UInt8.xor_self, Gf.zero_mul, Gf.mul_zero]
        · rw [h3 t (by omega) hne2, Gf.zero_mul]
theorem lineK_spec {xs ys : List UInt8} {n : Nat} (hd : Dist xs n) : ∀ k, k ≤ n → dg (lineK xs ys n k) ≤ n ∧ ∀ j, j < n → ev (lineK xs ys n k) (co xs j) = if j < k then co ys j else 0 := by
  intro k
  induction k with
  | zero => intro _; exact ⟨by simp [lineK, dg], fun j _ => rfl⟩
  | succ k ih =>
    intro hk
    obtain ⟨h1, h2⟩ := ih (by omega)
    obtain ⟨l1, l2, l3⟩ := lterm_spec (ys := ys) hd (k := k) (by omega) n (Nat.le_refl _)
    rw [if_pos (by omega)] at l1
    rw [lineK]
    refine ⟨?_, fun j hj => ?_⟩
    · rw [dg_trim]
      exact dg_below fun j hj => by rw [co_vsum, co_above _ j (by omega), co_above _ j (by omega)]; rfl
    · rw [ev_trim, ev_vsum, h2 j hj]
      by_cases e : j = k
      · subst e; rw [if_neg (by omega), if_pos (by omega), l2, UInt8.zero_xor]
      · rw [l3 j hj e, UInt8.xor_zero]
        by_cases h : j < k
        · rw [if_pos h, if_pos (by omega)]
        · rw [if_neg h, if_neg (by omega)]
theorem lineK_trim (xs ys : List UInt8) (n k : Nat) : trim (lineK xs ys n k) = lineK xs ys n k := by
  cases k with
  | zero => simp [lineK, trim, dg]
  | succ k => rw [lineK]; exact trim_trim _
/-- Both lines are one. -/
theorem line_eq {xs ys : List UInt8} {n : Nat} (hd : Dist xs n) : lineK xs ys n n = lineP xs ys n := by
  obtain ⟨h1, h2⟩ := lineK_spec (ys := ys) hd n (Nat.le_refl _)
  rw [lineP_uni hd h1 (fun j hj => by rw [h2 j hj, if_pos hj]), lineK_trim]

/-- The points that a polynomial does not miss. -/
def hits (p xs ys : List UInt8) (n : Nat) : List Nat := (List.range n).filter fun i => decide (ev p (co xs i) = co ys i)
theorem hits_miss (p xs ys : List UInt8) (n : Nat) : (hits p xs ys n).length + (missL p xs ys n).length = n := by
  induction n with
  | zero => rfl
  | succ n ih =>
    unfold hits missL at *
    rw [List.range_succ, List.filter_append, List.filter_append, List.length_append, List.length_append]
    by_cases h : ev p (co xs n) = co ys n
    · simp [h] at ih ⊢; omega
    · simp [h] at ih ⊢; omega
theorem hits_mem {p xs ys : List UInt8} {n i : Nat} : i ∈ hits p xs ys n ↔ i < n ∧ ev p (co xs i) = co ys i := by
  unfold hits; rw [List.mem_filter, List.mem_range]; simp
theorem hits_nodup (p xs ys : List UInt8) (n : Nat) : (hits p xs ys n).Nodup := List.nodup_range.filter _
theorem missL_congr {p q : List UInt8} (h : ∀ j, co p j = co q j) (xs ys : List UInt8) (n : Nat) : missL p xs ys n = missL q xs ys n := by
  unfold missL
  congr 1
  funext i
  rw [ev_congr _ h]
/-- What a decoder may go by: rest has the values of times * all at all points. -/
theorem cand_right {xs ys R T f : List UInt8} {n most wrong d : Nat} (hd : Dist xs n) (hm : most + wrong = n) (hRT : ∀ i, i < n → ev R (co xs i) = Gf.mul (ev T (co xs i)) (co ys i)) (hR : dg R ≤ most) (hT : dg T ≤ wrong + 1) (hT0 : 0 < dg T)
    (hf : dg f ≤ d + 1) (hn : d + 1 + 2 * wrong ≤ n) (hw : (missL f xs ys n).length ≤ wrong) : dq R T = trim f := by
  have hl := hits_miss f xs ys n
  have hc : ∀ j, co R j = co (pmul f T) j := uniq_pts hd (hits_nodup f xs ys n) (fun i hi => (hits_mem.1 hi).1) (fun i hi => by
    rw [hRT i (hits_mem.1 hi).1, ev_pmul, (hits_mem.1 hi).2, Gf.mul_comm]) (by omega) (by have := dg_pmul_le f T; omega)
  obtain ⟨h1, h2⟩ := div_spec R hT0
  have := (div_uniq (q' := f) (r' := []) hT0 (fun j => by rw [h1 j, hc j, co_nil, UInt8.xor_zero]) h2 (by simpa [dg] using hT0)).1
  rw [← trim_dq]
  exact trim_ext this
theorem filter_both {α : Type} (f : α → Bool) : ∀ l : List α, l.length = (l.filter f).length + (l.filter fun x => !f x).length := by
  intro l
  induction l with
  | nil => rfl
  | cons a l ih =>
    cases h : f a <;> simp [h] <;> omega
/-- Two polynomials that miss few points are one. -/
theorem dec_uniq {xs ys f g : List UInt8} {n wrong d : Nat} (hd : Dist xs n) (hn : d + 1 + 2 * wrong ≤ n) (hf : dg f ≤ d + 1) (hg : dg g ≤ d + 1) (hwf : (missL f xs ys n).length ≤ wrong) (hwg : (missL g xs ys n).length ≤ wrong) : ∀ j, co f j = co g j := by
  have h1 := hits_miss f xs ys n
  have h2 := filter_both (fun i => decide (ev g (co xs i) = co ys i)) (hits f xs ys n)
  have h3 : ((hits f xs ys n).filter fun i => !decide (ev g (co xs i) = co ys i)).length ≤ (missL g xs ys n).length := by
    unfold hits missL
    rw [List.filter_filter]
    refine List.Sublist.length_le ?_
    have : ((List.range n).filter fun i => (!decide (ev g (co xs i) = co ys i)) && decide (ev f (co xs i) = co ys i)) = ((List.range n).filter fun i => decide (ev g (co xs i) ≠ co ys i)).filter fun i => decide (ev f (co xs i) = co ys i) := by
      rw [List.filter_filter]
      congr 1
      funext i
      by_cases h : ev g (co xs i) = co ys i <;> simp [h]
    rw [this]
    exact List.filter_sublist
  refine uniq_pts hd (I := (hits f xs ys n).filter fun i => decide (ev g (co xs i) = co ys i)) ((hits_nodup f xs ys n).filter _) (fun i hi => (hits_mem.1 (List.mem_filter.1 hi).1).1) (fun i hi => ?_) (by omega) (by omega)
  have := List.mem_filter.1 hi
  rw [(hits_mem.1 this.1).2]
  exact (by simpa using this.2 : ev g (co xs i) = co ys i).symm
end Go.Proofs.YtbilfhipmebmlaaDoor

namespace Go.Proofs.YtbilfhipmebmlaaDoor
set_option linter.unusedVariables false
set_option linter.unusedSimpArgs false

/-- The indices below n whose bits are set. -/
def sel (s n : Nat) : List Nat := (List.range n).filter fun i => s.testBit i
theorem sel_yes {s n : Nat} (h : s.testBit n = true) : sel s (n + 1) = sel s n ++ [n] := by
  unfold sel; rw [List.range_succ, List.filter_append]; simp [h]
theorem sel_no {s n : Nat} (h : s.testBit n = false) : sel s (n + 1) = sel s n := by
  unfold sel; rw [List.range_succ, List.filter_append]; simp [h]
theorem sel_len (s n : Nat) : (sel s n).length ≤ n := Nat.le_trans (List.length_filter_le _ _) (by simp)
theorem sel_lt {s n i : Nat} (h : i ∈ sel s n) : i < n := List.mem_range.1 (List.mem_filter.1 h).1
theorem sel_nodup (s n : Nat) : (sel s n).Nodup := List.nodup_range.filter _
theorem sel_add (s n : Nat) : sel (2 ^ n + s) n = sel s n := by
  unfold sel
  refine List.filter_congr fun i hi => ?_
  exact Nat.testBit_two_pow_add_gt (List.mem_range.1 hi) s
theorem sel_exists (H : Nat → Bool) : ∀ n m, m ≤ ((List.range n).filter H).length → ∃ s, s < 2 ^ n ∧ (sel s n).length = m ∧ ∀ i ∈ sel s n, H i = true := by
  intro n
  induction n with
  | zero => intro m hm; exact ⟨0, by simp, by simp at hm; simp [sel, hm], by simp [sel]⟩
  | succ n ih =>
    intro m hm
    rw [List.range_succ, List.filter_append, List.length_append] at hm
    by_cases h : m ≤ ((List.range n).filter H).length
    · obtain ⟨s, h1, h2, h3⟩ := ih m h
      have hb : s.testBit n = false := Nat.testBit_lt_two_pow h1
      exact ⟨s, by rw [Nat.pow_succ]; omega, by rw [sel_no hb]; exact h2, by rw [sel_no hb]; exact h3⟩
    · have hH : H n = true := by
        by_cases e : H n = true
        · exact e
        · simp [e] at hm; omega
      have h1 : ((List.range n).filter H).length + 1 = m := by simp [hH] at hm; omega
      obtain ⟨s, h2, h3, h4⟩ := ih (m - 1) (by omega)
      have hb : (2 ^ n + s).testBit n = true := by rw [Nat.testBit_two_pow_add_eq, Nat.testBit_lt_two_pow h2]; rfl
      refine ⟨2 ^ n + s, by rw [Nat.pow_succ]; omega, ?_, fun i hi => ?_⟩
      · rw [sel_yes hb, sel_add, List.length_append, h3]; simp; omega
      · rw [sel_yes hb, sel_add] at hi
        rcases List.mem_append.1 hi with hi | hi
        · exact h4 i hi
        · rw [List.mem_singleton.1 hi]; exact hH
theorem dist_nodup {l : List UInt8} (h : l.Nodup) : Dist l l.length := fun i k hki hi => by
  unfold List.Nodup at h
  have := (List.pairwise_iff_getElem.1 h) k i (by omega) hi hki
  have e1 := at_co (p := l) (k := i) hi
  have e2 := at_co (p := l) (k := k) (by omega)
  rw [List.getElem?_eq_getElem hi] at e1
  rw [List.getElem?_eq_getElem (by omega)] at e2
  rw [← Option.some.inj e1, ← Option.some.inj e2]
  exact fun e => this e.symm
/-- The line through the chosen points. -/
def selP (xs ys : List UInt8) (s n : Nat) : List UInt8 := lineK ((sel s n).map (co xs)) ((sel s n).map (co ys)) (sel s n).length (sel s n).length
theorem co_map (I : List Nat) (f : Nat → UInt8) {j : Nat} (h : j < I.length) : co (I.map f) j = f I[j] := by
  unfold co
  rw [List.getD_eq_getElem?_getD, List.getElem?_map, List.getElem?_eq_getElem h]
  rfl
theorem dist_sel {xs : List UInt8} {n : Nat} (hd : Dist xs n) (s : Nat) : Dist ((sel s n).map (co xs)) (sel s n).length := by
  have := dist_nodup (nodup_pts hd (sel_nodup s n) (fun i hi => sel_lt hi))
  rwa [List.length_map] at this
theorem selP_dg {xs ys : List UInt8} {n : Nat} (hd : Dist xs n) (s : Nat) : dg (selP xs ys s n) ≤ (sel s n).length ∧ trim (selP xs ys s n) = selP xs ys s n :=
  ⟨(lineK_spec (dist_sel hd s) _ (Nat.le_refl _)).1, lineK_trim _ _ _ _⟩
theorem selP_hit {xs ys f : List UInt8} {n s : Nat} (hd : Dist xs n) (hf : dg f ≤ (sel s n).length) (h : ∀ i ∈ sel s n, ev f (co xs i) = co ys i) : selP xs ys s n = trim f := by
  unfold selP
  rw [line_eq (dist_sel hd s)]
  refine lineP_uni (dist_sel hd s) hf fun j hj => ?_
  rw [co_map _ _ hj, co_map _ _ hj]
  exact h _ (List.getElem_mem hj)
/-- If no chosen line will do, no polynomial will. -/
theorem sel_lost {xs ys : List UInt8} {n d wrong : Nat} (hd : Dist xs n) (hn : d + 1 + 2 * wrong ≤ n) (h : ∀ s, s < 2 ^ n → (sel s n).length = d + 1 → wrong < (missL (selP xs ys s n) xs ys n).length) (f : List UInt8) (hf : dg f ≤ d + 1) : wrong < (missL f xs ys n).length := by
  rcases Nat.lt_or_ge wrong (missL f xs ys n).length with hh | hh
  · exact hh
  · have hl := hits_miss f xs ys n
    obtain ⟨s, h1, h2, h3⟩ := sel_exists (fun i => decide (ev f (co xs i) = co ys i)) n (d + 1) (by unfold hits at hl; omega)
    have := h s h1 h2
    rw [selP_hit (f := f) hd (by omega) (fun i hi => by simpa using h3 i hi), missL_congr (co_trim f)] at this
    omega
/-- One value more that is another one. -/
theorem missL_set (p xs ys : List UInt8) (i : Nat) (y : UInt8) (n : Nat) : (missL p xs (ys.set i y) n).length ≤ (missL p xs ys n).length + (if i < n then 1 else 0) := by
  have hco : ∀ j, j ≠ i → co (ys.set i y) j = co ys j := fun j hj => by
    unfold co
    rw [List.getD_eq_getElem?_getD, List.getD_eq_getElem?_getD, List.getElem?_set_ne (fun e => hj e.symm)]
  induction n with
  | zero => simp [missL]
  | succ n ih =>
    unfold missL at *
    rw [List.range_succ, List.filter_append, List.filter_append, List.length_append, List.length_append]
    by_cases e : n = i
    · subst e
      rw [if_neg (by omega)] at ih
      rw [if_pos (by omega)]
      have h1 : (List.filter (fun i_1 => decide (ev p (co xs i_1) ≠ co (ys.set n y) i_1)) [n]).length ≤ 1 := List.length_filter_le _ _
      omega
    · have h2 : (List.filter (fun j => decide (ev p (co xs j) ≠ co (ys.set i y) j)) [n]).length = (List.filter (fun j => decide (ev p (co xs j) ≠ co ys j)) [n]).length := by
        simp only [List.filter_cons, List.filter_nil, hco n e]
      rw [h2]
      by_cases hi : i < n
      · rw [if_pos hi] at ih; rw [if_pos (by omega)]; omega
      · rw [if_neg hi] at ih; rw [if_neg (by omega)]; omega
/-- What a decoder ends with: a polynomial that misses few points, or the word that there is none. -/
def Found (xs ys : List UInt8) (n d wrong : Nat) (P : List UInt8) : Prop := dg P ≤ d + 1 ∧ trim P = P ∧ (missL P xs ys n).length ≤ wrong
def Lost (xs ys : List UInt8) (n d wrong : Nat) : Prop := ∀ f : List UInt8, dg f ≤ d + 1 → wrong < (missL f xs ys n).length
theorem Found.one {xs ys P Q : List UInt8} {n d wrong : Nat} (h : Found xs ys n d wrong P) (h' : Found xs ys n d wrong Q) (hd : Dist xs n) (hn : d + 1 + 2 * wrong ≤ n) : P = Q := by
  rw [← h.2.1, ← h'.2.1]
  exact trim_ext (dec_uniq hd hn h.1 h'.1 h.2.2 h'.2.2)
theorem Found.not {xs ys P : List UInt8} {n d wrong : Nat} (h : Found xs ys n d wrong P) (h' : Lost xs ys n d wrong) : False := by
  have := h' P h.1; have := h.2.2; omega
end Go.Proofs.YtbilfhipmebmlaaDoor
