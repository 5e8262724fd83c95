/-
  Polynomials as lists of bytes: coefficients, degree, trimmed lists. (General: no function of the project.)
-/
import Derived.Test.YtbilfhipmebmlaaDoorGf
namespace Go.Proofs.YtbilfhipmebmlaaDoor
set_option linter.unusedVariables false

/-- The coefficient of the k-th power. -/
def co (p : List UInt8) (k : Nat) : UInt8 := p.getD k 0
/-- How many coefficients are left when the zeros at the end go: the degree and one. -/
def dg : List UInt8 → Nat
  | [] => 0
  | c :: p => if dg p = 0 ∧ c = 0 then 0 else dg p + 1
def trim (p : List UInt8) : List UInt8 := p.take (dg p)
@[simp] theorem co_nil (k : Nat) : co [] k = 0 := by simp [co]
@[simp] theorem co_zero (c : UInt8) (p : List UInt8) : co (c :: p) 0 = c := rfl
@[simp] theorem co_succ (c : UInt8) (p : List UInt8) (k : Nat) : co (c :: p) (k + 1) = co p k := by simp [co]
theorem co_of {p : List UInt8} {k : Nat} {c : UInt8} (h : p[k]? = some c) : co p k = c := by simp [co, List.getD, h]
theorem co_out {p : List UInt8} {k : Nat} (h : p.length ≤ k) : co p k = 0 := by simp [co, List.getD, List.getElem?_eq_none h]
theorem at_co {p : List UInt8} {k : Nat} (h : k < p.length) : p[k]? = some (co p k) := by
  rw [List.getElem?_eq_getElem h]; simp [co, List.getD, List.getElem?_eq_getElem h]
theorem dg_le (p : List UInt8) : dg p ≤ p.length := by
  induction p with
  | nil => simp [dg]
  | cons c p ih => simp only [dg, List.length_cons]; split <;> omega
theorem co_above (p : List UInt8) : ∀ k, dg p ≤ k → co p k = 0 := by
  induction p with
  | nil => intro k _; exact co_nil k
  | cons c p ih =>
    intro k hk
    simp only [dg] at hk
    split at hk
    · rename_i h
      cases k with
      | zero => exact h.2
      | succ k => rw [co_succ]; exact ih k (by omega)
    · cases k with
      | zero => omega
      | succ k => rw [co_succ]; exact ih k (by omega)
theorem dg_top (p : List UInt8) : 0 < dg p → co p (dg p - 1) ≠ 0 := by
  induction p with
  | nil => intro h; simp [dg] at h
  | cons c p ih =>
    intro h
    by_cases h0 : dg p = 0 ∧ c = 0
    · simp only [dg, if_pos h0] at h; omega
    · simp only [dg, if_neg h0]
      rw [Nat.add_sub_cancel]
      rcases Nat.eq_zero_or_pos (dg p) with hz | hp
      · rw [hz, co_zero]; intro hc; exact h0 ⟨hz, hc⟩
      · obtain ⟨n, hn⟩ : ∃ n, dg p = n + 1 := ⟨dg p - 1, by omega⟩
        rw [hn, co_succ]
        have := ih hp
        rw [hn, Nat.add_sub_cancel] at this
        exact this
theorem dg_uni {p : List UInt8} {n : Nat} (h : ∀ k, n ≤ k → co p k = 0) (ht : 0 < n → co p (n - 1) ≠ 0) : dg p = n := by
  rcases Nat.lt_trichotomy (dg p) n with hh | hh | hh
  · exact absurd (co_above p (n - 1) (by omega)) (ht (by omega))
  · exact hh
  · exact absurd (h (dg p - 1) (by omega)) (dg_top p (by omega))
theorem dg_congr {p q : List UInt8} (h : ∀ k, co p k = co q k) : dg p = dg q :=
  dg_uni (fun k hk => by rw [h]; exact co_above q k hk) (fun hp => by rw [h]; exact dg_top q hp)
theorem trim_len (p : List UInt8) : (trim p).length = dg p := by simp only [trim, List.length_take]; have := dg_le p; omega
theorem co_take (p : List UInt8) (n k : Nat) : co (p.take n) k = if k < n then co p k else 0 := by
  split
  · rename_i h; simp [co, List.getD, List.getElem?_take_of_lt h]
  · exact co_out (by rw [List.length_take]; omega)
theorem co_trim (p : List UInt8) (k : Nat) : co (trim p) k = co p k := by
  rw [trim, co_take]; split
  · rfl
  · exact (co_above p k (by omega)).symm
theorem list_ext {p q : List UInt8} (hl : p.length = q.length) (h : ∀ k, co p k = co q k) : p = q := by
  apply List.ext_getElem? ; intro k
  rcases Nat.lt_or_ge k p.length with hk | hk
  · rw [at_co hk, at_co (by omega), h]
  · rw [List.getElem?_eq_none hk, List.getElem?_eq_none (by omega)]
theorem trim_ext {p q : List UInt8} (h : ∀ k, co p k = co q k) : trim p = trim q :=
  list_ext (by rw [trim_len, trim_len, dg_congr h]) (fun k => by rw [co_trim, co_trim, h])
theorem dg_trim (p : List UInt8) : dg (trim p) = dg p := dg_congr (co_trim p)
theorem trim_trim (p : List UInt8) : trim (trim p) = trim p := trim_ext (co_trim p)
theorem trim_at {p : List UInt8} {k : Nat} (h : k < dg p) : (trim p)[k]? = p[k]? := by rw [trim, List.getElem?_take_of_lt h]
/-- Down: the last coefficient is zero, or the degree is found. -/
theorem dg_down {p : List UInt8} {k : Nat} (h : dg p ≤ k + 1) (hc : co p k = 0) : dg p ≤ k := by
  rcases Nat.lt_or_ge k (dg p) with hh | hh
  · have h1 : dg p = k + 1 := by omega
    have := dg_top p (by omega)
    rw [h1, Nat.add_sub_cancel] at this
    exact absurd hc this
  · exact hh
theorem dg_found {p : List UInt8} {k : Nat} (h : dg p ≤ k + 1) (hc : co p k ≠ 0) : dg p = k + 1 := by
  rcases Nat.lt_or_ge k (dg p) with hh | hh
  · omega
  · exact absurd (co_above p k hh) hc
/-- Up: the coefficients come one by one. -/
theorem dg_up_zero {p : List UInt8} {k : Nat} (hc : co p k = 0) : dg (p.take (k + 1)) = dg (p.take k) :=
  dg_congr (fun j => by
    rw [co_take, co_take]
    by_cases h1 : j < k
    · rw [if_pos h1, if_pos (by omega)]
    · rw [if_neg h1]
      by_cases h2 : j = k
      · subst h2; rw [if_pos (by omega)]; exact hc
      · rw [if_neg (by omega)])
theorem dg_up_some {p : List UInt8} {k : Nat} (hc : co p k ≠ 0) : dg (p.take (k + 1)) = k + 1 :=
  dg_uni (fun j hj => by rw [co_take, if_neg (by omega)]) (fun _ => by rw [Nat.add_sub_cancel, co_take, if_pos (by omega)]; exact hc)
theorem take_whole (p : List UInt8) : p.take p.length = p := List.take_length
/-- The coefficient of the highest power. -/
def top (p : List UInt8) : UInt8 := co p (dg p - 1)
theorem top_ne {p : List UInt8} (h : 0 < dg p) : top p ≠ 0 := dg_top p h
theorem trim_take_succ {p : List UInt8} {k : Nat} (h : k < p.length) : p.take (k + 1) = p.take k ++ [co p k] := by
  rw [List.take_add_one, at_co h]; rfl
/-- The value of a polynomial. -/
def ev : List UInt8 → UInt8 → UInt8
  | [], _ => 0
  | c :: p, x => Gf.mul (ev p x) x ^^^ c
def xp (x : UInt8) : Nat → UInt8
  | 0 => 1
  | k + 1 => Gf.mul (xp x k) x
theorem ev_snoc (p : List UInt8) (c x : UInt8) : ev (p ++ [c]) x = ev p x ^^^ Gf.mul c (xp x p.length) := by
  induction p with
  | nil => simp [ev, xp, Gf.zero_mul, Gf.mul_one]
  | cons d p ih =>
    simp only [List.cons_append, ev, ih, List.length_cons, xp, Gf.xor_mul, Gf.mul_assoc]
    rw [UInt8.xor_assoc, UInt8.xor_assoc, UInt8.xor_comm d]
theorem ev_take_succ {p : List UInt8} {k : Nat} (x : UInt8) (h : k < p.length) : ev (p.take (k + 1)) x = ev (p.take k) x ^^^ Gf.mul (co p k) (xp x k) := by
  rw [trim_take_succ h, ev_snoc, List.length_take, Nat.min_eq_left (by omega)]
theorem ev_drop {p : List UInt8} {k : Nat} (x : UInt8) (h : k < p.length) : ev (p.drop k) x = Gf.mul (ev (p.drop (k + 1)) x) x ^^^ co p k := by
  rw [List.drop_eq_getElem_cons h]
  simp only [ev]
  congr 1
  simp [co, List.getD, List.getElem?_eq_getElem h]
end Go.Proofs.YtbilfhipmebmlaaDoor
