/-
  Stage 5, the maths of ranks, first part: spans, what a step of the reduction does, reduced forms. No Go in sight. Stage 5, the maths of ranks, second part: lists that ascend, kernels, ranks. No Go in sight. Stage 5, the maths of ranks, third part: transposes, products, what is reduced again, inverses. No Go in sight. Stage 5, the maths of ranks, fourth part: systems, what is expressed, all solutions. No Go in sight.
-/
import Derived.Test.YtgajlgnniidgmaaDoorMrfh
import Derived.Test.YtgajlgnniidgmaaDoorMez
import Derived.Test.YtgajlgnniidgmaaDoorMsx
import Derived.Test.YtgajlgnniidgmaaDoorMyv
namespace Go.Proofs.YtgajlgnniidgmaaDoor
set_option linter.unusedVariables false
set_option linter.unusedSimpArgs false

theorem xor_self0 (a : UInt8) : a ^^^ a = 0 := UInt8.xor_self
theorem xor_cancel {a b : UInt8} (h : a ^^^ b = 0) : a = b := UInt8.xor_eq_zero_iff.1 h
theorem xsum_one {n a : Nat} (f : Nat → UInt8) (ha : a < n) (h : ∀ j, j < n → j ≠ a → f j = 0) : xsum n f = f a := by
  induction n with
  | zero => omega
  | succ n ih =>
    rw [xsum_succ]
    by_cases hn : a = n
    · subst hn
      rw [xsum_congr (g := fun _ => 0) fun j hj => h j (by omega) (by omega), xsum_zero, UInt8.zero_xor]
    · rw [ih (by omega) fun j hj hja => h j (by omega) hja, h n (by omega) (by omega), UInt8.xor_zero]
theorem xsum_none {n : Nat} (f : Nat → UInt8) (h : ∀ j, j < n → f j = 0) : xsum n f = 0 := by
  rw [xsum_congr (g := fun _ => 0) h, xsum_zero]
theorem xsum_two {n a b : Nat} (f : Nat → UInt8) (ha : a < n) (hb : b < n) (hab : a ≠ b) (h : ∀ j, j < n → j ≠ a → j ≠ b → f j = 0) : xsum n f = f a ^^^ f b := by
  have e : ∀ j, j < n → f j = (fun j => if j = a then f a else 0) j ^^^ (fun j => if j = a then 0 else f j) j := fun j _ => by
    by_cases hj : j = a
    · subst hj; simp
    · simp [hj]
  rw [xsum_congr e, xsum_add, xsum_one _ ha (fun j _ hja => by simp [hja]), xsum_one _ hb (fun j hj hjb => by
    by_cases hja : j = a
    · simp [hja]
    · simp [hja]; exact h j hj hja hjb)]
  simp [Ne.symm hab]
/-- More terms, all of them 0. -/
theorem xsum_more {n m : Nat} (f : Nat → UInt8) (hnm : n ≤ m) (h : ∀ j, n ≤ j → j < m → f j = 0) : xsum m f = xsum n f := by
  induction m with
  | zero => rw [Nat.le_zero.1 hnm]
  | succ m ih =>
    rcases Nat.lt_or_ge n (m + 1) with hh | hh
    · rw [xsum_succ, h m (by omega) (by omega), UInt8.xor_zero, ih (by omega) fun j h1 h2 => h j h1 (by omega)]
    · rw [show n = m + 1 by omega]

/-- A row (as a function) is a combination of the rows of a matrix, as far as n columns. -/
def Spn (M : List (List UInt8)) (n : Nat) (v : Nat → UInt8) : Prop := ∃ c : Nat → UInt8, ∀ k, k < n → v k = xsum M.length fun j => Gf.mul (c j) (el M j k)
section
variable {M N : List (List UInt8)} {n : Nat} {u v : Nat → UInt8}
theorem Spn.row {i : Nat} (hi : i < M.length) : Spn M n (el M i) := ⟨fun j => if j = i then 1 else 0, fun k _ => by
  rw [xsum_one _ hi fun j _ hj => by simp [hj, Gf.zero_mul]]
  simp [Gf.one_mul]⟩
theorem Spn.zero : Spn M n fun _ => 0 := ⟨fun _ => 0, fun k _ => (xsum_none _ fun j _ => Gf.zero_mul _).symm⟩
theorem Spn.add (h1 : Spn M n u) (h2 : Spn M n v) : Spn M n fun k => u k ^^^ v k := by
  obtain ⟨c, hc⟩ := h1
  obtain ⟨d, hd⟩ := h2
  refine ⟨fun j => c j ^^^ d j, fun k hk => ?_⟩
  show u k ^^^ v k = _
  rw [hc k hk, hd k hk, ← xsum_add]
  exact xsum_congr fun j _ => (Gf.xor_mul _ _ _).symm
theorem Spn.smul (a : UInt8) (h : Spn M n v) : Spn M n fun k => Gf.mul a (v k) := by
  obtain ⟨c, hc⟩ := h
  refine ⟨fun j => Gf.mul a (c j), fun k hk => ?_⟩
  show Gf.mul a (v k) = _
  rw [hc k hk, mul_xsum]
  exact xsum_congr fun j _ => (Gf.mul_assoc _ _ _).symm
theorem Spn.congr (h : Spn M n v) (e : ∀ k, k < n → u k = v k) : Spn M n u := by
  obtain ⟨c, hc⟩ := h
  exact ⟨c, fun k hk => (e k hk).trans (hc k hk)⟩
theorem Spn.sum (f : Nat → Nat → UInt8) : ∀ m, (∀ j, j < m → Spn M n (f j)) → Spn M n fun k => xsum m fun j => f j k
  | 0, _ => Spn.zero
  | m + 1, h => (Spn.sum f m fun j hj => h j (by omega)).add (h m (by omega))
theorem Spn.trans (h : ∀ j, j < N.length → Spn M n (el N j)) (hv : Spn N n v) : Spn M n v := by
  obtain ⟨c, hc⟩ := hv
  exact (Spn.sum (fun j k => Gf.mul (c j) (el N j k)) N.length fun j hj => (h j hj).smul (c j)).congr hc
theorem Spn.less {m : Nat} (h : Spn M n v) (hm : m ≤ n) : Spn M m v := by
  obtain ⟨c, hc⟩ := h
  exact ⟨c, fun k hk => hc k (by omega)⟩
end
/-- Two matrices have the same combinations. -/
def SpE (M N : List (List UInt8)) (n : Nat) : Prop := ∀ v, Spn M n v ↔ Spn N n v
theorem SpE.of {M N : List (List UInt8)} {n : Nat} (h1 : ∀ j, j < M.length → Spn N n (el M j)) (h2 : ∀ j, j < N.length → Spn M n (el N j)) : SpE M N n := fun v => ⟨Spn.trans h1, Spn.trans h2⟩
theorem SpE.trans {M N O : List (List UInt8)} {n : Nat} (h1 : SpE M N n) (h2 : SpE N O n) : SpE M O n := fun v => (h1 v).trans (h2 v)
theorem SpE.symm {M N : List (List UInt8)} {n : Nat} (h1 : SpE M N n) : SpE N M n := fun v => (h1 v).symm

theorem mulR_getD (c : UInt8) (r : List UInt8) (k : Nat) : (mulR c r).getD k 0 = Gf.mul c (r.getD k 0) := by
  unfold mulR
  rcases Nat.lt_or_ge k r.length with h | h
  · rw [List.getD_eq_getElem?_getD, rowF_get _ h]; rfl
  · rw [List.getD_eq_getElem?_getD, List.getElem?_eq_none (by rw [rowF_len]; exact h), List.getD_eq_getElem?_getD, List.getElem?_eq_none h]
    exact (Gf.mul_zero c).symm
theorem addR_getD (c : UInt8) (p r : List UInt8) (k : Nat) (hp : p.length ≤ r.length) : (addR c p r).getD k 0 = r.getD k 0 ^^^ Gf.mul c (p.getD k 0) := by
  unfold addR
  rcases Nat.lt_or_ge k r.length with h | h
  · rw [List.getD_eq_getElem?_getD, rowF_get _ h]; rfl
  · rw [List.getD_eq_getElem?_getD, List.getElem?_eq_none (by rw [rowF_len]; exact h), List.getD_eq_getElem?_getD, List.getElem?_eq_none h, List.getD_eq_getElem?_getD, List.getElem?_eq_none (by omega)]
    simp [Gf.mul_zero]
theorem el_out (M : List (List UInt8)) {i : Nat} (k : Nat) (h : M.length ≤ i) : el M i k = 0 := by
  unfold el
  rw [List.getD_eq_getElem?_getD (l := M), List.getElem?_eq_none h]
  rfl
theorem el_get {M : List (List UInt8)} {i : Nat} {m : List UInt8} (h : M[i]? = some m) (k : Nat) : el M i k = m.getD k 0 := by
  unfold el
  rw [List.getD_eq_getElem?_getD (l := M), h]
  rfl
theorem el_getD (M : List (List UInt8)) (i k : Nat) : el M i k = (M.getD i []).getD k 0 := rfl
theorem clr0_get {M : List (List UInt8)} {top col i x : Nat} (ht : top < M.length) (hi : i < M.length) : (clr0 M top col i)[x]? = if x = top then some (mulR (Gf.inv (el M i col)) (M.getD i [])) else if x = i then some (M.getD top []) else M[x]? := by
  unfold clr0
  by_cases h1 : x = top
  · subst h1
    rw [if_pos rfl, List.getElem?_set_self (by simpa using ht)]
  · rw [if_neg h1, List.getElem?_set_ne (Ne.symm h1)]
    by_cases h2 : x = i
    · subst h2
      rw [if_pos rfl, List.getElem?_set_self hi]
    · rw [if_neg h2, List.getElem?_set_ne (Ne.symm h2)]
/-- The elements behind a step. -/
theorem pivStep_el {M : List (List UInt8)} {c top col i x : Nat} (hr : Rect M c) (ht : top < M.length) (hi : i < M.length) (hx : x < M.length) (k : Nat) :
    el (pivStep M top col i) x k = if x = top then Gf.mul (Gf.inv (el M i col)) (el M i k) else el M (if x = i then top else x) k ^^^ Gf.mul (el M (if x = i then top else x) col) (Gf.mul (Gf.inv (el M i col)) (el M i k)) := by
  have hp : (mulR (Gf.inv (el M i col)) (M.getD i [])).length = c := by rw [mulR_len]; exact hr.getD hi
  by_cases h1 : x = top
  · have hg : (pivStep M top col i)[x]? = some (mulR (Gf.inv (el M i col)) (M.getD i [])) := by
      rw [pivStep_alt, elimK_get, clr0_get ht hi, if_pos h1]
      simp [h1]
    rw [el_get hg, mulR_getD, if_pos h1]
    rfl
  · rw [if_neg h1]
    obtain ⟨r, hr0, hrl, hre⟩ : ∃ r : List UInt8, (clr0 M top col i)[x]? = some r ∧ r.length = c ∧ ∀ k, r.getD k 0 = el M (if x = i then top else x) k := by
      rw [clr0_get ht hi, if_neg h1]
      by_cases h2 : x = i
      · rw [if_pos h2]
        exact ⟨_, rfl, hr.getD ht, fun k => by rw [if_pos h2]; rfl⟩
      · rw [if_neg h2]
        obtain ⟨m, hm⟩ : ∃ m, M[x]? = some m := ⟨_, List.getElem?_eq_getElem hx⟩
        exact ⟨m, hm, hr.at hm, fun k => by rw [if_neg h2, el_get hm]⟩
    have hg : (pivStep M top col i)[x]? = some (addR (r.getD col 0) (mulR (Gf.inv (el M i col)) (M.getD i [])) r) := by
      rw [pivStep_alt, elimK_get, hr0]
      simp [h1, hx]
    rw [el_get hg, addR_getD _ _ _ _ (by rw [hp, hrl]; exact Nat.le_refl _), mulR_getD, hre, hre]
    rfl
/-- A step keeps the combinations. -/
theorem pivStep_spe {M : List (List UInt8)} {c top col i : Nat} (n : Nat) (hr : Rect M c) (ht : top < M.length) (hi : i < M.length) (ha : el M i col ≠ 0) : SpE (pivStep M top col i) M n := by
  have hl : (pivStep M top col i).length = M.length := pivStep_len M top col i
  have hinv : ∀ b, Gf.mul (el M i col) (Gf.mul (Gf.inv (el M i col)) b) = b := fun b => by
    rw [← Gf.mul_assoc, Gf.mul_inv ha, Gf.one_mul]
  have hrow : ∀ k, el M i k = Gf.mul (el M i col) (el (pivStep M top col i) top k) := fun k => by
    rw [pivStep_el hr ht hi ht, if_pos rfl, hinv]
  refine SpE.of (fun x hx => ?_) (fun y hy => ?_)
  · rw [hl] at hx
    by_cases h1 : x = top
    · refine ((Spn.row hi).smul (Gf.inv (el M i col))).congr fun k _ => ?_
      rw [pivStep_el hr ht hi hx, if_pos h1]
    · have hs : (if x = i then top else x) < M.length := by split <;> assumption
      refine ((Spn.row hs).add (((Spn.row hi).smul (Gf.inv (el M i col))).smul (el M (if x = i then top else x) col))).congr fun k _ => ?_
      rw [pivStep_el hr ht hi hx, if_neg h1]
  · have htop : Spn (pivStep M top col i) n (el (pivStep M top col i) top) := Spn.row (by omega)
    by_cases h1 : y = i
    · subst h1
      exact (htop.smul (el M y col)).congr fun k _ => hrow k
    · obtain ⟨x, hx, hxt, hs⟩ : ∃ x, x < M.length ∧ x ≠ top ∧ (if x = i then top else x) = y := by
        by_cases h2 : y = top
        · exact ⟨i, hi, fun hh => h1 (by omega), by simp [h2]⟩
        · exact ⟨y, hy, h2, by simp [h1]⟩
      have hxr : Spn (pivStep M top col i) n (el (pivStep M top col i) x) := Spn.row (by omega)
      refine (hxr.add (htop.smul (el M y col))).congr fun k _ => ?_
      rw [pivStep_el hr ht hi hx, if_neg hxt, hs, pivStep_el hr ht hi ht, if_pos rfl, UInt8.xor_assoc, xor_self0, UInt8.xor_zero]
theorem redGo_spe (c n : Nat) : ∀ (cs : List Nat) (M : List (List UInt8)) (piv : List Nat), Rect M c → piv.length ≤ M.length → SpE (redGo M piv cs).1 M n
  | [], M, piv, _, _ => fun v => Iff.rfl
  | col :: cs, M, piv, h, hp => by
    unfold redGo
    cases hf : findP M col piv.length with
    | none => exact redGo_spe c n cs M piv h hp
    | some i =>
      obtain ⟨hl1, hl2, hl3⟩ := findP_lt hf
      have hpl : (pivStep M piv.length col i).length = M.length := pivStep_len _ _ _ _
      exact (redGo_spe c n cs _ (piv ++ [col]) (h.step col (by omega) hl2) (by rw [hpl]; simp; omega)).trans (pivStep_spe n h (by omega) hl2 hl3)
theorem red_spe {M : List (List UInt8)} {c : Nat} (h : Rect M c) (m n : Nat) : SpE (red M m).1 M n := redGo_spe c n _ M [] h (by simp)

/-- A matrix is reduced, as far as n columns. -/
structure Ech (M : List (List UInt8)) (piv : List Nat) (n : Nat) : Prop where
  lt : ∀ (i p : Nat), piv[i]? = some p → p < n
  asc : ∀ (i j p q : Nat), piv[i]? = some p → piv[j]? = some q → i < j → p < q
  one : ∀ (i p x : Nat), piv[i]? = some p → x < M.length → el M x p = if x = i then 1 else 0
  low : ∀ (i p k : Nat), piv[i]? = some p → k < p → el M i k = 0
  rest : ∀ (x k : Nat), piv.length ≤ x → k < n → el M x k = 0
  le : piv.length ≤ M.length
theorem snoc_get {piv : List Nat} {col j p : Nat} (h : (piv ++ [col])[j]? = some p) : (j < piv.length ∧ piv[j]? = some p) ∨ (j = piv.length ∧ p = col) := by
  rcases Nat.lt_trichotomy j piv.length with hj | hj | hj
  · rw [List.getElem?_append_left hj] at h
    exact .inl ⟨hj, h⟩
  · rw [List.getElem?_append_right (by omega), hj, Nat.sub_self] at h
    exact .inr ⟨hj, (Option.some.inj h).symm⟩
  · rw [List.getElem?_eq_none (by simp; omega)] at h; cases h
theorem Ech.skip {M : List (List UInt8)} {piv : List Nat} {col : Nat} (h : Ech M piv col) (hf : findP M col piv.length = none) : Ech M piv (col + 1) := by
  refine ⟨fun i p hp => Nat.lt_succ_of_lt (h.lt i p hp), h.asc, h.one, h.low, fun x k hx hk => ?_, h.le⟩
  rcases Nat.lt_or_ge k col with hk' | hk'
  · exact h.rest x k hx hk'
  · obtain rfl : k = col := by omega
    rcases Nat.lt_or_ge x M.length with hxl | hxl
    · unfold findP at hf
      rw [List.find?_eq_none] at hf
      have := hf x (by simpa using hxl)
      simp only [Bool.and_eq_true, decide_eq_true_eq, bne_iff_ne, ne_eq, not_and, Decidable.not_not] at this
      exact this hx
    · exact el_out M k hxl
theorem Ech.step {M : List (List UInt8)} {piv : List Nat} {c col i : Nat} (h : Ech M piv col) (hr : Rect M c) (hf : findP M col piv.length = some i) : Ech (pivStep M piv.length col i) (piv ++ [col]) (col + 1) := by
  obtain ⟨hti, hi, ha⟩ := findP_lt hf
  have ht : piv.length < M.length := by omega
  have hl : (pivStep M piv.length col i).length = M.length := pivStep_len _ _ _ _
  have hz : ∀ k, k < col → el M i k = 0 := fun k hk => h.rest i k hti hk
  refine ⟨fun j p hp => ?_, fun j j' p q hp hq hj => ?_, fun j p x hp hx => ?_, fun j p k hp hk => ?_, fun x k hx hk => ?_, by rw [hl]; simp; omega⟩
  · rcases snoc_get hp with ⟨_, h1⟩ | ⟨_, rfl⟩
    · exact Nat.lt_succ_of_lt (h.lt j p h1)
    · omega
  · rcases snoc_get hp with ⟨j1, h1⟩ | ⟨j1, rfl⟩
    · rcases snoc_get hq with ⟨_, h2⟩ | ⟨_, rfl⟩
      · exact h.asc j j' p q h1 h2 hj
      · exact h.lt j p h1
    · rcases snoc_get hq with ⟨j2, h2⟩ | ⟨j2, rfl⟩ <;> omega
  · rw [hl] at hx
    rw [pivStep_el hr ht hi hx]
    rcases snoc_get hp with ⟨j1, h1⟩ | ⟨j1, rfl⟩
    · have hpc := h.lt j p h1
      rw [hz p hpc, Gf.mul_zero, Gf.mul_zero, UInt8.xor_zero]
      by_cases hxt : x = piv.length
      · rw [if_pos hxt, if_neg (by omega)]
      · rw [if_neg hxt]
        by_cases hxi : x = i
        · rw [if_pos hxi, h.one j p _ h1 ht, if_neg (by omega), if_neg (by omega)]
        · rw [if_neg hxi, h.one j p _ h1 hx]
    · by_cases hxt : x = piv.length
      · rw [if_pos hxt, if_pos (by omega), Gf.mul_comm, Gf.mul_inv ha]
      · have e : Gf.mul (Gf.inv (el M i p)) (el M i p) = 1 := by rw [Gf.mul_comm, Gf.mul_inv ha]
        rw [if_neg hxt, e, Gf.mul_one, xor_self0, if_neg (show ¬ x = j by omega)]
  · rcases snoc_get hp with ⟨j1, h1⟩ | ⟨j1, rfl⟩
    · have hpc := h.lt j p h1
      rw [pivStep_el hr ht hi (by omega), if_neg (by omega), hz k (by omega), Gf.mul_zero, Gf.mul_zero, UInt8.xor_zero, if_neg (by omega)]
      exact h.low j p k h1 hk
    · rw [pivStep_el hr ht hi (by omega), if_pos j1, hz k hk, Gf.mul_zero]
  · simp only [List.length_append, List.length_cons, List.length_nil] at hx
    rcases Nat.lt_or_ge x M.length with hxl | hxl
    · rw [pivStep_el hr ht hi hxl, if_neg (by omega)]
      have hs : piv.length ≤ (if x = i then piv.length else x) := by split <;> omega
      rcases Nat.lt_or_ge k col with hk' | hk'
      · rw [hz k hk', Gf.mul_zero, Gf.mul_zero, UInt8.xor_zero]
        exact h.rest _ k hs hk'
      · obtain rfl : k = col := by omega
        have e : Gf.mul (Gf.inv (el M i k)) (el M i k) = 1 := by rw [Gf.mul_comm, Gf.mul_inv ha]
        rw [e, Gf.mul_one, xor_self0]
    · exact el_out _ k (by rw [hl]; exact hxl)
theorem redGo_ech (c : Nat) : ∀ (m col : Nat) (M : List (List UInt8)) (piv : List Nat), Rect M c → Ech M piv col → Ech (redGo M piv (List.range' col m)).1 (redGo M piv (List.range' col m)).2 (col + m)
  | 0, col, M, piv, _, h => h
  | m + 1, col, M, piv, hr, h => by
    rw [List.range'_succ]
    unfold redGo
    rw [show col + (m + 1) = col + 1 + m by omega]
    cases hf : findP M col piv.length with
    | none => exact redGo_ech c m (col + 1) M piv hr (h.skip hf)
    | some i =>
      obtain ⟨hti, hi, ha⟩ := findP_lt hf
      exact redGo_ech c m (col + 1) _ _ (hr.step col (by omega) hi) (h.step hr hf)
theorem red_ech {M : List (List UInt8)} {c : Nat} (h : Rect M c) (n : Nat) : Ech (red M n).1 (red M n).2 n := by
  unfold red
  rw [List.range_eq_range']
  have := redGo_ech c n 0 M [] h ⟨fun i p hp => by simp at hp, fun i j p q hp => by simp at hp, fun i p x hp => by simp at hp, fun i p k hp => by simp at hp, fun x k _ hk => by omega, by simp⟩
  rw [Nat.zero_add] at this
  exact this
theorem redGo_none {M : List (List UInt8)} {piv cs : List Nat} {col : Nat} (h : findP M col piv.length = none) : redGo M piv (col :: cs) = redGo M piv cs := by
  simp only [redGo, h]
theorem redGo_some {M : List (List UInt8)} {piv cs : List Nat} {col i : Nat} (h : findP M col piv.length = some i) : redGo M piv (col :: cs) = redGo (pivStep M piv.length col i) (piv ++ [col]) cs := by
  simp only [redGo, h]
theorem redGo_append : ∀ (cs ds : List Nat) (M : List (List UInt8)) (piv : List Nat), redGo M piv (cs ++ ds) = redGo (redGo M piv cs).1 (redGo M piv cs).2 ds
  | [], ds, M, piv => rfl
  | col :: cs, ds, M, piv => by
    rw [List.cons_append]
    cases hf : findP M col piv.length with
    | none => rw [redGo_none hf, redGo_none hf]; exact redGo_append cs ds M piv
    | some i => rw [redGo_some hf, redGo_some hf]; exact redGo_append cs ds _ _
theorem red_succ (M : List (List UInt8)) (n : Nat) : red M (n + 1) = redGo (red M n).1 (red M n).2 [n] := by
  unfold red
  rw [List.range_succ, redGo_append]
end Go.Proofs.YtgajlgnniidgmaaDoor

namespace Go.Proofs.YtgajlgnniidgmaaDoor
set_option linter.unusedVariables false
set_option linter.unusedSimpArgs false

/-- A list of numbers ascends. -/
def AscL (l : List Nat) : Prop := l.Pairwise (· < ·)
theorem Ech.ascL {M : List (List UInt8)} {piv : List Nat} {n : Nat} (h : Ech M piv n) : AscL piv := by
  unfold AscL
  rw [List.pairwise_iff_getElem]
  intro i j hi hj hij
  exact h.asc i j _ _ (List.getElem?_eq_getElem hi) (List.getElem?_eq_getElem hj) hij
theorem Ech.mem_lt {M : List (List UInt8)} {piv : List Nat} {n p : Nat} (h : Ech M piv n) (hp : p ∈ piv) : p < n := by
  obtain ⟨i, hi⟩ := List.getElem?_of_mem hp
  exact h.lt i p hi
theorem asc_eq : ∀ {a b : List Nat}, AscL a → AscL b → (∀ x, x ∈ a ↔ x ∈ b) → a = b
  | [], [], _, _, _ => rfl
  | [], y :: b, _, _, h => by have := (h y).2 (List.mem_cons_self ..); cases this
  | x :: a, [], _, _, h => by have := (h x).1 (List.mem_cons_self ..); cases this
  | x :: a, y :: b, ha, hb, h => by
    have ha' := List.pairwise_cons.1 ha
    have hb' := List.pairwise_cons.1 hb
    have e : x = y := by
      have h1 := (h x).1 (List.mem_cons_self ..)
      have h2 := (h y).2 (List.mem_cons_self ..)
      rcases List.mem_cons.1 h1 with h1 | h1
      · exact h1
      · rcases List.mem_cons.1 h2 with h2 | h2
        · exact h2.symm
        · have := ha'.1 y h2
          have := hb'.1 x h1
          omega
    subst e
    congr 1
    refine asc_eq ha'.2 hb'.2 fun z => ⟨fun hz => ?_, fun hz => ?_⟩
    · rcases List.mem_cons.1 ((h z).1 (List.mem_cons_of_mem _ hz)) with rfl | hh
      · have := ha'.1 z hz; omega
      · exact hh
    · rcases List.mem_cons.1 ((h z).2 (List.mem_cons_of_mem _ hz)) with rfl | hh
      · have := hb'.1 z hz; omega
      · exact hh
theorem asc_len : ∀ {a b : List Nat}, AscL a → AscL b → (∀ x, x ∈ a → x ∈ b) → a.length ≤ b.length
  | [], b, _, _, _ => by simp
  | x :: a, b, ha, hb, h => by
    have ha' := List.pairwise_cons.1 ha
    have h1 := asc_len (a := a) (b := b.filter fun y => decide (x < y)) ha'.2 (hb.filter _) (fun y hy => List.mem_filter.2 ⟨h y (List.mem_cons_of_mem _ hy), decide_eq_true (ha'.1 y hy)⟩)
    have h2 : (b.filter fun y => decide (x < y)).length < b.length := by
      rw [List.length_filter_lt_length_iff_exists]
      exact ⟨x, h x (List.mem_cons_self ..), by simp⟩
    simp only [List.length_cons]
    omega
theorem asc_sub {a b : List Nat} (ha : AscL a) (hb : AscL b) (h : ∀ x, x ∈ a → x ∈ b) (hl : a.length = b.length) : a = b := by
  refine asc_eq ha hb fun x => ⟨h x, fun hx => ?_⟩
  by_cases hxa : x ∈ a
  · exact hxa
  exfalso
  have h1 := asc_len (a := a) (b := b.filter fun y => y != x) ha (hb.filter _) (fun y hy => List.mem_filter.2 ⟨h y hy, by
    rw [bne_iff_ne]; exact fun hh => hxa (hh ▸ hy)⟩)
  have h2 : (b.filter fun y => y != x).length < b.length := by
    rw [List.length_filter_lt_length_iff_exists]
    exact ⟨x, hx, by simp⟩
  omega
theorem range_asc (n : Nat) : AscL (List.range n) := List.pairwise_lt_range
theorem filter_count (q : Nat → Bool) : ∀ l : List Nat, l.length = (l.filter q).length + (l.filter fun x => !q x).length
  | [] => rfl
  | x :: l => by
    have := filter_count q l
    rw [List.filter_cons, List.filter_cons]
    cases h : q x <;> simp <;> omega
/-- How many of so many columns are free. -/
theorem free_count {piv : List Nat} {n : Nat} (ha : AscL piv) (hlt : ∀ p ∈ piv, p < n) : ((List.range n).filter fun j => !hasB piv j).length + piv.length = n := by
  have h1 : (List.range n).filter (fun j => hasB piv j) = piv := asc_eq ((range_asc n).filter _) ha fun x => by
    rw [List.mem_filter, List.mem_range]
    unfold hasB
    rw [List.contains_iff_mem]
    exact ⟨fun h => h.2, fun h => ⟨hlt x h, h⟩⟩
  have h2 := filter_count (fun j => hasB piv j) (List.range n)
  rw [h1, List.length_range] at h2
  omega

/-- A list of numbers is mapped to 0 by a matrix. -/
def Ker (M : List (List UInt8)) (n : Nat) (x : Nat → UInt8) : Prop := ∀ i, i < M.length → xsum n (fun k => Gf.mul (el M i k) (x k)) = 0
theorem Ker.spn {M : List (List UInt8)} {n : Nat} {x v : Nat → UInt8} (h : Ker M n x) (hv : Spn M n v) : xsum n (fun k => Gf.mul (v k) (x k)) = 0 := by
  obtain ⟨c, hc⟩ := hv
  rw [xsum_congr (g := fun k => xsum M.length fun j => Gf.mul (c j) (Gf.mul (el M j k) (x k))) fun k hk => by
    rw [hc k hk, xsum_mul]
    exact xsum_congr fun j _ => Gf.mul_assoc _ _ _]
  rw [xsum_swap]
  refine xsum_none _ fun j hj => ?_
  rw [← mul_xsum, h j hj, Gf.mul_zero]
theorem SpE.ker {M N : List (List UInt8)} {n : Nat} (h : SpE M N n) (x : Nat → UInt8) : Ker M n x ↔ Ker N n x :=
  ⟨fun hk i hi => hk.spn ((h _).2 (Spn.row hi)), fun hk i hi => hk.spn ((h _).1 (Spn.row hi))⟩
/-- What is 1 at one free column, and at the pivots what the reduced rows have there. -/
def kv (R : List (List UInt8)) (piv : List Nat) (f : Nat) : Nat → UInt8 := fun k => if k = f then 1 else match piv.findIdx? (· == k) with
  | some i => el R i f
  | none => 0
theorem find_piv {piv : List Nat} {i p : Nat} (ha : AscL piv) (hp : piv[i]? = some p) : piv.findIdx? (· == p) = some i := by
  obtain ⟨hi, rfl⟩ := List.getElem?_eq_some_iff.1 hp
  rw [List.findIdx?_eq_some_iff_getElem]
  refine ⟨hi, by simp, fun j hj => ?_⟩
  have := (List.pairwise_iff_getElem.1 ha) j i (by omega) hi hj
  simp only [beq_iff_eq]
  omega
theorem find_free {piv : List Nat} {k : Nat} (h : k ∉ piv) : piv.findIdx? (· == k) = none := by
  rw [List.findIdx?_eq_none_iff]
  intro x hx
  simp only [beq_eq_false_iff_ne]
  exact fun hh => h (hh ▸ hx)
theorem kv_self (R : List (List UInt8)) (piv : List Nat) (f : Nat) : kv R piv f f = 1 := by unfold kv; rw [if_pos rfl]
theorem kv_piv {R : List (List UInt8)} {piv : List Nat} {f i p : Nat} (ha : AscL piv) (hp : piv[i]? = some p) (hf : f ∉ piv) : kv R piv f p = el R i f := by
  unfold kv
  have hne : ¬ p = f := fun hh => by
    subst hh
    exact hf (List.mem_of_getElem? hp)
  rw [if_neg hne, find_piv ha hp]
theorem kv_free {R : List (List UInt8)} {piv : List Nat} {f k : Nat} (hk : k ∉ piv) (hkf : k ≠ f) : kv R piv f k = 0 := by
  unfold kv
  rw [if_neg hkf, find_free hk]
/-- Row i of a reduced matrix with what is 1 at a free column. -/
theorem kv_row {R : List (List UInt8)} {piv : List Nat} {n m f : Nat} (h : Ech R piv n) (hnm : n ≤ m) (hf : f < m) (hfp : f ∉ piv) {i : Nat} (hi : i < piv.length) : xsum m (fun k => Gf.mul (el R i k) (kv R piv f k)) = 0 := by
  obtain ⟨p, hp⟩ : ∃ p, piv[i]? = some p := ⟨_, List.getElem?_eq_getElem hi⟩
  have hpn := h.lt i p hp
  have hpf : p ≠ f := fun hh => hfp (hh ▸ List.mem_of_getElem? hp)
  have hil : i < R.length := Nat.lt_of_lt_of_le hi h.le
  rw [xsum_two _ (show p < m by omega) hf hpf (fun k hk hkp hkf => ?_), kv_self, kv_piv h.ascL hp hfp, h.one i p i hp hil, if_pos rfl, Gf.one_mul, Gf.mul_one, xor_self0]
  by_cases hkm : k ∈ piv
  · obtain ⟨j, hj⟩ := List.getElem?_of_mem hkm
    have hji : j ≠ i := fun hh => hkp (by rw [hh, hp] at hj; exact (Option.some.inj hj).symm)
    rw [h.one j k i hj hil, if_neg (Ne.symm hji), Gf.zero_mul]
  · rw [kv_free hkm hkf, Gf.mul_zero]
theorem kv_ker {R : List (List UInt8)} {piv : List Nat} {n f : Nat} (h : Ech R piv n) (hf : f < n) (hfp : f ∉ piv) : Ker R n (kv R piv f) := fun i hi => by
  rcases Nat.lt_or_ge i piv.length with hip | hip
  · exact kv_row h (Nat.le_refl _) hf hfp hip
  · exact xsum_none _ fun k hk => by rw [h.rest i k hip hk, Gf.zero_mul]
/-- The rank, as far as n columns. -/
def rk (M : List (List UInt8)) (n : Nat) : Nat := (red M n).2.length
/-- More unknowns than equations: there is a solution that is not 0. -/
theorem more_unknowns (r p : Nat) (hrp : r < p) (Y : Nat → Nat → UInt8) : ∃ z : Nat → UInt8, (∃ k, k < p ∧ z k ≠ 0) ∧ ∀ i, i < r → xsum p (fun k => Gf.mul (Y i k) (z k)) = 0 := by
  have hR : Rect (matF Y r p) p := fun x hx => by
    unfold matF at hx
    obtain ⟨i, _, rfl⟩ := List.mem_map.1 hx
    exact rowF_len _ _
  have hE := red_ech hR p
  have hle : (red (matF Y r p) p).2.length ≤ r := by
    have := red_piv_le hR p
    rw [matF_len] at this
    exact this
  have hc := free_count hE.ascL fun q hq => hE.mem_lt hq
  obtain ⟨f, hf⟩ : ∃ f, f ∈ (List.range p).filter fun j => !hasB (red (matF Y r p) p).2 j := by
    cases hl : (List.range p).filter fun j => !hasB (red (matF Y r p) p).2 j with
    | nil => rw [hl] at hc; simp at hc; omega
    | cons x xs => exact ⟨x, List.mem_cons_self ..⟩
  obtain ⟨hf1, hf2⟩ := List.mem_filter.1 hf
  have hfp : f < p := by simpa using hf1
  have hfn : f ∉ (red (matF Y r p) p).2 := by
    intro hh
    unfold hasB at hf2
    rw [List.contains_iff_mem.2 hh] at hf2
    cases hf2
  refine ⟨kv (red (matF Y r p) p).1 (red (matF Y r p) p).2 f, ⟨f, hfp, by rw [kv_self]; decide⟩, fun i hi => ?_⟩
  have hk := ((red_spe hR p p).ker _).1 (kv_ker hE hfp hfn) i (by rw [matF_len]; exact hi)
  rw [← hk]
  exact xsum_congr fun k hk => by rw [el_matF _ hi hk]
/-- Rows (as functions) are combinations of r rows. -/
def Fac (F : Nat → Nat → UInt8) (m n r : Nat) : Prop := ∃ B C : Nat → Nat → UInt8, ∀ i, i < m → ∀ k, k < n → F i k = xsum r fun j => Gf.mul (B i j) (C j k)
theorem Fac.tr {F : Nat → Nat → UInt8} {m n r : Nat} (h : Fac F m n r) : Fac (fun i k => F k i) n m r := by
  obtain ⟨B, C, h⟩ := h
  refine ⟨fun i j => C j i, fun j k => B k j, fun i hi k hk => ?_⟩
  show F k i = _
  rw [h k hk i hi]
  exact xsum_congr fun j _ => Gf.mul_comm _ _
theorem Fac.congr {F G : Nat → Nat → UInt8} {m n r : Nat} (h : Fac F m n r) (e : ∀ i, i < m → ∀ k, k < n → G i k = F i k) : Fac G m n r := by
  obtain ⟨B, C, h⟩ := h
  exact ⟨B, C, fun i hi k hk => (e i hi k hk).trans (h i hi k hk)⟩
theorem choose_coef {M : List (List UInt8)} {n : Nat} {m : Nat} {F : Nat → Nat → UInt8} (h : ∀ i, i < m → Spn M n (F i)) : ∃ T : Nat → Nat → UInt8, ∀ i, i < m → ∀ k, k < n → F i k = xsum M.length fun j => Gf.mul (T i j) (el M j k) := by
  have h' : ∀ i, ∃ c : Nat → UInt8, i < m → ∀ k, k < n → F i k = xsum M.length fun j => Gf.mul (c j) (el M j k) := fun i => by
    by_cases hi : i < m
    · obtain ⟨c, hc⟩ := h i hi
      exact ⟨c, fun _ => hc⟩
    · exact ⟨fun _ => 0, fun hh => absurd hh hi⟩
  exact ⟨fun i => Classical.choose (h' i), fun i hi => Classical.choose_spec (h' i) hi⟩
/-- What the rows of a reduced matrix combine to, its pivots' rows do. -/
theorem Ech.spn {R : List (List UInt8)} {piv : List Nat} {n : Nat} {v : Nat → UInt8} (h : Ech R piv n) (hv : Spn R n v) : ∃ c : Nat → UInt8, ∀ k, k < n → v k = xsum piv.length fun j => Gf.mul (c j) (el R j k) := by
  obtain ⟨c, hc⟩ := hv
  refine ⟨c, fun k hk => ?_⟩
  rw [hc k hk]
  exact xsum_more _ h.le fun j h1 h2 => by rw [h.rest j k h1 hk, Gf.mul_zero]
theorem fac_rk {M : List (List UInt8)} {c : Nat} (hr : Rect M c) (n : Nat) : Fac (el M) M.length n (rk M n) := by
  have hE := red_ech hr n
  have hs := red_spe hr n n
  have h1 : ∀ i, ∃ c : Nat → UInt8, i < M.length → ∀ k, k < n → el M i k = xsum (rk M n) fun j => Gf.mul (c j) (el (red M n).1 j k) := fun i => by
    by_cases hi : i < M.length
    · obtain ⟨c, hc⟩ := hE.spn ((hs _).2 (Spn.row hi))
      exact ⟨c, fun _ => hc⟩
    · exact ⟨fun _ => 0, fun hh => absurd hh hi⟩
  exact ⟨fun i => Classical.choose (h1 i), fun j k => el (red M n).1 j k, fun i hi => Classical.choose_spec (h1 i) hi⟩
theorem rk_le_fac {M : List (List UInt8)} {c n r : Nat} (hr : Rect M c) (h : Fac (el M) M.length n r) : rk M n ≤ r := by
  rcases Nat.lt_or_ge r (rk M n) with hlt | hge
  · exfalso
    have hE := red_ech hr n
    have hs := red_spe hr n n
    obtain ⟨B, C, hBC⟩ := h
    obtain ⟨T, hT⟩ := choose_coef (M := M) (n := n) (m := rk M n) (F := el (red M n).1) fun i hi => (hs _).1 (Spn.row (Nat.lt_of_lt_of_le hi hE.le))
    obtain ⟨z, ⟨i, hi, hzi⟩, hz⟩ := more_unknowns r (rk M n) hlt fun l j => C l ((red M n).2.getD j 0)
    have hpg : ∀ j, j < rk M n → (red M n).2[j]? = some ((red M n).2.getD j 0) := fun j hj => by
      rw [List.getD_eq_getElem?_getD, List.getElem?_eq_getElem hj]; rfl
    apply hzi
    have hil : i < (red M n).1.length := Nat.lt_of_lt_of_le hi hE.le
    have e1 : xsum (rk M n) (fun j => Gf.mul (el (red M n).1 i ((red M n).2.getD j 0)) (z j)) = z i := by
      rw [xsum_one _ hi fun j hj hji => by rw [hE.one j _ i (hpg j hj) hil, if_neg (Ne.symm hji), Gf.zero_mul], hE.one i _ i (hpg i hi) hil, if_pos rfl, Gf.one_mul]
    rw [← e1]
    have e2 : ∀ j, j < rk M n → Gf.mul (el (red M n).1 i ((red M n).2.getD j 0)) (z j) = xsum M.length fun y => xsum r fun l => Gf.mul (Gf.mul (T i y) (B y l)) (Gf.mul (C l ((red M n).2.getD j 0)) (z j)) := fun j hj => by
      rw [hT i hi _ (hE.lt j _ (hpg j hj)), xsum_mul]
      refine xsum_congr fun y hy => ?_
      rw [hBC y hy _ (hE.lt j _ (hpg j hj)), mul_xsum, xsum_mul]
      refine xsum_congr fun l _ => ?_
      rw [Gf.mul_assoc, Gf.mul_assoc, Gf.mul_assoc]
    rw [xsum_congr e2, xsum_swap]
    refine xsum_none _ fun y _ => ?_
    rw [xsum_swap]
    refine xsum_none _ fun l hl => ?_
    rw [← mul_xsum, hz l hl, Gf.mul_zero]
  · exact hge
/-- Ranks don't depend on more than the elements. -/
theorem rk_le {M N : List (List UInt8)} {c d n m : Nat} (hM : Rect M c) (hN : Rect N d) (h : Fac (el N) N.length m (rk N m) → Fac (el M) M.length n (rk N m)) : rk M n ≤ rk N m := rk_le_fac hM (h (fac_rk hN m))
theorem rk_congr {M N : List (List UInt8)} {c d n : Nat} (hM : Rect M c) (hN : Rect N d) (hl : M.length = N.length) (h : ∀ i, i < M.length → ∀ k, k < n → el M i k = el N i k) : rk M n = rk N n :=
  Nat.le_antisymm (rk_le hM hN fun hf => by rw [hl]; exact hf.congr fun i hi k hk => h i (by omega) k hk) (rk_le hN hM fun hf => by rw [← hl]; exact hf.congr fun i hi k hk => (h i hi k hk).symm)
theorem rk_spn {M N : List (List UInt8)} {c d n : Nat} (hM : Rect M c) (hN : Rect N d) (h : ∀ i, i < M.length → Spn N n (el M i)) : rk M n ≤ rk N n := by
  refine rk_le hM hN fun hf => ?_
  obtain ⟨B, C, hBC⟩ := hf
  obtain ⟨T, hT⟩ := choose_coef h
  refine ⟨fun i j => xsum N.length fun y => Gf.mul (T i y) (B y j), C, fun i hi k hk => ?_⟩
  rw [hT i hi k hk]
  rw [xsum_congr (g := fun y => xsum (rk N n) fun j => Gf.mul (Gf.mul (T i y) (B y j)) (C j k)) fun y hy => by
    rw [hBC y hy k hk, mul_xsum]
    exact xsum_congr fun j _ => (Gf.mul_assoc _ _ _).symm]
  rw [xsum_swap]
  exact xsum_congr fun j _ => (xsum_mul _ _ _).symm
theorem rk_spe {M N : List (List UInt8)} {c d n : Nat} (hM : Rect M c) (hN : Rect N d) (h : SpE M N n) : rk M n = rk N n :=
  Nat.le_antisymm (rk_spn hM hN fun i hi => (h _).1 (Spn.row hi)) (rk_spn hN hM fun i hi => (h _).2 (Spn.row hi))
theorem rk_le_len {M : List (List UInt8)} {c : Nat} (hM : Rect M c) (n : Nat) : rk M n ≤ M.length := red_piv_le hM n
theorem rk_le_n {M : List (List UInt8)} {c : Nat} (hM : Rect M c) (n : Nat) : rk M n ≤ n := red_piv_le_n hM n
/-- A reduced matrix has the rank that it shows; so has whatever has its combinations. -/
theorem Ech.rank {R : List (List UInt8)} {piv : List Nat} {c n : Nat} (h : Ech R piv n) (hR : Rect R c) : rk R n = piv.length := by
  refine Nat.le_antisymm (rk_le_fac hR ⟨fun i j => if j = i then 1 else 0, fun j k => el R j k, fun i hi k hk => ?_⟩) ?_
  · rcases Nat.lt_or_ge i piv.length with hip | hip
    · rw [xsum_one _ hip fun j _ hj => by simp [hj, Gf.zero_mul]]
      simp [Gf.one_mul]
    · rw [h.rest i k hip hk, xsum_none _ fun j hj => ?_]
      show Gf.mul (if j = i then 1 else 0) _ = 0
      rw [if_neg (by omega), Gf.zero_mul]
  · -- the columns of the pivots are those of an identity
    rcases Nat.lt_or_ge (rk R n) piv.length with hlt | hge
    · exfalso
      obtain ⟨B, C, hBC⟩ := fac_rk hR n
      obtain ⟨z, ⟨i, hi, hzi⟩, hz⟩ := more_unknowns _ _ hlt fun l j => C l (piv.getD j 0)
      have hpg : ∀ j, j < piv.length → piv[j]? = some (piv.getD j 0) := fun j hj => by
        rw [List.getD_eq_getElem?_getD, List.getElem?_eq_getElem hj]; rfl
      apply hzi
      have hil : i < R.length := Nat.lt_of_lt_of_le hi h.le
      have e1 : xsum piv.length (fun j => Gf.mul (el R i (piv.getD j 0)) (z j)) = z i := by
        rw [xsum_one _ hi fun j hj hji => by rw [h.one j _ i (hpg j hj) hil, if_neg (Ne.symm hji), Gf.zero_mul], h.one i _ i (hpg i hi) hil, if_pos rfl, Gf.one_mul]
      rw [← e1]
      rw [xsum_congr (g := fun j => xsum (rk R n) fun l => Gf.mul (B i l) (Gf.mul (C l (piv.getD j 0)) (z j))) fun j hj => by
        rw [hBC i hil _ (h.lt j _ (hpg j hj)), xsum_mul]
        exact xsum_congr fun l _ => Gf.mul_assoc _ _ _]
      rw [xsum_swap]
      refine xsum_none _ fun l hl => ?_
      rw [← mul_xsum, hz l hl, Gf.mul_zero]
    · exact hge
/-- A combination of reduced rows is known by its elements at the pivots. -/
theorem Ech.known {R : List (List UInt8)} {piv : List Nat} {n : Nat} {v : Nat → UInt8} (h : Ech R piv n) (hv : Spn R n v) : ∀ k, k < n → v k = xsum piv.length fun j => Gf.mul (v (piv.getD j 0)) (el R j k) := by
  obtain ⟨c, hc⟩ := h.spn hv
  have hpg : ∀ j, j < piv.length → piv[j]? = some (piv.getD j 0) := fun j hj => by
    rw [List.getD_eq_getElem?_getD, List.getElem?_eq_getElem hj]; rfl
  have hcv : ∀ j, j < piv.length → v (piv.getD j 0) = c j := fun j hj => by
    rw [hc _ (h.lt j _ (hpg j hj)), xsum_one _ hj fun i hi hij => by
      rw [h.one j _ i (hpg j hj) (Nat.lt_of_lt_of_le hi h.le), if_neg hij, Gf.mul_zero]]
    rw [h.one j _ j (hpg j hj) (Nat.lt_of_lt_of_le hj h.le), if_pos rfl, Gf.mul_one]
  intro k hk
  rw [hc k hk]
  exact xsum_congr fun j hj => by rw [hcv j hj]
/-- Where a combination of reduced rows begins, there is a pivot. -/
theorem Ech.begins {R : List (List UInt8)} {piv : List Nat} {n p : Nat} {v : Nat → UInt8} (h : Ech R piv n) (hv : Spn R n v) (hp : p < n) (hz : ∀ k, k < p → v k = 0) (hne : v p ≠ 0) : p ∈ piv := by
  by_cases hmem : p ∈ piv
  · exact hmem
  exfalso
  apply hne
  have hpg : ∀ j, j < piv.length → piv[j]? = some (piv.getD j 0) := fun j hj => by
    rw [List.getD_eq_getElem?_getD, List.getElem?_eq_getElem hj]; rfl
  rw [h.known hv p hp]
  refine xsum_none _ fun j hj => ?_
  rcases Nat.lt_trichotomy (piv.getD j 0) p with hh | hh | hh
  · rw [hz _ hh, Gf.zero_mul]
  · exact absurd (hh ▸ List.mem_of_getElem? (hpg j hj)) hmem
  · rw [h.low j _ p (hpg j hj) hh, Gf.mul_zero]
/-- Reduced matrices with the same combinations are the same. -/
theorem ech_unique {R S : List (List UInt8)} {pr ps : List Nat} {n : Nat} (hR : Ech R pr n) (hS : Ech S ps n) (h : ∀ v, Spn R n v → Spn S n v) (hl : pr.length = ps.length) : pr = ps ∧ ∀ i, i < pr.length → ∀ k, k < n → el R i k = el S i k := by
  have hrow : ∀ i, i < pr.length → Spn S n (el R i) := fun i hi => h _ (Spn.row (Nat.lt_of_lt_of_le hi hR.le))
  have hpg : ∀ j, j < pr.length → pr[j]? = some (pr.getD j 0) := fun j hj => by
    rw [List.getD_eq_getElem?_getD, List.getElem?_eq_getElem hj]; rfl
  have e : pr = ps := asc_sub hR.ascL hS.ascL (fun p hp => by
    obtain ⟨i, hi⟩ := List.getElem?_of_mem hp
    have hil := (List.getElem?_eq_some_iff.1 hi).1
    refine hS.begins (hrow i hil) (hR.lt i p hi) (fun k hk => hR.low i p k hi hk) ?_
    rw [hR.one i p i hi (Nat.lt_of_lt_of_le hil hR.le), if_pos rfl]
    decide) hl
  subst e
  refine ⟨rfl, fun i hi k hk => ?_⟩
  rw [hS.known (hrow i hi) k hk, xsum_one _ hi fun j hj hji => by
    rw [hR.one j _ i (hpg j hj) (Nat.lt_of_lt_of_le hi hR.le), if_neg (Ne.symm hji), Gf.zero_mul]]
  rw [hR.one i _ i (hpg i hi) (Nat.lt_of_lt_of_le hi hR.le), if_pos rfl, Gf.one_mul]
/-- .. and if one has all combinations of the other, and as many pivots, they have the same. -/
theorem ech_full {R S : List (List UInt8)} {pr ps : List Nat} {n : Nat} (hR : Ech R pr n) (hS : Ech S ps n) (h : ∀ v, Spn R n v → Spn S n v) (hl : pr.length = ps.length) {v : Nat → UInt8} (hv : Spn S n v) : Spn R n v := by
  obtain ⟨rfl, he⟩ := ech_unique hR hS h hl
  obtain ⟨c, hc⟩ := hS.spn hv
  refine ⟨fun j => if j < pr.length then c j else 0, fun k hk => ?_⟩
  rw [hc k hk, xsum_more _ hR.le fun j h1 h2 => by
    show Gf.mul (if j < pr.length then c j else 0) _ = 0
    rw [if_neg (by omega), Gf.zero_mul]]
  exact xsum_congr fun j hj => by
    show _ = Gf.mul (if j < pr.length then c j else 0) _
    rw [if_pos hj, he j hj k hk]
end Go.Proofs.YtgajlgnniidgmaaDoor

namespace Go.Proofs.YtgajlgnniidgmaaDoor
set_option linter.unusedVariables false
set_option linter.unusedSimpArgs false

theorem ext_el {A B : List (List UInt8)} {n : Nat} (hl : A.length = B.length) (hA : Rect A n) (hB : Rect B n) (h : ∀ i, i < A.length → ∀ k, k < n → el A i k = el B i k) : A = B := by
  apply List.ext_getElem hl
  intro i h1 h2
  have g1 := List.getElem?_eq_getElem h1
  have g2 := List.getElem?_eq_getElem h2
  have l1 : A[i].length = n := hA _ (List.getElem_mem h1)
  have l2 : B[i].length = n := hB _ (List.getElem_mem h2)
  apply List.ext_getElem (by omega)
  intro k k1 k2
  have := h i h1 k (by omega)
  rw [el_get g1, el_get g2, List.getD_eq_getElem?_getD, List.getElem?_eq_getElem k1, List.getD_eq_getElem?_getD, List.getElem?_eq_getElem k2] at this
  exact this
theorem row_ext {a b : List UInt8} {n : Nat} (ha : a.length = n) (hb : b.length = n) (h : ∀ k, k < n → a.getD k 0 = b.getD k 0) : a = b := by
  apply List.ext_getElem (by omega)
  intro k k1 k2
  have := h k (by omega)
  rw [List.getD_eq_getElem?_getD, List.getElem?_eq_getElem k1, List.getD_eq_getElem?_getD, List.getElem?_eq_getElem k2] at this
  exact this
theorem redP_rk (M : List (List UInt8)) : (redP M).length = rk M (cols M) := rfl
theorem rk_nil (n : Nat) : rk [] n = 0 := by
  have := rk_le_len (M := []) (c := 0) (fun m hm => by cases hm) n
  exact Nat.le_zero.1 this
theorem cols_pos {M : List (List UInt8)} (h : 0 < cols M) : 0 < M.length := by
  cases M with
  | nil => simp [cols] at h
  | cons m M => simp
theorem cols_of {M : List (List UInt8)} {n : Nat} (h : Rect M n) (hl : 0 < M.length) : cols M = n := by
  cases M with
  | nil => simp at hl
  | cons m M => exact h m (List.mem_cons_self ..)
theorem rank_tr {M : List (List UInt8)} (h : Ok M) : (redP (tr M)).length = (redP M).length := by
  rw [redP_rk, redP_rk]
  have hr := h.rect
  have ht : Rect (tr M) M.length := matF_rect _ _ _
  rcases Nat.eq_zero_or_pos (cols M) with h0 | h0
  · have e : tr M = [] := by
      apply List.length_eq_zero_iff.1
      rw [show (tr M).length = cols M from matF_len _ _ _, h0]
    have h2 := rk_le_n hr (cols M)
    rw [e, rk_nil]
    omega
  · have hl : (tr M).length = cols M := matF_len _ _ _
    have hc : cols (tr M) = M.length := cols_of ht (by omega)
    have he : ∀ i k, i < cols M → k < M.length → el (tr M) i k = el M k i := fun i k hi hk => el_matF _ hi hk
    rw [hc]
    refine Nat.le_antisymm (rk_le ht hr fun hf => ?_) (rk_le hr ht fun hf => ?_)
    · rw [hl]
      exact hf.tr.congr fun i hi k hk => he i k hi hk
    · rw [hl] at hf
      exact hf.tr.congr fun i hi k hk => (he k i hk hi).symm
theorem prd_el {A B : List (List UInt8)} (hA : ∀ m ∈ A, m.length = B.length) {i k : Nat} (hi : i < A.length) (hk : k < cols B) : el (prd A B) i k = xsum B.length fun j => Gf.mul (el A i j) (el B j k) := by
  rw [prd_sum hA, el_matF _ hi hk]
theorem prd_rect (A B : List (List UInt8)) : Rect (prd A B) (cols B) := prd_rows A B
theorem rank_prd {A B : List (List UInt8)} (hA : Ok A) (hB : Ok B) (hc : cols A = B.length) : (redP (prd A B)).length ≤ (redP A).length ∧ (redP (prd A B)).length ≤ (redP B).length := by
  rw [redP_rk, redP_rk, redP_rk]
  have hAr : ∀ m ∈ A, m.length = B.length := fun m hm => (hA.same m hm).trans hc
  rcases Nat.eq_zero_or_pos A.length with h0 | h0
  · have e : prd A B = [] := List.length_eq_zero_iff.1 (by rw [prd_len, h0])
    rw [e, rk_nil]
    exact ⟨Nat.zero_le _, Nat.zero_le _⟩
  · rw [prd_cols h0]
    refine ⟨rk_le (prd_rect A B) hA.rect fun hf => ?_, rk_le (prd_rect A B) hB.rect fun hf => ?_⟩
    · obtain ⟨X, Y, h⟩ := hf
      refine ⟨X, fun l k => xsum B.length fun j => Gf.mul (Y l j) (el B j k), fun i hi k hk => ?_⟩
      rw [prd_len] at hi
      rw [prd_el hAr hi hk]
      rw [xsum_congr (g := fun j => xsum (rk A (cols A)) fun l => Gf.mul (X i l) (Gf.mul (Y l j) (el B j k))) fun j hj => by
        rw [h i hi j (by omega), xsum_mul]
        exact xsum_congr fun l _ => Gf.mul_assoc _ _ _]
      rw [xsum_swap]
      exact xsum_congr fun l _ => (mul_xsum _ _ _).symm
    · obtain ⟨X, Y, h⟩ := hf
      refine ⟨fun i l => xsum B.length fun j => Gf.mul (el A i j) (X j l), Y, fun i hi k hk => ?_⟩
      rw [prd_len] at hi
      rw [prd_el hAr hi hk]
      rw [xsum_congr (g := fun j => xsum (rk B (cols B)) fun l => Gf.mul (Gf.mul (el A i j) (X j l)) (Y l k)) fun j hj => by
        rw [h j hj k hk, mul_xsum]
        exact xsum_congr fun l _ => (Gf.mul_assoc _ _ _).symm]
      rw [xsum_swap]
      exact xsum_congr fun l _ => (xsum_mul _ _ _).symm
theorem el_take (M : List (List UInt8)) {p i : Nat} (k : Nat) (hi : i < p) : el (M.take p) i k = el M i k := by
  unfold el
  rw [List.getD_eq_getElem?_getD (l := M.take p), List.getElem?_take_of_lt hi, ← List.getD_eq_getElem?_getD]
theorem el_rev (M : List (List UInt8)) {i : Nat} (k : Nat) (hi : i < M.length) : el M.reverse i k = el M (M.length - 1 - i) k := by
  unfold el
  rw [List.getD_eq_getElem?_getD (l := M.reverse), List.getElem?_reverse hi, ← List.getD_eq_getElem?_getD]
theorem Ech.take {R : List (List UInt8)} {piv : List Nat} {n : Nat} (h : Ech R piv n) : Ech (R.take piv.length) piv n := by
  have hl : (R.take piv.length).length = piv.length := by rw [List.length_take]; have := h.le; omega
  refine ⟨h.lt, h.asc, fun i p x hp hx => ?_, fun i p k hp hk => ?_, fun x k hx hk => el_out _ k (by omega), by omega⟩
  · rw [hl] at hx
    rw [el_take R p hx]
    exact h.one i p x hp (Nat.lt_of_lt_of_le hx h.le)
  · rw [el_take R k (List.getElem?_eq_some_iff.1 hp).1]
    exact h.low i p k hp hk
theorem redR_len {M : List (List UInt8)} (h : Ok M) : (redR M).length = (redP M).length := by
  unfold redR redP
  rw [List.length_take, red_len h.rect]
  have := red_piv_le h.rect (cols M)
  omega
theorem redR_rect {M : List (List UInt8)} (h : Ok M) : Rect (redR M) (cols M) := fun m hm => red_rect h.rect (cols M) m (List.mem_of_mem_take hm)
theorem ok_of_rect {M : List (List UInt8)} {n : Nat} (h : Rect M n) (hl : M.length ≤ 48) (hn : n ≤ 48) : Ok M := ⟨hl, fun m hm => by rw [h m hm]; exact hn, fun m hm => by
  rw [h m hm, cols_of h (List.length_pos_of_mem hm)]⟩
theorem redR_rev_rect {M : List (List UInt8)} (h : Ok M) : Rect (redR M).reverse (cols M) := fun m hm => redR_rect h m (List.mem_reverse.1 hm)
theorem ok_rev {M : List (List UInt8)} (h : Ok M) : Ok (redR M).reverse := ok_of_rect (redR_rev_rect h) (by
  rw [List.length_reverse, redR_len h]
  have := red_piv_le h.rect (cols M)
  have := h.rows
  unfold redP
  omega) h.cols_le
/-- What is reduced already, reduced again, whatever the order of its rows. -/
theorem red_again {M : List (List UInt8)} (h : Ok M) : redR (redR M).reverse = redR M ∧ redP (redR M).reverse = redP M := by
  have hl := redR_len h
  have hr := redR_rect h
  have hrr := redR_rev_rect h
  have hE0 : Ech (redR M) (redP M) (cols M) := (red_ech h.rect (cols M)).take
  rcases Nat.eq_zero_or_pos (redR M).length with h0 | h0
  · have e : redR M = [] := List.length_eq_zero_iff.1 h0
    have e2 : redP M = [] := List.length_eq_zero_iff.1 (by omega)
    rw [e, e2]
    exact ⟨rfl, rfl⟩
  · have hc : cols (redR M).reverse = cols M := cols_of hrr (by rw [List.length_reverse]; exact h0)
    have hE : Ech (red (redR M).reverse (cols M)).1 (red (redR M).reverse (cols M)).2 (cols M) := red_ech hrr _
    have hS : SpE (redR M) (redR M).reverse (cols M) := SpE.of (fun j hj => by
      refine (Spn.row (M := (redR M).reverse) (i := (redR M).length - 1 - j) (by rw [List.length_reverse]; omega)).congr fun k _ => ?_
      rw [el_rev _ k (by omega)]
      congr 1
      omega) (fun j hj => by
      rw [List.length_reverse] at hj
      refine (Spn.row (M := redR M) (i := (redR M).length - 1 - j) (by omega)).congr fun k _ => ?_
      rw [el_rev _ k hj])
    have hS2 : SpE (redR M) (red (redR M).reverse (cols M)).1 (cols M) := hS.trans (red_spe hrr _ _).symm
    have hrk : (redP M).length = (red (redR M).reverse (cols M)).2.length := by
      rw [← hE0.rank hr]
      exact rk_spe hr hrr hS
    obtain ⟨e1, e2⟩ := ech_unique hE0 hE (fun v hv => (hS2 v).1 hv) hrk
    have e3 : redP (redR M).reverse = redP M := by
      unfold redP at e1 ⊢
      rw [hc, ← e1]
    refine ⟨?_, e3⟩
    refine ext_el (n := cols M) ?_ ?_ hr fun i hi k hk => ?_
    · rw [redR_len (ok_rev h), e3, hl]
    · have := redR_rect (ok_rev h)
      rw [hc] at this
      exact this
    · rw [redR_len (ok_rev h), e3] at hi
      rw [e2 i hi k hk]
      have e4 : redR (redR M).reverse = (red (redR M).reverse (cols M)).1.take (red (redR M).reverse (cols M)).2.length := by
        rw [← hc]
        rfl
      rw [e4]
      exact el_take _ k (by rw [← hrk]; exact hi)

theorem idM_rect (n : Nat) : Rect (idM n) n := fun m hm => by
  unfold idM at hm
  obtain ⟨k, _, rfl⟩ := List.mem_map.1 hm
  simp
theorem el_idM {n i : Nat} (k : Nat) (hi : i < n) (hk : k < n) : el (idM n) i k = if i = k then 1 else 0 := by
  rw [el_get (idM_get hi), List.getD_eq_getElem?_getD, List.getElem?_set]
  by_cases h : i = k
  · subst h; simp [hk]
  · simp [h, hk]
theorem prd_id {A : List (List UInt8)} {n : Nat} (hA : Rect A n) (hn : 0 < n) : prd A (idM n) = A := by
  have hc : cols (idM n) = n := cols_of (idM_rect n) (by rw [idM_len]; exact hn)
  refine ext_el (n := n) (prd_len _ _) ?_ hA fun i hi k hk => ?_
  · have := prd_rect A (idM n)
    rw [hc] at this
    exact this
  · rw [prd_len] at hi
    rw [prd_el (fun m hm => by rw [hA m hm, idM_len]) hi (by rw [hc]; exact hk), idM_len, xsum_one _ hk fun j hj hjk => by rw [el_idM k hj hk, if_neg hjk, Gf.mul_zero], el_idM k hk hk, if_pos rfl, Gf.mul_one]
theorem id_prd {A : List (List UInt8)} {n : Nat} (hl : A.length = n) : prd (idM n) A = A ∨ cols A = 0 ∨ ¬ Rect A (cols A) := by
  by_cases hr : Rect A (cols A)
  · rcases Nat.eq_zero_or_pos (cols A) with h0 | h0
    · exact .inr (.inl h0)
    · left
      refine ext_el (n := cols A) (by rw [prd_len, idM_len, hl]) (prd_rect _ _) hr fun i hi k hk => ?_
      rw [prd_len, idM_len] at hi
      rw [prd_el (fun m hm => by rw [idM_rect n m hm, hl]) (by rw [idM_len]; exact hi) hk, xsum_one _ (by rw [hl]; exact hi) fun j hj hjk => by rw [el_idM j hi (by omega), if_neg (Ne.symm hjk), Gf.zero_mul], el_idM i hi hi, if_pos rfl, Gf.one_mul]
  · exact .inr (.inr hr)
/-- The elements of the matrix with an identity beside it. -/
theorem el_aug {M : List (List UInt8)} {n i : Nat} (hr : Rect M n) (hl : M.length = n) (hi : i < n) (k : Nat) : el (augM M) i k = if k < n then el M i k else if k = n + i then 1 else 0 := by
  obtain ⟨m, hm⟩ : ∃ m, M[i]? = some m := ⟨_, List.getElem?_eq_getElem (by omega)⟩
  have hml : m.length = n := hr.at hm
  have hg : (augM M)[i]? = some (m ++ (List.replicate n 0).set i 1) := by
    unfold augM
    rw [augK_get, hm, hl]
    simp [hi]
  rw [el_get hg, el_get hm, List.getD_eq_getElem?_getD]
  by_cases hk : k < n
  · rw [if_pos hk, List.getElem?_append_left (by omega), ← List.getD_eq_getElem?_getD]
  · rw [if_neg hk, List.getElem?_append_right (by omega), hml, List.getElem?_set]
    by_cases h2 : k = n + i
    · subst h2
      simp [hi]
    · rw [if_neg h2, if_neg (by omega)]
      rcases Nat.lt_or_ge (k - n) n with h3 | h3
      · simp [h3]
      · rw [List.getElem?_eq_none (by simp; omega)]; rfl
theorem aug_rect {M : List (List UInt8)} {n : Nat} (hr : Rect M n) (hl : M.length = n) : Rect (augM M) (n + n) := by
  have := augK_rect hr M.length M.length
  rw [hl] at this
  unfold augM
  rw [hl]
  exact this
theorem aug_rk {M : List (List UInt8)} {n : Nat} (hr : Rect M n) (hl : M.length = n) : (red (augM M) n).2.length = rk M n :=
  rk_congr (aug_rect hr hl) hr (by unfold augM; rw [augK_len]) fun i hi k hk => by
    have : (augM M).length = n := by unfold augM; rw [augK_len, hl]
    rw [el_aug hr hl (by omega), if_pos hk]
/-- n numbers below n that ascend are all of them. -/
theorem asc_all {l : List Nat} {n : Nat} (h : AscL l) (hlt : ∀ p ∈ l, p < n) (hl : l.length = n) : l = List.range n :=
  asc_sub h (range_asc n) (fun p hp => List.mem_range.2 (hlt p hp)) (by rw [hl, List.length_range])
/-- There is an inverse exactly if the rank is full; then both products are the identity. -/
theorem inv_iff {M : List (List UInt8)} (h : Ok M) (hl : cols M = M.length) : (invE M = 0 ∨ invE M = 8) ∧ (invE M = 0 ↔ (redP M).length = M.length) := by
  have hr : Rect M M.length := by have := h.rect; rw [hl] at this; exact this
  have e := aug_rk hr rfl
  have hle := rk_le_len hr M.length
  have hk : (redP M).length = rk M M.length := by rw [redP_rk, hl]
  unfold invE
  rw [chk_ok h, if_neg (by decide), if_neg (by omega), e, hk]
  by_cases hh : rk M M.length < M.length
  · rw [if_pos hh]
    exact ⟨.inr rfl, ⟨(fun h => by cases h), (fun h => by omega)⟩⟩
  · rw [if_neg hh]
    exact ⟨.inl rfl, ⟨fun _ => by omega, fun _ => rfl⟩⟩
theorem invM_rect {M : List (List UInt8)} (he : invE M = 0) : Rect (invM M) M.length ∧ (invM M).length = M.length := by
  unfold invM
  rw [if_pos he]
  exact ⟨matF_rect _ _ _, matF_len _ _ _⟩
theorem inv_prd {M : List (List UInt8)} (h : Ok M) (hl : cols M = M.length) (he : invE M = 0) : prd (invM M) M = idM M.length ∧ prd M (invM M) = idM M.length := by
  obtain ⟨n, hn⟩ : ∃ n, n = M.length := ⟨_, rfl⟩
  have hr : Rect M n := by have := h.rect; rw [hl, ← hn] at this; exact this
  obtain ⟨hXr, hXl⟩ := invM_rect he
  rw [← hn] at hXr hXl hl ⊢
  have hp : (red (augM M) n).2.length = n := by
    rw [aug_rk hr hn.symm, ← hl, ← redP_rk]
    rw [((inv_iff h (by omega)).2.1 he), hl, hn]
  have haug := aug_rect hr hn.symm
  have hE := red_ech haug n
  have hpiv : (red (augM M) n).2 = List.range n := asc_all hE.ascL (fun p hp => hE.mem_lt hp) hp
  have hal : (augM M).length = n := by unfold augM; rw [augK_len, hn]
  have hRl : (red (augM M) n).1.length = n := by rw [red_len haug, hal]
  have hX : ∀ i j, i < n → j < n → el (invM M) i j = el (red (augM M) n).1 i (n + j) := fun i j hi hj => by
    unfold invM
    rw [if_pos he, ← hn, el_matF _ hi hj]
  have hD : ∀ i k, i < n → k < n → el (red (augM M) n).1 i k = if i = k then 1 else 0 := fun i k hi hk => by
    exact hE.one k k i (by rw [hpiv, List.getElem?_range hk]) (by omega)
  have hcX : 0 < n → cols (invM M) = n := fun h0 => cols_of hXr (by omega)
  have hsp := red_spe haug n (n + n)
  rcases Nat.eq_zero_or_pos n with h0 | h0
  · have e1 : invM M = [] := List.length_eq_zero_iff.1 (by omega)
    have e2 : M = [] := List.length_eq_zero_iff.1 (by omega)
    rw [e1, e2, h0]
    exact ⟨rfl, rfl⟩
  · constructor
    · refine ext_el (n := n) (by rw [prd_len, idM_len, hXl]) (by have := prd_rect (invM M) M; rw [hl] at this; exact this) (idM_rect n) fun i hi k hk => ?_
      rw [prd_len, hXl] at hi
      obtain ⟨T, hT⟩ := (hsp _).1 (Spn.row (M := (red (augM M) n).1) (i := i) (by omega))
      rw [hal] at hT
      have hTX : ∀ l, l < n → el (invM M) i l = T l := fun l hl' => by
        rw [hX i l hi hl', hT _ (by omega), xsum_one _ hl' fun j hj hjl => by
          rw [el_aug hr hn.symm hj, if_neg (by omega), if_neg (by omega), Gf.mul_zero]]
        rw [el_aug hr hn.symm hl', if_neg (by omega), if_pos rfl, Gf.mul_one]
      rw [prd_el (fun m hm => by rw [hXr m hm, hn]) (by omega) (by omega), ← hn, el_idM k hi hk, ← hD i k hi hk, hT k (by omega)]
      exact xsum_congr fun j hj => by rw [hTX j hj, el_aug hr hn.symm hj, if_pos hk]
    · refine ext_el (n := n) (by rw [prd_len, idM_len]; omega) (by have := prd_rect M (invM M); rw [hcX h0] at this; exact this) (idM_rect n) fun i hi k hk => ?_
      rw [prd_len, ← hn] at hi
      obtain ⟨T, hT⟩ := (hsp _).2 (Spn.row (M := augM M) (i := i) (by omega))
      rw [hRl] at hT
      have hTM : ∀ l, l < n → el M i l = T l := fun l hl' => by
        have h1 := hT l (by omega)
        rw [el_aug hr hn.symm hi, if_pos hl'] at h1
        rw [h1, xsum_one _ hl' fun j hj hjl => by rw [hD j l hj hl', if_neg hjl, Gf.mul_zero], hD l l hl' hl', if_pos rfl, Gf.mul_one]
      have h2 := hT (n + k) (by omega)
      rw [el_aug hr hn.symm hi, if_neg (by omega)] at h2
      rw [prd_el (fun m hm => by rw [hr m hm, hXl]) (by omega) (by rw [hcX h0]; exact hk), hXl, el_idM k hi hk]
      rw [xsum_congr (g := fun j => Gf.mul (T j) (el (red (augM M) n).1 j (n + k))) fun j hj => by rw [hTM j hj, hX j k hj hk], ← h2]
      by_cases hik : i = k
      · rw [if_pos hik, if_pos (by omega)]
      · rw [if_neg hik, if_neg (by omega)]
theorem ok_inv {M : List (List UInt8)} (h : Ok M) (he : invE M = 0) : Ok (invM M) := by
  obtain ⟨h1, h2⟩ := invM_rect he
  exact ok_of_rect h1 (by rw [h2]; exact h.rows) h.rows
/-- The inverse of a product. -/
theorem inv_of_prd {A B : List (List UInt8)} (hA : Ok A) (hB : Ok B) (hl : cols A = A.length) (hb : B.length = A.length) (hcb : cols B = A.length) (he : invE A = 0) :
    (invE (prd A B) = 0 ↔ invE B = 0) ∧ (invE B = 0 → invM (prd A B) = prd (invM B) (invM A)) := by
  obtain ⟨n, hn⟩ : ∃ n, n = A.length := ⟨_, rfl⟩
  rw [← hn] at hl hb hcb
  have hrA : Rect A n := by have := hA.rect; rw [hl] at this; exact this
  have hrB : Rect B n := by have := hB.rect; rw [hcb] at this; exact this
  have hrP : Rect (prd A B) n := by have := prd_rect A B; rw [hcb] at this; exact this
  have hlP : (prd A B).length = n := by rw [prd_len, hn]
  have hP := ok_prd hA hB
  obtain ⟨hXr, hXl⟩ := invM_rect he
  rw [← hn] at hXr hXl
  rcases Nat.eq_zero_or_pos n with h0 | h0
  · have e1 : A = [] := List.length_eq_zero_iff.1 (by omega)
    have e2 : B = [] := List.length_eq_zero_iff.1 (by omega)
    subst e1
    subst e2
    exact ⟨Iff.rfl, fun _ => by decide +kernel⟩
  · have hcP : cols (prd A B) = n := cols_of hrP (by omega)
    have hcX : cols (invM A) = n := cols_of hXr (by omega)
    obtain ⟨hXA, hAX⟩ := inv_prd hA (by omega) he
    rw [← hn] at hXA hAX
    have hiA := (inv_iff hA (by omega)).2
    have hiB := (inv_iff hB (by omega)).2
    have hiP := (inv_iff hP (by rw [hcP, hlP])).2
    rw [hlP] at hiP
    rw [hb] at hiB
    have hXP : prd (invM A) (prd A B) = B := by
      rw [← prd_assoc (fun m hm => by rw [hXr m hm, hn]) (fun m hm => by rw [hrA m hm, hb]) (by omega) (by omega), hXA]
      rcases id_prd (A := B) (n := n) hb with hh | hh | hh
      · exact hh
      · omega
      · exact absurd hB.rect hh
    have r1 := (rank_prd hA hB (by omega)).2
    have r2 := (rank_prd (ok_inv hA he) hP (by omega)).2
    rw [hXP] at r2
    have hiff : invE (prd A B) = 0 ↔ invE B = 0 := by
      rw [hiP, hiB]
      constructor <;> intro <;> omega
    refine ⟨hiff, fun heB => ?_⟩
    have heP := hiff.2 heB
    obtain ⟨hYr, hYl⟩ := invM_rect heB
    rw [hb] at hYr hYl
    have hcY : cols (invM B) = n := cols_of hYr (by omega)
    obtain ⟨hZr, hZl⟩ := invM_rect heP
    rw [hlP] at hZr hZl
    have hcZ : cols (invM (prd A B)) = n := cols_of hZr (by omega)
    obtain ⟨hYB, hBY⟩ := inv_prd hB (by omega) heB
    rw [hb] at hBY
    obtain ⟨hZP, hPZ⟩ := inv_prd hP (by omega) heP
    rw [hlP] at hZP
    -- P (Y X) = 1
    have h1 : prd B (prd (invM B) (invM A)) = invM A := by
      rw [← prd_assoc (fun m hm => by rw [hrB m hm, hYl]) (fun m hm => by rw [hYr m hm, hXl]) (by omega) (by omega), hBY]
      rcases id_prd (A := invM A) (n := n) hXl with hh | hh | hh
      · exact hh
      · omega
      · exact absurd (by rw [hcX]; exact hXr) hh
    have hW : prd (prd A B) (prd (invM B) (invM A)) = idM n := by
      rw [prd_assoc (fun m hm => by rw [hrA m hm, hb]) (fun m hm => by rw [hrB m hm, prd_len, hYl]) (by rw [prd_len]; omega) (by omega), h1, hAX]
    have hWl : (prd (invM B) (invM A)).length = n := by rw [prd_len, hYl]
    have hWr : Rect (prd (invM B) (invM A)) n := by have := prd_rect (invM B) (invM A); rw [hcX] at this; exact this
    have hcW : cols (prd (invM B) (invM A)) = n := cols_of hWr (by omega)
    have h2 := prd_assoc (A := invM (prd A B)) (B := prd A B) (C := prd (invM B) (invM A)) (fun m hm => by rw [hZr m hm, hlP]) (fun m hm => by rw [hrP m hm, hWl]) (by omega) (by omega)
    rw [hW, hZP, prd_id hZr h0] at h2
    rw [← h2]
    rcases id_prd (A := prd (invM B) (invM A)) (n := n) hWl with hh | hh | hh
    · exact hh
    · omega
    · exact absurd (by rw [hcW]; exact hWr) hh
end Go.Proofs.YtgajlgnniidgmaaDoor

namespace Go.Proofs.YtgajlgnniidgmaaDoor
set_option linter.unusedVariables false
set_option linter.unusedSimpArgs false

theorem hasB_not {piv : List Nat} {j : Nat} (h : (!hasB piv j) = true) : j ∉ piv := fun hh => by
  unfold hasB at h
  rw [List.contains_iff_mem.2 hh] at h
  cases h
theorem hasB_free {piv : List Nat} {j : Nat} (h : j ∉ piv) : (!hasB piv j) = true := by
  unfold hasB
  rw [Bool.not_eq_true', Bool.eq_false_iff]
  exact fun hh => h (List.contains_iff_mem.1 hh)
theorem setP_not (R : List (List UInt8)) (col : Nat) {k : Nat} : ∀ (ps : List Nat) (i : Nat) (x : List UInt8), k ∉ ps → (setP R col ps i x).getD k 0 = x.getD k 0
  | [], _, _, _ => rfl
  | p :: ps, i, x, h => by
    unfold setP
    rw [setP_not R col ps _ _ fun hh => h (List.mem_cons_of_mem _ hh), List.getD_eq_getElem?_getD, List.getElem?_set_ne (fun hh => h (by rw [hh]; exact List.mem_cons_self ..)), ← List.getD_eq_getElem?_getD]
theorem setP_at (R : List (List UInt8)) (col : Nat) {p j : Nat} : ∀ (ps : List Nat) (i : Nat) (x : List UInt8), AscL ps → ps[j]? = some p → p < x.length → (setP R col ps i x).getD p 0 = el R (i + j) col := by
  induction j with
  | zero =>
    intro ps i x ha hp hx
    cases ps with
    | nil => simp at hp
    | cons q ps =>
      obtain rfl := Option.some.inj hp
      have ha' := List.pairwise_cons.1 ha
      unfold setP
      rw [setP_not R col ps _ _ fun hh => Nat.lt_irrefl _ (ha'.1 _ hh), List.getD_eq_getElem?_getD, List.getElem?_set_self hx]
      rfl
  | succ j ih =>
    intro ps i x ha hp hx
    cases ps with
    | nil => simp at hp
    | cons q ps =>
      have ha' := List.pairwise_cons.1 ha
      unfold setP
      rw [ih ps (i + 1) _ ha'.2 hp (by simpa using hx)]
      congr 1
      omega
theorem zeros_getD (n k : Nat) : (List.replicate n (0 : UInt8)).getD k 0 = 0 := by
  rw [List.getD_eq_getElem?_getD, List.getElem?_replicate]
  split <;> rfl
theorem kerX_kv {R : List (List UInt8)} {piv : List Nat} {n f k : Nat} (h : Ech R piv n) (hf : f < n) (hfp : f ∉ piv) (hk : k < n) : (kerX R piv n f).getD k 0 = kv R piv f k := by
  unfold kerX
  by_cases hm : k ∈ piv
  · obtain ⟨j, hj⟩ := List.getElem?_of_mem hm
    rw [setP_at R f piv 0 _ h.ascL hj (by simpa using hk), Nat.zero_add, kv_piv h.ascL hj hfp]
  · rw [setP_not R f piv 0 _ hm, List.getD_eq_getElem?_getD, List.getElem?_set]
    by_cases hkf : k = f
    · subst hkf
      rw [kv_self]
      simp [hk]
    · rw [kv_free hm hkf, if_neg (Ne.symm hkf), ← List.getD_eq_getElem?_getD, zeros_getD]
theorem setP0_kv {R : List (List UInt8)} {piv : List Nat} {n k : Nat} (h : Ech R piv n) (hk : k < n) : (setP R n piv 0 (List.replicate n 0)).getD k 0 = kv R piv n k := by
  have hnp : n ∉ piv := fun hh => Nat.lt_irrefl _ (h.mem_lt hh)
  by_cases hm : k ∈ piv
  · obtain ⟨j, hj⟩ := List.getElem?_of_mem hm
    rw [setP_at R n piv 0 _ h.ascL hj (by simpa using hk), Nat.zero_add, kv_piv h.ascL hj hnp]
  · rw [setP_not R n piv 0 _ hm, zeros_getD, kv_free hm (by omega)]
/-- A system's solution: the rows' first n elements, times it, are their last ones. -/
def SolvesS (S : List (List UInt8)) (n : Nat) (y : Nat → UInt8) : Prop := ∀ i, i < S.length → xsum n (fun k => Gf.mul (el S i k) (y k)) = el S i n
theorem solvesS_ker {S : List (List UInt8)} {n : Nat} {y z : Nat → UInt8} (hz : ∀ k, k < n → z k = y k) (h1 : z n = 1) : SolvesS S n y ↔ Ker S (n + 1) z := by
  have e : ∀ i, xsum (n + 1) (fun k => Gf.mul (el S i k) (z k)) = xsum n (fun k => Gf.mul (el S i k) (y k)) ^^^ el S i n := fun i => by
    rw [xsum_succ, h1, Gf.mul_one]
    congr 1
    exact xsum_congr fun k hk => by rw [hz k hk]
  constructor
  · intro h i hi
    rw [e, h i hi, xor_self0]
  · intro h i hi
    have := h i hi
    rw [e] at this
    exact xor_cancel this
theorem badS_iff (S : List (List UInt8)) (n : Nat) : badS S n = true ↔ ∃ i, (red S n).2.length ≤ i ∧ i < (red S n).1.length ∧ el (red S n).1 i n ≠ 0 := by
  unfold badS
  rw [List.any_eq_true]
  constructor
  · rintro ⟨r, hr, hd⟩
    obtain ⟨i, hi⟩ := List.getElem?_of_mem hr
    rw [List.getElem?_drop] at hi
    refine ⟨_, Nat.le_add_right _ _, (List.getElem?_eq_some_iff.1 hi).1, ?_⟩
    rw [el_get hi]
    simpa using hd
  · rintro ⟨i, h1, h2, h3⟩
    refine ⟨(red S n).1[i], ?_, ?_⟩
    · apply List.mem_of_getElem? (i := i - (red S n).2.length)
      rw [List.getElem?_drop, show (red S n).2.length + (i - (red S n).2.length) = i by omega]
      exact List.getElem?_eq_getElem h2
    · rw [el_get (List.getElem?_eq_getElem h2)] at h3
      simpa using h3
/-- Where Solve has a solution, it is one. -/
theorem sol_ok {S : List (List UInt8)} {n : Nat} (hr : Rect S (n + 1)) (hb : badS S n = false) : SolvesS S n fun k => (solX S n).getD k 0 := by
  have hE := red_ech hr n
  have hnp : n ∉ (red S n).2 := fun hh => Nat.lt_irrefl _ (hE.mem_lt hh)
  refine (solvesS_ker (z := kv (red S n).1 (red S n).2 n) (fun k hk => (setP0_kv hE hk).symm) (kv_self _ _ _)).2 (((red_spe hr n (n + 1)).ker _).1 fun i hi => ?_)
  rcases Nat.lt_or_ge i (red S n).2.length with hip | hip
  · exact kv_row hE (Nat.le_succ n) (Nat.lt_succ_self n) hnp hip
  · refine xsum_none _ fun k hk => ?_
    rcases Nat.lt_or_ge k n with hk' | hk'
    · rw [hE.rest i k hip hk', Gf.zero_mul]
    · obtain rfl : k = n := by omega
      by_cases h0 : el (red S k).1 i k = 0
      · rw [h0, Gf.zero_mul]
      · have := (badS_iff S k).2 ⟨i, hip, hi, h0⟩
        rw [this] at hb
        cases hb
/-- Where it has none, there is none. -/
theorem sol_none {S : List (List UInt8)} {n : Nat} (hr : Rect S (n + 1)) (hb : badS S n = true) (y : Nat → UInt8) : ¬ SolvesS S n y := fun h => by
  have hE := red_ech hr n
  obtain ⟨i, h1, h2, h3⟩ := (badS_iff S n).1 hb
  have hk := (solvesS_ker (z := fun k => if k = n then 1 else y k) (fun k hk => if_neg (by omega)) (if_pos rfl)).1 h
  have := ((red_spe hr n (n + 1)).ker _).2 hk i h2
  rw [xsum_succ, xsum_none _ fun k hk => by rw [hE.rest i k h1 hk, Gf.zero_mul], UInt8.zero_xor] at this
  simp only [if_pos] at this
  rw [Gf.mul_one] at this
  exact h3 this
theorem solX_len (S : List (List UInt8)) (n : Nat) : (solX S n).length = n := by
  unfold solX; rw [setP_len, List.length_replicate]

/-- The rows of the system of Express. -/
theorem expS_len (R : List (List UInt8)) (row : List UInt8) : (expS R row).length = row.length := matF_len _ _ _
theorem expS_el {R : List (List UInt8)} {row : List UInt8} {j k : Nat} (hj : j < row.length) (hk : k ≤ R.length) : el (expS R row) j k = if k = R.length then row.getD j 0 else el R k j := by
  unfold expS
  rw [el_matF _ hj (by omega)]
theorem expS_solves (R : List (List UInt8)) (row : List UInt8) (y : Nat → UInt8) : SolvesS (expS R row) R.length y ↔ ∀ j, j < row.length → row.getD j 0 = xsum R.length fun k => Gf.mul (y k) (el R k j) := by
  unfold SolvesS
  rw [expS_len]
  have e : ∀ j, j < row.length → xsum R.length (fun k => Gf.mul (el (expS R row) j k) (y k)) = xsum R.length fun k => Gf.mul (y k) (el R k j) := fun j hj => xsum_congr fun k hk => by
    rw [expS_el hj (by omega), if_neg (by omega), Gf.mul_comm]
  constructor
  · intro h j hj
    rw [← e j hj, h j hj, expS_el hj (Nat.le_refl _), if_pos rfl]
  · intro h j hj
    rw [e j hj, ← h j hj, expS_el hj (Nat.le_refl _), if_pos rfl]
/-- What Express asks for. -/
structure ExpOk (R : List (List UInt8)) (row : List UInt8) : Prop where
  ok : Ok R
  few : row.length ≤ 48
  cols : 0 < R.length → row.length = cols R
theorem expE_bad {R : List (List UInt8)} {row : List UInt8} (h : ExpOk R row) : expE R row = if badS (expS R row) R.length then 8 else 0 := by
  unfold expE
  rw [chk_ok h.ok, if_neg (by decide), if_neg (by have := h.few; omega), if_neg (fun hh => hh.2 (h.cols hh.1))]
theorem exp_iff {R : List (List UInt8)} {row : List UInt8} (h : ExpOk R row) : (expE R row = 0 ∨ expE R row = 8) ∧ (expE R row = 0 ↔ Spn R row.length fun j => row.getD j 0) := by
  have hr : Rect (expS R row) (R.length + 1) := matF_rect _ _ _
  rw [expE_bad h]
  cases hb : badS (expS R row) R.length with
  | true =>
    refine ⟨.inr rfl, ⟨(fun hh => by cases hh), ?_⟩⟩
    rintro ⟨c, hc⟩
    exact absurd ((expS_solves R row c).2 hc) (sol_none hr hb c)
  | false => exact ⟨.inl rfl, ⟨fun _ => ⟨_, (expS_solves R row _).1 (sol_ok hr hb)⟩, fun _ => rfl⟩⟩
theorem comR_getD {coef : List UInt8} {rows : List (List UInt8)} {n k : Nat} (hl : rows.length ≤ coef.length) (hk : k < n) : (comR coef rows n rows.length).getD k 0 = xsum rows.length fun j => Gf.mul (coef.getD j 0) (el rows j k) := by
  rw [comR_eq coef rows n hl _ (Nat.le_refl _), List.getD_eq_getElem?_getD, rowF_get _ hk]
  exact combAt_sum coef rows k rows.length hl (Nat.le_refl _)
/-- What Express returns combines to the row. -/
theorem exp_comb {R : List (List UInt8)} {row : List UInt8} (h : ExpOk R row) (he : expE R row = 0) : (expL R row).length = R.length ∧ comR (expL R row) R row.length R.length = row := by
  have hr : Rect (expS R row) (R.length + 1) := matF_rect _ _ _
  have hb : badS (expS R row) R.length = false := by
    rw [expE_bad h] at he
    cases hb : badS (expS R row) R.length with
    | true => rw [hb] at he; cases he
    | false => rfl
  have hX : expL R row = solX (expS R row) R.length := by unfold expL; rw [if_pos he]
  have hl : (expL R row).length = R.length := by rw [hX, solX_len]
  refine ⟨hl, row_ext (n := row.length) (comR_len _ _ _ _) rfl fun k hk => ?_⟩
  rw [comR_getD (by omega) hk, hX]
  exact ((expS_solves R row _).1 (sol_ok hr hb) k hk).symm
theorem rect_snoc {M : List (List UInt8)} {n : Nat} {row : List UInt8} (h : Rect M n) (hr : row.length = n) : Rect (M ++ [row]) n := fun m hm => by
  rcases List.mem_append.1 hm with hm | hm
  · exact h m hm
  · rw [List.mem_singleton.1 hm]; exact hr
theorem el_snoc_lt (M : List (List UInt8)) (row : List UInt8) {i : Nat} (k : Nat) (hi : i < M.length) : el (M ++ [row]) i k = el M i k := by
  unfold el
  rw [List.getD_eq_getElem?_getD (l := M ++ [row]), List.getElem?_append_left hi, ← List.getD_eq_getElem?_getD]
theorem el_snoc_eq (M : List (List UInt8)) (row : List UInt8) (k : Nat) : el (M ++ [row]) M.length k = row.getD k 0 := by
  unfold el
  rw [List.getD_eq_getElem?_getD (l := M ++ [row]), List.getElem?_append_right (Nat.le_refl _), Nat.sub_self]
  rfl
theorem spn_snoc {M : List (List UInt8)} {n : Nat} (row : List UInt8) {v : Nat → UInt8} (h : Spn M n v) : Spn (M ++ [row]) n v :=
  Spn.trans (fun j hj => (Spn.row (M := M ++ [row]) (i := j) (by simp; omega)).congr fun k _ => (el_snoc_lt M row k hj).symm) h
/-- One row more: the rank stays exactly if the row is a combination, and else it is one more. -/
theorem rk_snoc {M : List (List UInt8)} {n : Nat} {row : List UInt8} (hM : Rect M n) (hr : row.length = n) :
    (Spn M n (fun k => row.getD k 0) → rk (M ++ [row]) n = rk M n) ∧ (¬ Spn M n (fun k => row.getD k 0) → rk (M ++ [row]) n = rk M n + 1) := by
  have hM' := rect_snoc hM hr
  have hge : rk M n ≤ rk (M ++ [row]) n := rk_spn hM hM' fun i hi => spn_snoc row (Spn.row hi)
  have hle : rk (M ++ [row]) n ≤ rk M n + 1 := by
    obtain ⟨B, C, h⟩ := fac_rk hM n
    refine rk_le_fac hM' ⟨fun i j => if i = M.length then (if j = rk M n then 1 else 0) else if j = rk M n then 0 else B i j, fun j k => if j = rk M n then row.getD k 0 else C j k, fun i hi k hk => ?_⟩
    rw [List.length_append, List.length_singleton] at hi
    by_cases hil : i = M.length
    · subst hil
      rw [el_snoc_eq, xsum_one _ (Nat.lt_succ_self _) fun j hj hjr => by simp [hjr, Gf.zero_mul]]
      simp [Gf.one_mul]
    · rw [el_snoc_lt M row k (by omega), h i (by omega) k hk, xsum_succ]
      simp only [if_neg hil, if_true, Gf.zero_mul, UInt8.xor_zero]
      exact xsum_congr fun j hj => by rw [if_neg (by omega), if_neg (by omega)]
  refine ⟨fun h => Nat.le_antisymm (rk_spn hM' hM fun i hi => ?_) hge, fun h => ?_⟩
  · rw [List.length_append, List.length_singleton] at hi
    by_cases hil : i = M.length
    · subst hil
      exact h.congr fun k _ => el_snoc_eq M row k
    · exact (Spn.row (by omega)).congr fun k _ => el_snoc_lt M row k (by omega)
  · rcases Nat.lt_or_ge (rk M n) (rk (M ++ [row]) n) with hlt | hge2
    · omega
    · exfalso
      apply h
      have e : rk M n = rk (M ++ [row]) n := Nat.le_antisymm hge hge2
      have s1 := red_spe hM n n
      have s2 := red_spe hM' n n
      refine (s1 _).1 (ech_full (red_ech hM n) (red_ech hM' n) (fun v hv => (s2 v).2 (spn_snoc row ((s1 v).1 hv))) e ((s2 _).2 ?_))
      exact (Spn.row (M := M ++ [row]) (i := M.length) (by simp)).congr fun k _ => (el_snoc_eq M row k).symm
theorem exp_rank {M : List (List UInt8)} {row : List UInt8} (hM : Ok M) (hl : 0 < M.length) (hr : row.length = cols M) : (expE M row = 0 ∨ expE M row = 8) ∧ (expE M row = 0 ↔ (redP (M ++ [row])).length = (redP M).length) := by
  have hX : ExpOk M row := ⟨hM, by rw [hr]; exact hM.cols_le, fun _ => hr⟩
  have hc : cols (M ++ [row]) = cols M := cols_of (rect_snoc hM.rect hr) (by simp)
  obtain ⟨h1, h2⟩ := exp_iff hX
  refine ⟨h1, ?_⟩
  rw [h2, redP_rk, redP_rk, hc, hr]
  obtain ⟨g1, g2⟩ := rk_snoc hM.rect hr
  by_cases hs : Spn M (cols M) fun k => row.getD k 0
  · exact ⟨fun _ => g1 hs, fun _ => hs⟩
  · exact ⟨fun h => absurd h hs, fun h => by have := g2 hs; omega⟩
theorem rect_take {M : List (List UInt8)} {n : Nat} (h : Rect M n) (k : Nat) : Rect (M.take k) n := fun m hm => h m (List.mem_of_mem_take hm)
theorem ok_take {M : List (List UInt8)} (h : Ok M) (k : Nat) : Ok (M.take k) := ok_of_rect (rect_take h.rect k) (by rw [List.length_take]; have := h.rows; omega) h.cols_le
/-- A coefficient that is not 0 belongs to a row that increases the rank of those before. -/
theorem exp_needs {M : List (List UInt8)} {row : List UInt8} (hM : Ok M) (hl : 0 < M.length) (hr : row.length = cols M) (he : expE M row = 0) {k : Nat} (hk : k < M.length) (hc : (expL M row).getD k 0 ≠ 0) : (redP (M.take (k + 1))).length = (redP (M.take k)).length + 1 := by
  have hX : ExpOk M row := ⟨hM, by rw [hr]; exact hM.cols_le, fun _ => hr⟩
  have hRs : Rect (expS M row) (M.length + 1) := matF_rect _ _ _
  have hE := red_ech hRs M.length
  -- k is a pivot of the system
  have hL : expL M row = solX (expS M row) M.length := by unfold expL; rw [if_pos he]
  rw [hL] at hc
  have hkp : k ∈ (red (expS M row) M.length).2 := by
    by_cases hm : k ∈ (red (expS M row) M.length).2
    · exact hm
    · exfalso
      apply hc
      unfold solX
      rw [setP0_kv hE hk, kv_free hm (by omega)]
  obtain ⟨i, hi⟩ := List.getElem?_of_mem hkp
  obtain ⟨m, hm⟩ : ∃ m, M[k]? = some m := ⟨_, List.getElem?_eq_getElem hk⟩
  have hml : m.length = cols M := hM.rect.at hm
  have htake : M.take (k + 1) = M.take k ++ [m] := by rw [List.take_add_one, hm]; rfl
  have htl : (M.take k).length = k := by rw [List.length_take]; omega
  -- the row is no combination of those before
  have hno : ¬ Spn (M.take k) (cols M) fun j => m.getD j 0 := by
    rintro ⟨c, hcc⟩
    rw [htl] at hcc
    have hker : Ker (expS M row) M.length fun y => if y < k then c y else if y = k then 1 else 0 := fun j hj => by
      rw [expS_len] at hj
      have hjc : j < cols M := by omega
      have e : ∀ y, y < M.length → Gf.mul (el (expS M row) j y) (if y < k then c y else if y = k then 1 else 0) = (if y < k then Gf.mul (c y) (el M y j) else 0) ^^^ (if y = k then m.getD j 0 else 0) := fun y hy => by
        rw [expS_el hj (by omega), if_neg (by omega)]
        by_cases h1 : y < k
        · rw [if_pos h1, if_pos h1, if_neg (by omega), UInt8.xor_zero, Gf.mul_comm]
        · rw [if_neg h1, if_neg h1]
          by_cases h2 : y = k
          · rw [if_pos h2, if_pos h2, Gf.mul_one, UInt8.zero_xor, h2, el_get hm]
          · rw [if_neg h2, if_neg h2, Gf.mul_zero, UInt8.xor_zero]
      rw [xsum_congr e, xsum_add, xsum_one (a := k) _ hk fun y _ hy => if_neg hy, if_pos rfl]
      rw [xsum_more (n := k) _ (by omega) fun y h1 _ => if_neg (by omega), show m.getD j 0 = _ from hcc j hjc]
      rw [xsum_congr (g := fun y => Gf.mul (c y) (el (M.take k) y j)) fun y hy => by rw [if_pos hy, el_take M j hy], xor_self0]
    have hil := (List.getElem?_eq_some_iff.1 hi).1
    have hilR : i < (red (expS M row) M.length).1.length := Nat.lt_of_lt_of_le hil hE.le
    have h0 := ((red_spe hRs M.length M.length).ker _).2 hker i hilR
    rw [xsum_one _ hk fun y hy hyk => by
      by_cases h1 : y < k
      · rw [hE.low i k y hi h1, Gf.zero_mul]
      · rw [if_neg h1, if_neg hyk, Gf.mul_zero]] at h0
    rw [hE.one i k i hi hilR] at h0
    simp [Gf.one_mul] at h0
  have g := (rk_snoc (rect_take hM.rect k) hml).2 hno
  rw [redP_rk, redP_rk, htake]
  rw [cols_of (rect_snoc (rect_take hM.rect k) hml) (by simp)]
  rcases Nat.eq_zero_or_pos k with h0 | h0
  · subst h0
    rw [List.take_zero, rk_nil] at g ⊢
    exact g
  · rw [cols_of (rect_take hM.rect k) (by omega)]
    exact g

/-- The system of Solve. -/
theorem sysM_len (M : List (List UInt8)) (b : List UInt8) : (sysM M b).length = M.length := sysK_len _ _ _
theorem sysM_rect {M : List (List UInt8)} {n : Nat} (h : Rect M n) (b : List UInt8) : Rect (sysM M b) (n + 1) := sysK_rect h b _
theorem sysM_el {M : List (List UInt8)} {n i k : Nat} (h : Rect M n) (b : List UInt8) (hi : i < M.length) (hk : k ≤ n) : el (sysM M b) i k = if k = n then b.getD i 0 else el M i k := by
  obtain ⟨m, hm⟩ : ∃ m, M[i]? = some m := ⟨_, List.getElem?_eq_getElem hi⟩
  have hml := h.at hm
  have hg : (sysM M b)[i]? = some (m ++ [b.getD i 0]) := by
    unfold sysM
    rw [sysK_get, hm]
    simp [hi]
  rw [el_get hg, el_get hm, List.getD_eq_getElem?_getD]
  by_cases hkn : k = n
  · rw [if_pos hkn, List.getElem?_append_right (by omega), hml, hkn, Nat.sub_self]
    rfl
  · rw [if_neg hkn, List.getElem?_append_left (by omega), ← List.getD_eq_getElem?_getD]
/-- A matrix maps a list to another one. -/
def Maps (M : List (List UInt8)) (n : Nat) (y : Nat → UInt8) (b : Nat → UInt8) : Prop := ∀ i, i < M.length → xsum n (fun k => Gf.mul (el M i k) (y k)) = b i
theorem sysM_solves {M : List (List UInt8)} {n : Nat} (h : Rect M n) (b : List UInt8) (y : Nat → UInt8) : SolvesS (sysM M b) n y ↔ Maps M n y fun i => b.getD i 0 := by
  unfold SolvesS Maps
  rw [sysM_len]
  have e : ∀ i, i < M.length → xsum n (fun k => Gf.mul (el (sysM M b) i k) (y k)) = xsum n fun k => Gf.mul (el M i k) (y k) := fun i hi => xsum_congr fun k hk => by
    rw [sysM_el h b hi (by omega), if_neg (by omega)]
  constructor
  · intro hh i hi
    rw [← e i hi, hh i hi, sysM_el h b hi (Nat.le_refl _), if_pos rfl]
  · intro hh i hi
    rw [e i hi, hh i hi, sysM_el h b hi (Nat.le_refl _), if_pos rfl]
/-- What the law's 'mapped' computes. -/
def mapR (M : List (List UInt8)) (x : List UInt8) : List UInt8 := comR x (tr M) M.length (tr M).length
theorem mapR_len (M : List (List UInt8)) (x : List UInt8) : (mapR M x).length = M.length := comR_len _ _ _ _
theorem mapR_iff {M : List (List UInt8)} {x b : List UInt8} (hx : x.length = cols M) (hb : b.length = M.length) : mapR M x = b ↔ Maps M (cols M) (fun k => x.getD k 0) fun i => b.getD i 0 := by
  have hl : (tr M).length = cols M := matF_len _ _ _
  have e : ∀ i, i < M.length → (mapR M x).getD i 0 = xsum (cols M) fun k => Gf.mul (el M i k) (x.getD k 0) := fun i hi => by
    unfold mapR
    rw [comR_getD (by omega) hi, hl]
    exact xsum_congr fun k hk => by rw [show el (tr M) k i = el M i k from el_matF _ hk hi, Gf.mul_comm]
  constructor
  · intro h i hi
    rw [← e i hi, h]
  · intro h
    exact row_ext (n := M.length) (mapR_len _ _) hb fun i hi => by rw [e i hi, h i hi]
/-- The rows of the kernel. -/
theorem kers_row {R : List (List UInt8)} {piv : List Nat} {n j : Nat} (hj : j < (kers R piv n n).length) : ∃ f, f < n ∧ f ∉ piv ∧ (kers R piv n n)[j]? = some (kerX R piv n f) := by
  unfold kers at hj ⊢
  rw [List.length_map] at hj
  have hm := List.getElem_mem hj
  obtain ⟨h1, h2⟩ := List.mem_filter.1 hm
  refine ⟨_, List.mem_range.1 h1, hasB_not h2, ?_⟩
  · rw [List.getElem?_map, List.getElem?_eq_getElem hj]
    rfl
theorem kers_mem {R : List (List UInt8)} {piv : List Nat} {n f : Nat} (hf : f < n) (hfp : f ∉ piv) : ∃ j, j < (kers R piv n n).length ∧ (kers R piv n n)[j]? = some (kerX R piv n f) := by
  have hm : kerX R piv n f ∈ kers R piv n n := by
    unfold kers
    exact List.mem_map.2 ⟨f, List.mem_filter.2 ⟨List.mem_range.2 hf, hasB_free hfp⟩, rfl⟩
  obtain ⟨j, hj⟩ := List.getElem?_of_mem hm
  exact ⟨j, (List.getElem?_eq_some_iff.1 hj).1, hj⟩
theorem kers_rect (R : List (List UInt8)) (piv : List Nat) (n : Nat) : Rect (kers R piv n n) n := fun m hm => by
  unfold kers at hm
  obtain ⟨f, _, rfl⟩ := List.mem_map.1 hm
  exact kerX_len _ _ _ _
theorem kers_count {R : List (List UInt8)} {piv : List Nat} {n : Nat} (h : Ech R piv n) : (kers R piv n n).length + piv.length = n := by
  unfold kers
  rw [List.length_map]
  exact free_count h.ascL fun p hp => h.mem_lt hp
theorem kers_el {R : List (List UInt8)} {piv : List Nat} {n j : Nat} (h : Ech R piv n) (hj : j < (kers R piv n n).length) : ∃ f, f < n ∧ f ∉ piv ∧ ∀ k, k < n → el (kers R piv n n) j k = kv R piv f k := by
  obtain ⟨f, h1, h2, h3⟩ := kers_row hj
  exact ⟨f, h1, h2, fun k hk => by rw [el_get h3, kerX_kv h h1 h2 hk]⟩
/-- The kernel's combinations are all lists that are mapped to 0. -/
theorem kers_spn {R : List (List UInt8)} {piv : List Nat} {n : Nat} (h : Ech R piv n) (z : Nat → UInt8) : Spn (kers R piv n n) n z ↔ Ker R n z := by
  constructor
  · rintro ⟨c, hc⟩ i hi
    rw [xsum_congr (g := fun k => xsum (kers R piv n n).length fun j => Gf.mul (c j) (Gf.mul (el R i k) (el (kers R piv n n) j k))) fun k hk => by
      rw [hc k hk, mul_xsum]
      exact xsum_congr fun j _ => by rw [← Gf.mul_assoc, Gf.mul_comm (el R i k), Gf.mul_assoc]]
    rw [xsum_swap]
    refine xsum_none _ fun j hj => ?_
    obtain ⟨f, h1, h2, h3⟩ := kers_el h hj
    rw [← mul_xsum, xsum_congr (g := fun k => Gf.mul (el R i k) (kv R piv f k)) fun k hk => by rw [h3 k hk], kv_ker h h1 h2 i hi, Gf.mul_zero]
  · intro hk
    have hs : ∀ f, f < n → Spn (kers R piv n n) n fun k => if f ∈ piv then 0 else Gf.mul (z f) (kv R piv f k) := fun f hf => by
      by_cases hm : f ∈ piv
      · exact Spn.zero.congr fun k _ => if_pos hm
      · obtain ⟨j, hj, hg⟩ := kers_mem (R := R) hf hm
        exact ((Spn.row hj).smul (z f)).congr fun k hk => by rw [if_neg hm, el_get hg, kerX_kv h hf hm hk]
    refine (Spn.sum (fun f k => if f ∈ piv then 0 else Gf.mul (z f) (kv R piv f k)) n hs).congr fun k hkn => ?_
    by_cases hm : k ∈ piv
    · obtain ⟨i, hi⟩ := List.getElem?_of_mem hm
      have hil := (List.getElem?_eq_some_iff.1 hi).1
      have hilR : i < R.length := Nat.lt_of_lt_of_le hil h.le
      have h0 := hk i hilR
      have e : ∀ f, f < n → Gf.mul (el R i f) (z f) = (if f = k then z k else 0) ^^^ (if f ∈ piv then 0 else Gf.mul (z f) (kv R piv f k)) := fun f hf => by
        by_cases hfm : f ∈ piv
        · rw [if_pos hfm, UInt8.xor_zero]
          obtain ⟨i', hi'⟩ := List.getElem?_of_mem hfm
          rw [h.one i' f i hi' hilR]
          by_cases hfk : f = k
          · subst hfk
            have : i = i' := by
              have a1 := find_piv h.ascL hi
              have a2 := find_piv h.ascL hi'
              rw [a1] at a2
              exact Option.some.inj a2
            rw [if_pos this, if_pos rfl, Gf.one_mul]
          · rw [if_neg (fun hh => hfk (by subst hh; rw [hi] at hi'; exact (Option.some.inj hi').symm)), if_neg hfk, Gf.zero_mul]
        · have hne : ¬ f = k := fun hh => by
            subst hh
            exact hfm hm
          rw [if_neg hfm, if_neg hne, UInt8.zero_xor, kv_piv h.ascL hi hfm, Gf.mul_comm]
      rw [xsum_congr e, xsum_add, xsum_one (a := k) _ hkn fun f _ hf => if_neg hf, if_pos rfl] at h0
      exact xor_cancel h0
    · rw [xsum_one (a := k) _ hkn fun f hf hfk => ?_]
      · rw [if_neg hm, kv_self, Gf.mul_one]
      · by_cases hfm : f ∈ piv
        · exact if_pos hfm
        · rw [if_neg hfm, kv_free hm (Ne.symm hfk), Gf.mul_zero]
/-- The kernel's rows are independent. -/
theorem kers_rk {R : List (List UInt8)} {piv : List Nat} {n : Nat} (h : Ech R piv n) : rk (kers R piv n n) n = (kers R piv n n).length := by
  refine Nat.le_antisymm (rk_le_len (kers_rect R piv n) n) ?_
  rcases Nat.lt_or_ge (rk (kers R piv n n) n) (kers R piv n n).length with hlt | hge
  · exfalso
    have hr := kers_rect R piv n
    obtain ⟨B, C, hBC⟩ := fac_rk hr n
    have hfr : ∀ j, ∃ f, j < (kers R piv n n).length → f < n ∧ f ∉ piv ∧ (kers R piv n n)[j]? = some (kerX R piv n f) := fun j => by
      by_cases hj : j < (kers R piv n n).length
      · obtain ⟨f, hf⟩ := kers_row hj
        exact ⟨f, fun _ => hf⟩
      · exact ⟨0, fun hh => absurd hh hj⟩
    obtain ⟨F, hF⟩ : ∃ F : Nat → Nat, ∀ j, j < (kers R piv n n).length → F j < n ∧ F j ∉ piv ∧ (kers R piv n n)[j]? = some (kerX R piv n (F j)) := ⟨fun j => Classical.choose (hfr j), fun j => Classical.choose_spec (hfr j)⟩
    have hinj : ∀ i j, i < (kers R piv n n).length → j < (kers R piv n n).length → i ≠ j → F i ≠ F j := fun i j hi hj hij hh => by
      have a1 : ((List.range n).filter fun j => !hasB piv j).Pairwise (· < ·) := (range_asc n).filter _
      have hi' := hi
      have hj' := hj
      unfold kers at hi' hj'
      rw [List.length_map] at hi' hj'
      have key : ∀ y (hy : y < ((List.range n).filter fun j => !hasB piv j).length) (hy2 : y < (kers R piv n n).length), F y = ((List.range n).filter fun j => !hasB piv j)[y] := fun y hy hy2 => by
        obtain ⟨b1, b2, b3⟩ := hF y hy2
        have b4 : (kers R piv n n)[y]? = some (kerX R piv n (((List.range n).filter fun j => !hasB piv j)[y])) := by
          unfold kers
          rw [List.getElem?_map, List.getElem?_eq_getElem hy]
          rfl
        obtain ⟨c1, c2⟩ := List.mem_filter.1 (List.getElem_mem hy)
        have c3 : ((List.range n).filter fun j => !hasB piv j)[y] ∉ piv := hasB_not c2
        have c4 := List.mem_range.1 c1
        have e := Option.some.inj (b3.symm.trans b4)
        by_cases hne : F y = ((List.range n).filter fun j => !hasB piv j)[y]
        · exact hne
        · exfalso
          have d1 := kerX_kv h b1 b2 b1
          rw [e, kerX_kv h c4 c3 b1, kv_self, kv_free b2 hne] at d1
          cases d1
      have e1 := key i hi' hi
      have e2 := key j hj' hj
      rw [hh, e2] at e1
      rcases Nat.lt_or_gt_of_ne hij with hlt | hgt
      · have := (List.pairwise_iff_getElem.1 a1) i j hi' hj' hlt; omega
      · have := (List.pairwise_iff_getElem.1 a1) j i hj' hi' hgt; omega
    have hel : ∀ i j, i < (kers R piv n n).length → j < (kers R piv n n).length → el (kers R piv n n) i (F j) = if j = i then 1 else 0 := fun i j hi hj => by
      obtain ⟨b1, b2, b3⟩ := hF i hi
      obtain ⟨c1, c2, c3⟩ := hF j hj
      rw [el_get b3, kerX_kv h b1 b2 c1]
      by_cases hij : j = i
      · rw [if_pos hij, hij, kv_self]
      · rw [if_neg hij, kv_free c2 (hinj j i hj hi hij)]
    obtain ⟨z, ⟨i, hi, hzi⟩, hz⟩ := more_unknowns _ _ hlt fun l j => C l (F j)
    apply hzi
    have e1 : xsum (kers R piv n n).length (fun j => Gf.mul (el (kers R piv n n) i (F j)) (z j)) = z i := by
      rw [xsum_one _ hi fun j hj hji => by rw [hel i j hi hj, if_neg hji, Gf.zero_mul], hel i i hi hi, if_pos rfl, Gf.one_mul]
    rw [← e1]
    rw [xsum_congr (g := fun j => xsum (rk (kers R piv n n) n) fun l => Gf.mul (B i l) (Gf.mul (C l (F j)) (z j))) fun j hj => by
      rw [hBC i hi _ (hF j hj).1, xsum_mul]
      exact xsum_congr fun l _ => Gf.mul_assoc _ _ _]
    rw [xsum_swap]
    refine xsum_none _ fun l hl => ?_
    rw [← mul_xsum, hz l hl, Gf.mul_zero]
  · exact hge
theorem solveE_cases {M : List (List UInt8)} {b : List UInt8} (h : Ok M) (hb : b.length = M.length) : solveE M b = if badS (sysM M b) (cols M) then 8 else 0 := by
  unfold solveE
  rw [chk_ok h, if_neg (by decide), if_neg (by omega)]
/-- If Solve has none, nothing solves. -/
theorem solve_none {M : List (List UInt8)} {b y : List UInt8} (h : Ok M) (hb : b.length = M.length) (hy : y.length = cols M) (he : solveE M b ≠ 0) : mapR M y ≠ b := fun hm => by
  rw [solveE_cases h hb] at he
  have hbad : badS (sysM M b) (cols M) = true := by
    cases hx : badS (sysM M b) (cols M) with
    | true => rfl
    | false => rw [hx] at he; exact absurd rfl he
  exact sol_none (sysM_rect h.rect b) hbad _ ((sysM_solves h.rect b _).2 ((mapR_iff hy hb).1 hm))
/-- All that MatrixSolutionsAreAll asks. -/
theorem solve_all {M : List (List UInt8)} {b : List UInt8} (h : Ok M) (hb : b.length = M.length) (he : solveE M b = 0) :
    (solveX M b).length = cols M ∧ mapR M (solveX M b) = b ∧ (solveK M b).length + (redP M).length = cols M ∧ Rect (solveK M b) (cols M) ∧ rk (solveK M b) (cols M) = (solveK M b).length ∧
      (∀ v ∈ solveK M b, mapR M v = List.replicate M.length 0) ∧
      ∀ y : List UInt8, y.length = cols M → (Spn (solveK M b) (cols M) (fun k => (addR 1 (solveX M b) y).getD k 0) ↔ mapR M y = b) := by
  obtain ⟨n, hn⟩ : ∃ n, n = cols M := ⟨_, rfl⟩
  have hr : Rect M n := by rw [hn]; exact h.rect
  have hS := sysM_rect hr b
  have hbad : badS (sysM M b) n = false := by
    rw [solveE_cases h hb, ← hn] at he
    cases hx : badS (sysM M b) n with
    | true => rw [hx] at he; cases he
    | false => rfl
  have hX : solveX M b = solX (sysM M b) n := by unfold solveX; rw [if_pos he, ← hn]
  have hK : solveK M b = kers (red (sysM M b) n).1 (red (sysM M b) n).2 n n := by unfold solveK; rw [if_pos he, ← hn]
  have hE := red_ech hS n
  have hXl : (solveX M b).length = n := by rw [hX, solX_len]
  have hXm : Maps M n (fun k => (solveX M b).getD k 0) fun i => b.getD i 0 := by
    rw [hX]
    exact (sysM_solves hr b _).1 (sol_ok hS hbad)
  have hkerS : ∀ z, Ker (red (sysM M b) n).1 n z ↔ Ker M n z := fun z => by
    rw [(red_spe hS n n).ker z]
    unfold Ker
    rw [sysM_len]
    have e : ∀ i, i < M.length → xsum n (fun k => Gf.mul (el (sysM M b) i k) (z k)) = xsum n fun k => Gf.mul (el M i k) (z k) := fun i hi => xsum_congr fun k hk => by
      rw [sysM_el hr b hi (by omega), if_neg (by omega)]
    exact ⟨fun hh i hi => by rw [← e i hi]; exact hh i hi, fun hh i hi => by rw [e i hi]; exact hh i hi⟩
  have hrank : (red (sysM M b) n).2.length = (redP M).length := by
    rw [redP_rk, ← hn]
    exact rk_congr hS hr (sysM_len _ _) fun i hi k hk => by
      rw [sysM_len] at hi
      rw [sysM_el hr b hi (by omega), if_neg (by omega)]
  have hKr : Rect (solveK M b) n := by rw [hK]; exact kers_rect _ _ _
  rw [← hn]
  refine ⟨hXl, (mapR_iff (by omega) hb).2 (by rw [← hn]; exact hXm), ?_, hKr, ?_, fun v hv => ?_, fun y hy => ?_⟩
  · rw [hK, ← hrank]
    exact kers_count hE
  · rw [hK]
    exact kers_rk hE
  · obtain ⟨j, hj⟩ := List.getElem?_of_mem hv
    have hjl := (List.getElem?_eq_some_iff.1 hj).1
    have hvl : v.length = n := hKr v hv
    refine (mapR_iff (by omega) (by simp)).2 fun i hi => ?_
    show _ = (List.replicate M.length (0 : UInt8)).getD i 0
    rw [zeros_getD, ← hn]
    have h1 : Spn (solveK M b) n (el (solveK M b) j) := Spn.row hjl
    rw [hK] at h1
    have h2 := (hkerS _).1 ((kers_spn hE _).1 h1) i hi
    refine Eq.trans ?_ h2
    rw [← hK]
    exact xsum_congr fun k _ => by rw [el_get hj]
  · have e : ∀ k, (addR 1 (solveX M b) y).getD k 0 = y.getD k 0 ^^^ (solveX M b).getD k 0 := fun k => by
      rw [addR_getD _ _ _ _ (by omega), Gf.one_mul]
    rw [mapR_iff (by omega) hb, ← hn, hK, kers_spn hE, hkerS]
    have e2 : ∀ i, xsum n (fun k => Gf.mul (el M i k) ((addR 1 (solveX M b) y).getD k 0)) = xsum n (fun k => Gf.mul (el M i k) (y.getD k 0)) ^^^ xsum n fun k => Gf.mul (el M i k) ((solveX M b).getD k 0) := fun i => by
      rw [← xsum_add]
      exact xsum_congr fun k _ => by rw [e, Gf.mul_xor]
    constructor
    · intro hk i hi
      have := hk i hi
      rw [e2] at this
      rw [xor_cancel this]
      exact hXm i hi
    · intro hk i hi
      rw [e2, hk i hi, hXm i hi, xor_self0]
end Go.Proofs.YtgajlgnniidgmaaDoor
