/-
  The reduction of a matrix, as a function of lists: no Go in sight.
-/
import Derived.Test.YtgajlgnniidgmaaDoorMcd
import Derived.Test.YtgajlgnniidgmaaDoorGf
namespace Go.Proofs.YtgajlgnniidgmaaDoor
set_option linter.unusedVariables false
set_option linter.unusedSimpArgs false

/-- A row plus a multiple of another one; a multiple of a row. -/
def addR (c : UInt8) (p r : List UInt8) : List UInt8 := rowF (fun j => r.getD j 0 ^^^ Gf.mul c (p.getD j 0)) r.length
def mulR (c : UInt8) (r : List UInt8) : List UInt8 := rowF (fun j => Gf.mul c (r.getD j 0)) r.length
theorem addR_len (c : UInt8) (p r : List UInt8) : (addR c p r).length = r.length := rowF_len _ _
theorem mulR_len (c : UInt8) (r : List UInt8) : (mulR c r).length = r.length := rowF_len _ _
theorem addR_zero (p r : List UInt8) : addR 0 p r = r := by
  apply List.ext_getElem?
  intro j
  rcases Nat.lt_or_ge j r.length with h | h
  · unfold addR
    rw [rowF_get _ h, Gf.zero_mul, UInt8.xor_zero, List.getD_eq_getElem?_getD, List.getElem?_eq_getElem h]
    rfl
  · rw [List.getElem?_eq_none (by rw [addR_len]; exact h), List.getElem?_eq_none h]
/-- Two elements change places. -/
def swp {α : Type} (l : List α) (i j : Nat) (a b : α) : List α := (l.set i b).set j a
theorem swp_len {α : Type} (l : List α) (i j : Nat) (a b : α) : (swp l i j a b).length = l.length := by simp [swp]
/-- The first k rows, but for one, get so much of row p that their element in a column is 0. -/
def elimK (M : List (List UInt8)) (top col : Nat) (p : List UInt8) (k : Nat) : List (List UInt8) :=
  M.mapIdx fun i r => if i < k ∧ i ≠ top then addR (r.getD col 0) p r else r
theorem elimK_len (M : List (List UInt8)) (top col : Nat) (p : List UInt8) (k : Nat) : (elimK M top col p k).length = M.length := by simp [elimK]
theorem elimK_zero (M : List (List UInt8)) (top col : Nat) (p : List UInt8) : elimK M top col p 0 = M := by
  unfold elimK
  apply List.ext_getElem?
  intro i
  rw [List.getElem?_mapIdx]
  cases M[i]? <;> simp
theorem elimK_get (M : List (List UInt8)) (top col : Nat) (p : List UInt8) (k i : Nat) : (elimK M top col p k)[i]? = (M[i]?).map fun r => if i < k ∧ i ≠ top then addR (r.getD col 0) p r else r := by
  unfold elimK
  rw [List.getElem?_mapIdx]
theorem elimK_next (M : List (List UInt8)) (top col : Nat) (p : List UInt8) (k : Nat) (r : List UInt8) (hr : M[k]? = some r) (hk : k ≠ top) : (elimK M top col p k).set k (addR (r.getD col 0) p r) = elimK M top col p (k + 1) := by
  have hkl := (List.getElem?_eq_some_iff.1 hr).1
  apply List.ext_getElem?
  intro i
  by_cases hik : k = i
  · subst hik
    rw [List.getElem?_set_self (by rw [elimK_len]; exact hkl), elimK_get, hr]
    simp [hk]
  · rw [List.getElem?_set_ne hik, elimK_get, elimK_get]
    cases M[i]? with
    | none => rfl
    | some x =>
      simp only [Option.map_some]
      by_cases h1 : i < k
      · have : i < k + 1 := by omega
        simp [h1, this]
      · have : ¬ i < k + 1 := by omega
        simp [h1, this]
theorem elimK_skip (M : List (List UInt8)) (top col : Nat) (p : List UInt8) (k : Nat) (h : k = top ∨ ∀ r, M[k]? = some r → r.getD col 0 = 0) : elimK M top col p (k + 1) = elimK M top col p k := by
  apply List.ext_getElem?
  intro i
  rw [elimK_get, elimK_get]
  cases hx : M[i]? with
  | none => rfl
  | some x =>
    simp only [Option.map_some]
    by_cases h1 : i < k
    · have : i < k + 1 := by omega
      simp [h1, this]
    · by_cases h2 : i = k
      · subst h2
        rcases h with h | h
        · simp [h]
        · have h0 := h x hx
          rw [h0, addR_zero]
          simp
      · have : ¬ i < k + 1 := by omega
        simp [h1, this]
/-- The first row, from one on, whose element in a column is not 0. -/
def findP (M : List (List UInt8)) (col top : Nat) : Option Nat := (List.range M.length).find? fun i => decide (top ≤ i) && (el M i col != 0)
theorem findP_some {M : List (List UInt8)} {col top i : Nat} (hi : i < M.length) (ht : top ≤ i) (h0 : ∀ k, top ≤ k → k < i → el M k col = 0) (h1 : el M i col ≠ 0) : findP M col top = some i := by
  unfold findP
  rw [List.find?_range_eq_some]
  exact ⟨by simp [ht, h1], by simpa using hi, fun j hj => by
    by_cases h : top ≤ j
    · simp [h0 j h hj]
    · simp [h]⟩
theorem findP_none {M : List (List UInt8)} {col top : Nat} (h0 : ∀ k, top ≤ k → k < M.length → el M k col = 0) : findP M col top = none := by
  unfold findP
  rw [List.find?_eq_none]
  intro j hj
  have hj' : j < M.length := by simpa using hj
  by_cases h : top ≤ j
  · simp [h0 j h hj']
  · simp [h]
/-- The matrix behind the step that makes row i the pivot of a column. -/
def pivStep (M : List (List UInt8)) (top col i : Nat) : List (List UInt8) :=
  elimK ((swp M top i (M.getD top []) (M.getD i [])).set top (mulR (Gf.inv (el M i col)) (M.getD i []))) top col (mulR (Gf.inv (el M i col)) (M.getD i [])) M.length
/-- All columns of a list, one after the other. -/
def redGo : List (List UInt8) → List Nat → List Nat → List (List UInt8) × List Nat
  | M, piv, [] => (M, piv)
  | M, piv, col :: cs => match findP M col piv.length with
    | none => redGo M piv cs
    | some i => redGo (pivStep M piv.length col i) (piv ++ [col]) cs
/-- The reduction as far as the first n columns, and the pivots' columns. -/
def red (M : List (List UInt8)) (n : Nat) : List (List UInt8) × List Nat := redGo M [] (List.range n)
/-- All rows have c elements. -/
def Rect (M : List (List UInt8)) (c : Nat) : Prop := ∀ m ∈ M, m.length = c
theorem Rect.at {M : List (List UInt8)} {c i : Nat} {m : List UInt8} (h : Rect M c) (hm : M[i]? = some m) : m.length = c := h m (List.mem_of_getElem? hm)
theorem Rect.getD {M : List (List UInt8)} {c i : Nat} (h : Rect M c) (hi : i < M.length) : (M.getD i []).length = c := by
  rw [List.getD_eq_getElem?_getD, List.getElem?_eq_getElem hi]
  exact h _ (List.getElem_mem hi)
theorem Rect.set {M : List (List UInt8)} {c : Nat} (h : Rect M c) (i : Nat) {m : List UInt8} (hm : m.length = c) : Rect (M.set i m) c := fun x hx => by
  rcases List.mem_or_eq_of_mem_set hx with hx | rfl
  · exact h x hx
  · exact hm
theorem Rect.elim {M : List (List UInt8)} {c : Nat} (h : Rect M c) (top col : Nat) (p : List UInt8) (k : Nat) : Rect (elimK M top col p k) c := fun x hx => by
  obtain ⟨i, hi⟩ := List.getElem?_of_mem hx
  rw [elimK_get] at hi
  cases hr : M[i]? with
  | none => simp [hr] at hi
  | some r =>
    simp only [hr, Option.map_some, Option.some.injEq] at hi
    rw [← hi]
    split
    · rw [addR_len]; exact h.at hr
    · exact h.at hr
theorem Rect.step {M : List (List UInt8)} {c : Nat} (h : Rect M c) {top i : Nat} (col : Nat) (ht : top < M.length) (hi : i < M.length) : Rect (pivStep M top col i) c := by
  refine Rect.elim (Rect.set (Rect.set (Rect.set h _ (h.getD hi)) _ (h.getD ht)) _ ?_) _ _ _ _
  rw [mulR_len]
  exact h.getD hi
theorem pivStep_len (M : List (List UInt8)) (top col i : Nat) : (pivStep M top col i).length = M.length := by
  unfold pivStep; rw [elimK_len]; simp [swp]
end Go.Proofs.YtgajlgnniidgmaaDoor
