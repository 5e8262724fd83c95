/-
  Contracts of stage 5: Inverse.
-/
import Derived.Test.YtcnljemnkhmfcaaDoorMx
import Derived.Test.YtcnljemnkhmfcaaDoorMch
namespace Go.Proofs.YtcnljemnkhmfcaaDoor
set_option linter.unusedVariables false
set_option linter.unusedSimpArgs false
open Go.RowKit

/-- The matrix beside which the first k rows of the identity stand. -/
def augK (M : List (List UInt8)) (n k : Nat) : List (List UInt8) := M.mapIdx fun i m => m ++ (if i < k then (List.replicate n 0).set i 1 else List.replicate n 0)
theorem augK_len (M : List (List UInt8)) (n k : Nat) : (augK M n k).length = M.length := by simp [augK]
theorem augK_get (M : List (List UInt8)) (n k i : Nat) : (augK M n k)[i]? = (M[i]?).map fun m => m ++ (if i < k then (List.replicate n 0).set i 1 else List.replicate n 0) := by
  unfold augK; rw [List.getElem?_mapIdx]
theorem augK_zero (M : List (List UInt8)) (n : Nat) : augK M n 0 = wid M n := by
  apply List.ext_getElem?
  intro i
  rw [augK_get]
  unfold wid pad0
  rw [List.getElem?_map]
  cases M[i]? <;> simp
theorem augK_next (M : List (List UInt8)) (n k : Nat) (m : List UInt8) (hm : M[k]? = some m) : (augK M n k).set k (m ++ (List.replicate n 0).set k 1) = augK M n (k + 1) := by
  have hl := (List.getElem?_eq_some_iff.1 hm).1
  apply List.ext_getElem?
  intro i
  by_cases h : k = i
  · subst h
    rw [List.getElem?_set_self (by rw [augK_len]; exact hl), augK_get, hm]
    simp
  · rw [List.getElem?_set_ne h, augK_get, augK_get]
    cases M[i]? with
    | none => rfl
    | some x =>
      simp only [Option.map_some]
      by_cases h1 : i < k
      · have : i < k + 1 := by omega
        simp [h1, this]
      · have : ¬ i < k + 1 := by omega
        simp [h1, this]
theorem augK_rect {M : List (List UInt8)} {c : Nat} (h : Rect M c) (n k : Nat) : Rect (augK M n k) (c + n) := fun x hx => by
  obtain ⟨i, hi⟩ := List.getElem?_of_mem hx
  rw [augK_get] at hi
  cases hr : M[i]? with
  | none => simp [hr] at hi
  | some r =>
    simp only [hr, Option.map_some, Option.some.injEq] at hi
    rw [← hi, List.length_append, h.at hr]
    split <;> simp
def augM (M : List (List UInt8)) : List (List UInt8) := augK M M.length M.length
/-- What Inverse answers. -/
def invE (M : List (List UInt8)) : Int := if chk M ≠ 0 then chk M else if cols M ≠ M.length then 1 else if (red (augM M) M.length).2.length < M.length then 8 else 0
def invM (M : List (List UInt8)) : List (List UInt8) := if invE M = 0 then matF (fun i j => el (red (augM M) M.length).1 i (M.length + j)) M.length M.length else []

end Go.Proofs.YtcnljemnkhmfcaaDoor
