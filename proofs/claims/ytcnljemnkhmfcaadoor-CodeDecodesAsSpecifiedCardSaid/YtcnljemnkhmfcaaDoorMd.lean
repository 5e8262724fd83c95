/-
  Contracts of stage 5: Transpose.
-/
import Derived.Test.YtcnljemnkhmfcaaDoorMb
namespace Go.Proofs.YtcnljemnkhmfcaaDoor
set_option linter.unusedVariables false
set_option linter.unusedSimpArgs false
open Go.RowKit

/-- An element of a matrix. -/
def el (M : List (List UInt8)) (i j : Nat) : UInt8 := (M.getD i []).getD j 0
theorem el_of {M : List (List UInt8)} {i j : Nat} {m : List UInt8} {b : UInt8} (hi : M[i]? = some m) (hj : m[j]? = some b) : el M i j = b := by
  unfold el
  simp [List.getD_eq_getElem?_getD, hi, hj]
/-- Valid: at most 48 rows of at most 48 elements, all of one length. -/
structure Ok (M : List (List UInt8)) : Prop where
  rows : M.length ≤ 48
  cols48 : ∀ m ∈ M, m.length ≤ 48
  same : ∀ m ∈ M, m.length = cols M
theorem ok_of {M : List (List UInt8)} (h : chk M = 0) : Ok M := by
  unfold chk at h
  split at h
  · cases h
  · rename_i h1
    split at h
    · cases h
    · rename_i h2
      simp only [not_or, Nat.not_lt, Bool.not_eq_true, List.any_eq_false, decide_eq_true_eq] at h1
      simp only [Bool.not_eq_true, List.any_eq_false, decide_eq_true_eq, ne_eq, Decidable.not_not] at h2
      exact ⟨h1.1, h1.2, h2⟩
theorem Ok.cols_le {M : List (List UInt8)} (h : Ok M) : cols M ≤ 48 := by
  unfold cols
  cases M with
  | nil => simp
  | cons m M => exact h.cols48 m (List.mem_cons_self ..)
theorem Ok.get {M : List (List UInt8)} (h : Ok M) {i : Nat} (hi : i < M.length) : ∃ m, M[i]? = some m ∧ m.length = cols M := ⟨_, List.getElem?_eq_getElem hi, h.same _ (List.getElem_mem hi)⟩
theorem Ok.el {M : List (List UInt8)} (h : Ok M) {i j : Nat} (hi : i < M.length) (hj : j < cols M) : ∃ m, M[i]? = some m ∧ m.length = cols M ∧ m[j]? = some (el M i j) := by
  obtain ⟨m, hm, hl⟩ := h.get hi
  obtain ⟨b, hb⟩ : ∃ b, m[j]? = some b := ⟨_, List.getElem?_eq_getElem (by omega)⟩
  exact ⟨m, hm, hl, by rw [el_of hm hb]; exact hb⟩
theorem chk_cases (M : List (List UInt8)) : chk M = 0 ∨ chk M = 1 ∨ chk M = 2 := by
  unfold chk; split
  · simp
  · split <;> simp
/-- What a call that returns a matrix and an error ends with. -/
def MatRet (w : World) (T : List (List UInt8)) (E : Int) (e : Ending) (w' : World) : Prop :=
  (∃ A c, e = .returned (.tuple #[.slice A T.length c, .int .i64 E]) ∧ T.length ≤ c ∧ c ≤ maxLen ∧ (A = none → c = 0) ∧ Mat w' w'.heap.size A T) ∧ Below w.heap.size w w'
theorem MatRet.nothing {w w' : World} {E : Int} (h : Below w.heap.size w w') : MatRet w [] E (.returned (.tuple #[.slice none 0 0, .int .i64 E])) w' :=
  ⟨⟨none, 0, rfl, by simp, by unfold maxLen; decide, fun _ => rfl, Mat.nil⟩, h⟩
theorem MatRet.own {w w' W : World} {base g n : Nat} {bs : List Nat} {T : List (List UInt8)} (hn : T.length = n) (hO : Om w' base g bs T []) (h : Below w.heap.size w w') (hm : n ≤ 1000000) : MatRet w T 0 (.returned (.tuple #[.slice (some ⟨g, 0, none⟩) n n, .int .i64 0])) w' := by
  subst hn
  exact ⟨⟨_, _, rfl, Nat.le_refl _, by unfold maxLen; omega, (fun hh => by cases hh), hO.mat⟩, h⟩

/-- The transpose. -/
def tr (M : List (List UInt8)) : List (List UInt8) := matF (fun i j => el M j i) (cols M) M.length

end Go.Proofs.YtcnljemnkhmfcaaDoor
