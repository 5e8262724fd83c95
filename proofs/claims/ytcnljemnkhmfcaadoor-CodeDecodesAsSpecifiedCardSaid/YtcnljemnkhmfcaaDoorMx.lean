/-
  Contracts of stage 5: Reduce, Rank.
-/
import Derived.Test.YtcnljemnkhmfcaaDoorMr
namespace Go.Proofs.YtcnljemnkhmfcaaDoor
set_option linter.unusedVariables false
set_option linter.unusedSimpArgs false
open Go.RowKit

theorem findP_lt {M : List (List UInt8)} {col top i : Nat} (h : findP M col top = some i) : top ≤ i ∧ i < M.length ∧ el M i col ≠ 0 := by
  unfold findP at h
  have h1 := List.find?_some h
  have h2 := List.mem_of_find?_eq_some h
  simp only [Bool.and_eq_true, decide_eq_true_eq, bne_iff_ne, ne_eq] at h1
  exact ⟨h1.1, by simpa using h2, h1.2⟩
theorem redGo_facts (c : Nat) : ∀ (cs : List Nat) (M : List (List UInt8)) (piv : List Nat), Rect M c → piv.length ≤ M.length →
    (redGo M piv cs).1.length = M.length ∧ Rect (redGo M piv cs).1 c ∧ (redGo M piv cs).2.length ≤ M.length ∧ (∀ p ∈ (redGo M piv cs).2, p ∈ piv ∨ p ∈ cs) ∧ (redGo M piv cs).2.length ≤ piv.length + cs.length
  | [], M, piv, h, hp => ⟨rfl, h, hp, fun p hh => .inl hh, by unfold redGo; simp⟩
  | col :: cs, M, piv, h, hp => by
    unfold redGo
    cases hf : findP M col piv.length with
    | none =>
      obtain ⟨h1, h2, h3, h4, h5⟩ := redGo_facts c cs M piv h hp
      exact ⟨h1, h2, h3, fun p hh => (h4 p hh).imp id (List.mem_cons_of_mem _), by simp only [List.length_cons]; omega⟩
    | some i =>
      obtain ⟨hl1, hl2, _⟩ := findP_lt hf
      have hpl : (pivStep M piv.length col i).length = M.length := pivStep_len _ _ _ _
      obtain ⟨h1, h2, h3, h4, h5⟩ := redGo_facts c cs (pivStep M piv.length col i) (piv ++ [col]) (h.step col (by omega) hl2) (by rw [hpl]; simp; omega)
      refine ⟨h1.trans hpl, h2, by rw [hpl] at h3; exact h3, fun p hh => ?_, by simp only [List.length_append, List.length_cons, List.length_nil] at h5 ⊢; omega⟩
      rcases h4 p hh with hh | hh
      · rcases List.mem_append.1 hh with hh | hh
        · exact .inl hh
        · rw [List.mem_singleton.1 hh]; exact .inr (List.mem_cons_self ..)
      · exact .inr (List.mem_cons_of_mem _ hh)
theorem red_len {M : List (List UInt8)} {c : Nat} (h : Rect M c) (n : Nat) : (red M n).1.length = M.length := (redGo_facts c _ M [] h (by simp)).1
theorem red_rect {M : List (List UInt8)} {c : Nat} (h : Rect M c) (n : Nat) : Rect (red M n).1 c := (redGo_facts c _ M [] h (by simp)).2.1
theorem red_piv_le {M : List (List UInt8)} {c : Nat} (h : Rect M c) (n : Nat) : (red M n).2.length ≤ M.length := (redGo_facts c _ M [] h (by simp)).2.2.1
theorem red_piv_lt {M : List (List UInt8)} {c : Nat} (h : Rect M c) (n : Nat) : ∀ p ∈ (red M n).2, p < n := fun p hp => by
  rcases (redGo_facts c _ M [] h (by simp)).2.2.2.1 p hp with hh | hh
  · cases hh
  · simpa using hh
theorem red_piv_le_n {M : List (List UInt8)} {c : Nat} (h : Rect M c) (n : Nat) : (red M n).2.length ≤ n := by
  have := (redGo_facts c (List.range n) M [] h (by simp)).2.2.2.2
  show (redGo M [] (List.range n)).2.length ≤ n
  simpa using this
theorem wid_zero (M : List (List UInt8)) : wid M 0 = M := by
  unfold wid pad0
  simp
theorem Ok.rect {M : List (List UInt8)} (h : Ok M) : Rect M (cols M) := h.same

/-- The reduced rows, and the pivots, of a valid matrix. -/
def redR (M : List (List UInt8)) : List (List UInt8) := (red M (cols M)).1.take (red M (cols M)).2.length
def redP (M : List (List UInt8)) : List Nat := (red M (cols M)).2
/-- A slice of numbers that reads as a list. -/
def IntsAt (w : World) (v : Value) (l : List Nat) : Prop := ∃ a c, v = .slice a l.length c ∧ l.length ≤ c ∧ c ≤ maxLen ∧ (a = none → c = 0) ∧ Rds w w.heap.size a (l.map pv)
theorem OwnP.ints {w : World} {base : Nat} {v : Value} {l : List Nat} (h : OwnP w base v l) : IntsAt w v l := by
  obtain ⟨A, c, h1, h2, h3, h4, h5⟩ := own_form h
  exact ⟨A, c, h1, h2, h3, h4, h5⟩
/-- What Reduce ends with. -/
def RedRet (w : World) (R : List (List UInt8)) (piv : List Nat) (E : Int) (e : Ending) (w' : World) : Prop :=
  (∃ A c vp, e = .returned (.tuple #[.slice A R.length c, vp, .int .i64 E]) ∧ R.length ≤ c ∧ c ≤ maxLen ∧ (A = none → c = 0) ∧ Mat w' w'.heap.size A R ∧ IntsAt w' vp piv) ∧ Below w.heap.size w w'

end Go.Proofs.YtcnljemnkhmfcaaDoor
