/-
  Matrices of bytes in memory: a slice of slices. (General: no function of the project.)
-/
import Derived.Test.YtgajlgnniidgmaaDoorKc
import Derived.Test.YtgajlgnniidgmaaDoorOpn
namespace Go.Proofs.YtgajlgnniidgmaaDoor
set_option linter.unusedVariables false
open Go.RowKit

/-- A value is a slice that reads as these bytes. -/
def RowAt (w : World) (B : Nat) (v : Value) (m : List UInt8) : Prop := ∃ a c, v = .slice a m.length c ∧ m.length ≤ c ∧ c ≤ maxLen ∧ (a = none → c = 0) ∧ Rds w B a (m.map bv)
/-- An address where these rows are read. -/
def Mat (w : World) (B : Nat) (A : Option Addr) (M : List (List UInt8)) : Prop :=
  ∃ vs : List Value, vs.length = M.length ∧ Rds w B A vs ∧ ∀ (i : Nat) (v : Value) (m : List UInt8), vs[i]? = some v → M[i]? = some m → RowAt w B v m
def cols (M : List (List UInt8)) : Nat := (M.headD []).length
section
variable {w w' : World} {B B' : Nat} {A : Option Addr} {M : List (List UInt8)} {v : Value} {m : List UInt8}
theorem RowAt.below (h : RowAt w B v m) (hb : Below B w w') : RowAt w' B v m := by
  obtain ⟨a, c, h1, h2, h3, h4, h5⟩ := h
  exact ⟨a, c, h1, h2, h3, h4, h5.below hb⟩
theorem RowAt.more (h : RowAt w B v m) (hB : B ≤ B') : RowAt w B' v m := by
  obtain ⟨a, c, h1, h2, h3, h4, h5⟩ := h
  exact ⟨a, c, h1, h2, h3, h4, h5.more hB⟩
theorem Mat.below (h : Mat w B A M) (hb : Below B w w') : Mat w' B A M := by
  obtain ⟨vs, h1, h2, h3⟩ := h
  exact ⟨vs, h1, h2.below hb, fun i v m hv hm => (h3 i v m hv hm).below hb⟩
theorem Mat.more (h : Mat w B A M) (hB : B ≤ B') : Mat w B' A M := by
  obtain ⟨vs, h1, h2, h3⟩ := h
  exact ⟨vs, h1, h2.more hB, fun i v m hv hm => (h3 i v m hv hm).more hB⟩
theorem Mat.at (h : Mat w B A M) {i : Nat} (hi : M[i]? = some m) : ∃ ad v, A = some ad ∧ ad.block < B ∧ w.cell? (ad.add i) = some v ∧ RowAt w B v m := by
  obtain ⟨vs, h1, h2, h3⟩ := h
  have hl := (List.getElem?_eq_some_iff.1 hi).1
  obtain ⟨v, hv⟩ : ∃ v, vs[i]? = some v := ⟨_, List.getElem?_eq_getElem (by omega)⟩
  obtain ⟨ad, hA, hab, hc⟩ := h2.look hv
  exact ⟨ad, v, hA, hab, hc, h3 i v m hv hi⟩
theorem Mat.nil : Mat w B A [] := ⟨[], rfl, Rds.empty, fun i v m hv => by simp at hv⟩
theorem Mat.take (h : Mat w B A M) (k : Nat) : Mat w B A (M.take k) := by
  obtain ⟨vs, h1, h2, h3⟩ := h
  refine ⟨vs.take k, by simp [h1], h2.take k, fun i v m hv hm => ?_⟩
  have hik : i < k := by
    rcases Nat.lt_or_ge i k with hh | hh
    · exact hh
    · rw [List.getElem?_eq_none (by rw [List.length_take]; omega)] at hv; cases hv
  rw [List.getElem?_take_of_lt hik] at hv hm
  exact h3 i v m hv hm
theorem Mat.size {i : Nat} (h : Mat w B A M) (hi : M[i]? = some m) : m.length ≤ maxLen := by
  obtain ⟨_, _, _, _, _, a, c, _, h1, h2, _⟩ := h.at hi
  omega
theorem Mat.drewN {n : Nat} (h : Mat w B A M) : Mat (w.drewN n) B A M := h
theorem RowAt.drewN {n : Nat} (h : RowAt w B v m) : RowAt (w.drewN n) B v m := h
theorem Mat.head (h : Mat w B A M) {i : Nat} (hi : M[i]? = some m) {j : Nat} {b : UInt8} (hj : m[j]? = some b) : ∃ ad a c, A = some ad ∧ ad.block < B ∧ w.cell? (ad.add i) = some (.slice (some a) m.length c) ∧ a.block < B ∧ w.cell? (a.add j) = some (bv b) := by
  obtain ⟨ad, v, hA, hab, hc, a, c, rfl, _, _, _, hr⟩ := h.at hi
  obtain ⟨a', ha, hb, hc'⟩ := hr.look (k := j) (u := bv b) (by rw [List.getElem?_map, hj]; rfl)
  subst ha
  exact ⟨ad, a', c, hA, hab, hc, hb, hc'⟩
end

/-- A slice of slices of bytes that came in. -/
structure SlM (w : World) (A : Option Addr) (n c : Nat) (M : List (List UInt8)) : Prop where
  len : n = M.length
  cap : n ≤ c
  max : c ≤ maxLen
  nil : A = none → c = 0
  reach : n ≤ 140737488351232
  mat : Mat w w.heap.size A M
end Go.Proofs.YtgajlgnniidgmaaDoor
