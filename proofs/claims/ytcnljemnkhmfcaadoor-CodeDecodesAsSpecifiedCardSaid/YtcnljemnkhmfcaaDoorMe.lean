/-
  Contracts of stage 5: Product.
-/
import Derived.Test.YtcnljemnkhmfcaaDoorMd
import Derived.Test.YtcnljemnkhmfcaaDoorGfw
import Derived.Deep.QuietTactic
import Derived.BigQuiet
namespace Go.Proofs.YtcnljemnkhmfcaaDoor
set_option linter.unusedVariables false
set_option linter.unusedSimpArgs false
open Go.RowKit

theorem combAt_snoc (r : List UInt8) (Bm : List (List UInt8)) (k j : Nat) (x : UInt8) (p : List UInt8) (hx : r[j]? = some x) (hp : Bm[j]? = some p) : Gf.combAt (r.take (j + 1)) Bm k = Gf.combAt (r.take j) Bm k ^^^ Gf.mul x (p.getD k 0) := by
  have hz : (r.take (j + 1)).zip Bm = (r.take j).zip Bm ++ [(x, p)] := by
    have hzz : ∀ a : List UInt8, a.zip Bm = List.zipWith Prod.mk a Bm := fun _ => rfl
    rw [hzz, hzz]
    apply List.ext_getElem?
    intro i
    have hjr := (List.getElem?_eq_some_iff.1 hx).1
    have hjB := (List.getElem?_eq_some_iff.1 hp).1
    rcases Nat.lt_trichotomy i j with h | h | h
    · rw [List.getElem?_append_left (by rw [List.length_zipWith, List.length_take]; omega), List.getElem?_zipWith, List.getElem?_zipWith, List.getElem?_take_of_lt (by omega), List.getElem?_take_of_lt h]
    · subst h
      rw [List.getElem?_append_right (by rw [List.length_zipWith, List.length_take]; omega), List.getElem?_zipWith, List.getElem?_take_of_lt (by omega), hx, hp, List.length_zipWith, List.length_take, show i - min (min i r.length) Bm.length = 0 by omega]
      rfl
    · rw [List.getElem?_eq_none (by rw [List.length_zipWith, List.length_take]; omega), List.getElem?_eq_none (by rw [List.length_append, List.length_zipWith, List.length_take, List.length_singleton]; omega)]
  unfold Gf.combAt
  rw [hz, List.foldl_append]
  rfl

/-- The product. -/
def prd (M1 M2 : List (List UInt8)) : List (List UInt8) := matF (fun i k => Gf.combAt (M1.getD i []) M2 k) M1.length (cols M2)
/-- The error of Product. -/
def prdE (M1 M2 : List (List UInt8)) : Int := if chk M1 ≠ 0 then chk M1 else if chk M2 ≠ 0 then chk M2 else if cols M1 ≠ M2.length then 1 else 0
theorem prdE_ok {M1 M2 : List (List UInt8)} (h : prdE M1 M2 = 0) : chk M1 = 0 ∧ chk M2 = 0 ∧ cols M1 = M2.length := by
  unfold prdE at h
  split at h
  · rename_i h1; exact absurd h h1
  · rename_i h1
    split at h
    · rename_i h2; exact absurd h h2
    · rename_i h2
      split at h
      · cases h
      · rename_i h3
        exact ⟨by simpa using h1, by simpa using h2, by simpa using h3⟩

end Go.Proofs.YtcnljemnkhmfcaaDoor
