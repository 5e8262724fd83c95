/-
  Contracts of stage 5: the reference's Product.
-/
import Derived.Test.YtcnljemnkhmfcaaDoorMrcd
import Derived.Test.YtcnljemnkhmfcaaDoorMe
import Derived.Test.YtcnljemnkhmfcaaDoorRg
namespace Go.Proofs.YtcnljemnkhmfcaaDoor
set_option linter.unusedVariables false
set_option linter.unusedSimpArgs false
open Go.RowKit

theorem comR_eq (coef : List UInt8) (rows : List (List UInt8)) (n : Nat) (hl : rows.length ≤ coef.length) : ∀ j, j ≤ rows.length → comR coef rows n j = rowF (fun k => Gf.combAt (coef.take j) rows k) n
  | 0, _ => by
    unfold comR rowF Gf.combAt
    apply List.ext_getElem?
    intro i
    rcases Nat.lt_or_ge i n with h | h
    · simp [h]
    · simp [h]
  | j + 1, hj => by
    obtain ⟨x, hx⟩ : ∃ x, coef[j]? = some x := ⟨_, List.getElem?_eq_getElem (by omega)⟩
    obtain ⟨p, hp⟩ : ∃ x, rows[j]? = some x := ⟨_, List.getElem?_eq_getElem (by omega)⟩
    rw [comR_next hx hp, comR_eq coef rows n hl j (by omega)]
    unfold addR
    rw [rowF_len]
    apply List.ext_getElem?
    intro i
    rcases Nat.lt_or_ge i n with h | h
    · rw [rowF_get _ h, rowF_get _ h, combAt_snoc coef rows i j x p hx hp, List.getD_eq_getElem?_getD, rowF_get _ h]
      rfl
    · rw [List.getElem?_eq_none (by rw [rowF_len]; exact h), List.getElem?_eq_none (by rw [rowF_len]; exact h)]
theorem prd_get {M1 M2 : List (List UInt8)} {k : Nat} {m : List UInt8} (hm : M1[k]? = some m) (hl : m.length = M2.length) : (prd M1 M2)[k]? = some (comR m M2 (cols M2) M2.length) := by
  have hk := (List.getElem?_eq_some_iff.1 hm).1
  unfold prd
  rw [matF_get _ hk, comR_eq m M2 (cols M2) (by omega) _ (Nat.le_refl _), List.take_of_length_le (by omega), List.getD_eq_getElem?_getD, hm]
  rfl

end Go.Proofs.YtcnljemnkhmfcaaDoor
