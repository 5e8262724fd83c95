/-
  Contracts of stage 4: sameLength, Combine.
-/
import Derived.Test.YtgajlgnniidgmaaDoorGfv
namespace Go.Proofs.YtgajlgnniidgmaaDoor
set_option linter.unusedVariables false
set_option linter.unusedSimpArgs false
open Go.RowKit
theorem combAt_step (coef : List UInt8) (parts : List (List UInt8)) (i k : Nat) (c : UInt8) (p : List UInt8) (hc : coef[k]? = some c) (hp : parts[k]? = some p) :
    ((List.zip coef parts).take (k + 1)).foldl (fun s p => s ^^^ Gf.mul p.1 (p.2.getD i 0)) 0 = ((List.zip coef parts).take k).foldl (fun s p => s ^^^ Gf.mul p.1 (p.2.getD i 0)) 0 ^^^ Gf.mul c (p.getD i 0) := by
  have hz : (List.zip coef parts)[k]? = some (c, p) := by rw [List.getElem?_zip_eq_some]; exact ⟨hc, hp⟩
  rw [List.take_add_one, hz, Option.toList_some, List.foldl_append]
  rfl

theorem fit_comb {coef : List UInt8} {parts : List (List UInt8)} (h : parts = []) : Gf.comb coef parts = [] := by subst h; rfl

end Go.Proofs.YtgajlgnniidgmaaDoor
