/-
  The table of powers that a row lists, read out of memory.
-/
import Derived.Test.YtgajlgnniidgmaaDoorRows
import Derived.Test.YtgajlgnniidgmaaDoorOpn
import Derived.Test.YtgajlgnniidgmaaDoorGfa
import Derived.Lib.LaidU8
import Derived.OpenShut
namespace Go.Proofs.YtgajlgnniidgmaaDoor
open Go.ChangeShapes Go.WideShapes Go.ChangeAt Go.RowKit

def pows : List Int := (List.range 247).map fun j => ((Gf.ex (j + 8)).toNat : Int)
theorem powers_data {H : Type} : (Rows.laid_quietus_gf_powers : DataW H) = Lib.tabData .u8 pows := by kernel_rfl
theorem ptab_of {w : World} (h : Lib.VarReads Tryd.prog w "quietus/gf.powers" Rows.laid_quietus_gf_powers) : PTab 2 w := by
  obtain ⟨g, t, cs, fuel, p, hg, ht, hv, hd⟩ := h
  obtain rfl := Option.some.inj ((show Tryd.prog.globalNamed "quietus/gf.powers" = some 2 by kernel_rfl).symm.trans hg)
  obtain rfl := Option.some.inj ((show (Tryd.prog.globals[2]?).map (·.type) = some 113 by kernel_rfl).symm.trans ht)
  rw [powers_data] at hd
  have hcs := Lib.cells_of_tab Tryd.underlying113 Tryd.underlying5 (by kernel_rfl) (by kernel_rfl) hd
  have hc : ∀ j, j < 247 → w.cell? ⟨2, j, none⟩ = some (bv (Gf.ex (j + 8))) := fun j hj => by
    have h := World.var?_cell hg hv j
    rw [h]
    have : cs[j]? = cs.toList[j]? := by simp
    rw [this, hcs]
    unfold pows
    rw [List.map_map, List.getElem?_map, List.getElem?_range hj]
    rfl
  exact ⟨World.block_lt_of_cell? w _ (hc 0 (by decide)), hc⟩
end Go.Proofs.YtgajlgnniidgmaaDoor
