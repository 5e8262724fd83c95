/-
  The tables that a row lists, read out of memory; small arguments opened.
-/
import Derived.Test.YtlgokfgiemaklaaDoorRows
import Derived.Test.YtlgokfgiemaklaaDoorOpn
import Derived.Test.YtlgokfgiemaklaaDoorCmp
import Derived.Lib.LaidU8
import Derived.OpenShut
namespace Go.Proofs.YtlgokfgiemaklaaDoor
open Go.ChangeShapes Go.WideShapes Go.ChangeAt Go.RowKit

theorem rounds_data {H : Type} : (Rows.laid_quietus_hash_rounds : DataW H) = Lib.tabData .u32 (Sha.table.map fun n => ((n : Nat) : Int)) := rfl
theorem constants_data {H : Type} : (Rows.laid_quietus_quietusref02_constants : DataW H) = Lib.tabData .u32 (Sha.table.map fun n => ((n : Nat) : Int)) := rfl
theorem tab_of_cells {w : World} {n : String} {g : Nat} (hg : Tryd.prog.globalNamed n = some g) {cs : Array Value} (hv : w.var? Tryd.prog n = some cs) (hcs : cs.toList = (Sha.table.map fun n => ((n : Nat) : Int)).map fun z => Value.int .u32 z) : Tab g w := by
  have hc : ∀ j, j < 64 → w.cell? ⟨g, j, none⟩ = some (uv (Sha.table.getD j 0)) := fun j hj => by
    have h := World.var?_cell hg hv j
    rw [h]
    have : cs[j]? = cs.toList[j]? := by simp
    rw [this, hcs, List.map_map, List.getElem?_map, List.getD_eq_getElem?_getD, List.getElem?_eq_getElem (by rw [Sha.table_len]; exact hj)]
    rfl
  refine ⟨?_, hc⟩
  exact World.block_lt_of_cell? w _ (hc 0 (by decide))
theorem tab_of_rounds {w : World} (h : Lib.VarReads Tryd.prog w "quietus/hash.rounds" Rows.laid_quietus_hash_rounds) : Tab 2 w := by
  obtain ⟨g, t, cs, fuel, p, hg, ht, hv, hd⟩ := h
  obtain rfl := Option.some.inj ((show Tryd.prog.globalNamed "quietus/hash.rounds" = some 2 by kernel_rfl).symm.trans hg)
  obtain rfl := Option.some.inj ((show (Tryd.prog.globals[2]?).map (·.type) = some 126 by kernel_rfl).symm.trans ht)
  rw [rounds_data] at hd
  exact tab_of_cells hg hv (Lib.cells_of_tab Tryd.underlying126 Tryd.underlying99 (by kernel_rfl) (by kernel_rfl) hd)
theorem tab_of_constants {w : World} (h : Lib.VarReads Tryd.prog w "quietus/quietusref02.constants" Rows.laid_quietus_quietusref02_constants) : Tab 3 w := by
  obtain ⟨g, t, cs, fuel, p, hg, ht, hv, hd⟩ := h
  obtain rfl := Option.some.inj ((show Tryd.prog.globalNamed "quietus/quietusref02.constants" = some 3 by kernel_rfl).symm.trans hg)
  obtain rfl := Option.some.inj ((show (Tryd.prog.globals[3]?).map (·.type) = some 126 by kernel_rfl).symm.trans ht)
  rw [constants_data] at hd
  exact tab_of_cells hg hv (Lib.cells_of_tab Tryd.underlying126 Tryd.underlying99 (by kernel_rfl) (by kernel_rfl) hd)
end Go.Proofs.YtlgokfgiemaklaaDoor
