/-
  A slice of 16-bit numbers that came in.
-/
import Derived.Test.YtbilfhipmebmlaaDoorOpn
namespace Go.Proofs.YtbilfhipmebmlaaDoor
set_option linter.unusedVariables false
set_option linter.unusedSimpArgs false
open Go.ChangeShapes Go.WideShapes Go.ChangeAt Go.RowKit

def hv (n : Nat) : Value := .int .u16 n
structure SlH (w : World) (A : Option Addr) (n c : Nat) (l : List Nat) : Prop where
  len : n = l.length
  cap : n ≤ c
  max : c ≤ maxLen
  nil : A = none → c = 0
  reach : n ≤ 140737488351232
  rds : Rds w w.heap.size A (l.map hv)
  fits : ∀ x ∈ l, x < 65536
theorem bounds_u16 {x : Int} (h : (Lit.int .u16 x).wf = true) : 0 ≤ x ∧ x ≤ 65535 := by simpa [Lit.wf, IntKind.min, IntKind.max, IntKind.signed, IntKind.bits] using h
section
variable {H : Type} {enc : TypeId × Value → H} {P : Program} {w : World} {base : Nat} {spare : Nat → Bool} {held : Bool}
theorem open_slH {t e : TypeId} {fuel : Nat} {A : Option Addr} {n c : Nat} {x : DataW H × List MemPlace} (ht : P.underlying t = some (.slice e)) (he : P.underlying e = some (.int .u16)) (hce : P.cellsOf e = 1)
    (h : DataW.trod enc P w base spare held fuel t (Value.slice A n c).cells.toList = some x) (hz : n ≤ 140737488351232) : ∃ l, SlH w A n c l := by
  rcases open_ints ht he hce h with ⟨hcs, _⟩ | ⟨ad, len, cap, zs, hcs, _, hl, hm, hzl, _, hcell, hwz⟩
  · simp [Value.cells] at hcs
    obtain ⟨rfl, rfl, rfl⟩ := hcs
    exact ⟨[], rfl, Nat.le_refl _, Nat.zero_le _, fun _ => rfl, hz, Rds.empty, by simp⟩
  · simp [Value.cells] at hcs
    obtain ⟨rfl, rfl, rfl⟩ := hcs
    have hlen : n ≤ zs.length := by rw [hzl]; split <;> omega
    have hll : ((zs.take n).map fun z => z.toNat).length = n := by simp; omega
    refine ⟨(zs.take n).map fun z => z.toNat, hll.symm, hl, hm, (fun h => by cases h), hz, rds_cells (len := n) _ (by simp; omega) ?_, fun y hy => ?_⟩
    · intro i u hu
      have hi : i < n := by
        rcases Nat.lt_or_ge i n with hi | hi
        · exact hi
        · rw [List.getElem?_eq_none (by simp; omega)] at hu; cases hu
      have hc := hcell i (by omega)
      have hb := bounds_u16 (hwz zs[i] (List.getElem_mem (by omega)))
      rw [hc, ← hu]
      simp [hi, List.getD_eq_getElem?_getD, show i < zs.length from by omega, hv]
      omega
    · obtain ⟨z, hz2, rfl⟩ := List.mem_map.1 hy
      have := bounds_u16 (hwz z (List.mem_of_mem_take hz2))
      omega
end
end Go.Proofs.YtbilfhipmebmlaaDoor
