/-
  Arguments, opened: a slice that came in reads as a list.
-/
import Derived.Test.YtbkgbjimooobbaaKb
import Derived.Test.YtbkgbjimooobbaaWmm
import Derived.ProofKit
import Derived.OpenShut
import Derived.ShutString
import Derived.SliceStrings
import Derived.Deep.Slices
import Derived.ChangeOld
import Derived.Below
import Derived.SizedLaws
namespace Go.Proofs.Ytbkgbjimooobbaa
open Go.ChangeShapes Go.WideShapes Go.ChangeAt Go.RowKit

theorem rds_cells {w : World} {ad : Addr} {len : Nat} (xs : List Value) (_hl : xs.length = len) (h : ∀ i u, xs[i]? = some u → w.cell? (ad.add i) = some u) : Rds w w.heap.size (some ad) xs := fun hn => by
  refine ⟨ad, rfl, ?_, h⟩
  have hpos : 0 < xs.length := List.length_pos_iff.2 hn
  have := World.block_lt_of_cell? w _ (h 0 xs[0] (List.getElem?_eq_getElem hpos))
  rwa [add_block] at this

/-- A slice of bytes, of integers, of strings, of digests that came in: what the walk is told. -/
structure SlB (w : World) (A : Option Addr) (n c : Nat) (l : List UInt8) : Prop where
  len : n = l.length
  cap : n ≤ c
  max : c ≤ maxLen
  nil : A = none → c = 0
  reach : n ≤ 140737488351232
  rds : Rds w w.heap.size A (l.map bv)
structure SlI (w : World) (A : Option Addr) (n c : Nat) (l : List Int) : Prop where
  len : n = l.length
  cap : n ≤ c
  max : c ≤ maxLen
  nil : A = none → c = 0
  reach : n ≤ 140737488351232
  rds : Rds w w.heap.size A (l.map iv)
  fits : ∀ x ∈ l, Wm.Fits x
structure SlS (w : World) (A : Option Addr) (n c : Nat) (l : List (List UInt8)) : Prop where
  len : n = l.length
  cap : n ≤ c
  max : c ≤ maxLen
  nil : A = none → c = 0
  reach : n ≤ 140737488351232
  rds : Rds w w.heap.size A (l.map sv)
  size : ∀ x ∈ l, x.length ≤ maxLen
structure SlD (w : World) (A : Option Addr) (n c : Nat) (l : List (List UInt8)) : Prop where
  len : n = l.length
  cap : n ≤ c
  max : c ≤ maxLen
  nil : A = none → c = 0
  reach : n ≤ 140737488351232
  rds : Rds w w.heap.size A ((l.flatMap id).map bv)
  size : ∀ x ∈ l, x.length = 16


section
variable {H : Type} {enc : TypeId × Value → H} {P : Program} {w : World} {base : Nat} {spare : Nat → Bool} {held : Bool}
/-- The datum of a slice that came in: nil, or as many elements as it has. -/
theorem slice_datum {t e : TypeId} {fuel : Nat} {A : Option Addr} {n c : Nat} {d : DataW H} {p : List MemPlace} (ht : P.underlying t = some (.slice e))
    (h : DataW.trod enc P w base spare held fuel t (Value.slice A n c).cells.toList = some (d, p)) : (d = .nil ∧ n = 0) ∨ ∃ el sp, d = .slice el sp ∧ el.length = n := by
  rcases Go.Deep.open_slice ht h with ⟨hcs, hx⟩ | ⟨ad, len, cap, m, k, D, Pl, hcs, _, hl, hm, hmm, hx, hel⟩
  · simp [Value.cells] at hcs
    obtain ⟨rfl, rfl, rfl⟩ := hcs
    simp only [Prod.mk.injEq] at hx
    exact .inl ⟨hx.1, rfl⟩
  · simp [Value.cells] at hcs
    obtain ⟨rfl, rfl, rfl⟩ := hcs
    simp only [Prod.mk.injEq] at hx
    exact .inr ⟨_, _, hx.1, by simp⟩
theorem reach_slice {ts : List TypeId} {ds : List (DataW H)} {t e : TypeId} {n j k : Nat} {d : DataW H} (hz : (DataW.weightsEach P ts ds).all (· ≤ reachBytes) = true) (ht : ts[j]? = some t) (hd : ds[j]? = some d) (hu : P.underlying t = some (.slice e)) (hb : P.bytesOf e = k + 1)
    (h : (d = .nil ∧ n = 0) ∨ ∃ el sp, d = .slice el sp ∧ el.length = n) : n ≤ 140737488351232 := by
  rcases h with ⟨_, rfl⟩ | ⟨el, sp, rfl, rfl⟩
  · omega
  · have := sized_slice hz ht hd hu
    rw [hb] at this
    have h2 : el.length + sp.length ≤ (el.length + sp.length) * (k + 1) := Nat.le_mul_of_pos_right _ (Nat.succ_pos k)
    have h3 : reachBytes = 140737488351232 := rfl
    omega
theorem reach_string {ts : List TypeId} {ds : List (DataW H)} {t : TypeId} {j : Nat} {s : ByteArray} (hz : (DataW.weightsEach P ts ds).all (· ≤ reachBytes) = true) (ht : ts[j]? = some t) (hd : ds[j]? = some (.lit (.string s.data.toList))) : s.size ≤ 140737488351232 := by
  have := sized_string hz ht hd
  have h3 : reachBytes = 140737488351232 := rfl
  rw [size_of] at this
  omega
theorem open_slB {t e : TypeId} {fuel : Nat} {A : Option Addr} {n c : Nat} {x : DataW H × List MemPlace} (ht : P.underlying t = some (.slice e)) (he : P.underlying e = some (.int .u8)) (hce : P.cellsOf e = 1)
    (h : DataW.trod enc P w base spare held fuel t (Value.slice A n c).cells.toList = some x) (hz : n ≤ 140737488351232) : ∃ l, SlB w A n c l := by
  rcases open_ints ht he hce h with ⟨hcs, _⟩ | ⟨ad, len, cap, zs, hcs, _, hl, hm, hzl, _, hcell, hwz⟩
  · simp [Value.cells] at hcs
    obtain ⟨rfl, rfl, rfl⟩ := hcs
    exact ⟨[], rfl, Nat.le_refl _, Nat.zero_le _, fun _ => rfl, hz, Rds.empty⟩
  · simp [Value.cells] at hcs
    obtain ⟨rfl, rfl, rfl⟩ := hcs
    have hlen : n ≤ zs.length := by rw [hzl]; split <;> omega
    have hll : ((zs.take n).map fun z => UInt8.ofNat z.toNat).length = n := by simp; omega
    refine ⟨(zs.take n).map fun z => UInt8.ofNat z.toNat, hll.symm, hl, hm, (fun h => by cases h), hz, rds_cells (len := n) _ (by simp; omega) ?_⟩
    intro i u hu
    have hi : i < n := by
      rcases Nat.lt_or_ge i n with hi | hi
      · exact hi
      · rw [List.getElem?_eq_none (by simp; omega)] at hu; cases hu
    have hc := hcell i (by omega)
    have hb := bounds_u8 (hwz zs[i] (List.getElem_mem (by omega)))
    rw [hc, ← hu]
    simp [hi, List.getD_eq_getElem?_getD, show i < zs.length from by omega]
    rw [bv_ofNat (by omega)]
    congr 1
    omega
theorem open_slI {t e : TypeId} {fuel : Nat} {A : Option Addr} {n c : Nat} {x : DataW H × List MemPlace} (ht : P.underlying t = some (.slice e)) (he : P.underlying e = some (.int .i64)) (hce : P.cellsOf e = 1)
    (h : DataW.trod enc P w base spare held fuel t (Value.slice A n c).cells.toList = some x) (hz : n ≤ 140737488351232) : ∃ l, SlI w A n c l := by
  rcases open_ints ht he hce h with ⟨hcs, _⟩ | ⟨ad, len, cap, zs, hcs, _, hl, hm, hzl, _, hcell, hwz⟩
  · simp [Value.cells] at hcs
    obtain ⟨rfl, rfl, rfl⟩ := hcs
    exact ⟨[], rfl, Nat.le_refl _, Nat.zero_le _, fun _ => rfl, hz, Rds.empty, by simp⟩
  · simp [Value.cells] at hcs
    obtain ⟨rfl, rfl, rfl⟩ := hcs
    have hlen : n ≤ zs.length := by rw [hzl]; split <;> omega
    have hll : (zs.take n).length = n := by simp; omega
    refine ⟨zs.take n, hll.symm, hl, hm, (fun h => by cases h), hz, rds_cells (len := n) _ (by simp; omega) ?_, fun y hy => bounds_i64 (hwz y (List.mem_of_mem_take hy))⟩
    intro i u hu
    have hi : i < n := by
      rcases Nat.lt_or_ge i n with hi | hi
      · exact hi
      · rw [List.getElem?_eq_none (by simp; omega)] at hu; cases hu
    rw [hcell i (by omega), ← hu]
    simp [hi, List.getD_eq_getElem?_getD, show i < zs.length from by omega, iv]
theorem open_slS {t e : TypeId} {fuel : Nat} {A : Option Addr} {n c : Nat} {x : DataW H × List MemPlace} (ht : P.underlying t = some (.slice e)) (he : P.underlying e = some .string) (hce : P.cellsOf e = 1)
    (h : DataW.trod enc P w base spare held fuel t (Value.slice A n c).cells.toList = some x) (hz : n ≤ 140737488351232) : ∃ l, SlS w A n c l := by
  rcases open_strings ht he hce h with ⟨hcs, _⟩ | ⟨ad, len, cap, ss, hcs, _, hl, hm, hzl, _, hcell, hws⟩
  · simp [Value.cells] at hcs
    obtain ⟨rfl, rfl, rfl⟩ := hcs
    exact ⟨[], rfl, Nat.le_refl _, Nat.zero_le _, fun _ => rfl, hz, Rds.empty, by simp⟩
  · simp [Value.cells] at hcs
    obtain ⟨rfl, rfl, rfl⟩ := hcs
    have hlen : n ≤ ss.length := by rw [hzl]; split <;> omega
    have hll : ((ss.take n).map fun s => s.data.toList).length = n := by simp; omega
    refine ⟨(ss.take n).map fun s => s.data.toList, hll.symm, hl, hm, (fun h => by cases h), hz, rds_cells (len := n) _ (by simp; omega) ?_, fun y hy => ?_⟩
    · intro i u hu
      have hi : i < n := by
        rcases Nat.lt_or_ge i n with hi | hi
        · exact hi
        · rw [List.getElem?_eq_none (by simp; omega)] at hu; cases hu
      rw [hcell i (by omega), ← hu]
      simp [hi, List.getD_eq_getElem?_getD, show i < ss.length from by omega]
      exact sv_of _
    · obtain ⟨s, hs, rfl⟩ := List.mem_map.1 hy
      rw [size_of]
      exact hws s (List.mem_of_mem_take hs)
end
theorem u8_nat {x : Int} (h : (Lit.int .u8 x).wf = true) : ∃ n : Nat, x = (n : Int) ∧ n < 256 := by
  have hx : 0 ≤ x ∧ x ≤ 255 := by simpa [Lit.wf, IntKind.min, IntKind.max, IntKind.signed, IntKind.bits] using h
  exact ⟨x.toNat, by omega, by omega⟩
end Go.Proofs.Ytbkgbjimooobbaa
