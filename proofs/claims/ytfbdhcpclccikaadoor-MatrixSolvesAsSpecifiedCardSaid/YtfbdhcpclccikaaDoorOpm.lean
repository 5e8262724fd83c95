/-
  Arguments, opened: slices of slices of bytes.
-/
import Derived.Test.YtfbdhcpclccikaaDoorOpa
import Derived.Test.YtfbdhcpclccikaaDoorMt
namespace Go.Proofs.YtfbdhcpclccikaaDoor
open Go.ChangeShapes Go.WideShapes Go.ChangeAt Go.RowKit

section
variable {H : Type} {enc : TypeId × Value → H} {P : Program} {w : World} {base : Nat} {spare : Nat → Bool} {held : Bool}
theorem open_rowB {t e : TypeId} {fuel : Nat} {u : Value} {x : DataW H × List MemPlace} (ht : P.underlying t = some (.slice e)) (he : P.underlying e = some (.int .u8)) (hce : P.cellsOf e = 1)
    (h : DataW.trod enc P w base spare held fuel t [u] = some x) : ∃ m, RowAt w w.heap.size u m := by
  rcases open_ints ht he hce h with ⟨hcs, _⟩ | ⟨ad, len, cap, zs, hcs, _, hl, hm, hzl, _, hcell, hwz⟩
  · have : u = .slice none 0 0 := by simpa using hcs
    exact ⟨[], none, 0, this, Nat.le_refl _, Nat.zero_le _, fun _ => rfl, Rds.empty⟩
  · have hu0 : u = .slice (some ad) len cap := by simpa using hcs
    have hlen : len ≤ zs.length := by rw [hzl]; split <;> omega
    have hll : ((zs.take len).map fun z => UInt8.ofNat z.toNat).length = len := by simp; omega
    refine ⟨(zs.take len).map fun z => UInt8.ofNat z.toNat, some ad, cap, by rw [hll]; exact hu0, by rw [hll]; exact hl, hm, (fun h => by cases h), rds_cells (len := len) _ (by simp; omega) ?_⟩
    intro i u hu
    have hi : i < len := by
      rcases Nat.lt_or_ge i len with hi | hi
      · exact hi
      · rw [List.getElem?_eq_none (by simp; omega)] at hu; cases hu
    have hc := hcell i (by omega)
    have hb := bounds_u8 (hwz zs[i] (List.getElem_mem (by omega)))
    rw [hc, ← hu]
    simp [hi, List.getD_eq_getElem?_getD, show i < zs.length from by omega]
    rw [bv_ofNat (by omega)]
    congr 1
    omega
theorem open_slM {t e b : TypeId} {fuel : Nat} {A : Option Addr} {n c : Nat} {x : DataW H × List MemPlace} (ht : P.underlying t = some (.slice e)) (he : P.underlying e = some (.slice b)) (hb : P.underlying b = some (.int .u8)) (hce : P.cellsOf e = 1) (hcb : P.cellsOf b = 1)
    (h : DataW.trod enc P w base spare held fuel t (Value.slice A n c).cells.toList = some x) : ∃ M : List (List UInt8), n = M.length ∧ n ≤ c ∧ c ≤ maxLen ∧ (A = none → c = 0) ∧ Mat w w.heap.size A M := by
  rcases Go.Deep.open_slice ht h with ⟨hcs, _⟩ | ⟨ad, len, cap, m, k, D, Pl, hcs, _, hl, hm, hmm, _, hel⟩
  · simp [Value.cells] at hcs
    obtain ⟨rfl, rfl, rfl⟩ := hcs
    exact ⟨[], rfl, Nat.le_refl _, Nat.zero_le _, fun _ => rfl, Mat.nil⟩
  · simp [Value.cells] at hcs
    obtain ⟨rfl, rfl, rfl⟩ := hcs
    have hlen : n ≤ m := by rw [hmm]; split <;> omega
    have each : ∀ i, i < n → ∃ u r, w.cell? (ad.add i) = some u ∧ RowAt w w.heap.size u r := by
      intro i hi
      obtain ⟨cs', hcell, htrod⟩ := hel i (by omega)
      rw [hce] at hcell
      obtain ⟨hcl0, hcl, hcat⟩ := World.cells?_some hcell
      have h1 := hcat 0 (by omega)
      rw [Nat.mul_one] at h1
      have hz : (ad.add i).add 0 = ad.add i := by rw [add_twice]; rfl
      rw [hz] at h1
      obtain ⟨u, hu⟩ : ∃ u, cs' = [u] := by
        match cs', hcl with
        | [u], _ => exact ⟨u, rfl⟩
      subst hu
      obtain ⟨r, hr⟩ := open_rowB he hb hcb htrod
      exact ⟨u, r, by simpa using h1, hr⟩
    have build : ∀ k, k ≤ n → ∃ (vs : List Value) (M : List (List UInt8)), vs.length = k ∧ M.length = k ∧ (∀ j u, vs[j]? = some u → w.cell? (ad.add j) = some u) ∧ ∀ (i : Nat) (v : Value) (r : List UInt8), vs[i]? = some v → M[i]? = some r → RowAt w w.heap.size v r := by
      intro k
      induction k with
      | zero => intro _; exact ⟨[], [], rfl, rfl, by simp, by simp⟩
      | succ k ih =>
        intro hk
        obtain ⟨vs, M, h1, h2, h3, h4⟩ := ih (by omega)
        obtain ⟨u, r, g1, g2⟩ := each k (by omega)
        refine ⟨vs ++ [u], M ++ [r], by simp [h1], by simp [h2], fun j v hv => ?_, fun i v q hv hq => ?_⟩
        · rcases Nat.lt_trichotomy j k with hj | hj | hj
          · rw [List.getElem?_append_left (by omega)] at hv; exact h3 j v hv
          · subst hj
            rw [List.getElem?_append_right (by omega), h1, Nat.sub_self] at hv
            obtain rfl := Option.some.inj hv
            exact g1
          · rw [List.getElem?_eq_none (by simp; omega)] at hv; cases hv
        · rcases Nat.lt_trichotomy i k with hj | hj | hj
          · rw [List.getElem?_append_left (by omega)] at hv hq; exact h4 i v q hv hq
          · subst hj
            rw [List.getElem?_append_right (by omega), h1, Nat.sub_self] at hv
            rw [List.getElem?_append_right (by omega), h2, Nat.sub_self] at hq
            obtain rfl := Option.some.inj hv
            obtain rfl := Option.some.inj hq
            exact g2
          · rw [List.getElem?_eq_none (by simp; omega)] at hv; cases hv
    obtain ⟨vs, M, h1, h2, h3, h4⟩ := build n (Nat.le_refl _)
    exact ⟨M, h2.symm, hl, hm, (fun h => by cases h), vs, by rw [h1, h2], rds_cells (len := n) _ (by omega) h3, h4⟩
theorem open_rows {t e b : TypeId} {fuel : Nat} {A : Option Addr} {n c : Nat} {x : DataW H × List MemPlace} (ht : P.underlying t = some (.slice e)) (he : P.underlying e = some (.slice b)) (hb : P.underlying b = some (.int .u8)) (hce : P.cellsOf e = 1) (hcb : P.cellsOf b = 1)
    (h : DataW.trod enc P w base spare held fuel t (Value.slice A n c).cells.toList = some x) (hz : n ≤ 140737488351232) : ∃ M, SlM w A n c M := by
  obtain ⟨M, h1, h2, h3, h4, h5⟩ := open_slM ht he hb hce hcb h
  exact ⟨M, h1, h2, h3, h4, hz, h5⟩
end
end Go.Proofs.YtfbdhcpclccikaaDoor
