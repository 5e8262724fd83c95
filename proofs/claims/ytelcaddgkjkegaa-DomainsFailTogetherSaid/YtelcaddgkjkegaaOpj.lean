/-
  Arguments, opened: a pair of slices of integers.
-/
import Derived.Test.YtelcaddgkjkegaaOpd
namespace Go.Proofs.Ytelcaddgkjkegaa
set_option linter.unusedVariables false
open Go.ChangeShapes Go.WideShapes Go.ChangeAt Go.RowKit

/-- A slice of integers that came in inside an array. -/
structure SlJ (w : World) (A : Option Addr) (n c : Nat) (l : List Int) : Prop where
  len : n = l.length
  cap : n ≤ c
  max : c ≤ maxLen
  nil : A = none → c = 0
  rds : Rds w w.heap.size A (l.map iv)
section
variable {H : Type} {enc : TypeId × Value → H} {P : Program} {w : World} {base : Nat} {spare : Nat → Bool} {held : Bool}
theorem open_slJ {t e : TypeId} {fuel : Nat} {u : Value} {x : DataW H × List MemPlace} (ht : P.underlying t = some (.slice e)) (he : P.underlying e = some (.int .i64)) (hce : P.cellsOf e = 1)
    (h : DataW.trod enc P w base spare held fuel t [u] = some x) : ∃ A n c l, u = .slice A n c ∧ SlJ w A n c l := by
  rcases open_ints ht he hce h with ⟨hcs, _⟩ | ⟨ad, len, cap, zs, hcs, _, hl, hm, hzl, _, hcell, hwz⟩
  · have : u = .slice none 0 0 := by simpa using hcs
    exact ⟨none, 0, 0, [], this, rfl, Nat.le_refl _, Nat.zero_le _, fun _ => rfl, Rds.empty⟩
  · have : u = .slice (some ad) len cap := by simpa using hcs
    have hlen : len ≤ zs.length := by rw [hzl]; split <;> omega
    have hll : (zs.take len).length = len := by simp; omega
    refine ⟨some ad, len, cap, zs.take len, this, hll.symm, hl, hm, (fun h => by cases h), rds_cells (len := len) _ (by simp; omega) ?_⟩
    intro i u hu
    have hi : i < len := by
      rcases Nat.lt_or_ge i len with hi | hi
      · exact hi
      · rw [List.getElem?_eq_none (by simp; omega)] at hu; cases hu
    rw [hcell i (by omega), ← hu]
    simp [hi, List.getD_eq_getElem?_getD, show i < zs.length from by omega, iv]
theorem open_ints2 {r : Reach} {b0 : Nat} {t s e : TypeId} {v : Value} {d : DataW H} {ps : List MemPlace}
    (ht : P.underlying t = some (.array 2 s)) (hs : P.underlying s = some (.slice e)) (he : P.underlying e = some (.int .i64)) (hcs : P.cellsOf s = 1) (hct : P.cellsOf t = 2) (hce : P.cellsOf e = 1) (hval : Value.okWide P w r b0 t v) (hd : DataW.Trod enc P w base spare held t v d ps) :
    ∃ A1 n1 c1 l1 A2 n2 c2 l2, v = .agg #[.slice A1 n1 c1, .slice A2 n2 c2] ∧ SlJ w A1 n1 c1 l1 ∧ SlJ w A2 n2 c2 l2 := by
  unfold Value.okWide at hval
  rw [ht] at hval
  obtain ⟨cs, rfl, hsz, _⟩ := hval
  obtain ⟨fuel, hf⟩ := hd
  obtain ⟨xs, m, rfl, hx, hl, hn, hat⟩ := DataW.trod_array ht hf
  rw [hct] at hsz
  obtain ⟨l, hcl⟩ : ∃ l, l = cs.toList := ⟨_, rfl⟩
  have hll : l.length = 2 := by rw [hcl, Array.length_toList, hsz]
  match l, hll with
  | [u, z], _ =>
    have hcs2 : cs = #[u, z] := by apply Array.ext'; rw [← hcl]
    subst hcs2
    rw [hcs] at hat
    have h0 := hat 0 (by decide)
    have h1 := hat 1 (by decide)
    match xs, hn with
    | [x, y], _ =>
      obtain ⟨A1, n1, c1, l1, k1, w1⟩ := open_slJ hs he hce h0
      obtain ⟨A2, n2, c2, l2, k2, w2⟩ := open_slJ hs he hce h1
      exact ⟨A1, n1, c1, l1, A2, n2, c2, l2, by rw [k1, k2], w1, w2⟩
end
end Go.Proofs.Ytelcaddgkjkegaa
