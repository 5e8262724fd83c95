/-
  Stage 14 (clock): the examples of the chapter, as values.
-/
import Derived.Test.YtbkgbjimooobbaaUp
namespace Go.Proofs.Ytbkgbjimooobbaa
set_option linter.unusedVariables false
set_option linter.unusedSimpArgs false
open Go.RowKit

/-- The example's reading. -/
def l0 : List Rdg := [⟨100, 50, 60⟩]
theorem ex_pa11 : paLo 100000 11 = 10 ∧ paHi 100000 11 = 13 ∧ paE 100000 11 = 0 := by decide
theorem ex_pa0 : paLo 100000 0 = 0 ∧ paHi 100000 0 = 1 ∧ paE 100000 0 = 0 := by decide
theorem ex_now111 : nwLo 100000 l0 111 = 60 ∧ nwHi 100000 l0 111 = 73 ∧ nwE 100000 l0 111 = 0 := by decide
theorem ex_now89 : nwLo 100000 l0 89 = 37 ∧ nwHi 100000 l0 89 = 50 ∧ nwE 100000 l0 89 = 0 := by decide
theorem ex_now100 : nwLo 100000 l0 100 = 49 ∧ nwHi 100000 l0 100 = 61 ∧ nwE 100000 l0 100 = 0 := by decide
theorem ex_sync1 : syE 100000 l0 ⟨111, 70, 80⟩ = 0 := by decide
theorem ex_sync2 : syL 100000 l0 ⟨111, 70, 80⟩ = [⟨100, 50, 60⟩, ⟨111, 70, 73⟩] := by
  unfold syL
  rw [if_pos ex_sync1, if_neg (by decide)]
  have h : syN 100000 l0 ⟨111, 70, 80⟩ = ⟨111, 70, 73⟩ := by
    unfold syN
    have h1 : jnLo 70 80 (nwLo 100000 l0 111) (nwHi 100000 l0 111) = 70 := by decide
    have h2 : jnHi 70 80 (nwLo 100000 l0 111) (nwHi 100000 l0 111) = 73 := by decide
    dsimp only
    rw [h1, h2]
  rw [h]
  rfl
theorem ex_sync3 : syE 100000 l0 ⟨111, 74, 80⟩ = 24 := by decide
theorem ex_answer : anE 100000 l0 100 109 55 57 = 0 := by decide
theorem ex_answer2 : (anR 100000 l0 100 109 55 57).L = 109 ∧ (anR 100000 l0 100 109 55 57).lo = 55 ∧ (anR 100000 l0 100 109 55 57).hi = 68 := by decide
theorem ex_chk : chkK 100000 l0 = 0 := by decide
theorem ex_join : jnLo 1 5 4 9 = 4 ∧ jnHi 1 5 4 9 = 5 ∧ jnE 1 5 4 9 = 0 := by decide
theorem ex_ord : ordW 1 2 3 4 = -1 ∧ ordW 3 4 1 2 = 1 ∧ ordW 1 3 3 4 = 0 := by decide
theorem ex_latest : LatR 100000 l0 73 111 0 := by
  refine .inr ⟨by decide, 112, ⟨by decide, fun j hj => decide_eq_false ?_, fun j h1 h2 => decide_eq_true ?_⟩, .inr ⟨by decide, by decide, rfl⟩⟩
  · have h := bndHi_mono (rate := 100000) (l := l0) (x := (j : Int)) (y := 111) (by decide) (by decide) (by omega)
    have h3 : bndHi 100000 l0 111 = 73 := by decide
    omega
  · have h := bndHi_mono (rate := 100000) (l := l0) (x := 112) (y := (j : Int)) (by decide) (by decide) (by omega)
    have h3 : bndHi 100000 l0 112 = 74 := by decide
    omega
theorem ex_earliest : EarR 100000 l0 60 111 0 := by
  refine .inr ⟨by decide, 111, ⟨by decide, fun j hj => decide_eq_false ?_, fun j h1 h2 => decide_eq_true ?_⟩, .inr ⟨by decide, rfl, rfl⟩⟩
  · have h := bndLo_mono (rate := 100000) (l := l0) (x := (j : Int)) (y := 110) (by decide) (by decide) (by omega)
    have h3 : bndLo 100000 l0 110 = 59 := by decide
    omega
  · have h := bndLo_mono (rate := 100000) (l := l0) (x := 111) (y := (j : Int)) (by decide) (by decide) (by omega)
    have h3 : bndLo 100000 l0 111 = 60 := by decide
    omega
theorem ClkM.only {W W' : World} {B t : Nat} {k : Clk} (m : ClkM W B k) (ho : Only t W W') (hne : B ≤ t ∨ ∀ ad, k.A = some ad → ad.block ≠ t) : ClkM W' B k :=
  ⟨fun hn => by
    obtain ⟨ad, e, hb, hc⟩ := m.r hn
    have h : ad.block ≠ t := by
      rcases hne with h | h
      · omega
      · exact h ad e
    exact ⟨ad, e, hb, fun j u hu => (World.cell?_of_block (ho.block _ (by rw [add_block]; exact h))).trans (hc j u hu)⟩, m.len, m.cap, m.small, by rw [ho.size]; exact m.le, m.fr, m.fits⟩
/-- How a region that calls Sync ends. -/
def SyB (v : World) (L : List Rdg) (e : Int) (va vb : Value) (W : World) : Prop :=
  ∃ g k', va = .pointer (some ⟨g, 0, none⟩) ∧ vb = .int .i64 e ∧ v.heap.size ≤ g ∧ Blk W g [.int .i64 k'.rate, .slice k'.A k'.n k'.c] 30 ∧ ClkM W W.heap.size k' ∧ k'.l = L ∧ Below v.heap.size v W
/-- How a region that calls Answer ends. -/
def AnB (v : World) (r : Rdg) (e : Int) (va vb : Value) (W : World) : Prop :=
  ∃ g, va = .pointer (some ⟨g, 0, none⟩) ∧ vb = .int .i64 e ∧ v.heap.size ≤ g ∧ Blk W g [.int .i64 r.L, .int .i64 r.lo, .int .i64 r.hi] 48 ∧ Below v.heap.size v W
end Go.Proofs.Ytbkgbjimooobbaa
