/-
  A pair of bytes that came in, opened (as in XTabs2, without the tables of stage 2).
-/
import Derived.Test.YtgajlgnniidgmaaDoorOpp
namespace Go.Proofs.YtgajlgnniidgmaaDoor
set_option linter.unusedVariables false
open Go.ChangeShapes Go.WideShapes Go.ChangeAt Go.RowKit

theorem open_pair {H : Type} {enc : TypeId × Value → H} {P : Program} {w : World} {base : Nat} {spare : Nat → Bool} {held : Bool} {r : Reach} {b0 : Nat} {t e : TypeId} {v : Value} {d : DataW H} {ps : List MemPlace}
    (ht : P.underlying t = some (.array 2 e)) (he : P.underlying e = some (.int .u8)) (hce : P.cellsOf e = 1) (hct : P.cellsOf t = 2) (hval : Value.okWide P w r b0 t v) (hd : DataW.Trod enc P w base spare held t v d ps) :
    ∃ b c : Nat, b < 256 ∧ c < 256 ∧ v = .agg #[.int .u8 b, .int .u8 c] := by
  unfold Value.okWide at hval
  rw [ht] at hval
  obtain ⟨cs, rfl, hs, _⟩ := hval
  obtain ⟨fuel, hf⟩ := hd
  obtain ⟨xs, m, rfl, hx, hl, hn, hat⟩ := DataW.trod_array ht hf
  rw [hct] at hs
  obtain ⟨l, hcl⟩ : ∃ l, l = cs.toList := ⟨_, rfl⟩
  have hll : l.length = 2 := by rw [hcl, Array.length_toList, hs]
  match l, hll with
  | [u, z], _ =>
    have hcs : cs = #[u, z] := by apply Array.ext'; rw [← hcl]
    subst hcs
    rw [hce] at hat
    have h0 := hat 0 (by decide)
    have h1 := hat 1 (by decide)
    match xs, hn with
    | [x, y], _ =>
      obtain ⟨n0, k0, _, w0⟩ := DataW.trod_int he h0
      obtain ⟨n1, k1, _, w1⟩ := DataW.trod_int he h1
      have e0 : u = .int .u8 n0 := by simpa [Value.cells] using k0
      have e1 : z = .int .u8 n1 := by simpa [Value.cells] using k1
      obtain ⟨b, rfl, hb⟩ := u8_nat w0
      obtain ⟨c, rfl, hc⟩ := u8_nat w1
      exact ⟨b, c, hb, hc, by rw [e0, e1]⟩
end Go.Proofs.YtgajlgnniidgmaaDoor
