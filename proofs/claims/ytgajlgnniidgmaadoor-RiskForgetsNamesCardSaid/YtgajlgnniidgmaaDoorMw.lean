/-
  Contracts of stage 5: widened.
-/
import Derived.Test.YtgajlgnniidgmaaDoorMcd
namespace Go.Proofs.YtgajlgnniidgmaaDoor
set_option linter.unusedVariables false
set_option linter.unusedSimpArgs false
open Go.RowKit

section
variable {P : Program} {ops : Array Oper} {rest : List Oper} {op : Oper} {a : Act} {w : World} {Q : Exit → Act → World → Prop}
/-- 'copy(b[o:], s)', s a slice. -/
theorem wpList_blk_copyR (hgd : op.guard = none) (d s : Operand) (dT sT : TypeId) (ho : op.op = .call { callee := .builtin .copy, args := #[d, s], argTypes := #[dT, sT] }) (elem : TypeId) (hu : P.underlying dT = some (.slice elem)) (hsz : (P.info? elem).map (·.size) = some 1)
    {g : Nat} {L : List Value} {t : TypeId} (o dLen dCap : Nat) (ad : Addr) (sLen sCap : Nat) (hd : a.eval d = .slice (some ⟨g, o, none⟩) dLen dCap) (hs : a.eval s = .slice (some ad) sLen sCap) (hb : Blk w g L t) (cs : List Value) (hn : cs.length = Nat.min sLen dLen)
    (hsrc : ∀ j v, cs[j]? = some v → w.cell? (ad.add j) = some v) (hfit : o + cs.length ≤ L.length) (h1 : ∀ v ∈ cs, v.oneCell' = true)
    (h : ∀ w', Hid (Blk w' g (splice L o cs) t) → Only g w w' → wpList P ops Q rest (a.put op.dst (goInt cs.length)) w') : wpList P ops Q (op :: rest) a w := by
  refine wpList_copy_own hgd d s dT sT ho elem hu hsz g o dLen dCap ad sLen sCap hd hs L.toArray t hb cs hn hsrc (by simpa using hfit) h1 ?_
  exact h _ (hb.setRow _) (Only.setRow _ _ _)
/-- .. of a nil slice. -/
theorem wpList_copy_nil (hgd : op.guard = none) (d s : Operand) (dT sT : TypeId) (ho : op.op = .call { callee := .builtin .copy, args := #[d, s], argTypes := #[dT, sT] }) (elem : TypeId) (hu : P.underlying dT = some (.slice elem)) (hsz : (P.info? elem).map (·.size) = some 1)
    {g : Nat} (o dLen dCap : Nat) (hd : a.eval d = .slice (some ⟨g, o, none⟩) dLen dCap) (hs : a.eval s = .slice none 0 0) (h : wpList P ops Q rest (a.put op.dst (goInt 0)) w) : wpList P ops Q (op :: rest) a w := by
  refine wpList_plain hgd fun K hK => ?_
  have hrun : (Builtin.copy_ #[dT, sT] op.type #[.slice (some ⟨g, o, none⟩) dLen dCap, .slice none 0 0]).run P w = .ok (goInt 0) w := by
    cases hq : P.info? elem with
    | none => simp [hq] at hsz
    | some i =>
      have hi : i.size = 1 := by simpa [hq] using hsz
      have hmin : Nat.min 0 dLen = 0 := Nat.zero_min dLen
      simp [Builtin.copy_, run_underlying hu, Builtin.lenOf, sizeOf, typeInfo, hq, hi, hmin, Builtin.firstCells, storeCells]
  unfold Oper.wp
  simp [execOp, ho, resolve, invoke, builtin, hd, hs, hrun, Result.andThen]
  exact hK _ _ h
end
/-- A row with more elements, which are 0. -/
def pad0 (m : List UInt8) (more : Nat) : List UInt8 := m ++ List.replicate more 0
theorem pad0_len (m : List UInt8) (more : Nat) : (pad0 m more).length = m.length + more := by simp [pad0]
/-- The matrix with more columns, which are 0. -/
def wid (M : List (List UInt8)) (more : Nat) : List (List UInt8) := M.map fun m => pad0 m more
theorem pad_splice (m : List UInt8) (more : Nat) : splice ((List.replicate (m.length + more) (0 : UInt8)).map bv) 0 (m.map bv) = (pad0 m more).map bv := by
  unfold splice pad0
  rw [List.take_zero, List.nil_append, List.map_replicate, List.drop_replicate, List.length_map, List.map_append, List.map_replicate]
  congr 2
  omega

end Go.Proofs.YtgajlgnniidgmaaDoor
