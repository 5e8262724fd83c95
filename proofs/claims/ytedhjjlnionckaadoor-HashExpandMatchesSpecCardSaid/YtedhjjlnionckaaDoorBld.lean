/-
  A struct of two rows is built; a copy out of a row.
-/
import Derived.Test.YtedhjjlnionckaaDoorPts
namespace Go.Proofs.YtedhjjlnionckaaDoor
set_option linter.unusedVariables false
set_option linter.unusedSimpArgs false
open Go.RowKit

theorem splice_cons {α : Type} (Z : List α) (o : Nat) (v : α) (l : List α) (h : o + (l.length + 1) ≤ Z.length) : splice (Z.set o v) (o + 1) l = splice Z o (v :: l) := by
  have h1 : (Z.set o v).take (o + 1) = Z.take o ++ [v] := by
    rw [List.set_eq_take_append_cons_drop, if_pos (by omega)]
    have : (Z.take o).length = o := by rw [List.length_take]; omega
    rw [List.take_append, this, show o + 1 - o = 1 by omega, List.take_of_length_le (by omega)]
    rfl
  unfold splice
  rw [h1, List.drop_set_of_lt (by omega), List.length_cons, show o + 1 + l.length = o + (l.length + 1) by omega, List.append_assoc]
  rfl
theorem fold_list (off : Nat) : ∀ (l : List Value) (k : Nat) (z : Array Value), off + k + l.length ≤ z.size → ((l.zipIdx k).foldl (fun cs x => cs.setIfInBounds (off + x.2) x.1) z).toList = splice z.toList (off + k) l
  | [], k, z, _ => by unfold splice; simp
  | v :: l, k, z, h => by
    rw [List.zipIdx_cons, List.foldl_cons, fold_list off l (k + 1) _ (by rw [Array.size_setIfInBounds]; simp only [List.length_cons] at h; omega), Array.toList_setIfInBounds, ← Nat.add_assoc]
    exact splice_cons _ _ _ _ (by rw [Array.length_toList]; simp only [List.length_cons] at h; omega)
theorem fold_arr (off : Nat) (l : List Value) (z : Array Value) (h : off + l.length ≤ z.size) : (l.toArray.zipIdx.foldl (fun cs x => cs.setIfInBounds (off + x.2) x.1) z) = (splice z.toList off l).toArray := by
  apply Array.ext'
  have := fold_list off l 0 z (by simpa using h)
  rw [← Array.foldl_toList]
  simpa using this
theorem fill_two (z : Array Value) (n : Nat) (place : Nat → Option (Nat × Nat)) (h0 : place 0 = some (0, n)) (h1 : place 1 = some (n, n)) (a b : List Value) (ha : a.length = n) (hb : b.length = n) (hz : z.size = n + n) :
    Instr.fill place z [(0, .agg a.toArray), (1, .agg b.toArray)] = some (a ++ b).toArray := by
  have e1 := fold_arr 0 a z (by omega)
  have hzl : z.toList.length = n + n := by rw [Array.length_toList, hz]
  have hs : (splice z.toList 0 a).length = n + n := by rw [length_splice z.toList 0 a (by rw [hzl, ha]; omega), hzl]
  have e2 := fold_arr n b (splice z.toList 0 a).toArray (by rw [List.size_toArray, hs]; omega)
  have ea : (Value.agg a.toArray).cells = a.toArray := rfl
  have eb : (Value.agg b.toArray).cells = b.toArray := rfl
  have hfin : splice (splice z.toList 0 a) n b = a ++ b := by
    unfold splice
    have hd : (a ++ z.toList.drop (0 + a.length)).drop (n + b.length) = [] := List.drop_eq_nil_of_le (by rw [List.length_append, List.length_drop, hzl, ha, hb]; omega)
    rw [List.take_zero, List.nil_append, List.take_append_of_le_length (by omega), List.take_of_length_le (by omega), hd, List.append_nil]
  rw [List.toList_toArray, hfin] at e2
  simp only [Instr.fill, h0, h1, ea, eb]
  rw [if_neg (by simp [ha, hz])]
  rw [show (fun cs (x : Value × Nat) => match x with | (c, j) => cs.setIfInBounds (0 + j) c) = (fun (cs : Array Value) (x : Value × Nat) => cs.setIfInBounds (0 + x.2) x.1) from rfl, e1]
  rw [if_neg (by rw [List.size_toArray, List.size_toArray, hs]; simp [hb])]
  rw [show (fun cs (x : Value × Nat) => match x with | (c, j) => cs.setIfInBounds (n + j) c) = (fun (cs : Array Value) (x : Value × Nat) => cs.setIfInBounds (n + x.2) x.1) from rfl, e2]

theorem run_build_two {P : Program} (w : World) (t : TypeId) (f0 f1 : Field) (n : Nat) (z : Value) (hz : ∀ w, (zeroValue t).run P w = .ok z w) (hzs : z.cells.size = n + n) (hu : P.underlying t = some (.struct #[f0, f1])) (o0 : f0.offset = 0) (o1 : f1.offset = n)
    (s0 : (P.info? f0.type).map (·.size) = some n) (s1 : (P.info? f1.type).map (·.size) = some n) (a b : List Value) (ha : a.length = n) (hb : b.length = n) :
    (Instr.build t #[(0, .agg a.toArray), (1, .agg b.toArray)]).run P w = .ok (.agg (a ++ b).toArray) w := by
  cases hq0 : P.info? f0.type with
  | none => simp [hq0] at s0
  | some i0 =>
    cases hq1 : P.info? f1.type with
    | none => simp [hq1] at s1
    | some i1 =>
      have e0 : i0.size = n := by simpa [hq0] using s0
      have e1 : i1.size = n := by simpa [hq1] using s1
      have hf := fill_two z.cells n ([(0, n), (n, n)][·]?) rfl rfl a b ha hb hzs
      simp [Instr.build, hz, run_underlying hu, sizeOf, typeInfo, hq0, hq1, e0, e1, o0, o1, hf]
end Go.Proofs.YtedhjjlnionckaaDoor
