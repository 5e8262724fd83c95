/-
  '[]byte(s)': of a constant, and of any string.
-/
import Derived.Test.YtlgokfgiemaklaaDoorKc
import Derived.Lib.SlBytesConst
import Derived.Laws.IdiomStrings
namespace Go.Proofs.YtlgokfgiemaklaaDoor
set_option linter.unusedVariables false
open Go.RowKit

/-- '[]byte("abc")': the row of the constant's bytes is marked. -/
theorem wpList_bytes_const {ops : Array Oper} {rest : List Oper} {op : Oper} {a : Act} {w : World} {Q : Exit → Act → World → Prop} (hgd : op.guard = none) (x : Operand) (ho : op.op = .convert 75 75 x) (l : List UInt8) (n c : Nat) (hx : a.eval x = .slice (some ⟨w.heap.size, 0, none⟩) n c)
    (h : ∀ w', Rds w' w'.heap.size (some ⟨w.heap.size, 0, none⟩) (l.map bv) → Below w.heap.size w w' → w'.heap.size = w.heap.size + 1 → wpList Tryd.prog ops Q rest (a.put op.dst (.slice (some ⟨w.heap.size, 0, none⟩) n c)) w') :
    wpList Tryd.prog ops Q (op :: rest) a (w.alloc (.cells (l.map bv).toArray 5)) := by
  refine wpList_plain hgd fun K hK => ?_
  have hrun := Lib.run_convert_bytes_const (P := Tryd.prog) w 75 5 (l.map bv).toArray n c Tryd.underlying75 Tryd.underlying5
  unfold Oper.wp execOp
  simp only [ho, hx, Sem.run_bind, Sem.run_pure, hrun, Result.andThen_ok]
  refine hK _ _ (h _ (fun _ => ⟨_, rfl, by simp, fun j u hu => ?_⟩) ((Below.refl _ _).alloc (Nat.le_refl _) _) (by simp))
  rw [Addr.add_mid, Nat.zero_add, cell_of_row _ _ j (l.map bv).toArray 5 _ (heap_alloc_new w _)]
  simpa using hu

/-- '[]byte(s)': a new row. -/
theorem wpList_bytes_of {ops : Array Oper} {rest : List Oper} {op : Oper} {a : Act} {w : World} {Q : Exit → Act → World → Prop} (hgd : op.guard = none) (x : Operand) (ho : op.op = .convert 9 75 x) (l : List UInt8) (S : ByteArray) (hS : S = bs l) (hx : a.eval x = .string S)
    (h : ∀ w' A c, Rds w' w'.heap.size (some A) (l.map bv) → l.length ≤ c → A = ⟨w.heap.size, 0, none⟩ → Below w.heap.size w w' → w'.heap.size = w.heap.size + 1 → wpList Tryd.prog ops Q rest (a.put op.dst (.slice (some A) l.length c)) w') :
    wpList Tryd.prog ops Q (op :: rest) a w := by
  subst hS
  refine wpList_plain hgd fun K hK => ?_
  have hrun := run_bytes_of_string (P := Tryd.prog) w 9 75 5 (bs l) Tryd.underlying9 Tryd.underlying75 Tryd.underlying5
  unfold Oper.wp execOp
  simp only [ho, hx, Sem.run_bind, Sem.run_pure, hrun, Result.andThen_ok]
  rw [bs_size]
  refine hK _ _ (h _ _ _ (fun _ => ⟨_, rfl, by simp, fun j u hu => ?_⟩) ?_ rfl (((Below.refl _ _).drew).alloc (Nat.le_refl _) _) (by simp))
  · rw [Addr.add_mid, Nat.zero_add]
    show (w.drew.alloc _).cell? ⟨w.drew.heap.size, j, none⟩ = _
    rw [cell_of_row _ _ j _ 5 _ (heap_alloc_new w.drew _)]
    have hj : j < (l.map bv).length := (List.getElem?_eq_some_iff.1 hu).1
    rw [List.length_map] at hj
    have e : (bs l).data.map (fun b => Value.int .u8 b.toNat) = (l.map bv).toArray := by
      unfold bs
      apply Array.ext'
      simp
      exact fun a _ => rfl
    unfold bytesRow
    rw [e, Array.getElem?_append_left (by simpa using hj)]
    simpa using hu
  · have := grownCap_ge w (bs l).size 0 5
    rw [bs_size] at this
    exact this
end Go.Proofs.YtlgokfgiemaklaaDoor
