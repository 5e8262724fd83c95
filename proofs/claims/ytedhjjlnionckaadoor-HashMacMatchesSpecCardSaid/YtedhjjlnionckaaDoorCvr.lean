/-
  Conversions between texts and rows of bytes, by operations that are carried out; the message of few parts.
-/
import Derived.Test.YtedhjjlnionckaaDoorFewb
namespace Go.Proofs.YtedhjjlnionckaaDoor
set_option linter.unusedVariables false
open Go.RowKit

theorem conv_run {o : Oper} {a : Act} (x : Operand) (hop : o.op = .convert 22 9 x) (l : List UInt8) (A : Option Addr) (c B : Nat) (hx : a.eval x = .slice A l.length c) (W : World) (hr : Rds W B A (l.map bv)) :
    (execOp a.eval o).run Tryd.prog W = .ok (.value (.string (bs l))) W := by
  have h := run_bytes_bs (P := Tryd.prog) W 22 9 5 Tryd.underlying22 Tryd.underlying5 Tryd.underlying9 c hr
  unfold execOp
  simp only [hop, hx, Sem.run_bind, Sem.run_pure, Result.andThen_ok, h]
theorem conv_at (l : List UInt8) (A : Option Addr) (c B : Nat) (W : World) (hr : Rds W B A (l.map bv)) :
    (convert 22 9 (.slice A l.length c)).run Tryd.prog W = .ok (.string (bs l)) W :=
  run_bytes_bs (P := Tryd.prog) W 22 9 5 Tryd.underlying22 Tryd.underlying5 Tryd.underlying9 c hr
theorem nes_run {P : Program} {o : Oper} {a : Act} (t : TypeId) (x y : Operand) (k : TypeId) (hop : o.op = .binOp .neq t x y k) (hu : P.underlying t = some .string) (S S2 : ByteArray) (hr : (S.toList == S2.toList) = false) (hx : a.eval x = .string S) (hy : a.eval y = .string S2) (W : World) :
    (execOp a.eval o).run P W = .ok (.value (.bool true)) W := by
  unfold execOp
  simp only [hop]
  generalize a.eval = ρ at *
  simp [go_sem, hx, hy, hr]
theorem message_few {xs : List (List UInt8)} (h : FewS xs) : (Sha.message xs).length ≤ 4920 := by
  obtain ⟨h1, h2⟩ := h
  unfold Sha.message
  have : ∀ (ys : List (List UInt8)), (∀ y ∈ ys, y.length ≤ 400) → (ys.flatMap Wm.encBytes).length ≤ 410 * ys.length := fun ys => by
    induction ys with
    | nil => intro _; simp
    | cons y ys ih =>
      intro h
      have i1 := ih fun z hz => h z (List.mem_cons_of_mem _ hz)
      have i2 := h y (List.mem_cons_self ..)
      have i3 := Wm.enc_len y.length
      have i4 : (Wm.encBytes y).length = (Wm.enc y.length).length + y.length := by simp [Wm.encBytes]
      rw [List.flatMap_cons, List.length_append, List.length_cons, i4]
      omega
  have := this xs h2
  omega


/-- '[]byte(s)': a new row, by an operation that is carried out. -/
theorem wpList_bytes_ofW {ops : Array Oper} {rest : List Oper} {op : Oper} {a : Act} {w : World} {Q : Exit → Act → World → Prop} (hw : Region.wanted op (yielded ops a.tmps) = true) (x : Operand) (ho : op.op = .convert 9 22 x) (l : List UInt8) (S : ByteArray) (hS : S = bs l) (hx : a.eval x = .string S)
    (h : ∀ w' A c, Rds w' w'.heap.size (some A) (l.map bv) → Below w.heap.size w w' → wpList Tryd.prog ops Q rest (a.put op.dst (.slice (some A) l.length c)) w') :
    wpList Tryd.prog ops Q (op :: rest) a w := by
  subst hS
  refine wpList_wanted hw ?_
  have hrun := run_bytes_of_string (P := Tryd.prog) w 9 22 5 (bs l) Tryd.underlying9 Tryd.underlying22 Tryd.underlying5
  unfold Oper.wp execOp
  simp only [ho, hx, Sem.run_bind, Sem.run_pure, hrun, Result.andThen_ok]
  rw [bs_size]
  refine h _ _ _ (fun _ => ⟨_, rfl, by simp, fun j u hu => ?_⟩) (((Below.refl _ _).drew).alloc (Nat.le_refl _) _)
  rw [Addr.add_mid, Nat.zero_add]
  show (w.drew.alloc _).cell? ⟨w.drew.heap.size, j, none⟩ = _
  rw [cell_of_row _ _ j _ 5 _ (heap_alloc_new w.drew _)]
  have hj : j < (l.map bv).length := (List.getElem?_eq_some_iff.1 hu).1
  rw [List.length_map] at hj
  have e : (bs l).data.map (fun b => Value.int .u8 b.toNat) = (l.map bv).toArray := by
    unfold bs
    apply Array.ext'
    simp
    exact fun a _ => rfl
  unfold bytesRow
  rw [e, Array.getElem?_append_left (by simpa using hj)]
  simpa using hu
end Go.Proofs.YtedhjjlnionckaaDoor
