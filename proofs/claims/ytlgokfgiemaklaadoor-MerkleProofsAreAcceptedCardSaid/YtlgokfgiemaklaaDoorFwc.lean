/-
  Contracts of stage 2: the statements' helpers on lists of texts. Contracts of stage 2: lists compared, inputs, digests that clash. Conversions between texts and rows of bytes, by operations that are carried out; the message of few parts.
-/
import Derived.Test.YtlgokfgiemaklaaDoorSan2
import Derived.Deep.QuietTactic
import Derived.BigQuiet
import Derived.ChangeKeysEq
import Derived.Laws.StructEq
namespace Go.Proofs.YtlgokfgiemaklaaDoor
set_option linter.unusedVariables false
open Go.RowKit

/-- At most 12 texts, of at most 400 bytes. -/
def FewS (xs : List (List UInt8)) : Prop := xs.length ≤ 12 ∧ ∀ x ∈ xs, x.length ≤ 400
instance (xs : List (List UInt8)) : Decidable (FewS xs) := by unfold FewS; infer_instance
theorem bs_app (a b : List UInt8) : bs a ++ bs b = bs (a ++ b) := by
  unfold bs
  apply ByteArray.ext
  simp

end Go.Proofs.YtlgokfgiemaklaaDoor

namespace Go.Proofs.YtlgokfgiemaklaaDoor
set_option linter.unusedVariables false
open Go.RowKit

theorem take_eq_snoc {α : Type} {la lb : List α} {k : Nat} {x : α} (ha : la[k]? = some x) (hb : lb[k]? = some x) (h : la.take k = lb.take k) : la.take (k + 1) = lb.take (k + 1) := by
  obtain ⟨h1, e1⟩ := List.getElem?_eq_some_iff.1 ha
  obtain ⟨h2, e2⟩ := List.getElem?_eq_some_iff.1 hb
  rw [List.take_succ_eq_append_getElem h1, List.take_succ_eq_append_getElem h2, h, e1, e2]

set_option maxRecDepth 100000 in
set_option maxHeartbeats 1000000 in
theorem input_any (tag : Int) (parts : List (List UInt8)) (A : Option Addr) (c : Nat) (w : World) (hr : Rds w w.heap.size A (parts.map sv)) (hl : parts.length ≤ 1000000) (hf : (Sha.message parts).length ≤ 1000000000) :
    Calls Tryd.prog 67 #[.int .i64 tag, .slice A parts.length c] w (NewEnd (Sha.input tag parts) w) := by
  obtain ⟨b, hb⟩ : ∃ b, b = UInt8.ofNat (tag % 256).toNat := ⟨_, rfl⟩
  have hin : Sha.input tag parts = [b] ++ parts.flatMap Wm.encBytes := by rw [hb]; rfl
  have hbn : b.toNat = (tag % 256).toNat := by rw [hb]; exact Wm.toNat_ofNat (by omega)
  have ew : IntKind.u8.wrap tag = (b.toNat : Int) := by rw [IntKind.wrap_u8, hbn]; omega
  rw [hin]
  have hF : Hid ((parts.flatMap Wm.encBytes).length ≤ 1000000000) := hf
  have hown : Hid (OwnB (w.alloc (.cells #[.int .u8 (b.toNat : Int)] 5)) w.heap.size (.slice (some ⟨w.heap.size, 0, none⟩) 1 1) [b]) :=
    ⟨by simp, .inr ⟨w.heap.size, 1, #[.int .u8 (b.toNat : Int)], rfl, Nat.le_refl _, heap_alloc_new w _, Nat.le_refl 1, by unfold maxLen; omega, rfl, rfl⟩⟩
  obtain ⟨W1, hW1⟩ : ∃ W1, W1 = w.alloc (.cells #[.int .u8 (b.toNat : Int)] 5) := ⟨_, rfl⟩
  have hB1 : Below w.heap.size w W1 := by rw [hW1]; exact (Below.refl _ _).alloc (Nat.le_refl _) _
  rw [← hW1] at hown
  clear hf hin hbn hb
  go_enter Tryd.func67, Tryd.ntmps67
  go_wp2_with fail
  rw [← hW1]
  clear hW1
  go_loopw [5, 6] (fun b' i wr => ∃ k : Nat, k ≤ parts.length ∧ i = .int .i64 k ∧ OwnB wr w.heap.size b' ([b] ++ (parts.take k).flatMap Wm.encBytes) ∧ Below w.heap.size w wr) (fun _ i _ => parts.length - (intOf i).toNat)
  case atStart => exact ⟨0, by omega, rfl, by simpa using hown.out, hB1⟩
  case round =>
    obtain ⟨k, hk, rfl, ho, hbw⟩ := hrel
    have hsz := hbw.size
    by_cases hlt : k < parts.length
    · obtain ⟨ad, rfl, hab, hcell⟩ := (hr.below hbw).look (k := k) (u := sv parts[k]) (by simp [hlt])
      have hfl := Wm.flat_take_len Wm.encBytes parts k
      have hfl1 := Wm.flat_take_len Wm.encBytes parts (k + 1)
      have hff := hF.out
      rw [Wm.take_flat Wm.encBytes parts k parts[k] (List.getElem?_eq_getElem hlt), List.length_append] at hfl1
      have hle : parts[k].length ≤ (Wm.encBytes parts[k]).length := by simp [Wm.encBytes]
      have htf := Lib.hid (Wm.take_flat Wm.encBytes parts k parts[k] (List.getElem?_eq_getElem hlt))
      have HA := Lib.hid (refBytes_any parts[k] wr (by omega))
      unfold sv at hcell HA
      generalize bs parts[k] = S at hcell HA
      go_wp2_with fail
      refine HA.out.mono ?_
      intro e w2 h2'
      obtain ⟨A2, c2, rfl, _, _, hn2, hr2, hb2⟩ := NewEnd.slice h2'
      clear h2'
      have ho2 : OwnB w2 w.heap.size u5 _ := own_below ho hb2
      have hsz2 := hb2.size
      go_wp2_with (at_builtin; go_must (refine push_bytes rfl _ _ rfl w.heap.size u5 _ _ _ A2 _ c2 rfl hn2 rfl rfl hr2 ho2 (by simp only [List.length_append, List.length_singleton]; omega) (by omega) ?_); intro v3 w3 ho3 hb3)
      go_roundw
      case rel => exact ⟨k + 1, by omega, by go_num, by rw [htf.out, ← List.append_assoc]; exact ho3, hbw.trans ((hb2.mono hsz).trans hb3)⟩
      case measure => simp [intOf]; omega
    · go_wp2
      go_ret
      refine ⟨_, rfl, ?_, hbw⟩
      rw [List.take_of_length_le (by omega)] at ho
      exact ho

end Go.Proofs.YtlgokfgiemaklaaDoor

namespace Go.Proofs.YtlgokfgiemaklaaDoor
set_option linter.unusedVariables false
open Go.RowKit

theorem conv_run {o : Oper} {a : Act} (x : Operand) (hop : o.op = .convert 75 9 x) (l : List UInt8) (A : Option Addr) (c B : Nat) (hx : a.eval x = .slice A l.length c) (W : World) (hr : Rds W B A (l.map bv)) :
    (execOp a.eval o).run Tryd.prog W = .ok (.value (.string (bs l))) W := by
  have h := run_bytes_bs (P := Tryd.prog) W 75 9 5 Tryd.underlying75 Tryd.underlying5 Tryd.underlying9 c hr
  unfold execOp
  simp only [hop, hx, Sem.run_bind, Sem.run_pure, Result.andThen_ok, h]
theorem conv_at (l : List UInt8) (A : Option Addr) (c B : Nat) (W : World) (hr : Rds W B A (l.map bv)) :
    (convert 75 9 (.slice A l.length c)).run Tryd.prog W = .ok (.string (bs l)) W :=
  run_bytes_bs (P := Tryd.prog) W 75 9 5 Tryd.underlying75 Tryd.underlying5 Tryd.underlying9 c hr
theorem nes_run {P : Program} {o : Oper} {a : Act} (t : TypeId) (x y : Operand) (k : TypeId) (hop : o.op = .binOp .neq t x y k) (hu : P.underlying t = some .string) (S S2 : ByteArray) (hr : (S.toList == S2.toList) = false) (hx : a.eval x = .string S) (hy : a.eval y = .string S2) (W : World) :
    (execOp a.eval o).run P W = .ok (.value (.bool true)) W := by
  unfold execOp
  simp only [hop]
  generalize a.eval = ρ at *
  simp [go_sem, hx, hy, hr]
theorem message_few {xs : List (List UInt8)} (h : FewS xs) : (Sha.message xs).length ≤ 4920 := by
  obtain ⟨h1, h2⟩ := h
  unfold Sha.message
  have : ∀ (ys : List (List UInt8)), (∀ y ∈ ys, y.length ≤ 400) → (ys.flatMap Wm.encBytes).length ≤ 410 * ys.length := fun ys => by
    induction ys with
    | nil => intro _; simp
    | cons y ys ih =>
      intro h
      have i1 := ih fun z hz => h z (List.mem_cons_of_mem _ hz)
      have i2 := h y (List.mem_cons_self ..)
      have i3 := Wm.enc_len y.length
      have i4 : (Wm.encBytes y).length = (Wm.enc y.length).length + y.length := by simp [Wm.encBytes]
      rw [List.flatMap_cons, List.length_append, List.length_cons, i4]
      omega
  have := this xs h2
  omega


/-- '[]byte(s)': a new row, by an operation that is carried out. -/
theorem wpList_bytes_ofW {ops : Array Oper} {rest : List Oper} {op : Oper} {a : Act} {w : World} {Q : Exit → Act → World → Prop} (hw : Region.wanted op (yielded ops a.tmps) = true) (x : Operand) (ho : op.op = .convert 9 75 x) (l : List UInt8) (S : ByteArray) (hS : S = bs l) (hx : a.eval x = .string S)
    (h : ∀ w' A c, Rds w' w'.heap.size (some A) (l.map bv) → Below w.heap.size w w' → wpList Tryd.prog ops Q rest (a.put op.dst (.slice (some A) l.length c)) w') :
    wpList Tryd.prog ops Q (op :: rest) a w := by
  subst hS
  refine wpList_wanted hw ?_
  have hrun := run_bytes_of_string (P := Tryd.prog) w 9 75 5 (bs l) Tryd.underlying9 Tryd.underlying75 Tryd.underlying5
  unfold Oper.wp execOp
  simp only [ho, hx, Sem.run_bind, Sem.run_pure, hrun, Result.andThen_ok]
  rw [bs_size]
  refine h _ _ _ (fun _ => ⟨_, rfl, by simp, fun j u hu => ?_⟩) (((Below.refl _ _).drew).alloc (Nat.le_refl _) _)
  rw [Addr.add_mid, Nat.zero_add]
  show (w.drew.alloc _).cell? ⟨w.drew.heap.size, j, none⟩ = _
  rw [cell_of_row _ _ j _ 5 _ (heap_alloc_new w.drew _)]
  have hj : j < (l.map bv).length := (List.getElem?_eq_some_iff.1 hu).1
  rw [List.length_map] at hj
  have e : (bs l).data.map (fun b => Value.int .u8 b.toNat) = (l.map bv).toArray := by
    unfold bs
    apply Array.ext'
    simp
    exact fun a _ => rfl
  unfold bytesRow
  rw [e, Array.getElem?_append_left (by simpa using hj)]
  simpa using hu
end Go.Proofs.YtlgokfgiemaklaaDoor
