/-
  Arrays of bytes compared; rows loaded by operations that are guarded.
-/
import Derived.Test.YtedhjjlnionckaaDoorStx
import Derived.ChangeKeysEq
import Derived.Laws.StructEq
namespace Go.Proofs.YtedhjjlnionckaaDoor
set_option linter.unusedVariables false
open Go.RowKit

theorem run_eqItems_bytes (d : Nat) (la lb : List UInt8) (w : World) : ∀ is : List Nat, (∀ i ∈ is, i < la.length ∧ i < lb.length) →
    (Op.eqItems (d + 1) 5 1 (la.map bv).toArray (lb.map bv).toArray is).run Tryd.prog w = .ok (is.all fun i => la.getD i 0 == lb.getD i 0) w
  | [], _ => by simp [Op.eqItems]
  | i :: is, h => by
    obtain ⟨h1, h2⟩ := h i (by simp)
    have ih := run_eqItems_bytes d la lb w is (fun j hj => h j (by simp [hj]))
    have hu := Tryd.underlying5
    have e : (((la[i].toNat : Nat) : Int) == ((lb[i].toNat : Nat) : Int)) = (la[i] == lb[i]) := by
      rw [Bool.eq_iff_iff, beq_iff_eq, beq_iff_eq]
      constructor
      · intro hh; exact UInt8.toNat_inj.1 (by omega)
      · intro hh; rw [hh]
    simp only [Op.eqItems, Sem.run_bind]
    simp [part, isAgg, h1, h2, bv, List.getD_eq_getElem?_getD, run_underlying hu]
    rw [run_equalIn_int w d 5 .u8 .u8 _ _ hu, e]
    simp only [Result.andThen_ok]
    cases hq : la[i] == lb[i]
    · simp
    · have ih' := ih
      simp only [List.getD_eq_getElem?_getD] at ih'
      simp [← ih']
theorem all_range_eq (la lb : List UInt8) (n : Nat) (ha : la.length = n) (hb : lb.length = n) : ((List.range n).all fun i => la.getD i 0 == lb.getD i 0) = (la == lb) := by
  rw [Bool.eq_iff_iff, List.all_eq_true, beq_iff_eq]
  constructor
  · intro h
    apply List.ext_getElem (by omega)
    intro i h1 h2
    have := h i (List.mem_range.2 (by omega))
    simpa [List.getD_eq_getElem?_getD, h1, h2] using this
  · rintro rfl i _
    simp

section
variable {P : Program} {ops : Array Oper} {rest : List Oper} {op : Oper} {a : Act} {w : World} {Q : Exit → Act → World → Prop}
theorem wpList_wanted (hw : Region.wanted op (yielded ops a.tmps) = true) (h : op.wp P a w (wpList P ops Q rest) Q) : wpList P ops Q (op :: rest) a w := by
  unfold wpList
  rw [if_pos hw]
  exact .inl h
/-- A row is loaded out of a block by an operation that is carried out. -/
theorem wpList_blk_loadW (hw : Region.wanted op (yielded ops a.tmps) = true) (ty : TypeId) (x : Operand) (ho : op.op = .load ty x) {g : Nat} {L : List Value} {t : TypeId} (o : Nat) (hx : a.eval x = .pointer (some ⟨g, o, none⟩))
    (hb : Blk w g L t) (cs : List Value) (hcs : (L.drop o).take cs.length = cs) (d : TypeDesc) (hu : P.underlying ty = some d) (hd : d.isRow = true) (hi : (P.info? ty).map (·.size) = some cs.length)
    (h : wpList P ops Q rest (a.put op.dst (.agg cs.toArray)) w) : wpList P ops Q (op :: rest) a w :=
  wpList_wanted hw (wp_load_mid ty x ho g o hx cs d (hb.range o cs hcs) hu hd hi h)
end

theorem infoByteE : (Tryd.prog.info? 5).map (fun i => (i.zero, i.size, i.bytes)) = some (some (.int .u8 0), 1, 1) := infoByte
theorem run_eql_bytes (t : TypeId) (n : Nat) (harr : Tryd.prog.underlying t = some (.array n 5)) (la lb : List UInt8) (ha : la.length = n) (hb : lb.length = n) (w : World) :
    (binOp .eql t (.agg (la.map bv).toArray) (.agg (lb.map bv).toArray)).run Tryd.prog w = .ok (.bool (la == lb)) w := by
  obtain ⟨i1, hi1, _, hz1', _⟩ := info_parts infoByte
  have hc : Tryd.prog.cellsOf 5 = 1 := by kernel_rfl
  rw [run_eql_struct, show 10000 = 9999 + 1 from rfl, run_equalIn_array w 9999 _ _ harr hi1, hc, show 9999 = 9998 + 1 from rfl,
    run_eqItems_bytes 9998 la lb w (List.range n) (fun i hi => by have := List.mem_range.1 hi; omega), all_range_eq la lb n ha hb]
  rfl
/-- Two arrays of bytes are compared. -/
theorem wpList_eql_bytes {ops : Array Oper} {rest : List Oper} {op : Oper} {a : Act} {w : World} {Q : Exit → Act → World → Prop} (hw : Region.wanted op (yielded ops a.tmps) = true) (t : TypeId) (x y : Operand) (k : TypeId) (ho : op.op = .binOp .eql t x y k)
    (n : Nat) (harr : Tryd.prog.underlying t = some (.array n 5)) (hg : Tryd.prog.eqGuardType Tryd.prog.depth t = false) (la lb : List UInt8) (ha : la.length = n) (hb : lb.length = n) (hx : a.eval x = .agg (la.map bv).toArray) (hy : a.eval y = .agg (lb.map bv).toArray) (r : Bool) (hr0 : (la == lb) = r)
    (h : wpList Tryd.prog ops Q rest (a.put op.dst (.bool r)) w) : wpList Tryd.prog ops Q (op :: rest) a w := by
  have hr := run_eql_bytes t n harr la lb ha hb w
  rw [hr0] at hr
  have hg : (eqGuard .eql t x y (.agg (la.map bv).toArray) (.agg (lb.map bv).toArray)).run Tryd.prog w = .ok () w := run_eqGuard_agg w .eql t x y _ _ hg
  refine wpList_wanted hw ?_
  unfold Oper.wp execOp
  simp only [ho, hx, hy, Sem.run_bind, Sem.run_pure, Result.andThen_ok, hr, hg]
  exact h
end Go.Proofs.YtedhjjlnionckaaDoor
