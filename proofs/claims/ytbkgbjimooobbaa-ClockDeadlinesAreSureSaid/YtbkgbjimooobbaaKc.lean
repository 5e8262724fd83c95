/-
  Rows of bytes compared, stored and loaded by operations that are carried out; plans with such operations. (General: no function of the project.)
-/
import Derived.Test.YtbkgbjimooobbaaKb
import Derived.Test.YtbkgbjimooobbaaBk
import Derived.Test.YtbkgbjimooobbaaRg
import Derived.ChangeKeysEq
import Derived.Laws.StructEq
import Derived.Laws.Strings2
import Derived.Laws.Small
namespace Go.Proofs.Ytbkgbjimooobbaa
set_option linter.unusedVariables false
set_option linter.unusedSimpArgs false
open Go.RowKit

theorem size_u8 : (Try.prog.info? 5).map (·.size) = some 1 := by kernel_rfl
theorem bytes_cells (l : List UInt8) : ∀ u ∈ (Value.agg (l.map bv).toArray).cells.toList, u.oneCell' = true := by
  intro u hu
  simp [Value.cells] at hu
  obtain ⟨n, _, rfl⟩ := hu
  rfl
theorem bs_at (l : List UInt8) (k : Nat) : (bs l)[k]? = l[k]? := by
  by_cases h : k < l.length
  · rw [getElem?_pos (bs l) k (by rw [bs_size]; exact h), List.getElem?_eq_getElem h]; rfl
  · rw [getElem?_neg (bs l) k (by rw [bs_size]; exact h), List.getElem?_eq_none (by omega)]
theorem bs_get {S : ByteArray} {k : Nat} {z : UInt8} (h : S[k]? = some z) : ∀ (hk : k < S.size), S[k]'hk = z := fun hk => by
  rw [getElem?_pos S k hk] at h
  exact Option.some.inj h

/-- An array of bytes as a value. -/
def av (l : List UInt8) : Value := .agg (l.map bv).toArray
section
variable {P : Program} {ops : Array Oper} {rest : List Oper} {op : Oper} {a : Act} {w : World} {Q : Exit → Act → World → Prop}
/-- A whole row is stored in a block. -/
theorem wpList_row_store (hgd : op.guard = none) (ty : TypeId) (x y : Operand) (ho : op.op = .store ty x y) {g : Nat} {L : List Value} {t : TypeId} (C : List Value) (hx : a.eval x = .pointer (some ⟨g, 0, none⟩)) (hy : a.eval y = .agg C.toArray)
    (hb : Blk w g L t) (hi : (P.info? ty).map (·.size) = some C.length) (hl : C.length = L.length) (h1 : ∀ u ∈ C, u.oneCell' = true)
    (h : ∀ w', Hid (Blk w' g C t) → Only g w w' → wpList P ops Q rest (a.put op.dst undef) w') : wpList P ops Q (op :: rest) a w := by
  refine wpList_blk_store hgd ty x y ho 0 (.agg C.toArray) hx hy hb (by simpa [Value.cells] using hi) (by simp [Value.cells]; omega) h1 ?_
  intro w' hw ho'
  refine h w' ?_ ho'
  have := hw.out
  rw [show (Value.agg C.toArray).cells.toList = C from rfl, splice_all _ _ hl] at this
  exact this
end
theorem _root_.Go.ExtOf.below {w1 : World} {B : Nat} (x : ExtOf w1.drew) (h : B ≤ w1.heap.size) : Below B w1 x.world := ((Below.refl B w1).drew).trans (Below.mono x.ext h)
theorem drewBelow {w1 w2 : World} (h : Below w1.drew.heap.size w1.drew w2) : Below w1.heap.size w1 w2 := ((Below.refl w1.heap.size w1).drew).trans h
theorem av_one (l : List UInt8) : ∀ u ∈ l.map bv, u.oneCell' = true := bytes_cells l
theorem av_len (l : List UInt8) : (l.map bv).length = l.length := List.length_map ..


theorem run_eqItems_bytes (d : Nat) (la lb : List UInt8) (w : World) : ∀ is : List Nat, (∀ i ∈ is, i < la.length ∧ i < lb.length) →
    (Op.eqItems (d + 1) 5 1 (la.map bv).toArray (lb.map bv).toArray is).run Try.prog w = .ok (is.all fun i => la.getD i 0 == lb.getD i 0) w
  | [], _ => by simp [Op.eqItems]
  | i :: is, h => by
    obtain ⟨h1, h2⟩ := h i (by simp)
    have ih := run_eqItems_bytes d la lb w is (fun j hj => h j (by simp [hj]))
    have hu := Try.underlying5
    have e : (((la[i].toNat : Nat) : Int) == ((lb[i].toNat : Nat) : Int)) = (la[i] == lb[i]) := by
      rw [Bool.eq_iff_iff, beq_iff_eq, beq_iff_eq]
      constructor
      · intro hh; exact UInt8.toNat_inj.1 (by omega)
      · intro hh; rw [hh]
    simp only [Op.eqItems, Sem.run_bind]
    simp [part, isAgg, h1, h2, bv, List.getD_eq_getElem?_getD, run_underlying hu]
    rw [run_equalIn_int w d 5 .u8 .u8 _ _ hu, e]
    simp only [Result.andThen_ok]
    cases hq : la[i] == lb[i]
    · simp
    · have ih' := ih
      simp only [List.getD_eq_getElem?_getD] at ih'
      simp [← ih']
theorem all_range_eq (la lb : List UInt8) (n : Nat) (ha : la.length = n) (hb : lb.length = n) : ((List.range n).all fun i => la.getD i 0 == lb.getD i 0) = (la == lb) := by
  rw [Bool.eq_iff_iff, List.all_eq_true, beq_iff_eq]
  constructor
  · intro h
    apply List.ext_getElem (by omega)
    intro i h1 h2
    have := h i (List.mem_range.2 (by omega))
    simpa [List.getD_eq_getElem?_getD, h1, h2] using this
  · rintro rfl i _
    simp

section
variable {P : Program} {ops : Array Oper} {rest : List Oper} {op : Oper} {a : Act} {w : World} {Q : Exit → Act → World → Prop}
theorem wpList_wanted (hw : Region.wanted op (yielded ops a.tmps) = true) (h : op.wp P a w (wpList P ops Q rest) Q) : wpList P ops Q (op :: rest) a w := by
  unfold wpList
  rw [if_pos hw]
  exact .inl h
/-- A row is loaded out of a block by an operation that is carried out. -/
theorem wpList_blk_loadW (hw : Region.wanted op (yielded ops a.tmps) = true) (ty : TypeId) (x : Operand) (ho : op.op = .load ty x) {g : Nat} {L : List Value} {t : TypeId} (o : Nat) (hx : a.eval x = .pointer (some ⟨g, o, none⟩))
    (hb : Blk w g L t) (cs : List Value) (hcs : (L.drop o).take cs.length = cs) (d : TypeDesc) (hu : P.underlying ty = some d) (hd : d.isRow = true) (hi : (P.info? ty).map (·.size) = some cs.length)
    (h : wpList P ops Q rest (a.put op.dst (.agg cs.toArray)) w) : wpList P ops Q (op :: rest) a w :=
  wpList_wanted hw (wp_load_mid ty x ho g o hx cs d (hb.range o cs hcs) hu hd hi h)
end

theorem infoByteE : (Try.prog.info? 5).map (fun i => (i.zero, i.size, i.bytes)) = some (some (.int .u8 0), 1, 1) := infoByte
theorem run_eql_bytes (t : TypeId) (n : Nat) (harr : Try.prog.underlying t = some (.array n 5)) (la lb : List UInt8) (ha : la.length = n) (hb : lb.length = n) (w : World) :
    (binOp .eql t (.agg (la.map bv).toArray) (.agg (lb.map bv).toArray)).run Try.prog w = .ok (.bool (la == lb)) w := by
  obtain ⟨i1, hi1, _, hz1', _⟩ := info_parts infoByte
  have hc : Try.prog.cellsOf 5 = 1 := by kernel_rfl
  rw [run_eql_struct, show 10000 = 9999 + 1 from rfl, run_equalIn_array w 9999 _ _ harr hi1, hc, show 9999 = 9998 + 1 from rfl,
    run_eqItems_bytes 9998 la lb w (List.range n) (fun i hi => by have := List.mem_range.1 hi; omega), all_range_eq la lb n ha hb]
  rfl
/-- Two arrays of bytes are compared. -/
theorem wpList_eql_bytes {ops : Array Oper} {rest : List Oper} {op : Oper} {a : Act} {w : World} {Q : Exit → Act → World → Prop} (hw : Region.wanted op (yielded ops a.tmps) = true) (t : TypeId) (x y : Operand) (k : TypeId) (ho : op.op = .binOp .eql t x y k)
    (n : Nat) (harr : Try.prog.underlying t = some (.array n 5)) (hg : Try.prog.eqGuardType Try.prog.depth t = false) (la lb : List UInt8) (ha : la.length = n) (hb : lb.length = n) (hx : a.eval x = .agg (la.map bv).toArray) (hy : a.eval y = .agg (lb.map bv).toArray) (r : Bool) (hr0 : (la == lb) = r)
    (h : wpList Try.prog ops Q rest (a.put op.dst (.bool r)) w) : wpList Try.prog ops Q (op :: rest) a w := by
  have hr := run_eql_bytes t n harr la lb ha hb w
  rw [hr0] at hr
  have hg : (eqGuard .eql t x y (.agg (la.map bv).toArray) (.agg (lb.map bv).toArray)).run Try.prog w = .ok () w := run_eqGuard_agg w .eql t x y _ _ hg
  refine wpList_wanted hw ?_
  unfold Oper.wp execOp
  simp only [ho, hx, hy, Sem.run_bind, Sem.run_pure, Result.andThen_ok, hr, hg]
  exact h

section
variable {P : Program} {ops : Array Oper} {Q : Exit → Act → World → Prop} {L : Nat}
theorem wpPlanL_runW {i : Nat} {o : Oper} {rest : List (Bool × Nat)} {a : Act} {w : World} (ho : ops[i]? = some o) (hw : Region.wanted o (yielded ops a.tmps) = true) (v : Value) (hv : ∀ x : ExtOf w, (execOp a.eval o).run P x.world = .ok (.value v) x.world)
    (h : wpPlanL P ops Q L rest (a.put o.dst v) w) : wpPlanL P ops Q L ((true, i) :: rest) a w := by
  unfold wpPlanL
  simp only [ho]
  rw [if_pos hw]
  exact ⟨_, hv, h⟩
theorem load_run {o : Oper} {a : Act} (ty : TypeId) (y : Operand) (hop : o.op = .load ty y) (g off : Nat) (hy : a.eval y = .pointer (some ⟨g, off, none⟩)) (cs : List Value) (d : TypeDesc)
    (hu : P.underlying ty = some d) (hd : d.isRow = true) (hi : (P.info? ty).map (·.size) = some cs.length) (W : World) (hc : W.rangeAt g off cs) : (execOp a.eval o).run P W = .ok (.value (.agg cs.toArray)) W := by
  unfold execOp
  simp only [hop, hy, Instr.loadAt, Instr.sureAddr, Sem.run_bind, Sem.run_pure, Result.andThen_ok, run_loadVar_mid W g off ty cs d hc hu hd hi]
end
theorem eql_run {o : Oper} {a : Act} (t : TypeId) (x y : Operand) (k : TypeId) (ho : o.op = .binOp .eql t x y k)
    (n : Nat) (harr : Try.prog.underlying t = some (.array n 5)) (hg : Try.prog.eqGuardType Try.prog.depth t = false) (la lb : List UInt8) (ha : la.length = n) (hb : lb.length = n) (hx : a.eval x = .agg (la.map bv).toArray) (hy : a.eval y = .agg (lb.map bv).toArray) (r : Bool) (hr0 : (la == lb) = r) (W : World) :
    (execOp a.eval o).run Try.prog W = .ok (.value (.bool r)) W := by
  have hr := run_eql_bytes t n harr la lb ha hb W
  rw [hr0] at hr
  have hg : (eqGuard .eql t x y (.agg (la.map bv).toArray) (.agg (lb.map bv).toArray)).run Try.prog W = .ok () W := run_eqGuard_agg W .eql t x y _ _ hg
  unfold execOp
  simp only [ho, hx, hy, Sem.run_bind, Sem.run_pure, Result.andThen_ok, hr, hg]

section
variable {P : Program}
theorem min_run {o : Oper} {a : Act} (x y : Operand) (ts : Array TypeId) (hop : o.op = .call { callee := .builtin .min, args := #[x, y], argTypes := ts }) (k : IntKind) (b c : Nat) (hx : a.eval x = .int k b) (hy : a.eval y = .int k c) (W : World) :
    (execOp a.eval o).run P W = .ok (.value (.int k ((min b c : Nat) : Int))) W := by
  unfold execOp
  simp only [hop]
  generalize a.eval = ρ at *
  simp [go_sem, resolve, invoke, hx, hy, run_min_int2]
  split <;> omega
theorem max_run {o : Oper} {a : Act} (x y : Operand) (ts : Array TypeId) (hop : o.op = .call { callee := .builtin .max, args := #[x, y], argTypes := ts }) (k : IntKind) (b c : Nat) (hx : a.eval x = .int k b) (hy : a.eval y = .int k c) (W : World) :
    (execOp a.eval o).run P W = .ok (.value (.int k ((max b c : Nat) : Int))) W := by
  unfold execOp
  simp only [hop]
  generalize a.eval = ρ at *
  simp [go_sem, resolve, invoke, hx, hy, run_max_int2]
  split <;> omega
theorem cut_run {o : Oper} {a : Act} (t : TypeId) (x y : Operand) (hop : o.op = .slice t x none (some y) none) (hu : P.underlying t = some .string) (S : ByteArray) (m : Nat) (hx : a.eval x = .string S) (hy : a.eval y = .int .i64 m) (hm : m ≤ S.size) (W : World) :
    (execOp a.eval o).run P W = .ok (.value (.string (S.extract 0 m))) W := by
  unfold execOp
  simp only [hop]
  generalize a.eval = ρ at *
  have h2 : (m : Int) ≤ S.size := by omega
  simp [go_sem, Instr.sliceAt, hx, hy, Instr.slice, Instr.sliceBounds, Instr.sliceBound, asIntOf, run_underlying hu, hm]
theorem eqs_run {o : Oper} {a : Act} (t : TypeId) (x y : Operand) (k : TypeId) (hop : o.op = .binOp .eql t x y k) (hu : P.underlying t = some .string) (S S2 : ByteArray) (r : Bool) (hr : (S.toList == S2.toList) = r) (hx : a.eval x = .string S) (hy : a.eval y = .string S2) (W : World) :
    (execOp a.eval o).run P W = .ok (.value (.bool r)) W := by
  subst hr
  unfold execOp
  simp only [hop]
  generalize a.eval = ρ at *
  simp [go_sem, hx, hy, hu]
end
theorem made_zeros (n : Nat) : madeCells #[Value.int .u8 0] n = (List.replicate n (Value.int .u8 0)).toArray := by
  unfold madeCells
  apply Array.ext'
  simp [Nat.mod_one]
  apply List.ext_getElem <;> simp
theorem bs_append (a b : List UInt8) : bs a ++ bs b = bs (a ++ b) := by
  unfold bs
  apply ByteArray.ext
  simp
end Go.Proofs.Ytbkgbjimooobbaa
