/-
  Blocks that a call made itself, known whole: loads, stores, copies and clears in them. More steps of a walk over blocks: slices of arrays, copies out of rows.
-/
import Derived.Test.YtbkgbjimooobbaaMem
import Derived.Laws.CopyOwn
import Derived.Laws.CopyRow
namespace Go.Proofs.Ytbkgbjimooobbaa
open Go.RowKit

/-- Block g of the world w holds the cells L. -/
def Blk (w : World) (g : Nat) (L : List Value) (t : TypeId) : Prop := w.heap[g]? = some (.cells L.toArray t (0, 0))
/-- w' is w but for block g. -/
structure Only (g : Nat) (w w' : World) : Prop where
  os : w'.os = w.os
  tape : w'.tape = w.tape
  output : w'.output = w.output
  size : w'.heap.size = w.heap.size
  block : ∀ k, k ≠ g → w'.heap[k]? = w.heap[k]?

section
variable {w w' : World} {g k B : Nat} {L : List Value} {t : TypeId}
theorem Only.below (h : Only g w w') (hB : B ≤ g) : Below B w w' := ⟨h.os, h.tape, h.output, by rw [h.size]; exact Nat.le_refl _, fun k hk => h.block k (by omega)⟩
theorem Only.trans {w2 : World} (h : Only g w w') (h2 : Only g w' w2) : Only g w w2 := ⟨h2.os.trans h.os, h2.tape.trans h.tape, h2.output.trans h.output, h2.size.trans h.size, fun k hk => (h2.block k hk).trans (h.block k hk)⟩
theorem Only.setRow (w : World) (g : Nat) (c : Array Value) : Only g w (w.setRow g c) := ⟨rfl, rfl, rfl, by simp, fun k hk => setRow_other w g k c hk⟩
theorem Blk.at {g2 : Nat} (h : Blk w g L t) (e : g2 = g) : Blk w g2 L t := by rw [e]; exact h
theorem Blk.lt (h : Blk w g L t) : g < w.heap.size := (Array.getElem?_eq_some_iff.1 h).1
theorem Blk.cell (h : Blk w g L t) {j : Nat} {v : Value} (hj : L[j]? = some v) : w.cell? ⟨g, j, none⟩ = some v := by
  rw [cell_of_row w g j _ t _ h]
  simpa using hj
theorem Blk.below (h : Blk w g L t) (hb : Below B w w') (hg : g < B) : Blk w' g L t := (hb.block g hg).trans h
theorem Blk.only (h : Blk w g L t) (ho : Only k w w') (hne : g ≠ k) : Blk w' g L t := (ho.block g hne).trans h
theorem Blk.new (w : World) (c : List Value) (t : TypeId) : Blk (w.alloc (.cells c.toArray t)) w.heap.size c t := heap_alloc_new w _
theorem Blk.new' (w : World) (c : Array Value) (t : TypeId) : Blk (w.alloc (.cells c t)) w.heap.size c.toList t := by
  unfold Blk
  rw [Array.toArray_toList]
  exact heap_alloc_new w _
theorem Blk.alloc (h : Blk w g L t) (o : Obj) : Blk (w.alloc o) g L t := (Below.heap_alloc w o g h.lt).trans h
theorem Blk.drew (h : Blk w g L t) : Blk w.drew g L t := h
theorem Blk.setRow (h : Blk w g L t) (c : List Value) : Blk (w.setRow g c.toArray) g c t := setRow_heap w g _ _ t _ h
theorem Blk.range (h : Blk w g L t) (o : Nat) (cs : List Value) (hcs : (L.drop o).take cs.length = cs) : w.rangeAt g o cs := fun j v hv => by
  rw [← hcs] at hv
  refine h.cell ?_
  rw [List.getElem?_take] at hv
  split at hv
  · rw [← hv, List.getElem?_drop]
  · cases hv
theorem Blk.rds (h : Blk w g L t) (o n : Nat) : Rds w w.heap.size (some ⟨g, o, none⟩) ((L.drop o).take n) := fun _ => by
  refine ⟨_, rfl, h.lt, fun j u hu => ?_⟩
  rw [Addr.add_mid]
  refine h.cell ?_
  rw [List.getElem?_take] at hu
  split at hu
  · rw [← hu, List.getElem?_drop]
  · cases hu
end

theorem one_int (k : IntKind) (z : Int) : ∀ u ∈ (Value.int k z).cells.toList, u.oneCell' = true := by
  intro u hu
  simp [Value.cells] at hu
  subst hu
  rfl
theorem wpList_end {P : Program} {ops : Array Oper} {Q : Exit → Act → World → Prop} {a : Act} {w : World} (h : Q .normal a w) : wpList P ops Q [] a w := h

def bz (n : Nat) : List Value := List.replicate n (.int .u8 0)
/-- An array that is filled byte by byte. -/
def fill (Y : List UInt8) (j : Nat) : List Value := (Y.take j).map bv ++ bz (Y.length - j)
theorem fill_len (Y : List UInt8) (j : Nat) (h : j ≤ Y.length) : (fill Y j).length = Y.length := by
  unfold fill bz
  rw [List.length_append, List.length_map, List.length_take, List.length_replicate]
  omega
theorem fill_zero (Y : List UInt8) : fill Y 0 = bz Y.length := by simp [fill]
theorem fill_all (Y : List UInt8) (j : Nat) (h : Y.length ≤ j) : fill Y j = Y.map bv := by
  unfold fill bz
  rw [List.take_of_length_le h, show Y.length - j = 0 by omega]
  simp
theorem fill_next (Y : List UInt8) (j : Nat) (y : UInt8) (hy : Y[j]? = some y) : splice (fill Y j) j [bv y] = fill Y (j + 1) := by
  obtain ⟨hj, hyg⟩ := List.getElem?_eq_some_iff.1 hy
  have h1 : ((Y.take j).map bv).length = j := by rw [List.length_map, List.length_take]; omega
  unfold splice fill bz
  rw [List.take_append_of_le_length (by omega), List.take_of_length_le (by omega), List.drop_append, h1, List.drop_eq_nil_of_le (by rw [h1, List.length_singleton]; omega), show j + [bv y].length - j = 1 by simp, List.drop_replicate, List.take_succ_eq_append_getElem hj, hyg, List.map_append, List.append_assoc]
  simp [Nat.sub_sub]
theorem take_all0 {α : Type} (cs : List α) : (cs.drop 0).take cs.length = cs := by simp
theorem splice_set {α : Type} (L : List α) (o : Nat) (v : α) (h : o < L.length) : splice L o [v] = L.set o v := by
  unfold splice
  rw [List.set_eq_take_append_cons_drop, if_pos h]
  rfl
theorem splice_map {α β : Type} (f : α → β) (L : List α) (o : Nat) (cs : List α) : (splice L o cs).map f = splice (L.map f) o (cs.map f) := by
  unfold splice
  simp [List.map_take, List.map_drop]
theorem splice_mid {α : Type} (a L b : List α) (o : Nat) (cs : List α) (h : o + cs.length ≤ L.length) : splice (a ++ L ++ b) (a.length + o) cs = a ++ splice L o cs ++ b := by
  unfold splice
  rw [List.append_assoc, List.take_length_add_append, show a.length + o + cs.length = a.length + (o + cs.length) by omega, List.drop_length_add_append, List.take_append_of_le_length (by omega), List.drop_append_of_le_length h]
  simp [List.append_assoc]
theorem splice_all {α : Type} (L cs : List α) (h : cs.length = L.length) : splice L 0 cs = cs := by
  unfold splice
  rw [List.drop_eq_nil_of_le (by omega)]
  simp

section
variable {P : Program} {ops : Array Oper} {rest : List Oper} {op : Oper} {a : Act} {w : World} {Q : Exit → Act → World → Prop}

/-- A row (an array, a struct) is loaded out of a block. -/
theorem wpList_blk_load (hgd : op.guard = none) (ty : TypeId) (x : Operand) (ho : op.op = .load ty x) {g : Nat} {L : List Value} {t : TypeId} (o : Nat) (hx : a.eval x = .pointer (some ⟨g, o, none⟩))
    (hb : Blk w g L t) (cs : List Value) (hcs : (L.drop o).take cs.length = cs) (d : TypeDesc) (hu : P.underlying ty = some d) (hd : d.isRow = true) (hi : (P.info? ty).map (·.size) = some cs.length)
    (h : wpList P ops Q rest (a.put op.dst (.agg cs.toArray)) w) : wpList P ops Q (op :: rest) a w :=
  wpList_load_mid hgd ty x ho g o hx cs d (hb.range o cs hcs) hu hd hi h

theorem run_storeAt_blk (w : World) {g : Nat} {L : List Value} {t : TypeId} (ty : TypeId) (o : Nat) (v : Value) (hb : Blk w g L t) (hi : (P.info? ty).map (·.size) = some v.cells.size) (hfit : o + v.cells.size ≤ L.length)
    (h1 : ∀ u ∈ v.cells.toList, u.oneCell' = true) : (Instr.storeAt ty (.pointer (some ⟨g, o, none⟩)) v).run P w = .ok () (w.setRow g (splice L o v.cells.toList).toArray) := by
  have hst := run_storeCells_at P g o t v.cells.toList 0 L.toArray w hb (by simpa using hfit) h1
  cases hq : P.info? ty with
  | none => simp [hq] at hi
  | some i =>
    have hs : v.cells.size = i.size := by simp [hq] at hi; omega
    simp only [Instr.storeAt, Instr.sureAddr, Sem.run_bind, Sem.run_pure, Result.andThen_ok]
    simp [storeVar, sizeOf, typeInfo, hq, hs, hst, splice]

/-- A value is stored in a block. -/
theorem wpList_blk_store (hgd : op.guard = none) (ty : TypeId) (x y : Operand) (ho : op.op = .store ty x y) {g : Nat} {L : List Value} {t : TypeId} (o : Nat) (v : Value) (hx : a.eval x = .pointer (some ⟨g, o, none⟩)) (hy : a.eval y = v)
    (hb : Blk w g L t) (hi : (P.info? ty).map (·.size) = some v.cells.size) (hfit : o + v.cells.size ≤ L.length) (h1 : ∀ u ∈ v.cells.toList, u.oneCell' = true)
    (h : ∀ w', Hid (Blk w' g (splice L o v.cells.toList) t) → Only g w w' → wpList P ops Q rest (a.put op.dst undef) w') : wpList P ops Q (op :: rest) a w := by
  refine wpList_plain hgd fun K hK => ?_
  unfold Oper.wp execOp
  simp only [ho, hx, hy, Sem.run_bind, Sem.run_pure, Result.andThen_ok, run_storeAt_blk (P := P) w ty o v hb hi hfit h1]
  exact hK _ _ (h _ (hb.setRow _) (Only.setRow _ _ _))

theorem firstCells_str {P : Program} (w : World) (n : Nat) (s : ByteArray) : (Builtin.firstCells 1 n (.string s)).run P w = .ok ((s.data.toList.map bv).take n).toArray w := by
  have h : ((s.data.map fun b : UInt8 => Value.int .u8 (b.toNat : Int)).extract 0 n) = ((s.data.toList.map bv).take n).toArray := by
    apply Array.ext'
    simp
    rfl
  simp [Builtin.firstCells]
  simpa using h

/-- 'copy(b[o:], s)', s a string. -/
theorem wpList_blk_copy (hgd : op.guard = none) (d s : Operand) (dT sT : TypeId) (ho : op.op = .call { callee := .builtin .copy, args := #[d, s], argTypes := #[dT, sT] }) (elem : TypeId) (hu : P.underlying dT = some (.slice elem)) (hsz : (P.info? elem).map (·.size) = some 1)
    {g : Nat} {L : List Value} {t : TypeId} (o dLen dCap : Nat) (S : ByteArray) (hd : a.eval d = .slice (some ⟨g, o, none⟩) dLen dCap) (hs : a.eval s = .string S) (n : Nat) (hn : n = min S.size dLen) (hb : Blk w g L t) (hfit : o + dLen ≤ L.length)
    (h : ∀ w', Hid (Blk w' g (splice L o ((S.data.toList.take n).map bv)) t) → Only g w w' → wpList P ops Q rest (a.put op.dst (goInt n)) w') : wpList P ops Q (op :: rest) a w := by
  refine wpList_plain hgd fun K hK => ?_
  have hn' : S.size.min dLen = n := hn.symm
  have hss : S.data.toList.length = S.size := by rw [Array.length_toList]; rfl
  obtain ⟨X, hX⟩ : ∃ X, X = (S.data.toList.map bv).take n := ⟨_, rfl⟩
  have hX' : (S.data.toList.take n).map bv = X := by rw [hX, List.map_take]
  have hlen : X.length = n := by rw [hX, List.length_take, List.length_map, hss]; omega
  have h1 : ∀ v ∈ X, v.oneCell' = true := by
    intro u hu
    rw [← hX'] at hu
    obtain ⟨b, _, rfl⟩ := List.mem_map.1 hu
    rfl
  have hst := run_storeCells_at P g o t X 0 L.toArray w hb (by rw [hlen]; simp; omega) h1
  have hfc := firstCells_str (P := P) w n S
  rw [← hX] at hfc
  rw [hX'] at h
  clear hX hX'
  have hrun : (Builtin.copy_ #[dT, sT] op.type #[.slice (some ⟨g, o, none⟩) dLen dCap, .string S]).run P w = .ok (goInt n) (w.setRow g (splice L o X).toArray) := by
    cases hq : P.info? elem with
    | none => simp [hq] at hsz
    | some i =>
      have hi : i.size = 1 := by simpa [hq] using hsz
      simp [Builtin.copy_, run_underlying hu, Builtin.lenOf, sizeOf, typeInfo, hq, hi, hn', hfc, hst, splice]
  unfold Oper.wp
  simp [execOp, ho, resolve, invoke, builtin, hd, hs, hrun, Result.andThen]
  exact hK _ _ (h _ (hb.setRow _) (Only.setRow _ _ _))

/-- 'clear(b[o:])'. -/
theorem wpList_blk_clear (hgd : op.guard = none) (d : Operand) (dT : TypeId) (ho : op.op = .call { callee := .builtin .clear, args := #[d], argTypes := #[dT] }) (elem : TypeId) (hu : P.underlying dT = some (.slice elem)) (hz : ∀ w, (zeroValue elem).run P w = .ok (.int .u8 0) w)
    {g : Nat} {L : List Value} {t : TypeId} (A : Option Addr) (o n c : Nat) (hd : a.eval d = .slice A n c) (hA : 0 < n → A = some ⟨g, o, none⟩) (hb : Blk w g L t) (hfit : o + n ≤ L.length)
    (h : ∀ w', Hid (Blk w' g (splice L o (List.replicate n (.int .u8 0))) t) → Only g w w' → wpList P ops Q rest (a.put op.dst (.tuple #[])) w') : wpList P ops Q (op :: rest) a w := by
  refine wpList_plain hgd fun K hK => ?_
  rcases Nat.eq_zero_or_pos n with rfl | hn
  · have hrun : (Builtin.clear_ #[dT] op.type #[.slice A 0 c]).run P w = .ok (.tuple #[]) w := by
      cases A <;> simp [Builtin.clear_, run_underlying hu]
    unfold Oper.wp
    simp [execOp, ho, resolve, invoke, builtin, hd, hrun, Result.andThen]
    exact hK _ _ (h w (by show Blk _ _ _ _; unfold splice; simpa using hb) ⟨rfl, rfl, rfl, rfl, fun _ _ => rfl⟩)
  · obtain rfl := hA hn
    have hzc : (Builtin.zeroCells (Value.int .u8 0).cells n).toList = List.replicate n (.int .u8 0) := by
      rw [show (Value.int .u8 0).cells = #[.int .u8 0] from rfl]
      simp [Builtin.zeroCells]
      apply List.ext_getElem
      · simp
      · intro i h1 h2
        simp [Nat.mod_one]
    have hst := run_storeCells_at P g o t (List.replicate n (.int .u8 0)) 0 L.toArray w hb (by simp; omega) (by intro u hu; rw [List.eq_of_mem_replicate hu]; rfl)
    have hrun : (Builtin.clear_ #[dT] op.type #[.slice (some ⟨g, o, none⟩) n c]).run P w = .ok (.tuple #[]) (w.setRow g (splice L o (List.replicate n (.int .u8 0))).toArray) := by
      obtain ⟨m, rfl⟩ : ∃ m, n = m + 1 := ⟨n - 1, by omega⟩
      simp [Builtin.clear_, run_underlying hu, hz, hzc, hst, splice]
    unfold Oper.wp
    simp [execOp, ho, resolve, invoke, builtin, hd, hrun, Result.andThen]
    exact hK _ _ (h _ (hb.setRow _) (Only.setRow _ _ _))
/-- An element of an array's value. -/
theorem wpList_index_arr (hgd : op.guard = none) (ty : TypeId) (x y : Operand) (ho : op.op = .index ty x y) (cs : Array Value) (k : IntKind) (j : Nat) (hx : a.eval x = .agg cs) (hy : a.eval y = .int k j) (n : Nat) (e : TypeId)
    (hu : P.underlying ty = some (.array n e)) (d : TypeDesc) (hue : P.underlying e = some d) (hd : d.isRow = false) (hi : (P.info? e).map (·.size) = some 1) (hj : j < n) (v : Value) (hv : cs[j]? = some v)
    (h : wpList P ops Q rest (a.put op.dst v) w) : wpList P ops Q (op :: rest) a w := by
  refine wpList_plain hgd fun K hK => ?_
  cases hq : P.info? e with
  | none => simp [hq] at hi
  | some i =>
    have hs : i.size = 1 := by simpa [hq] using hi
    have hagg : ∀ w, (isAgg e).run P w = .ok false w := fun w => by
      unfold isAgg
      rw [Sem.run_bind, run_underlying hue w]
      cases d <;> simp_all
    have hrun : (Instr.index ty (.agg cs) (.int k j)).run P w = .ok v w := by
      simp [Instr.index, asIntOf, run_underlying hu, part, hagg, sizeOf, typeInfo, hq, hs, hv]
      intro h
      exact absurd h (by omega)
    unfold Oper.wp execOp
    simp only [ho, hx, hy, Sem.run_bind, Sem.run_pure, Result.andThen_ok, hrun]
    exact hK _ _ h
/-- The result lies in a block of the call's own. -/
theorem ret_blk {fn : Func} {p : Tmp} {ty : TypeId} (hr : fn.results = #[.cell p ty]) (tmps : Array Value) (w : World) {g : Nat} {L : List Value} {t : TypeId} (hp : tmps.getD p undef = .pointer (some ⟨g, 0, none⟩)) (hb : Blk w g L t)
    (d : TypeDesc) (hu : P.underlying ty = some d) (hd : d.isRow = true) (hi : (P.info? ty).map (·.size) = some L.length) : (results fn tmps).run P w = .ok (.agg L.toArray) w := by
  have hv := run_loadVar_mid (P := P) w g 0 ty L d (hb.range 0 L (by simp)) hu hd hi
  have hp' : tmps[p]?.getD undef = .pointer (some ⟨g, 0, none⟩) := by simpa using hp
  simp [results, hr, hp', asAddr, hv]
end
end Go.Proofs.Ytbkgbjimooobbaa

namespace Go.Proofs.Ytbkgbjimooobbaa
open Go.RowKit

set_option linter.unusedSimpArgs false
section
variable {P : Program} {ops : Array Oper} {rest : List Oper} {op : Oper} {a : Act} {w : World} {Q : Exit → Act → World → Prop}

theorem run_sliceAt_arr (W : World) (ty : TypeId) (n : Nat) (e : TypeId) (ad : Addr) (hu : P.underlying ty = some (.array n e)) (hi : (P.info? e).map (·.size) = some 1) (lo hv : Option Value) (l h : Nat) (hlo : (lo = none ∧ l = 0) ∨ ∃ k, lo = some (.int k l)) (hhi : (hv = none ∧ h = n) ∨ ∃ k, hv = some (.int k h)) (h1 : l ≤ h) (h2 : h ≤ n) :
    (Instr.sliceAt ty (.pointer (some ad)) lo hv none).run P W = .ok (.slice (some (if n = l then ad else ad.add l)) (h - l) (n - l)) W := by
  cases hq : P.info? e with
  | none => simp [hq] at hi
  | some i =>
    have hs : i.size = 1 := by simpa [hq] using hi
    have i1 : (l : Int) ≤ h := by omega
    have i2 : (h : Int) ≤ n := by omega
    rcases hlo with ⟨rfl, rfl⟩ | ⟨k, rfl⟩ <;> rcases hhi with ⟨rfl, rfl⟩ | ⟨k', rfl⟩ <;>
      simp [Instr.sliceAt, Instr.sureAddr, run_underlying hu, Instr.sliceBounds, run_sliceBound, i1, i2, sizeOf, typeInfo, hq, hs, h1, h2]

/-- 'b[l:h]', b an array. -/
theorem wpList_slice_arr (hgd : op.guard = none) (ty : TypeId) (x : Operand) (lo hi : Option Operand) (ho : op.op = .slice ty x lo hi none) (ad : Addr) (hx : a.eval x = .pointer (some ad)) (n : Nat) (e : TypeId) (hu : P.underlying ty = some (.array n e)) (hs : (P.info? e).map (·.size) = some 1)
    (l h : Nat) (hlo : (lo = none ∧ l = 0) ∨ ∃ o k, lo = some o ∧ a.eval o = .int k l) (hhi : (hi = none ∧ h = n) ∨ ∃ o k, hi = some o ∧ a.eval o = .int k h) (h1 : l ≤ h) (h2 : h ≤ n) (v : Value) (hv : v = .slice (some (if n = l then ad else ad.add l)) (h - l) (n - l))
    (hk : wpList P ops Q rest (a.put op.dst v) w) : wpList P ops Q (op :: rest) a w := by
  refine wpList_plain hgd fun K hK => ?_
  have hrun := fun lo hv a1 a2 => run_sliceAt_arr (P := P) w ty n e ad hu hs lo hv l h a1 a2 h1 h2
  subst hv
  unfold Oper.wp execOp
  rcases hlo with ⟨rfl, hl0⟩ | ⟨o, k, rfl, hl⟩ <;> rcases hhi with ⟨rfl, hh0⟩ | ⟨o', k', rfl, hh⟩
  · simp only [ho, hx, Option.map_none, Sem.run_bind, Sem.run_pure, hrun none none (.inl ⟨rfl, hl0⟩) (.inl ⟨rfl, hh0⟩), Result.andThen_ok]
    exact hK _ _ hk
  · simp only [ho, hx, Option.map_none, Option.map_some, hh, Sem.run_bind, Sem.run_pure, hrun none (some (.int k' h)) (.inl ⟨rfl, hl0⟩) (.inr ⟨k', rfl⟩), Result.andThen_ok]
    exact hK _ _ hk
  · simp only [ho, hx, Option.map_none, Option.map_some, hl, Sem.run_bind, Sem.run_pure, hrun (some (.int k l)) none (.inr ⟨k, rfl⟩) (.inl ⟨rfl, hh0⟩), Result.andThen_ok]
    exact hK _ _ hk
  · simp only [ho, hx, Option.map_none, Option.map_some, hl, hh, Sem.run_bind, Sem.run_pure, hrun (some (.int k l)) (some (.int k' h)) (.inr ⟨k, rfl⟩) (.inr ⟨k', rfl⟩), Result.andThen_ok]
    exact hK _ _ hk
end
end Go.Proofs.Ytbkgbjimooobbaa
