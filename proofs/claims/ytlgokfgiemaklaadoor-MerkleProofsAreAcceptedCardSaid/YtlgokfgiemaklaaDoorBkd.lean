/-
  slices.Backward over digests: the iterator's contract (in a fence); joined.
-/
import Derived.Test.YtlgokfgiemaklaaDoorMka
import Derived.Test.YtlgokfgiemaklaaDoorNck
import Derived.RangeFuncBox
import Derived.RangeFuncLeaves
import Derived.RangeFuncBound
import Derived.RangeFuncNested
import Derived.RangeFuncCalls
import Derived.Shelf.Abstract
import Derived.Shelf.RegionOpen
import Derived.WalkKit
import Derived.OwnWalkIn
import Derived.TacticsInMore
import Derived.LoopNIn
import Derived.LoopIn
namespace Go.Proofs.YtlgokfgiemaklaaDoor
set_option linter.unusedVariables false
set_option linter.unusedSimpArgs false
open Go.RowKit Go.Shelf
attribute [local go_sem] Oper.semAt_some

section
variable {F : Fence} {n : Nat} {P : Program} {w : World} {ops : Array Oper} {rest : List Oper} {op : Oper} {a : Act} {Q : Exit → Act → World → Prop}
theorem wpListIn_load_arr (hgd : op.guard = none) (ty : TypeId) (x : Operand) (ho : op.op = .load ty x)
    (ad : Addr) (hx : a.eval x = .pointer (some ad)) (cs : List Value) (k : Nat) (e : TypeId) (hc : ∀ j v, cs[j]? = some v → w.cell? (ad.add j) = some v)
    (hu : P.underlying ty = some (.array k e)) (hi : (P.info? ty).map (·.size) = some cs.length)
    (h : wpListIn F n P ops Q rest (a.put op.dst (.agg cs.toArray)) w) : wpListIn F n P ops Q (op :: rest) a w := by
  refine wpListIn_plain hgd fun K hK => ?_
  have hl : (loadCells ad cs.length).run P w = .ok cs.toArray w := run_loadCells_list (P := P) w ad cs hc
  have hv : (loadVar ty ad).run P w = .ok (.agg cs.toArray) w := by
    cases hq : P.info? ty with
    | none => simp [hq] at hi
    | some i =>
      have hs : i.size = cs.length := by simpa [hq] using hi
      have hagg : (isAgg ty).run P w = .ok true w := by
        unfold isAgg
        rw [Sem.run_bind, run_underlying hu w]
        simp
      simp [loadVar, Sem.run_bind, hagg, sizeOf, typeInfo, hq, hs, hl]
  unfold Oper.wpIn
  refine ⟨by simp [Oper.about, ho], ?_⟩
  rw [Oper.semAt_plain F _ _ (by rw [ho]; intro c hc; cases hc)]
  unfold execOp
  simp only [ho, hx, Instr.loadAt, Instr.sureAddr, Sem.run_bind, Sem.run_pure, Result.andThen_ok, hv]
  exact hK _ _ h
theorem wpListIn_blk_load (hgd : op.guard = none) (ty : TypeId) (x : Operand) (ho : op.op = .load ty x) {g : Nat} {L : List Value} {t : TypeId} (o : Nat) (hx : a.eval x = .pointer (some ⟨g, o, none⟩))
    (hb : Blk w g L t) (cs : List Value) (hcs : (L.drop o).take cs.length = cs) (d : TypeDesc) (hu : P.underlying ty = some d) (hd : d.isRow = true) (hi : (P.info? ty).map (·.size) = some cs.length)
    (h : wpListIn F n P ops Q rest (a.put op.dst (.agg cs.toArray)) w) : wpListIn F n P ops Q (op :: rest) a w := by
  refine wpListIn_plain hgd fun K hK => ?_
  unfold Oper.wpIn
  refine ⟨by simp [Oper.about, ho], ?_⟩
  rw [Oper.semAt_plain F _ _ (by rw [ho]; intro c hc; cases hc)]
  unfold execOp
  simp only [ho, hx, Instr.loadAt, Instr.sureAddr, Sem.run_bind, Sem.run_pure, Result.andThen_ok, run_loadVar_mid w g o ty cs d (hb.range o cs hcs) hu hd hi]
  exact hK _ _ h
theorem wpListIn_row_store (hgd : op.guard = none) (ty : TypeId) (x y : Operand) (ho : op.op = .store ty x y) {g : Nat} {L : List Value} {t : TypeId} (C : List Value) (hx : a.eval x = .pointer (some ⟨g, 0, none⟩)) (hy : a.eval y = .agg C.toArray)
    (hb : Blk w g L t) (hi : (P.info? ty).map (·.size) = some C.length) (hl : C.length = L.length) (h1 : ∀ u ∈ C, u.oneCell' = true)
    (h : ∀ w', Hid (Blk w' g C t) → Only g w w' → wpListIn F n P ops Q rest (a.put op.dst undef) w') : wpListIn F n P ops Q (op :: rest) a w := by
  refine wpListIn_plain hgd fun K hK => ?_
  have hr := run_storeAt_blk (P := P) w ty 0 (.agg C.toArray) hb (by simpa [Value.cells] using hi) (by simp [Value.cells]; omega) h1
  unfold Oper.wpIn
  refine ⟨by simp [Oper.about, ho], ?_⟩
  rw [Oper.semAt_plain F _ _ (by rw [ho]; intro c hc; cases hc)]
  unfold execOp
  simp only [ho, hx, hy, Sem.run_bind, Sem.run_pure, Result.andThen_ok, hr]
  refine hK _ _ (h _ ?_ (Only.setRow _ _ _))
  have := hb.setRow (splice L 0 (Value.agg C.toArray).cells.toList)
  show Blk _ _ _ _
  rw [show (Value.agg C.toArray).cells.toList = C from rfl, splice_all _ _ hl] at this ⊢
  exact this
end

/-- A digest. -/
abbrev D16d := {d : List UInt8 // d.length = 16}
def nxs (L : List (List UInt8)) (hd : D16 L) (j : Nat) : D16d := ⟨nx L j, nx_len hd j⟩
/-- What has come when k rounds are over. -/
def bkd (L : List (List UInt8)) (hd : D16 L) (k : Nat) : List (Nat × D16d) := (List.range k).map fun j => (L.length - 1 - j, nxs L hd (L.length - 1 - j))
theorem bkd_succ {p : List (List UInt8)} (hd : D16 p) {k m : Nat} (h : k + (m + 1) = p.length) : bkd p hd (k + 1) = bkd p hd k ++ [(m, nxs p hd m)] := by
  simp only [bkd, List.range_succ, List.map_append, List.map_cons, List.map_nil]
  rw [show p.length - 1 - k = m by omega]
theorem bkd_len (p : List (List UInt8)) (hd : D16 p) (k : Nat) : (bkd p hd k).length = k := by simp [bkd]
/-- What a round keeps: the blocks below, and the box of the slice. -/
def KeepB (Bs n₀ : Nat) (W W' : World) : Prop := Below n₀ W W' ∧ W'.cell? ⟨Bs, 0, none⟩ = W.cell? ⟨Bs, 0, none⟩
theorem KeepB.refl (Bs n₀ : Nat) (W : World) : KeepB Bs n₀ W W := ⟨Below.refl _ _, rfl⟩
theorem KeepB.trans {Bs n₀ : Nat} {A B C : World} (h : KeepB Bs n₀ A B) (k : KeepB Bs n₀ B C) : KeepB Bs n₀ A C := ⟨h.1.trans k.1, k.2.trans h.2⟩
theorem keepB_t {Bs n₀ : Nat} {A B C : World} (h : KeepB Bs n₀ A B) (k : KeepB Bs n₀ B C) : KeepB Bs n₀ A C := h.trans k
theorem keepB_b {Bs n₀ : Nat} {w : World} (hB : Bs < w.heap.size) (hn : n₀ ≤ w.heap.size) (W : World) (l : Nat) (o o' : Obj) (hl : w.heap.size ≤ l) (h : W.heap[l]? = some o) (ho : o.isCells = false) (hw : o.isWalk = false) : KeepB Bs n₀ W (W.putObj l o') :=
  ⟨belowK_b hn W l o o' hl h ho hw, (belowK_b (n₀ := Bs + 1) (by omega) W l o o' hl h ho hw).cell (p := ⟨Bs, 0, none⟩) (by show Bs < Bs + 1; omega)⟩

set_option maxRecDepth 100000 in
set_option maxHeartbeats 2000000 in
theorem backwardD1_in (F : Fence) (n : Nat) (hf : F.fn 90) (hro : F.round = none) (hn : 1 ≤ n) (l Bs n₀ N c : Nat) (p : List (List UInt8)) (hd : D16 p) (A : Option Addr) (hN : p.length = N) (hl : N ≤ 140737488355328) (J Jx : List (Nat × D16d) → World → Prop)
    (hY : ∀ pre x W, J pre W → pre.length < N → YieldAt F (n - 1) Tryd.prog l #[.int .i64 (x.1 : Int), av x.2.1] W fun e W' =>
      (e = .returned (.bool true) ∧ J (pre ++ [x]) W' ∧ KeepB Bs n₀ W W') ∨ (e = .returned (.bool false) ∧ Jx (pre ++ [x]) W'))
    (W : World) (hBs : W.cell? ⟨Bs, 0, none⟩ = some (.slice A N c)) (hr : Rds W n₀ A ((flat p).map bv)) (h0 : J [] W) :
    CallsIn F n Tryd.prog 90 #[.func (.yield l) #[] #[], .pointer (some ⟨Bs, 0, none⟩)] W fun e W' => (∃ v, e = .returned v) ∧
      ((∃ ys, ys = bkd p hd N ∧ J ys W') ∨ (∃ pre, True ∧ Jx pre W')) := by
  have hN' := Lib.hid hN
  have hr' := Lib.hid hr
  have hd' := Lib.hid hd
  clear hN hr
  refine callsIn_of_wp Tryd.func90 rfl hf ?_ hro
  simp only [Tryd.ntmps90, List.size_toArray, List.length_cons, List.length_nil, Nat.reduceAdd, Nat.reduceSub, Array.replicate_succ, Array.replicate_zero, List.push_toArray, List.append_toArray, List.nil_append, List.cons_append]
  gi_wp2
  gi_loopw [3] (fun i wr => ∃ k m : Nat, k + m = N ∧ i = .int .i64 ((m : Int) - 1) ∧ J (bkd p hd k) wr ∧ KeepB Bs n₀ W wr)
    (fun i _ => (intOf i + 1).toNat)
  case atStart => exact ⟨0, N, by omega, by go_num, h0, KeepB.refl _ _ _⟩
  case round =>
    obtain ⟨k, m, hk, rfl, hJs, hnx⟩ := hrel
    have hb2 := hnx.2.trans hBs
    cases m with
    | zero =>
      rw [show (((0 : Nat) : Int) - 1) = -1 from rfl]
      obtain rfl : k = N := by omega
      gi_wp2
      go_end0
      exact ⟨⟨_, rfl⟩, .inl ⟨_, rfl, hJs⟩⟩
    | succ m =>
      have hs := bkd_succ (p := p) hd (k := k) (m := m) (by have := hN'.out; omega)
      have hx : p[m]? = some (nxs p hd m).1 := by
        show p[m]? = some (nx p m)
        unfold nx
        rw [List.getD_eq_getElem?_getD, List.getElem?_eq_getElem (by have := hN'.out; omega)]
        rfl
      obtain ⟨ad, rfl, hca⟩ : ∃ ad, A = some ad ∧ Hid (∀ i v, ((nxs p hd m).1.map bv)[i]? = some v → wr.cell? ((ad.add (m * 16)).add i) = some v) := by
        obtain ⟨ad, h1, _, _, _⟩ := (show Dg W A p from fun h => by obtain ⟨ad, h1, h2, h3⟩ := hr'.out h; exact ⟨ad, h1, (by
          have := h3 0 _ (List.getElem?_eq_getElem (List.length_pos_iff.2 h))
          obtain ⟨o, ho, _⟩ := cells_of_cell this
          have := (Array.getElem?_eq_some_iff.1 ho).1
          rwa [add_block] at this), h3⟩).at hd'.out hx
        refine ⟨ad, h1, fun i v hv => ?_⟩
        subst h1
        have hrw := hr'.out.below hnx.1
        obtain ⟨ad', he, _, _, hc⟩ := (show Dg wr (some ad) p from fun h => by obtain ⟨ad, h1, h2, h3⟩ := hrw h; exact ⟨ad, h1, (by
          have := h3 0 _ (List.getElem?_eq_getElem (List.length_pos_iff.2 h))
          obtain ⟨o, ho, _⟩ := cells_of_cell this
          have := (Array.getElem?_eq_some_iff.1 ho).1
          rwa [add_block] at this), h3⟩).at hd'.out hx
        injection he with he
        subst he
        exact hc i v hv
      obtain ⟨fn, tmps, assign, body, hy, hR⟩ := hY _ (m, nxs p hd m) wr hJs (by rw [bkd_len]; omega)
      dsimp only at hy
      rw [← hs] at hR
      have hs' := Lib.hid hs
      clear hx hs
      generalize nxs p hd m = xd at *
      obtain ⟨x, hxl⟩ := xd
      dsimp only at hca hy
      have hDl : (x.map bv).length = 16 := by rw [List.length_map, hxl]
      have hDs := Lib.hid (size_dig16 _ hDl)
      rw [show (((m + 1 : Nat) : Int) - 1) = (m : Int) by omega]
      have t : (m : Int) < (N : Int) := by omega
      have t0 : 0 ≤ (m : Int) := by omega
      unfold av at hy
      gi_wp2_with (refine wpListIn_load_arr rfl 31 _ rfl _ rfl (x.map bv) 16 5 hca.out arr_dig hDs.out ?_)
      refine hR.mono ?_
      rintro e W3 (⟨rfl, hJ3, hk3⟩ | ⟨rfl, hJx3⟩)
      · gi_wp2
        go_roundw
        case rel => exact ⟨k + 1, m, by omega, by go_num, hJ3, hnx.trans hk3⟩
        case measure => simp [intOf]
      · gi_wp2
        refine bodyPost_ret (results_none rfl _ _ _) rfl ?_
        exact ⟨⟨_, rfl⟩, .inr ⟨_, trivial, hJx3⟩⟩

set_option maxHeartbeats 1000000 in
theorem backwardD_in (F : Fence) (n : Nat) (hf : F.fn 77) (hro : F.round = none) (a : Option Addr) (len cap : Nat) (w : World) :
    CallsIn F n Tryd.prog 77 #[.slice a len cap] w fun e w' => e = .returned (.func (.func 90) #[] #[.pointer (some ⟨w.heap.size, 0, none⟩)]) ∧ w' = w.alloc (.cells #[.slice a len cap] 22) := by
  refine callsIn_of_wp Tryd.func77 rfl hf ?_ hro
  simp only [Tryd.ntmps77, List.size_toArray, List.length_cons, List.length_nil, Nat.reduceAdd, Nat.reduceSub, Array.replicate_succ, Array.replicate_zero, List.push_toArray, List.append_toArray, List.nil_append, List.cons_append]
  gi_wp2
  go_ret
  exact ⟨rfl, rfl⟩
theorem backwardD_stops (F : Fence) (n : Nat) (hf : F.fn 90) (hro : F.round = none) (hn : 1 ≤ n) (Bs n₀ : Nat) (A : Option Addr) (N c : Nat) (p : List (List UInt8)) (hd : D16 p) (hN : p.length = N) (hl : N ≤ 140737488355328) (w : World) (hB : Bs < w.heap.size) (hn₀ : n₀ ≤ w.heap.size)
    (hc : w.cell? ⟨Bs, 0, none⟩ = some (.slice A N c)) (hr : Rds w n₀ A ((flat p).map bv)) :
    SeqStopsK F n Tryd.prog 90 #[.pointer (some ⟨Bs, 0, none⟩)] (fun x : Nat × D16d => #[Value.int .i64 (x.1 : Int), av x.2.1]) (KeepB Bs n₀) (fun ys => ys = bkd p hd N) (fun pre => True) N w := fun l J Jx W hW _ _ hY h0 =>
  backwardD1_in F n hf hro hn l Bs n₀ N c p hd A hN hl J Jx hY W ((hW.cell (p := ⟨Bs, 0, none⟩) hB).trans hc) (hr.below (hW.mono hn₀)) h0
end Go.Proofs.YtlgokfgiemaklaaDoor
