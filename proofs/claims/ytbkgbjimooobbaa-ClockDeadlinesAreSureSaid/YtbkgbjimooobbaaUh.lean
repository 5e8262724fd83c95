/-
  Stage 14 (clock): laws in a fence (structs loaded, stored, built into a slice); the iterator over the ranges that the readings allow.
-/
import Derived.Test.YtbkgbjimooobbaaUg
import Derived.RangeFuncBox
import Derived.RangeFuncLeaves
import Derived.RangeFuncBound
import Derived.RangeFuncNested
import Derived.RangeFuncCalls
import Derived.RangeFuncWrites
import Derived.Shelf.Abstract
import Derived.Shelf.RegionOpen
import Derived.WalkKit
import Derived.OwnWalkIn
import Derived.TacticsInMore
import Derived.LoopNIn
import Derived.LoopIn
namespace Go.Proofs.Ytbkgbjimooobbaa
set_option linter.unusedVariables false
set_option linter.unusedSimpArgs false
open Go.RowKit Go.Shelf
attribute [local go_sem] Oper.semAt_some

section
variable {F : Fence} {n : Nat} {P : Program} {w : World} {ops : Array Oper} {rest : List Oper} {op : Oper} {a : Act} {Q : Exit → Act → World → Prop}
theorem wpListIn_load_atK (hgd : op.guard = none) (ty : TypeId) (x : Operand) (ho : op.op = .load ty x) (ad : Addr) (hx : a.eval x = .pointer (some ad)) (cs : List Value) (d : TypeDesc)
    (hu : P.underlying ty = some d) (hd : d.isRow = true) (hi : (P.info? ty).map (·.size) = some cs.length) (hc : ∀ j v, cs[j]? = some v → w.cell? (ad.add j) = some v)
    (h : wpListIn F n P ops Q rest (a.put op.dst (.agg cs.toArray)) w) : wpListIn F n P ops Q (op :: rest) a w := by
  refine wpListIn_plain hgd fun K hK => ?_
  unfold Oper.wpIn
  refine ⟨by simp [Oper.about, ho], ?_⟩
  rw [Oper.semAt_plain F _ _ (by rw [ho]; intro c hc; cases hc)]
  rw [load_at_runK ty x ho ad hx cs d hu hd hi w hc]
  exact hK _ _ h
theorem wpListIn_blk_loadK (hgd : op.guard = none) (ty : TypeId) (x : Operand) (ho : op.op = .load ty x) {g : Nat} {L : List Value} {t : TypeId} (o : Nat) (hx : a.eval x = .pointer (some ⟨g, o, none⟩))
    (hb : Blk w g L t) (cs : List Value) (hcs : (L.drop o).take cs.length = cs) (d : TypeDesc) (hu : P.underlying ty = some d) (hd : d.isRow = true) (hi : (P.info? ty).map (·.size) = some cs.length)
    (h : wpListIn F n P ops Q rest (a.put op.dst (.agg cs.toArray)) w) : wpListIn F n P ops Q (op :: rest) a w := by
  refine wpListIn_plain hgd fun K hK => ?_
  unfold Oper.wpIn
  refine ⟨by simp [Oper.about, ho], ?_⟩
  rw [Oper.semAt_plain F _ _ (by rw [ho]; intro c hc; cases hc)]
  unfold execOp
  simp only [ho, hx, Instr.loadAt, Instr.sureAddr, Sem.run_bind, Sem.run_pure, Result.andThen_ok, run_loadVar_mid w g o ty cs d (hb.range o cs hcs) hu hd hi]
  exact hK _ _ h
theorem wpListIn_row_storeK (hgd : op.guard = none) (ty : TypeId) (x y : Operand) (ho : op.op = .store ty x y) {g : Nat} {L : List Value} {t : TypeId} (C : List Value) (hx : a.eval x = .pointer (some ⟨g, 0, none⟩)) (hy : a.eval y = .agg C.toArray)
    (hb : Blk w g L t) (hi : (P.info? ty).map (·.size) = some C.length) (hl : C.length = L.length) (h1 : ∀ u ∈ C, u.oneCell' = true)
    (h : ∀ w', Hid (Blk w' g C t) → Only g w w' → wpListIn F n P ops Q rest (a.put op.dst undef) w') : wpListIn F n P ops Q (op :: rest) a w := by
  refine wpListIn_plain hgd fun K hK => ?_
  have hr := run_storeAt_blk (P := P) w ty 0 (.agg C.toArray) hb (by simpa [Value.cells] using hi) (by simp [Value.cells]; omega) h1
  unfold Oper.wpIn
  refine ⟨by simp [Oper.about, ho], ?_⟩
  rw [Oper.semAt_plain F _ _ (by rw [ho]; intro c hc; cases hc)]
  unfold execOp
  simp only [ho, hx, hy, Sem.run_bind, Sem.run_pure, Result.andThen_ok, hr]
  refine hK _ _ (h _ ?_ (Only.setRow _ _ _))
  have := hb.setRow (splice L 0 (Value.agg C.toArray).cells.toList)
  show Blk _ _ _ _
  rw [show (Value.agg C.toArray).cells.toList = C from rfl, splice_all _ _ hl] at this ⊢
  exact this
theorem wpListIn_buildSlice_twoK (hgd : op.guard = none) (t : TypeId) (x y : Operand) (ho : op.op = .buildSlice t 2 #[(0, x), (1, y)])
    (u u2 v : Value) (w' : World) (hx : a.eval x = u) (hy : a.eval y = u2) (hrun : (Instr.buildSlice t 2 #[(0, u), (1, u2)]).run P w = .ok v w') (h : wpListIn F n P ops Q rest (a.put op.dst v) w') : wpListIn F n P ops Q (op :: rest) a w := by
  refine wpListIn_plain hgd fun K hK => ?_
  unfold Oper.wpIn
  refine ⟨by simp [Oper.about, ho], ?_⟩
  rw [Oper.semAt_plain F _ _ (by rw [ho]; intro c hc; cases hc)]
  unfold execOp
  simp only [ho, List.map_toArray, List.map_cons, List.map_nil, hx, hy, Sem.run_bind, Sem.run_pure, hrun, Result.andThen_ok]
  exact hK _ _ h
end
/-- What a round keeps: the blocks below B, and two named blocks. -/
def KeepK (B b c : Nat) (W W' : World) : Prop := Below B W W' ∧ W'.heap[b]? = W.heap[b]? ∧ W'.heap[c]? = W.heap[c]?
theorem KeepK.refl (B b c : Nat) (W : World) : KeepK B b c W W := ⟨Below.refl _ _, rfl, rfl⟩
theorem keepK_t {B b c : Nat} {X Y Z : World} (h : KeepK B b c X Y) (k : KeepK B b c Y Z) : KeepK B b c X Z := ⟨h.1.trans k.1, k.2.1.trans h.2.1, k.2.2.trans h.2.2⟩
theorem keepK_b {B b c : Nat} {w : World} (hb : b < w.heap.size) (hc : c < w.heap.size) (hB : B ≤ w.heap.size) (W : World) (l : Nat) (o o' : Obj) (hl : w.heap.size ≤ l) (h : W.heap[l]? = some o) (ho : o.isCells = false) (hw : o.isWalk = false) : KeepK B b c W (W.putObj l o') :=
  ⟨belowK_b hB W l o o' hl h ho hw, World.putObj_heap_other (by omega), World.putObj_heap_other (by omega)⟩
theorem KeepK.of {B b c : Nat} {W W' : World} (h : Below W.heap.size W W') (hB : B ≤ W.heap.size) (hb : b < W.heap.size) (hc : c < W.heap.size) : KeepK B b c W W' := ⟨h.mono hB, h.block b hb, h.block c hc⟩
theorem yieldOneK {F : Fence} {m : Nat} {P : Program} {l : Nat} {args : Array Value} {W : World} {A C : World → Prop}
    (h : YieldAt F m P l args W fun e W' => (e = .returned (.bool true) ∧ A W') ∨ (e = .returned (.bool false) ∧ C W')) :
    YieldAt F m P l args W fun e W' => ∃ b, e = .returned (.bool b) ∧ Hid (if b = true then A W' else C W') := by
  obtain ⟨fn, tmps, assign, body, h1, h2⟩ := h
  refine ⟨fn, tmps, assign, body, h1, RoundIn.mono h2 fun e W' hh => ?_⟩
  rcases hh with ⟨h1, h2⟩ | ⟨h1, h2⟩
  · exact ⟨true, h1, by show (if true = true then A W' else C W'); rw [if_pos rfl]; exact h2⟩
  · exact ⟨false, h1, by show (if false = true then A W' else C W'); rw [if_neg (by simp)]; exact h2⟩

set_option maxRecDepth 100000 in
theorem readings_any (k : Clk) (x : Int) (w : World) : Calls Try.prog 32 #[.agg #[.int .i64 k.rate, .slice k.A k.n k.c], .int .i64 x] w fun e w' => e = .returned (.func (.func 33) #[] #[.pointer (some ⟨w.heap.size, 0, none⟩), .pointer (some ⟨w.heap.size + 1, 0, none⟩)]) ∧
    w' = (w.alloc (.cells #[.int .i64 k.rate, .slice k.A k.n k.c] 30)).alloc (.cells #[.int .i64 x] 3) := by
  rcases k with ⟨rate, A, n, c, l⟩
  dsimp only
  go_enter Try.func32, Try.ntmps32
  go_wp2_with fail
  go_ret
  exact ⟨rfl, rfl⟩

set_option maxRecDepth 100000 in
set_option maxHeartbeats 4000000 in
theorem readings1_in {B : Nat} (n : Nat) (l bc bl : Nat) (k : Clk) (x : Int) (J Jx : List Rdg → World → Prop) (h0 : 0 ≤ k.rate) (h1 : k.rate ≤ 100000) (hok : ∀ r ∈ k.l, okR r = true) (x0 : 0 ≤ x) (x1 : x ≤ 3600000000)
    (hJ : ∀ pre A C, J pre A → Below A.heap.size A C → J pre C)
    (hY : ∀ pre (r : Rdg) W, J pre W → pre.length < k.l.length → YieldAt Fence.wide (n - 1) Try.prog l #[.agg #[.int .i64 (alLo k.rate r x), .int .i64 (alHi k.rate r x)]] W fun e W' =>
      (e = .returned (.bool true) ∧ J (pre ++ [r]) W' ∧ KeepK B bc bl W W') ∨ (e = .returned (.bool false) ∧ Jx (pre ++ [r]) W'))
    (W : World) (hm : ClkM W B k) (kc : Blk W bc [.int .i64 k.rate, .slice k.A k.n k.c] 30) (kl : Blk W bl [.int .i64 x] 3) (hJ0 : J [] W) :
    CallsIn Fence.wide n Try.prog 33 #[.func (.yield l) #[] #[], .pointer (some ⟨bc, 0, none⟩), .pointer (some ⟨bl, 0, none⟩)] W fun e W' => (∃ v, e = .returned v) ∧
      ((∃ ys, ys = k.l ∧ J ys W') ∨ (∃ pre, True ∧ Jx pre W')) := by
  have hro : Fence.wide.round = none := rfl
  rcases k with ⟨rate, A, N, c, L⟩
  dsimp only at *
  have hm' := Lib.hid hm
  have hszr := Lib.hid size_rdg
  have hunr : Hid (Try.prog.underlying 48 = _) := Try.underlying48
  have hJ' := Lib.hid hJ
  have hY' := Lib.hid hY
  have hJ0' := Lib.hid hJ0
  have kc' := Lib.hid kc
  have kl' := Lib.hid kl
  have hok' := Lib.hid hok
  have hN : Hid (N = L.length) := hm.len
  have hNs : N ≤ 140737488355328 := hm.small
  have hlts : Hid (bc < W.heap.size ∧ bl < W.heap.size ∧ B ≤ W.heap.size) := ⟨kc.lt, kl.lt, hm.le⟩
  have q1 := kc'.out.cell (j := 1) rfl
  clear hm hJ hY hJ0 kc kl hok
  refine callsIn_of_wp Try.func33 rfl trivial ?_ hro
  simp only [Try.ntmps33, List.size_toArray, List.length_cons, List.length_nil, Nat.reduceAdd, Nat.reduceSub, Array.replicate_succ, Array.replicate_zero, List.push_toArray, List.append_toArray, List.nil_append, List.cons_append]
  gi_wp2_with fail
  clear q1
  gi_loopw [9] (fun i wr => ∃ j : Nat, j ≤ N ∧ i = .int .i64 (j : Int) ∧ Hid (J (L.take j) wr) ∧ Hid (KeepK B bc bl W wr)) (fun i _ => N - (intOf i).toNat)
  case atStart => exact ⟨0, by omega, rfl, hJ0', KeepK.refl _ _ _ _⟩
  case round =>
    obtain ⟨j, hj, rfl, hJj, hK⟩ := hrel
    by_cases hlt : j < N
    · have t : (j : Int) < (N : Int) := by omega
      have t0 : 0 ≤ (j : Int) := by omega
      obtain ⟨r, hx⟩ : ∃ x, L[j]? = some x := ⟨_, List.getElem?_eq_getElem (by have := hN.out; omega)⟩
      have htake : Hid (L.take (j + 1) = L.take j ++ [r]) := by show _ = _; rw [List.take_add_one, hx]; rfl
      have hlen : (L.take j).length < L.length := by rw [List.length_take]; have := hN.out; omega
      have hor := hok'.out r (List.mem_of_getElem? hx)
      obtain ⟨ad, hA, hbb, hcl0⟩ := hm'.out.rd3 hx
      dsimp only at hA
      subst hA
      have hcl : Hid (∀ i v, ([.int .i64 r.L, .int .i64 r.lo, .int .i64 r.hi] : List Value)[i]? = some v → wr.cell? ((ad.add (j * 3)).add i) = some v) := fun i v hi =>
        (hK.out.1.cell (by rw [add_block, add_block]; exact hbb)).trans (hcl0 i v hi)
      have kcr : Hid (Blk wr bc [.int .i64 rate, .slice (some ad) N c] 30) := hK.out.2.1.trans kc'.out
      have klr : Hid (Blk wr bl [.int .i64 x] 3) := hK.out.2.2.trans kl'.out
      have hBr : Hid (B ≤ wr.heap.size) := Nat.le_trans hlts.out.2.2 hK.out.1.size
      obtain ⟨W3, hW3⟩ : ∃ W3, W3 = wr.alloc (.cells #[.int .i64 0, .int .i64 0, .int .i64 0] 48) := ⟨_, rfl⟩
      have X3 : Hid (Blk (wr.alloc (.cells #[.int .i64 0, .int .i64 0, .int .i64 0] 48)) wr.heap.size [.int .i64 0, .int .i64 0, .int .i64 0] 48) := Blk.new _ [_, _, _] _
      have b3 : Hid (Below wr.heap.size wr (wr.alloc (.cells #[.int .i64 0, .int .i64 0, .int .i64 0] 48))) := (Below.refl _ _).alloc (Nat.le_refl _) _
      have HA := Lib.hid (fun W => allowed_any rate x r W h0 h1 hor x0 x1)
      have HY1 := Lib.hid (fun V (hV : Below wr.heap.size wr V) => yieldOneK (hY'.out _ r V (hJ'.out _ wr V hJj.out hV) hlen))
      clear hW3 hx hcl0 hor
      generalize alLo rate r x = U at *
      generalize alHi rate r x = V at *
      gi_wp2_with (first | (refine wpListIn_load_atK rfl 48 _ rfl (ad.add (j * 3)) rfl [.int .i64 r.L, .int .i64 r.lo, .int .i64 r.hi] _ hunr.out rfl hszr.out hcl.out ?_) | (refine wpListIn_row_storeK rfl 48 _ _ rfl [.int .i64 r.L, .int .i64 r.lo, .int .i64 r.hi] rfl rfl X3.out hszr.out rfl (one3 _ _ _) ?_; intro w4 hw4 ho4; have hb4 : Hid (Below wr.heap.size wr w4) := b3.out.trans (ho4.below (Nat.le_refl _)); have r0 := (kcr.out.below hb4.out kcr.out.lt).cell (j := 0) rfl; have l0 := (klr.out.below hb4.out klr.out.lt).cell (j := 0) rfl) | (refine wpListIn_blk_loadK rfl 48 _ rfl 0 rfl hw4.out [_, _, _] rfl _ hunr.out rfl hszr.out ?_) | (refine ⟨trivial, (fun hh => (by cases hh)), ?_⟩; refine (callsIn_wide.2 (HA.out _)).mono ?_; rintro e w5 ⟨rfl, hb5⟩; have hb5' : Hid (Below wr.heap.size wr w5) := hb4.out.trans (hb5.mono hb4.out.size); obtain ⟨fn, tmps, assign, body, hy, hR⟩ := HY1.out w5 hb5'.out; clear hb5 r0 l0) | (refine ⟨(fun hh => (by cases hh)), RoundIn.mono hR ?_⟩; rintro e w6 ⟨_ | _, rfl, hb⟩) | fail)
      · have hbb := hb.out
        refine bodyPost_ret (results_none rfl _ _ _) rfl ?_
        exact ⟨⟨_, rfl⟩, .inr ⟨_, trivial, by simpa using hbb⟩⟩
      · have hbb := hb.out
        simp only [if_true] at hbb
        have hk4 : KeepK B bc bl wr w5 := KeepK.of hb5'.out hBr.out (by have := hlts.out.1; have := hK.out.1.size; exact kcr.out.lt) klr.out.lt
        exact ⟨⟨j + 1, by omega, by go_num, by rw [htake.out]; exact hbb.1, keepK_t hK.out (keepK_t hk4 hbb.2)⟩, by simp [intOf]; omega⟩
    · have t : ¬ (j : Int) < (N : Int) := by omega
      obtain rfl : j = N := by omega
      gi_wp2_with fail
      go_end0
      have hfin : J L wr := by have := hJj.out; rwa [hN.out, List.take_length] at this
      first | exact ⟨⟨_, rfl⟩, .inl hfin⟩ | exact ⟨⟨_, rfl⟩, .inl ⟨_, rfl, hfin⟩⟩
end Go.Proofs.Ytbkgbjimooobbaa
