/-
  Words for memory: a slice that reads as a list of cells; rows that a call made itself.
-/
import Derived.WalkKit
import Derived.WalkSpells
import Derived.WalkLawsBesides
import Derived.Laws.BitsAllLaws
import Derived.Laws.DeepNot64
import Derived.Maps.AppendAt
import Derived.IntWalk
import Derived.Lib.Hide
import Derived.Deep.AppendLies
import Derived.Deep.OwnRows
import Derived.Deep.WholeRow
import Derived.Deep.MidRow
namespace Go.Proofs.Ytbkgbjimooobbaa
open Go.RowKit

/-- A byte as a value. -/
def bv (b : UInt8) : Value := .int .u8 (b.toNat : Int)

/-- The cells xs lie at the address A, below block B (nothing is asked where there are none). -/
def Rds (w : World) (B : Nat) (A : Option Addr) (xs : List Value) : Prop :=
  xs ≠ [] → ∃ ad, A = some ad ∧ ad.block < B ∧ ∀ j u, xs[j]? = some u → w.cell? (ad.add j) = some u

theorem add_block (a : Addr) (n : Nat) : (a.add n).block = a.block := by unfold Addr.add; split <;> rfl
theorem add_twice (a : Addr) (i j : Nat) : (a.add i).add j = a.add (i + j) := by
  unfold Addr.add
  by_cases hi : i = 0 <;> by_cases hj : j = 0 <;> simp [hi, hj, Nat.add_assoc]

section
variable {w w' : World} {B B' : Nat} {A : Option Addr} {xs ys : List Value}
theorem Rds.empty : Rds w B A [] := fun h => absurd rfl h
theorem Rds.look (h : Rds w B A xs) {k : Nat} {u : Value} (hk : xs[k]? = some u) : ∃ ad, A = some ad ∧ ad.block < B ∧ w.cell? (ad.add k) = some u := by
  obtain ⟨ad, e, hb, hc⟩ := h (by rintro rfl; simp at hk)
  exact ⟨ad, e, hb, hc k u hk⟩
theorem Rds.keep (h : Rds w B A xs) (hk : ∀ p : Addr, p.block < B → w'.cell? p = w.cell? p) : Rds w' B A xs := fun hn => by
  obtain ⟨ad, e, hb, hc⟩ := h hn
  exact ⟨ad, e, hb, fun j u hu => (hk _ (by rw [add_block]; exact hb)).trans (hc j u hu)⟩
theorem Rds.more (h : Rds w B A xs) (hB : B ≤ B') : Rds w B' A xs := fun hn => by
  obtain ⟨ad, e, hb, hc⟩ := h hn
  exact ⟨ad, e, by omega, hc⟩
theorem Rds.below (h : Rds w B A xs) (hb : Below B w w') : Rds w' B A xs := h.keep fun _ hp => hb.cell hp
theorem Rds.alloc (h : Rds w B A xs) (hB : B ≤ w.heap.size) (o : Obj) : Rds (w.alloc o) B A xs := h.keep fun p hp => World.cell?_alloc_lt w o p (by omega)
theorem Rds.grown (h : Rds w B A xs) {row : Option Nat} (hg : w.grownBy w' row) (hB : B ≤ w.heap.size) (hr : ∀ g, row = some g → B ≤ g) : Rds w' B A xs :=
  h.keep fun p hp => World.cell?_of_block (hg.block p.block (by omega) (fun e => by have := hr _ e.symm; omega))
theorem Rds.take (h : Rds w B A xs) (k : Nat) : Rds w B A (xs.take k) := fun hn => by
  obtain ⟨ad, e, hb, hc⟩ := h (by rintro rfl; simp at hn)
  refine ⟨ad, e, hb, fun j u hu => hc j u ?_⟩
  rw [List.getElem?_take] at hu
  split at hu
  · exact hu
  · cases hu
theorem Rds.drop (h : Rds w B A xs) (k : Nat) : Rds w B (A.map (·.add k)) (xs.drop k) := fun hn => by
  obtain ⟨ad, rfl, hb, hc⟩ := h (by rintro rfl; simp at hn)
  refine ⟨ad.add k, rfl, by rw [add_block]; exact hb, fun j u hu => ?_⟩
  rw [add_twice]
  exact hc _ u (by rw [← hu, List.getElem?_drop])
/-- A cut 's[k:]': the model keeps the old address where nothing is left behind k. -/
theorem Rds.cut (h : Rds w B A xs) {k cap : Nat} (hc : xs.length ≤ cap) : Rds w B (if cap = k then A else A.map (·.add k)) (xs.drop k) := by
  by_cases he : cap = k
  · rw [List.drop_eq_nil_of_le (by omega)]; exact Rds.empty
  · rw [if_neg he]; exact h.drop k
theorem Rds.own {base : Nat} {e : TypeId} {size n c : Nat} (h : w.ownsRow base e size (.slice A n c) n xs) : Rds w w.heap.size A xs := fun hn => by
  have hpos : 0 < n := by
    rcases Nat.eq_zero_or_pos n with h0 | h0
    · subst h0
      have := h.1
      exact absurd (List.eq_nil_of_length_eq_zero (by simpa using this)) hn
    · exact h0
  obtain ⟨g, cap, hv, _, hlt⟩ := h.form hpos
  have hA : A = some ⟨g, 0, none⟩ := by injection hv
  subst hA
  exact ⟨_, rfl, hlt, h.cells (g := g) rfl⟩
/-- What a call made itself is a slice value of its length. -/
theorem own_form {base : Nat} {e : TypeId} {size n : Nat} {v : Value} (h : w.ownsRow base e size v n xs) : ∃ A c, v = .slice A n c ∧ n ≤ c ∧ c ≤ maxLen ∧ (A = none → c = 0) ∧ Rds w w.heap.size A xs := by
  have ⟨A, c, hv, h1, h2, h3⟩ : ∃ A c, v = .slice A n c ∧ n ≤ c ∧ c ≤ maxLen ∧ (A = none → c = 0) := by
    rcases h.2 with ⟨rfl, rfl⟩ | ⟨g, cap, cur, rfl, _, _, h1, h2, _⟩
    · exact ⟨none, 0, rfl, Nat.le_refl _, Nat.zero_le _, fun _ => rfl⟩
    · exact ⟨_, cap, rfl, h1, h2, fun h => by cases h⟩
  subst hv
  exact ⟨A, c, rfl, h1, h2, h3, Rds.own h⟩
end

/-- A row of the call's own, said in one word: cells xs from block 'base' on, in a world that is as W below 'base'. -/
theorem below_grown {base : Nat} {W w w' : World} {v : Value} {e : TypeId} {size n : Nat} {xs : List Value} (hb : Below base W w) (h : w.ownsRow base e size v n xs) (hg : w.grownBy w' v.ownBlock) (hB : base ≤ w.heap.size) : Below base W w' :=
  hb.grown hg hB fun _ hk => (h.lt _ hk).1

/-- w' comes out of w by appending to v: what was there stands, but for v's own block; v' lies where v lay, or in a new block. -/
def Onto (w : World) (v : Value) (w' : World) (v' : Value) : Prop :=
  w.grownBy w' v.ownBlock ∧ (v'.ownBlock = v.ownBlock ∨ ∃ k, v'.ownBlock = some k ∧ w.heap.size ≤ k)
theorem Onto.refl (w : World) (v : Value) : Onto w v w v := ⟨World.grownBy.refl w _, .inl rfl⟩
theorem Onto.trans {a b c : World} {u v x : Value} (h : Onto a u b v) (k : Onto b v c x) : Onto a u c x := by
  obtain ⟨h1, h2⟩ := h
  obtain ⟨k1, k2⟩ := k
  refine ⟨⟨k1.os.trans h1.os, k1.tape.trans h1.tape, k1.output.trans h1.output, Nat.le_trans h1.size k1.size, fun i hi hne => ?_⟩, ?_⟩
  · refine (k1.block i (Nat.lt_of_lt_of_le hi h1.size) ?_).trans (h1.block i hi hne)
    rcases h2 with e | ⟨j, e, hj⟩
    · rw [e]; exact hne
    · rw [e]; intro he; injection he with he; omega
  · rcases k2 with e | ⟨j, e, hj⟩
    · rcases h2 with e' | ⟨j', e', hj'⟩
      · exact .inl (e.trans e')
      · exact .inr ⟨j', e.trans e', hj'⟩
    · exact .inr ⟨j, e, Nat.le_trans h1.size hj⟩
theorem Onto.alloc (w : World) (v : Value) (o : Obj) : Onto w v (w.alloc o) v := ⟨World.grownBy_alloc w o _, .inl rfl⟩
theorem Onto.below {base : Nat} {w w' : World} {v v' : Value} {e : TypeId} {size n : Nat} {xs : List Value} (h : Onto w v w' v') (ho : w.ownsRow base e size v n xs) (hB : base ≤ w.heap.size) : Below base w w' :=
  (Below.refl _ _).grown h.1 hB fun _ hk => (ho.lt _ hk).1

theorem ret_eq {v v' : Value} (h : v = v') : Ending.returned v = .returned v' := by rw [h]
theorem bv_ofNat {z : Nat} (h : z < 256) : bv (UInt8.ofNat z) = .int .u8 (z : Int) := by
  unfold bv
  rw [UInt8.toNat_ofNat', Nat.mod_eq_of_lt h]

/-- 'b = append(b, x)', x of one cell, b the call's own: the walk's step. -/
theorem wpList_push {P : Program} {w0 : World} {ops : Array Oper} {rest : List Oper} {o : Oper} {a : Act} {Q : Exit → Act → World → Prop} (hgd : o.guard = none) (s x : Operand) (t : TypeId)
    (ho : o.op = .call { callee := .builtin .append, args := #[s, x], argTypes := #[t, t] })
    (base : Nat) (e : TypeId) (i : TypeInfo) (z : Value) (bytes : Nat) (ht : P.underlying t = some (.slice e)) (hi : P.info? e = some i) (hz : i.zero = some z)
    (hsize : i.size = 1) (hby : i.bytes = bytes) (hzs : z.cells.size = 1)
    (v : Value) (n : Nat) (xs : List Value) (u : Value) (hs : a.eval s = v) (hx : a.eval x = .slice (some ⟨w0.heap.size, 0, none⟩) 1 1) (h1 : u.oneCell' = true)
    (hown : w0.ownsRow base e 1 v n xs) (hlen : (n + 1) * bytes ≤ 140737488355328) (h63 : n + 1 ≤ maxLen) (hbase : base ≤ w0.heap.size)
    (h : ∀ v' w', w'.ownsRow base e 1 v' (n + 1) (xs ++ [u]) → Onto w0 v w' v' → wpList P ops Q rest (a.put o.dst v') w') :
    wpList P ops Q (o :: rest) a (w0.alloc (.cells #[u] e)) := by
  refine wpList_append_own_at _ hgd s x t ho base e i z 1 bytes ht hi hz hsize hby hzs (by decide) v n xs hs (hown.alloc _) ⟨w0.heap.size, 0, none⟩ 1 1 [u] hx rfl (cell_one_new _ _ _) (by simpa using h1) h63 hlen (by simp; omega) ?_
  intro v' w' h2 h3 _ h5
  refine h v' w' h2 ((Onto.alloc w0 v _).trans ⟨h3, ?_⟩)
  rcases h5 with h5 | h5
  · exact .inl h5
  · exact .inr ⟨_, h5, by simp⟩

theorem Rds.new (w : World) (cs : List Value) (t : TypeId) : Rds (w.alloc (.cells cs.toArray t)) (w.heap.size + 1) (some ⟨w.heap.size, 0, none⟩) cs := fun _ => by
  refine ⟨_, rfl, Nat.lt_succ_self _, fun j u hu => ?_⟩
  have hadd : (⟨w.heap.size, 0, none⟩ : Addr).add j = ⟨w.heap.size, j, none⟩ := by unfold Addr.add; split <;> simp_all
  rw [hadd, cell_of_row _ _ j cs.toArray t (0, 0) (heap_alloc_new w _)]
  simpa using hu

section
variable {P : Program} {ops : Array Oper} {rest : List Oper} {op : Oper} {a : Act} {w : World} {Q : Exit → Act → World → Prop}
/-- A whole array is loaded, from any address. -/
theorem wpList_load_arr (hgd : op.guard = none) (ty : TypeId) (x : Operand) (ho : op.op = .load ty x)
    (ad : Addr) (hx : a.eval x = .pointer (some ad)) (cs : List Value) (n : Nat) (e : TypeId) (hc : ∀ j v, cs[j]? = some v → w.cell? (ad.add j) = some v)
    (hu : P.underlying ty = some (.array n e)) (hi : (P.info? ty).map (·.size) = some cs.length)
    (h : wpList P ops Q rest (a.put op.dst (.agg cs.toArray)) w) : wpList P ops Q (op :: rest) a w := by
  refine wpList_plain hgd fun K hK => ?_
  have hl : (loadCells ad cs.length).run P w = .ok cs.toArray w := run_loadCells_list (P := P) w ad cs hc
  have hv : (loadVar ty ad).run P w = .ok (.agg cs.toArray) w := by
    cases hq : P.info? ty with
    | none => simp [hq] at hi
    | some i =>
      have hs : i.size = cs.length := by simpa [hq] using hi
      have hagg : (isAgg ty).run P w = .ok true w := by
        unfold isAgg
        rw [Sem.run_bind, run_underlying hu w]
        simp
      simp [loadVar, Sem.run_bind, hagg, sizeOf, typeInfo, hq, hs, hl]
  unfold Oper.wp execOp
  simp only [ho, hx, Instr.loadAt, Instr.sureAddr, Sem.run_bind, Sem.run_pure, Result.andThen_ok, hv]
  exact hK _ _ h
/-- A whole array is stored into the block that was made last. -/
theorem wpList_store_new {w0 : World} (hgd : op.guard = none) (ty : TypeId) (x y : Operand) (ho : op.op = .store ty x y)
    (hx : a.eval x = .pointer (some ⟨w0.heap.size, 0, none⟩)) (c c' : Array Value) (hy : a.eval y = .agg c')
    (hi : (P.info? ty).map (·.size) = some c'.size) (hs : c.size = c'.size) (h1 : c'.all (·.oneCell') = true)
    (h : wpList P ops Q rest (a.put op.dst undef) (w0.alloc (.cells c' ty))) : wpList P ops Q (op :: rest) a (w0.alloc (.cells c ty)) := by
  refine wpList_plain hgd fun K hK => ?_
  unfold Oper.wp execOp
  simp only [ho, hx, hy, Sem.run_bind, Sem.run_pure, Result.andThen_ok, run_storeAt_new (P := P) w0 ty c c' hi hs h1]
  exact hK _ _ h
end

theorem foldl_fill (l : List Value) : ∀ (pre mid : List Value) (z : Array Value), z.toList = pre ++ mid → mid.length = l.length → ((l.zipIdx pre.length).foldl (fun cs x => cs.setIfInBounds x.2 x.1) z).toList = pre ++ l := by
  induction l with
  | nil =>
    intro pre mid z hz hm
    rw [List.eq_nil_of_length_eq_zero hm] at hz
    simpa using hz
  | cons v l ih =>
    intro pre mid z hz hm
    match mid, hm with
    | m :: mid', hm =>
      rw [List.zipIdx_cons, List.foldl_cons]
      have h := ih (pre ++ [v]) mid' (z.setIfInBounds pre.length v) (by rw [Array.toList_setIfInBounds, hz]; simp) (by simpa using hm)
      simpa using h
/-- A slice of one element that is an array. -/
theorem run_buildSlice_arr {P : Program} (w : World) (t e : TypeId) (i : TypeInfo) (z : Value) (ht : P.underlying t = some (.slice e)) (hi : P.info? e = some i) (hz : i.zero = some z) (cs : Array Value) (hs : i.size = cs.size) (hn : 0 < cs.size) (hm : cs.size ≤ 1000) :
    (Instr.buildSlice t 1 #[(0, .agg cs)]).run P w = .ok (.slice (some ⟨w.heap.size, 0, none⟩) 1 1) (w.alloc (.cells cs e)) := by
  have hf : (cs.toList.zipIdx.foldl (fun c x => c.setIfInBounds x.2 x.1) ((Array.range cs.size).map (z.cells[· % z.cells.size]!))) = cs := by
    apply Array.ext'
    have := foldl_fill cs.toList [] _ ((Array.range cs.size).map (z.cells[· % z.cells.size]!)) (by simp; rfl) (by simp)
    simpa using this
  have hnz : cs.size ≠ 0 := by omega
  have h24 : ¬ 16777216 < cs.size := by omega
  simp only [Instr.buildSlice, Sem.run_bind, run_underlying ht, Result.andThen_ok, sizeOf, typeInfo, zeroValue]
  have hfa : Array.foldl (fun c x => c.setIfInBounds x.2 x.1) ((Array.range cs.size).map (z.cells[· % z.cells.size]!)) cs.zipIdx 0 cs.size = cs := by
    have h := hf
    rw [show cs.toList.zipIdx = cs.zipIdx.toList from by simp, Array.foldl_toList, show cs.zipIdx.size = cs.size from by simp] at h
    exact h
  simp [Instr.fill, hnz, h24, newRow, hi, hs, hz, show (Value.agg cs).cells = cs from rfl, hfa]
theorem wpList_buildSlice_one {P : Program} {ops : Array Oper} {rest : List Oper} {op : Oper} {a : Act} {w w' : World} {Q : Exit → Act → World → Prop} (hgd : op.guard = none) (t : TypeId) (x : Operand) (ho : op.op = .buildSlice t 1 #[(0, x)])
    (u v : Value) (hx : a.eval x = u) (hrun : (Instr.buildSlice t 1 #[(0, u)]).run P w = .ok v w') (h : wpList P ops Q rest (a.put op.dst v) w') : wpList P ops Q (op :: rest) a w := by
  refine wpList_plain hgd fun K hK => ?_
  unfold Oper.wp execOp
  simp only [ho, List.map_toArray, List.map_cons, List.map_nil, hx, Sem.run_bind, Sem.run_pure, hrun, Result.andThen_ok]
  exact hK _ _ h
end Go.Proofs.Ytbkgbjimooobbaa
