/-
  Contract of steps (the law's own function): the turns, and the pairs that are hashed.
-/
import Derived.Test.YtlgokfgiemaklaaDoorPbm
import Derived.Test.YtlgokfgiemaklaaDoorRws
namespace Go.Proofs.YtlgokfgiemaklaaDoor
set_option linter.unusedVariables false
set_option linter.unusedSimpArgs false
open Go.RowKit

theorem infoBool : (Tryd.prog.info? 4).map (fun i => (i.zero, i.size, i.bytes)) = some (some (.bool false), 1, 1) := by kernel_rfl
/-- Turns that are read. -/
structure TV (W : World) (A : Option Addr) (n c : Nat) (T : List Bool) : Prop where
  len : n = T.length
  rd : Rds W W.heap.size A (T.map Value.bool)
  cap : n ≤ c
  max : c ≤ maxLen
  nil : A = none → c = 0
theorem TV.keep {W W' : World} {A : Option Addr} {n c : Nat} {T : List Bool} (h : TV W A n c T) (hb : Below W.heap.size W W') : TV W' A n c T := ⟨h.len, (h.rd.below hb).more hb.size, h.cap, h.max, h.nil⟩
theorem tv_nil (W : World) : TV W none 0 0 [] := ⟨rfl, Rds.empty, Nat.le_refl _, by unfold maxLen; omega, fun _ => rfl⟩
set_option maxRecDepth 100000 in
/-- 'turns = append([]bool{right}, turns...)'. -/
theorem push_turns {w0 : World} {ops : Array Oper} {rest : List Oper} {o : Oper} {a : Act} {Q : Exit → Act → World → Prop} (hgd : o.guard = none) (s x : Operand)
    (ho : o.op = .call { callee := .builtin .append, args := #[s, x], argTypes := #[95, 95] })
    (b : Bool) (T : List Bool) (A : Option Addr) (n c : Nat) (hs : a.eval s = .slice (some ⟨w0.heap.size, 0, none⟩) 1 1) (hx : a.eval x = .slice A n c)
    (hr : TV w0 A n c T) (hl : n ≤ 1000000)
    (h : ∀ A' c' w', TV w' A' (n + 1) c' (b :: T) → Below w0.heap.size w0 w' → wpList Tryd.prog ops Q rest (a.put o.dst (.slice A' (n + 1) c')) w') :
    wpList Tryd.prog ops Q (o :: rest) a (w0.alloc (.cells #[.bool b] 4)) := by
  obtain ⟨i0, hi, hz0, hz1, hz2⟩ := info_parts infoBool
  have hown : (w0.alloc (.cells #[.bool b] 4)).ownsRow w0.heap.size 4 1 (.slice (some ⟨w0.heap.size, 0, none⟩) 1 1) 1 [.bool b] := ⟨rfl, .inr ⟨w0.heap.size, 1, #[.bool b], rfl, Nat.le_refl _, heap_alloc_new w0 _, Nat.le_refl _, by unfold maxLen; omega, rfl, rfl⟩⟩
  have hb0 : Below w0.heap.size w0 (w0.alloc (.cells #[.bool b] 4)) := (Below.refl _ _).alloc (Nat.le_refl _) _
  have hr1 := hr.keep hb0
  have hmk : ∀ v' w', w'.ownsRow w0.heap.size 4 1 v' (n + 1) (Value.bool b :: T.map Value.bool) → ∃ A' c', v' = .slice A' (n + 1) c' ∧ TV w' A' (n + 1) c' (b :: T) := fun v' w' ho => by
    obtain ⟨A', c', h1, h2, h3, h4, h5⟩ := own_form ho
    exact ⟨A', c', h1, by rw [hr.len]; rfl, h5, h2, h3, h4⟩
  cases A with
  | none =>
    have hc := hr.nil rfl
    have hn : n = 0 := by have := hr.cap; omega
    have hT : T = [] := List.eq_nil_of_length_eq_zero (by have := hr.len; omega)
    subst hT hn hc
    refine wpList_plain hgd fun K hK => ?_
    have hrun := run_append_owned_none (P := Tryd.prog) (w0.alloc (.cells #[.bool b] 4)) w0.heap.size 95 o.type 4 i0 1 Tryd.underlying95 hi _ 1 _ hown
    unfold Oper.wp execOp
    simp only [ho, resolve, invoke, builtin, Sem.run_bind, Sem.run_pure, Result.andThen_ok, List.map_toArray, List.map_cons, List.map_nil, hs, hx, hrun]
    obtain ⟨A', c', e, hv⟩ := hmk _ _ hown
    injection e with e1 e2 e3
    subst e1 e3
    exact hK _ _ (h _ _ _ hv hb0)
  | some ad =>
    have hcell : ∀ j u, (T.map Value.bool)[j]? = some u → (w0.alloc (.cells #[.bool b] 4)).cell? (ad.add j) = some u := by
      intro j u hu
      obtain ⟨ad', he, _, hc⟩ := hr1.rd.look hu
      injection he with he
      subst he
      exact hc
    refine wpList_append_own_at _ hgd s x 95 ho w0.heap.size 4 i0 _ 1 1 Tryd.underlying95 hi hz0 hz1 hz2 rfl (by decide) _ 1 _ hs hown ad n c (T.map Value.bool) hx (by rw [List.length_map, hr.len]; omega) hcell
      (by intro u hu; obtain ⟨b, _, rfl⟩ := List.mem_map.1 hu; rfl) (by unfold maxLen; omega) (by omega) hb0.size ?_
    intro v' w' h2 h3 _ _
    rw [Nat.add_comm 1 n] at h2
    obtain ⟨A', c', rfl, hv⟩ := hmk _ _ h2
    exact h A' c' w' hv (hb0.grown h3 hb0.size fun _ hk => (hown.lt _ hk).1)

/-- The pairs, one digest behind the other. -/
def prs (T : List Bool) (p : List (List UInt8)) (a : List UInt8) : Nat → List (List UInt8)
  | 0 => []
  | k + 1 => prs T p a k ++ [stA T p a k, stB T p a k]
theorem prs_len (T : List Bool) (p : List (List UInt8)) (a : List UInt8) : ∀ k, (prs T p a k).length = 2 * k
  | 0 => rfl
  | k + 1 => by rw [prs, List.length_append, prs_len T p a k]; simp; omega
theorem prs_d16 {T : List Bool} {p : List (List UInt8)} {a : List UInt8} (hp : D16 p) (ha : a.length = 16) : ∀ k, D16 (prs T p a k)
  | 0 => d16_nil
  | k + 1 => d16_app (prs_d16 hp ha k) fun x hx => by
    rcases List.mem_cons.1 hx with rfl | hx
    · exact stA_len hp ha k
    · rw [List.mem_singleton.1 hx]; exact stB_len hp ha k
theorem prs_at (T : List Bool) (p : List (List UInt8)) (a : List UInt8) {k : Nat} : ∀ n, k < n → (prs T p a n)[2 * k]? = some (stA T p a k) ∧ (prs T p a n)[2 * k + 1]? = some (stB T p a k)
  | 0, h => by omega
  | n + 1, h => by
    rw [prs]
    have hl := prs_len T p a n
    by_cases hk : k = n
    · subst hk
      rw [List.getElem?_append_right (by omega), List.getElem?_append_right (by omega), hl, Nat.sub_self, show 2 * k + 1 - 2 * k = 1 by omega]
      exact ⟨rfl, rfl⟩
    · rw [List.getElem?_append_left (by omega), List.getElem?_append_left (by omega)]
      exact prs_at T p a n (by omega)
/-- Pairs that are read: M holds two digests for each. -/
structure PR (W : World) (A : Option Addr) (n c : Nat) (M : List (List UInt8)) : Prop where
  len : M.length = 2 * n
  rd : Dg W A M
  cap : n ≤ c
  d16 : D16 M
theorem PR.keep {W W' : World} {A : Option Addr} {n c : Nat} {M : List (List UInt8)} (h : PR W A n c M) (hb : Below W.heap.size W W') : PR W' A n c M := ⟨h.len, h.rd.on hb, h.cap, h.d16⟩
theorem PR.at {W : World} {A : Option Addr} {n c : Nat} {M : List (List UInt8)} (h : PR W A n c M) {k : Nat} {x0 x1 : List UInt8} (h0 : M[2 * k]? = some x0) (h1 : M[2 * k + 1]? = some x1) :
    ∃ ad, A = some ad ∧ (∀ j v, (x0.map bv)[j]? = some v → W.cell? (((ad.add (k * 32)).add 0).add j) = some v) ∧ (∀ j v, (x1.map bv)[j]? = some v → W.cell? (((ad.add (k * 32)).add 16).add j) = some v) ∧ (∀ j v, ((x0 ++ x1).map bv)[j]? = some v → W.cell? ((ad.add (k * 32)).add j) = some v) := by
  obtain ⟨ad, hA, _, l0, c0⟩ := h.rd.at h.d16 h0
  obtain ⟨ad', hA', _, l1, c1⟩ := h.rd.at h.d16 h1
  rw [hA] at hA'
  injection hA' with hA'
  subst hA'
  have d0 : ∀ j v, (x0.map bv)[j]? = some v → W.cell? (ad.add (k * 32 + j)) = some v := fun j v hv => by
    have := c0 j v hv
    rw [add_twice, show 2 * k * 16 + j = k * 32 + j by omega] at this
    exact this
  have d1 : ∀ j v, (x1.map bv)[j]? = some v → W.cell? (ad.add (k * 32 + 16 + j)) = some v := fun j v hv => by
    have := c1 j v hv
    rw [add_twice, show (2 * k + 1) * 16 + j = k * 32 + 16 + j by omega] at this
    exact this
  refine ⟨ad, hA, fun j v hv => ?_, fun j v hv => ?_, fun j v hv => ?_⟩
  · rw [add_twice, add_twice, Nat.zero_add]; exact d0 j v hv
  · rw [add_twice, add_twice, ← Nat.add_assoc]; exact d1 j v hv
  · rw [add_twice]
    rw [List.map_append] at hv
    by_cases hj : j < 16
    · rw [List.getElem?_append_left (by rw [List.length_map, l0]; exact hj)] at hv
      exact d0 j v hv
    · rw [List.getElem?_append_right (by rw [List.length_map, l0]; omega), List.length_map, l0] at hv
      have := d1 (j - 16) v hv
      rw [show k * 32 + 16 + (j - 16) = k * 32 + j by omega] at this
      exact this
theorem infoPr : (Tryd.prog.info? 62).map (fun i => (i.zero, i.size, i.bytes)) = some (some (.agg (bz 32).toArray), 32, 32) := by kernel_rfl
theorem arr_pr : Tryd.prog.underlying 62 = some (.array 2 31) := by kernel_rfl
theorem size_pr (l : List Value) (h : l.length = 32) : (Tryd.prog.info? 62).map (·.size) = some l.length := by rw [h]; kernel_rfl
/-- Pairs that are a row of the call's own. -/
def OwnP (w : World) (base : Nat) (v : Value) (n : Nat) (M : List (List UInt8)) : Prop := w.ownsRow base 62 32 v n ((flat M).map bv)
theorem ownP_nil (w : World) (base : Nat) : OwnP w base (.slice none 0 0) 0 [] := World.ownsRow_nil w base _ _
theorem OwnP.below {w w' : World} {base B n : Nat} {v : Value} {L : List (List UInt8)} (h : OwnP w base v n L) (hb : Below B w w') (hB : w.heap.size ≤ B) : OwnP w' base v n L := by
  refine ⟨h.1, ?_⟩
  rcases h.2 with hn | ⟨g, cap, cur, rfl, hg, hh, rest⟩
  · exact .inl hn
  · refine .inr ⟨g, cap, cur, rfl, hg, ?_, rest⟩
    rw [hb.block g (Nat.lt_of_lt_of_le (Array.getElem?_eq_some_iff.1 hh).1 hB)]
    exact hh
theorem OwnP.only {w w' : World} {base k n : Nat} {v : Value} {L : List (List UInt8)} (h : OwnP w base v n L) (ho : Only k w w') (hk : k < base) : OwnP w' base v n L := by
  refine ⟨h.1, ?_⟩
  rcases h.2 with hn | ⟨g, cap, cur, rfl, hg, hh, rest⟩
  · exact .inl hn
  · refine .inr ⟨g, cap, cur, rfl, hg, ?_, rest⟩
    rw [ho.block g (by omega)]
    exact hh
theorem OwnP.pr {w : World} {base n : Nat} {v : Value} {L : List (List UInt8)} (h : OwnP w base v n L) (hl : L.length = 2 * n) (hd : D16 L) : ∃ A c, v = .slice A n c ∧ PR w A n c L := by
  obtain ⟨A, c, h1, h2, _, _, h5⟩ := own_form h
  exact ⟨A, c, h1, hl, h5, h2, hd⟩
theorem build_pr (d : List UInt8) (hd : d.length = 32) : ∀ W, (Instr.buildSlice 60 1 #[(0, .agg (d.map bv).toArray)]).run Tryd.prog W = .ok (.slice (some ⟨W.heap.size, 0, none⟩) 1 1) (W.alloc (.cells (d.map bv).toArray 62)) := fun W => by
  obtain ⟨i0, hi, hz0, hz1, hz2⟩ := info_parts infoPr
  have hs : (d.map bv).toArray.size = 32 := by rw [List.size_toArray, List.length_map, hd]
  exact run_buildSlice_arr W 60 62 i0 _ Tryd.underlying60 hi hz0 _ (by rw [hz1, hs]) (by omega) (by omega)
theorem step_build_pr {w : World} {ops : Array Oper} {rest : List Oper} {o : Oper} {a : Act} {Q : Exit → Act → World → Prop} (hgd : o.guard = none) (x : Operand) (ho : o.op = .buildSlice 60 1 #[(0, x)])
    (d : List UInt8) (hd : d.length = 32) (hx : a.eval x = .agg (d.map bv).toArray)
    (h : wpList Tryd.prog ops Q rest (a.put o.dst (.slice (some ⟨w.heap.size, 0, none⟩) 1 1)) (w.alloc (.cells (d.map bv).toArray 62))) : wpList Tryd.prog ops Q (o :: rest) a w :=
  wpList_buildSlice_one hgd 60 x ho _ _ hx (build_pr d hd w) h
theorem push_pr {w0 : World} {ops : Array Oper} {rest : List Oper} {o : Oper} {a : Act} {Q : Exit → Act → World → Prop} (hgd : o.guard = none) (s x : Operand)
    (ho : o.op = .call { callee := .builtin .append, args := #[s, x], argTypes := #[60, 60] })
    (base : Nat) (v : Value) (n : Nat) (L : List (List UInt8)) (x0 x1 d : List UInt8) (hd0 : d = x0 ++ x1) (hd : d.length = 32) (hs : a.eval s = v) (hx : a.eval x = .slice (some ⟨w0.heap.size, 0, none⟩) 1 1)
    (hown : OwnP w0 base v n L) (hlen : n ≤ 1000000) (hbase : base ≤ w0.heap.size)
    (h : ∀ v' w', OwnP w' base v' (n + 1) (L ++ [x0, x1]) → Below base w0 w' → w0.grownBy w' v.ownBlock → wpList Tryd.prog ops Q rest (a.put o.dst v') w') :
    wpList Tryd.prog ops Q (o :: rest) a (w0.alloc (.cells (d.map bv).toArray 62)) := by
  obtain ⟨i0, hi, hz0, hz1, hz2⟩ := info_parts infoPr
  refine wpList_append_own_at _ hgd s x 60 ho base 62 i0 _ 32 32 Tryd.underlying60 hi hz0 hz1 hz2 rfl (by decide) v n _ hs (World.ownsRow.alloc hown _) ⟨w0.heap.size, 0, none⟩ 1 1 (d.map bv) hx (by rw [List.length_map, hd]) (cells_new w0 d _)
    (by intro u hu; obtain ⟨b, _, rfl⟩ := List.mem_map.1 hu; rfl) (by unfold maxLen; omega) (by omega) (by simp; omega) ?_
  intro v' w' h2 h3 _ _
  have hg0 : w0.grownBy (w0.alloc (.cells (d.map bv).toArray 62)) v.ownBlock := World.grownBy_alloc w0 _ _
  refine h v' w' ?_ (((Below.refl _ _).alloc hbase _).grown h3 (by simp; omega) fun _ hk => (hown.lt _ hk).1) (hg0.trans h3)
  unfold OwnP
  rw [flat_append, List.map_append, show flat [x0, x1] = d by rw [hd0]; simp [flat]]
  exact h2
theorem run_build_pair (x0 x1 : List UInt8) (h0 : x0.length = 16) (h1 : x1.length = 16) (W : World) :
    (Instr.build 62 #[(0, .agg (x0.map bv).toArray), (1, .agg (x1.map bv).toArray)]).run Tryd.prog W = .ok (.agg ((x0 ++ x1).map bv).toArray) W := by
  obtain ⟨i1, hi1, hz1, hs1, _⟩ := info_parts infoDg
  obtain ⟨i2, hi2, hz2, hs2, _⟩ := info_parts infoPr
  obtain ⟨C, hC, hC2⟩ := fill_rows 16 [x0.map bv, x1.map bv] 0 [] (bz 32) (bz 32).toArray (by simp) (by simp) (by simp [bz]) (by
    intro d hd
    rcases List.mem_cons.1 hd with rfl | hd
    · rw [List.length_map, h0]
    · rw [List.mem_singleton.1 hd, List.length_map, h1])
  have hCe : C = ((x0 ++ x1).map bv).toArray := by apply Array.ext'; rw [hC2]; simp
  have hC' : Instr.fill (fun i => some (i * 16, 16)) (bz 32).toArray [(0, Value.agg (x0.map bv).toArray), (1, Value.agg (x1.map bv).toArray)] = some C := hC
  have hzc : (Value.agg (bz 32).toArray).cells = (bz 32).toArray := rfl
  simp only [Instr.build, Sem.run_bind, run_underlying arr_pr, Result.andThen_ok, sizeOf, typeInfo, zeroValue]
  simp [hi1, hi2, hs1, hz2, hzc, hC', hCe]
theorem build_pair_run {o : Oper} {a : Act} (x y : Operand) (ho : o.op = .build 62 #[(0, x), (1, y)]) (x0 x1 : List UInt8) (h0 : x0.length = 16) (h1 : x1.length = 16)
    (p : List UInt8) (hp : p = x0 ++ x1) (hx : a.eval x = .agg (x0.map bv).toArray) (hy : a.eval y = .agg (x1.map bv).toArray) (W : World) : (execOp a.eval o).run Tryd.prog W = .ok (.value (.agg (p.map bv).toArray)) W := by
  subst hp
  unfold execOp
  simp only [ho, List.map_toArray, List.map_cons, List.map_nil, hx, hy, Sem.run_bind, Sem.run_pure, Result.andThen_ok, run_build_pair x0 x1 h0 h1 W]
/-- Two pairs are compared. -/
theorem run_part_dig (xs : Array Value) (off : Nat) (W : World) : (part 31 xs off).run Tryd.prog W = .ok (.agg (xs.extract off (off + 16))) W := by
  obtain ⟨i1, hi1, hz1, hs1, _⟩ := info_parts infoDg
  simp only [part, isAgg, Sem.run_bind, run_underlying arr_dig, Result.andThen_ok, sizeOf, typeInfo]
  simp [hi1, hs1]
theorem pair_first (x0 x1 : List UInt8) (h0 : x0.length = 16) : (((x0 ++ x1).map bv).toArray).extract 0 16 = (x0.map bv).toArray := by
  simp [List.map_append, h0]
theorem pair_second (x0 x1 : List UInt8) (h0 : x0.length = 16) (h1 : x1.length = 16) : (((x0 ++ x1).map bv).toArray).extract 16 32 = (x1.map bv).toArray := by
  have e : ((x1.map bv).take 16) = x1.map bv := List.take_of_length_le (by rw [List.length_map, h1]; omega)
  simp [List.map_append, h0, e]
theorem run_eq_dig (d e : Nat) (he : e = d + 1 + 1) (x y : List UInt8) (hx : x.length = 16) (hy : y.length = 16) (W : World) : (Op.equalIn e 31 (.agg (x.map bv).toArray) (.agg (y.map bv).toArray)).run Tryd.prog W = .ok (x == y) W := by
  subst he
  obtain ⟨i1, hi1, _, hz1', _⟩ := info_parts infoByte
  have hc : Tryd.prog.cellsOf 5 = 1 := by kernel_rfl
  rw [run_equalIn_array W _ _ _ arr_dig hi1, hc, run_eqItems_bytes d x y W (List.range 16) (fun i hi => by have := List.mem_range.1 hi; omega), all_range_eq x y 16 hx hy]
theorem run_neq_pair (x0 x1 y0 y1 : List UInt8) (h0 : x0.length = 16) (h1 : x1.length = 16) (k0 : y0.length = 16) (k1 : y1.length = 16) (W : World) :
    (binOp .neq 62 (.agg ((x0 ++ x1).map bv).toArray) (.agg ((y0 ++ y1).map bv).toArray)).run Tryd.prog W = .ok (.bool (!((x0 == y0) && (x1 == y1)))) W := by
  obtain ⟨i1, hi1, _, _, _⟩ := info_parts infoDg
  have hc : Tryd.prog.cellsOf 31 = 16 := by kernel_rfl
  have e0 : (Op.equalIn 9999 31 (.agg (x0.map bv).toArray) (.agg (y0.map bv).toArray)).run Tryd.prog W = .ok (x0 == y0) W := run_eq_dig 9997 9999 rfl x0 y0 h0 k0 W
  have e1 : (Op.equalIn 9999 31 (.agg (x1.map bv).toArray) (.agg (y1.map bv).toArray)).run Tryd.prog W = .ok (x1 == y1) W := run_eq_dig 9997 9999 rfl x1 y1 h1 k1 W
  have p0 := run_part_dig ((x0 ++ x1).map bv).toArray 0 W
  have p1 := run_part_dig ((x0 ++ x1).map bv).toArray 16 W
  have q0 := run_part_dig ((y0 ++ y1).map bv).toArray 0 W
  have q1 := run_part_dig ((y0 ++ y1).map bv).toArray 16 W
  rw [pair_first x0 x1 h0] at p0
  rw [pair_second x0 x1 h0 h1] at p1
  rw [pair_first y0 y1 k0] at q0
  rw [pair_second y0 y1 k0 k1] at q1
  have hE : (Op.eqItems 9999 31 16 ((x0 ++ x1).map bv).toArray ((y0 ++ y1).map bv).toArray (List.range 2)).run Tryd.prog W = .ok ((x0 == y0) && (x1 == y1)) W := by
    rw [show List.range 2 = [0, 1] from rfl]
    generalize ((x0 ++ x1).map bv).toArray = X at p0 p1 ⊢
    generalize ((y0 ++ y1).map bv).toArray = Y at q0 q1 ⊢
    rw [Op.eqItems, Sem.run_bind, Nat.zero_mul, p0]
    simp only [Result.andThen_ok]
    rw [Sem.run_bind, q0]
    simp only [Result.andThen_ok]
    rw [Sem.run_bind, e0]
    simp only [Result.andThen_ok]
    cases x0 == y0
    · rw [if_pos (show (!false) = true from rfl), Sem.run_pure]; rfl
    · rw [if_neg (by decide), Op.eqItems, Sem.run_bind, Nat.one_mul, p1]
      simp only [Result.andThen_ok]
      rw [Sem.run_bind, q1]
      simp only [Result.andThen_ok]
      rw [Sem.run_bind, e1]
      simp only [Result.andThen_ok]
      cases x1 == y1
      · rw [if_pos (show (!false) = true from rfl), Sem.run_pure]; rfl
      · rw [if_neg (by decide), Op.eqItems, Sem.run_pure]; rfl
  rw [run_neq_struct, show 10000 = 9999 + 1 from rfl, run_equalIn_array W 9999 _ _ arr_pr hi1, hc, hE]
  rfl
theorem neq_pair_run {o : Oper} {a : Act} (x y : Operand) (k : TypeId) (ho : o.op = .binOp .neq 62 x y k) (x0 x1 y0 y1 : List UInt8) (h0 : x0.length = 16) (h1 : x1.length = 16) (k0 : y0.length = 16) (k1 : y1.length = 16)
    (p q : List UInt8) (hp : p = x0 ++ x1) (hq : q = y0 ++ y1) (hx : a.eval x = .agg (p.map bv).toArray) (hy : a.eval y = .agg (q.map bv).toArray) (r : Bool) (hr : ((x0 == y0) && (x1 == y1)) = r) (W : World) : (execOp a.eval o).run Tryd.prog W = .ok (.value (.bool (!r))) W := by
  subst hp hq
  have hr1 := run_neq_pair x0 x1 y0 y1 h0 h1 k0 k1 W
  rw [hr] at hr1
  have hg : (eqGuard .neq 62 x y (.agg ((x0 ++ x1).map bv).toArray) (.agg ((y0 ++ y1).map bv).toArray)).run Tryd.prog W = .ok () W := run_eqGuard_agg W .neq _ x y _ _ (by kernel_rfl)
  unfold execOp
  simp only [ho, hx, hy, Sem.run_bind, Sem.run_pure, Result.andThen_ok, hr1, hg]
end Go.Proofs.YtlgokfgiemaklaaDoor
