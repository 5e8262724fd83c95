/-
  Stage 14 (clock): Join of the program and of the specification. (Written by tools/genuf.py.)
-/
import Derived.Test.YtbkgbjimooobbaaUe
namespace Go.Proofs.Ytbkgbjimooobbaa
set_option linter.unusedVariables false
set_option linter.unusedSimpArgs false
open Go.RowKit

theorem run_build_whn (a b c d : Int) (w : World) : (Instr.buildSlice 75 2 #[(0, .agg #[.int .i64 a, .int .i64 b]), (1, .agg #[.int .i64 c, .int .i64 d])]).run Try.prog w =
    .ok (.slice (some ⟨w.heap.size, 0, none⟩) 2 2) (w.alloc (.cells #[.int .i64 a, .int .i64 b, .int .i64 c, .int .i64 d] 45)) := by kernel_rfl
theorem wpList_buildSlice_two {P : Program} {ops : Array Oper} {rest : List Oper} {op : Oper} {a : Act} {w w' : World} {Q : Exit → Act → World → Prop} (hgd : op.guard = none) (t : TypeId) (x y : Operand) (ho : op.op = .buildSlice t 2 #[(0, x), (1, y)])
    (u u2 v : Value) (hx : a.eval x = u) (hy : a.eval y = u2) (hrun : (Instr.buildSlice t 2 #[(0, u), (1, u2)]).run P w = .ok v w') (h : wpList P ops Q rest (a.put op.dst v) w') : wpList P ops Q (op :: rest) a w := by
  refine wpList_plain hgd fun K hK => ?_
  unfold Oper.wp execOp
  simp only [ho, List.map_toArray, List.map_cons, List.map_nil, hx, hy, Sem.run_bind, Sem.run_pure, hrun, Result.andThen_ok]
  exact hK _ _ h
theorem common_zero (w : World) : Calls Try.prog 29 #[.slice none 0 0] w fun e w' => e = .returned (.agg #[.int .i64 0, .int .i64 3600000000]) ∧ Below w.heap.size w w' :=
  common_any (B := w.heap.size) [] none 0 0 w (by unfold wfl; exact Rds.empty) (Nat.le_refl _) rfl (by omega)
/-- common of two ranges in a slice that was just made. -/
theorem common_two (a b c d : Int) (w : World) : Calls Try.prog 29 #[.slice (some ⟨w.heap.size, 0, none⟩) 2 2] (w.alloc (.cells #[.int .i64 a, .int .i64 b, .int .i64 c, .int .i64 d] 45)) fun e w' => e = .returned (.agg #[.int .i64 (max (max 0 a) c), .int .i64 (min (min 3600000000 b) d)]) ∧ Below w.heap.size w w' := by
  refine (common_any (B := w.heap.size + 1) [(a, b), (c, d)] (some ⟨w.heap.size, 0, none⟩) 2 2 _ (Rds.new w [.int .i64 a, .int .i64 b, .int .i64 c, .int .i64 d] _) (by simp) rfl (by omega)).mono ?_
  rintro e w' ⟨rfl, hb⟩
  exact ⟨rfl, ((Below.refl _ _).alloc (Nat.le_refl _) _).trans (hb.mono (by simp))⟩
/-- What Join returns. -/
def jnOk (a b c d : Int) : Bool := okW a b && okW c d
def jnLo (a b c d : Int) : Int := if jnOk a b c d = true then ocLo (max a c) (min b d) else 0
def jnHi (a b c d : Int) : Int := if jnOk a b c d = true then ocHi (max a c) (min b d) else 0
def jnE (a b c d : Int) : Int := if jnOk a b c d = true then ocE (max a c) (min b d) else 3
theorem jn_ok {a b c d : Int} (h : jnOk a b c d = true) : jnLo a b c d = ocLo (max (max 0 a) c) (min (min 3600000000 b) d) ∧ jnHi a b c d = ocHi (max (max 0 a) c) (min (min 3600000000 b) d) ∧ jnE a b c d = ocE (max (max 0 a) c) (min (min 3600000000 b) d) := by
  have h1 := okW_iff.1 ((Bool.and_eq_true _ _).mp h).1
  unfold jnLo jnHi jnE
  rw [if_pos h, if_pos h, if_pos h, show max 0 a = a by omega, show min 3600000000 b = b by omega]
  exact ⟨rfl, rfl, rfl⟩
theorem jn_okr {a b c d : Int} (h : jnOk a b c d = true) : jnLo a b c d = ocLo (max a c) (min b d) ∧ jnHi a b c d = ocHi (max a c) (min b d) ∧ jnE a b c d = ocE (max a c) (min b d) := by
  unfold jnLo jnHi jnE
  rw [if_pos h, if_pos h, if_pos h]
  exact ⟨rfl, rfl, rfl⟩
theorem jn_no {a b c d : Int} (h : jnOk a b c d = false) : jnLo a b c d = 0 ∧ jnHi a b c d = 0 ∧ jnE a b c d = 3 := by
  unfold jnLo jnHi jnE
  rw [if_neg (by rw [h]; simp), if_neg (by rw [h]; simp), if_neg (by rw [h]; simp)]
  exact ⟨rfl, rfl, rfl⟩
theorem jnE_ok {a b c d : Int} : jnE a b c d = 0 ↔ jnOk a b c d = true ∧ max a c ≤ min b d := by
  cases h : jnOk a b c d with
  | false => rw [(jn_no h).2.2]; simp
  | true => rw [(jn_okr h).2.2]; unfold ocE; split <;> simp <;> omega
set_option maxRecDepth 100000 in
set_option maxHeartbeats 4000000 in
theorem join_any (a b c d : Int) (w : World) :
    Calls Try.prog 14 #[.agg #[.int .i64 a, .int .i64 b], .agg #[.int .i64 c, .int .i64 d]] w fun e w' => e = .returned (.tuple #[.agg #[.int .i64 (jnLo a b c d), .int .i64 (jnHi a b c d)], .int .i64 (jnE a b c d)]) ∧ Below w.heap.size w w' := by
  obtain ⟨W2, hW2⟩ : ∃ W2, W2 = ((w.alloc (.cells #[.int .i64 a, .int .i64 b] 45)).alloc (.cells #[.int .i64 c, .int .i64 d] 45)).alloc (.cells #[.int .i64 0, .int .i64 0] 45) := ⟨_, rfl⟩
  have E : Hid (Below w.heap.size w W2) := by show Below _ _ _; rw [hW2]; exact (((Below.refl _ _).alloc (Nat.le_refl _) _).alloc (by simp) _).alloc (by simp; omega) _
  have X1 : Hid (Blk W2 w.heap.size [.int .i64 a, .int .i64 b] 45) := by show Blk _ _ _ _; rw [hW2]; exact ((Blk.new w [.int .i64 a, .int .i64 b] _).alloc _).alloc _
  have X2 : Hid (Blk W2 (w.heap.size + 1) [.int .i64 c, .int .i64 d] 45) := by show Blk _ _ _ _; rw [hW2]; exact ((Blk.new _ [.int .i64 c, .int .i64 d] _).alloc _).at (by simp)
  have X3 : Hid (Blk W2 (w.heap.size + 1 + 1) [.int .i64 0, .int .i64 0] 45) := by show Blk _ _ _ _; rw [hW2]; exact (Blk.new _ [_, _] _).at (by simp)
  have hW2' := Lib.hid hW2
  clear hW2
  have hsz := Lib.hid size_whn
  have hun : Hid (Try.prog.underlying 45 = _) := Try.underlying45
  have C1 := Lib.hid (fun W => isRange_any a b W)
  have C2 := Lib.hid (fun W => isRange_any c d W)
  obtain ⟨k, hk⟩ : ∃ k, jnOk a b c d = k := ⟨_, rfl⟩
  have hk' := hk
  unfold jnOk at hk'
  obtain ⟨x, hx⟩ : ∃ x, okW a b = x := ⟨_, rfl⟩
  obtain ⟨y, hy⟩ : ∃ y, okW c d = y := ⟨_, rfl⟩
  rw [hx] at C1 hk'
  rw [hy] at C2 hk'
  clear hx hy
  cases x with
  | false =>
    subst hk'
    obtain ⟨e1, e2, e3⟩ := jn_no hk
    rw [e1, e2, e3]
    clear hk e1 e2 e3
    go_enter Try.func14, Try.ntmps14
    go_upto_region 1 with fail
    generalize hgg : ((w.alloc _).alloc _).alloc _ = Wg
    have hgW : W2 = Wg := by rw [← hgg, hW2'.out]
    clear hgg hW2'
    subst hgW
    go_wp2_with (refine wpList_blk_load rfl 45 _ rfl 0 rfl X1.out [_, _] rfl _ hun.out rfl hsz.out ?_)
    refine (C1.out _).mono ?_
    rintro e w3 ⟨rfl, hb⟩
    replace E : Hid (Below w.heap.size w w3) := E.out.trans (hb.mono E.out.size)
    replace X1 := Lib.hid (X1.out.below hb X1.out.lt)
    replace X2 := Lib.hid (X2.out.below hb X2.out.lt)
    replace X3 := Lib.hid (X3.out.below hb X3.out.lt)
    clear hb
    go_wp2_with (refine wpList_row_store rfl 45 _ _ rfl [.int .i64 0, .int .i64 0] rfl rfl X3.out size_whn rfl (one2 _ _) ?_; intro w9 hw9 ho9)
    exact bodyPost_ret (ret_cellK rfl _ w9 (g := w.heap.size + 1 + 1) _ rfl rfl hw9.out _ hun.out rfl hsz.out) rfl ⟨rfl, E.out.trans (ho9.below (by omega))⟩
  | true =>
    cases y with
    | false =>
      subst hk'
      obtain ⟨e1, e2, e3⟩ := jn_no hk
      rw [e1, e2, e3]
      clear hk e1 e2 e3
      go_enter Try.func14, Try.ntmps14
      go_upto_region 1 with fail
      generalize hgg : ((w.alloc _).alloc _).alloc _ = Wg
      have hgW : W2 = Wg := by rw [← hgg, hW2'.out]
      clear hgg hW2'
      subst hgW
      go_wp2_with (refine wpList_blk_load rfl 45 _ rfl 0 rfl X1.out [_, _] rfl _ hun.out rfl hsz.out ?_)
      refine (C1.out _).mono ?_
      rintro e w3 ⟨rfl, hb⟩
      replace E : Hid (Below w.heap.size w w3) := E.out.trans (hb.mono E.out.size)
      replace X1 := Lib.hid (X1.out.below hb X1.out.lt)
      replace X2 := Lib.hid (X2.out.below hb X2.out.lt)
      replace X3 := Lib.hid (X3.out.below hb X3.out.lt)
      clear hb
      go_wp2_with (refine wpList_blk_loadW (by rfl) 45 _ rfl 0 rfl X2.out [_, _] rfl _ hun.out rfl hsz.out ?_)
      refine (C2.out _).mono ?_
      rintro e w4 ⟨rfl, hb⟩
      replace E : Hid (Below w.heap.size w w4) := E.out.trans (hb.mono E.out.size)
      replace X1 := Lib.hid (X1.out.below hb X1.out.lt)
      replace X2 := Lib.hid (X2.out.below hb X2.out.lt)
      replace X3 := Lib.hid (X3.out.below hb X3.out.lt)
      clear hb
      go_wp2_with (refine wpList_row_store rfl 45 _ _ rfl [.int .i64 0, .int .i64 0] rfl rfl X3.out size_whn rfl (one2 _ _) ?_; intro w9 hw9 ho9)
      exact bodyPost_ret (ret_cellK rfl _ w9 (g := w.heap.size + 1 + 1) _ rfl rfl hw9.out _ hun.out rfl hsz.out) rfl ⟨rfl, E.out.trans (ho9.below (by omega))⟩
    | true =>
      subst hk'
      obtain ⟨e1, e2, e3⟩ := jn_ok hk
      rw [e1, e2, e3]
      clear hk e1 e2 e3
      have CM := Lib.hid (fun W => common_two a b c d W)
      generalize max (max 0 a) c = u at *
      generalize min (min 3600000000 b) d = v at *
      have CO := Lib.hid (fun W => orConflict_any u v W)
      generalize ocLo u v = u' at *
      generalize ocHi u v = v' at *
      generalize ocE u v = e' at *
      have hbs := Lib.hid (fun W => run_build_whn a b c d W)
      go_enter Try.func14, Try.ntmps14
      go_upto_region 1 with fail
      generalize hgg : ((w.alloc _).alloc _).alloc _ = Wg
      have hgW : W2 = Wg := by rw [← hgg, hW2'.out]
      clear hgg hW2'
      subst hgW
      go_wp2_with (refine wpList_blk_load rfl 45 _ rfl 0 rfl X1.out [_, _] rfl _ hun.out rfl hsz.out ?_)
      refine (C1.out _).mono ?_
      rintro e w3 ⟨rfl, hb⟩
      replace E : Hid (Below w.heap.size w w3) := E.out.trans (hb.mono E.out.size)
      replace X1 := Lib.hid (X1.out.below hb X1.out.lt)
      replace X2 := Lib.hid (X2.out.below hb X2.out.lt)
      replace X3 := Lib.hid (X3.out.below hb X3.out.lt)
      clear hb
      go_wp2_with (refine wpList_blk_loadW (by rfl) 45 _ rfl 0 rfl X2.out [_, _] rfl _ hun.out rfl hsz.out ?_)
      refine (C2.out _).mono ?_
      rintro e w4 ⟨rfl, hb⟩
      replace E : Hid (Below w.heap.size w w4) := E.out.trans (hb.mono E.out.size)
      replace X1 := Lib.hid (X1.out.below hb X1.out.lt)
      replace X2 := Lib.hid (X2.out.below hb X2.out.lt)
      replace X3 := Lib.hid (X3.out.below hb X3.out.lt)
      clear hb
      go_wp2_with (first | (refine wpList_blk_load rfl 45 _ rfl 0 rfl X1.out [_, _] rfl _ hun.out rfl hsz.out ?_) | (refine wpList_blk_load rfl 45 _ rfl 0 rfl X2.out [_, _] rfl _ hun.out rfl hsz.out ?_) | (refine wpList_buildSlice_two rfl 75 _ _ rfl (.agg #[.int .i64 a, .int .i64 b]) (.agg #[.int .i64 c, .int .i64 d]) _ rfl rfl (hbs.out _) ?_) | fail)
      refine (CM.out _).mono ?_
      rintro e w5 ⟨rfl, hb⟩
      replace E : Hid (Below w.heap.size w w5) := E.out.trans (hb.mono E.out.size)
      replace X1 := Lib.hid (X1.out.below hb X1.out.lt)
      replace X2 := Lib.hid (X2.out.below hb X2.out.lt)
      replace X3 := Lib.hid (X3.out.below hb X3.out.lt)
      clear hb
      go_wp2_with fail
      refine (CO.out _).mono ?_
      rintro e w6 ⟨rfl, hb⟩
      replace E : Hid (Below w.heap.size w w6) := E.out.trans (hb.mono E.out.size)
      replace X1 := Lib.hid (X1.out.below hb X1.out.lt)
      replace X2 := Lib.hid (X2.out.below hb X2.out.lt)
      replace X3 := Lib.hid (X3.out.below hb X3.out.lt)
      clear hb
      go_wp2_with (refine wpList_row_store rfl 45 _ _ rfl [.int .i64 u', .int .i64 v'] rfl rfl X3.out size_whn rfl (one2 _ _) ?_; intro w9 hw9 ho9)
      exact bodyPost_ret (ret_cellK rfl _ w9 (g := w.heap.size + 1 + 1) _ rfl rfl hw9.out _ hun.out rfl hsz.out) rfl ⟨rfl, E.out.trans (ho9.below (by omega))⟩

end Go.Proofs.Ytbkgbjimooobbaa
