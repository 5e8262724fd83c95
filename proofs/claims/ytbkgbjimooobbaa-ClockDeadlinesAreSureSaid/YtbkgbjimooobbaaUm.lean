/-
  Stage 14 (clock): ranges and readings compared; rows of readings of the call's own; slices.Clone.
-/
import Derived.Test.YtbkgbjimooobbaaUl
import Derived.Laws.StructEq
import Derived.Maps.AppendAt
namespace Go.Proofs.Ytbkgbjimooobbaa
set_option linter.unusedVariables false
set_option linter.unusedSimpArgs false
open Go.RowKit

theorem fields_whn : (Try.prog.fieldsOf 45).toList.map (fun f => (f.name, f.type, f.offset)) = [("Lo", 3, 0), ("Hi", 3, 1)] := by kernel_rfl
theorem fields_rdg : (Try.prog.fieldsOf 48).toList.map (fun f => (f.name, f.type, f.offset)) = [("Local", 3, 0), ("When", 45, 1)] := by kernel_rfl
theorem eqIn_whn (q : Nat) (a b c d : Int) (w : World) : (Op.equalIn (q + 1 + 1) 45 (.agg #[.int .i64 a, .int .i64 b]) (.agg #[.int .i64 c, .int .i64 d])).run Try.prog w = .ok (a == c && b == d) w := by
  rw [run_equalIn_struct w (q + 1) 45 _ _ (by kernel_rfl) (by kernel_rfl)]
  obtain ⟨f1, f2, hf, n1, t1, o1, n2, t2, o2⟩ : ∃ f1 f2 : Field, (Try.prog.fieldsOf 45).toList = [f1, f2] ∧ f1.name = "Lo" ∧ f1.type = 3 ∧ f1.offset = 0 ∧ f2.name = "Hi" ∧ f2.type = 3 ∧ f2.offset = 1 := by
    obtain ⟨f1, l1, e1, g1, h1⟩ := List.map_eq_cons_iff.1 fields_whn
    obtain ⟨f2, l2, e2, g2, h2⟩ := List.map_eq_cons_iff.1 h1
    have e3 := List.map_eq_nil_iff.1 h2
    simp only [Prod.mk.injEq] at g1 g2
    exact ⟨f1, f2, by rw [e1, e2, e3], g1.1, g1.2.1, g1.2.2, g2.1, g2.2.1, g2.2.2⟩
  rw [hf]
  have ui := Try.underlying3
  have p1 : ∀ (u v : Int), (part 3 #[.int .i64 u, .int .i64 v] 0).run Try.prog w = .ok (.int .i64 u) w := fun u v => by simp [part, isAgg, run_underlying ui]
  have p2 : ∀ (u v : Int), (part 3 #[.int .i64 u, .int .i64 v] 1).run Try.prog w = .ok (.int .i64 v) w := fun u v => by simp [part, isAgg, run_underlying ui]
  simp only [Op.eqFields, n1, n2, t1, t2, o1, o2]
  simp only [ne_eq, String.reduceEq, not_false_eq_true, if_true, Sem.run_bind, p1, p2, Result.andThen_ok, run_equalIn_int w q 3 .i64 .i64 a c ui]
  cases hx : (a == c)
  · simp
  · simp [p1, p2, run_equalIn_int w q 3 .i64 .i64 b d ui]
    by_cases hy : b = d <;> simp [hy]
theorem eqIn_rdg (q : Nat) (r s : Rdg) (w : World) : (Op.equalIn (q + 1 + 1 + 1) 48 (.agg #[.int .i64 r.L, .int .i64 r.lo, .int .i64 r.hi]) (.agg #[.int .i64 s.L, .int .i64 s.lo, .int .i64 s.hi])).run Try.prog w = .ok (r.L == s.L && (r.lo == s.lo && r.hi == s.hi)) w := by
  obtain ⟨L, a, b⟩ := r
  obtain ⟨L', a', b'⟩ := s
  dsimp only
  rw [run_equalIn_struct w (q + 1 + 1) 48 _ _ (by kernel_rfl) (by kernel_rfl)]
  obtain ⟨f1, f2, hf, n1, t1, o1, n2, t2, o2⟩ : ∃ f1 f2 : Field, (Try.prog.fieldsOf 48).toList = [f1, f2] ∧ f1.name = "Local" ∧ f1.type = 3 ∧ f1.offset = 0 ∧ f2.name = "When" ∧ f2.type = 45 ∧ f2.offset = 1 := by
    obtain ⟨f1, l1, e1, g1, h1⟩ := List.map_eq_cons_iff.1 fields_rdg
    obtain ⟨f2, l2, e2, g2, h2⟩ := List.map_eq_cons_iff.1 h1
    have e3 := List.map_eq_nil_iff.1 h2
    simp only [Prod.mk.injEq] at g1 g2
    exact ⟨f1, f2, by rw [e1, e2, e3], g1.1, g1.2.1, g1.2.2, g2.1, g2.2.1, g2.2.2⟩
  rw [hf]
  have ui := Try.underlying3
  have uw := Try.underlying45
  have isz : ∀ w, (sizeOf 45).run Try.prog w = .ok 2 w := fun w => by kernel_rfl
  have p1 : ∀ (u v x : Int), (part 3 #[.int .i64 u, .int .i64 v, .int .i64 x] 0).run Try.prog w = .ok (.int .i64 u) w := fun u v x => by simp [part, isAgg, run_underlying ui]
  have p2 : ∀ (u v x : Int), (part 45 #[.int .i64 u, .int .i64 v, .int .i64 x] 1).run Try.prog w = .ok (.agg #[.int .i64 v, .int .i64 x]) w := fun u v x => by kernel_rfl
  simp only [Op.eqFields, n1, n2, t1, t2, o1, o2]
  simp only [ne_eq, String.reduceEq, not_false_eq_true, if_true, Sem.run_bind, p1, p2, Result.andThen_ok, run_equalIn_int w (q + 1) 3 .i64 .i64 L L' ui]
  cases hx : (L == L')
  · simp
  · simp only [Bool.true_and, Bool.not_true, Bool.false_eq_true, if_false, if_true, Sem.run_bind, p2, Result.andThen_ok, eqIn_whn q a b a' b' w]
    cases (a == a' && b == b') <;> simp

theorem eqw_run {o : Oper} {a : Act} (x y : Operand) (k : TypeId) (ho : o.op = .binOp .eql 45 x y k) (u v u' v' : Int) (hx : a.eval x = .agg #[.int .i64 u, .int .i64 v]) (hy : a.eval y = .agg #[.int .i64 u', .int .i64 v']) (b : Bool) (hb : (u == u' && v == v') = b) (W : World) :
    (execOp a.eval o).run Try.prog W = .ok (.value (.bool b)) W := by
  have hr : (binOp .eql 45 (.agg #[.int .i64 u, .int .i64 v]) (.agg #[.int .i64 u', .int .i64 v'])).run Try.prog W = .ok (.bool b) W := by
    rw [run_eql_struct, eqIn_whn 9998 u v u' v' W, Result.andThen_ok, hb]
  have hg : (eqGuard .eql 45 x y (.agg #[.int .i64 u, .int .i64 v]) (.agg #[.int .i64 u', .int .i64 v'])).run Try.prog W = .ok () W := run_eqGuard_agg W .eql 45 x y _ _ (by kernel_rfl)
  unfold execOp
  simp only [ho, hx, hy, Sem.run_bind, Sem.run_pure, Result.andThen_ok, hr, hg]
theorem new_run {o : Oper} {a : Act} (x y : Operand) (k : TypeId) (ho : o.op = .binOp .neq 45 x y k) (u v u' v' : Int) (hx : a.eval x = .agg #[.int .i64 u, .int .i64 v]) (hy : a.eval y = .agg #[.int .i64 u', .int .i64 v']) (b : Bool) (hb : (!(u == u' && v == v')) = b) (W : World) :
    (execOp a.eval o).run Try.prog W = .ok (.value (.bool b)) W := by
  have hr : (binOp .neq 45 (.agg #[.int .i64 u, .int .i64 v]) (.agg #[.int .i64 u', .int .i64 v'])).run Try.prog W = .ok (.bool b) W := by
    rw [run_neq_struct, eqIn_whn 9998 u v u' v' W, Result.andThen_ok, hb]
  have hg : (eqGuard .neq 45 x y (.agg #[.int .i64 u, .int .i64 v]) (.agg #[.int .i64 u', .int .i64 v'])).run Try.prog W = .ok () W := run_eqGuard_agg W .neq 45 x y _ _ (by kernel_rfl)
  unfold execOp
  simp only [ho, hx, hy, Sem.run_bind, Sem.run_pure, Result.andThen_ok, hr, hg]
theorem eqr_run {o : Oper} {a : Act} (x y : Operand) (k : TypeId) (ho : o.op = .binOp .eql 48 x y k) (r s : Rdg) (hx : a.eval x = .agg #[.int .i64 r.L, .int .i64 r.lo, .int .i64 r.hi]) (hy : a.eval y = .agg #[.int .i64 s.L, .int .i64 s.lo, .int .i64 s.hi]) (b : Bool) (hb : (r.L == s.L && (r.lo == s.lo && r.hi == s.hi)) = b) (W : World) :
    (execOp a.eval o).run Try.prog W = .ok (.value (.bool b)) W := by
  have hr : (binOp .eql 48 (.agg #[.int .i64 r.L, .int .i64 r.lo, .int .i64 r.hi]) (.agg #[.int .i64 s.L, .int .i64 s.lo, .int .i64 s.hi])).run Try.prog W = .ok (.bool b) W := by
    rw [run_eql_struct, eqIn_rdg 9997 r s W, Result.andThen_ok, hb]
  have hg : (eqGuard .eql 48 x y (.agg #[.int .i64 r.L, .int .i64 r.lo, .int .i64 r.hi]) (.agg #[.int .i64 s.L, .int .i64 s.lo, .int .i64 s.hi])).run Try.prog W = .ok () W := run_eqGuard_agg W .eql 48 x y _ _ (by kernel_rfl)
  unfold execOp
  simp only [ho, hx, hy, Sem.run_bind, Sem.run_pure, Result.andThen_ok, hr, hg]
theorem ner_run {o : Oper} {a : Act} (x y : Operand) (k : TypeId) (ho : o.op = .binOp .neq 48 x y k) (r s : Rdg) (hx : a.eval x = .agg #[.int .i64 r.L, .int .i64 r.lo, .int .i64 r.hi]) (hy : a.eval y = .agg #[.int .i64 s.L, .int .i64 s.lo, .int .i64 s.hi]) (b : Bool) (hb : (!(r.L == s.L && (r.lo == s.lo && r.hi == s.hi))) = b) (W : World) :
    (execOp a.eval o).run Try.prog W = .ok (.value (.bool b)) W := by
  have hr : (binOp .neq 48 (.agg #[.int .i64 r.L, .int .i64 r.lo, .int .i64 r.hi]) (.agg #[.int .i64 s.L, .int .i64 s.lo, .int .i64 s.hi])).run Try.prog W = .ok (.bool b) W := by
    rw [run_neq_struct, eqIn_rdg 9997 r s W, Result.andThen_ok, hb]
  have hg : (eqGuard .neq 48 x y (.agg #[.int .i64 r.L, .int .i64 r.lo, .int .i64 r.hi]) (.agg #[.int .i64 s.L, .int .i64 s.lo, .int .i64 s.hi])).run Try.prog W = .ok () W := run_eqGuard_agg W .neq 48 x y _ _ (by kernel_rfl)
  unfold execOp
  simp only [ho, hx, hy, Sem.run_bind, Sem.run_pure, Result.andThen_ok, hr, hg]
section
variable {P : Program} {ops : Array Oper} {rest : List Oper} {op : Oper} {a : Act} {w : World} {Q : Exit → Act → World → Prop}
/-- An operation that is carried out, its value known. -/
theorem wpList_runW (hw : Region.wanted op (yielded ops a.tmps) = true) (v : Value) (hr : (execOp a.eval op).run P w = .ok (.value v) w) (h : wpList P ops Q rest (a.put op.dst v) w) : wpList P ops Q (op :: rest) a w := by
  refine wpList_wanted hw ?_
  unfold Oper.wp
  rw [hr]
  exact h
end

theorem infoG14 : (Try.prog.info? 48).map (fun i => (i.zero, i.size, i.bytes)) = some (some (.agg #[.int .i64 0, .int .i64 0, .int .i64 0]), 3, 24) := by kernel_rfl
theorem grown_noneK {w w' : World} (hb : Below w.heap.size w w') (row : Option Nat) : w.grownBy w' row := ⟨hb.os, hb.tape, hb.output, hb.size, fun i hi _ => hb.block i hi⟩
theorem eqlN_nilK {P : Program} (t e : TypeId) (a : Option Addr) (l c : Nat) (h : P.underlying t = some (.slice e)) (W : World) : (binOp .eql t (.slice a l c) (.slice none 0 0)).run P W = .ok (.bool a.isNone) W := by
  simp only [binOp]
  simp [run_equal_slice_nil W t e a l c h]
/-- The readings l are a row of the call's own. -/
def OwnK (w : World) (base : Nat) (v : Value) (l : List Rdg) : Prop := w.ownsRow base 48 3 v l.length (rdf l)
theorem ownK_nil (w : World) (base : Nat) : OwnK w base (.slice none 0 0) [] := World.ownsRow_nil w base _ _
theorem OwnK.keep {w w' : World} {base : Nat} {v : Value} {l : List Rdg} (h : OwnK w base v l) (hb : Below w.heap.size w w') : OwnK w' base v l := by
  unfold OwnK
  cases hk : v.ownBlock with
  | none => exact World.ownsRow.kept h (grown_noneK hb none) (.inl hk)
  | some k => exact World.ownsRow.kept h (grown_noneK hb none) (.inr (by rw [hk]; simp))
theorem OwnK.lower {w : World} {base base' : Nat} {v : Value} {l : List Rdg} (h : OwnK w base v l) (hb : base' ≤ base) : OwnK w base' v l :=
  ⟨h.1, h.2.imp id fun ⟨g, cap, cur, h1, h2, h3⟩ => ⟨g, cap, cur, h1, Nat.le_trans hb h2, h3⟩⟩
theorem ownK_made (w : World) (base : Nat) (hb : base ≤ w.heap.size) : OwnK (w.alloc (.cells #[] 48)) base (.slice (some ⟨w.heap.size, 0, none⟩) 0 0) [] :=
  ⟨rfl, .inr ⟨w.heap.size, 0, #[], rfl, hb, heap_alloc_new w _, Nat.le_refl _, Nat.zero_le _, rfl, rfl⟩⟩
theorem OwnK.only {w w' : World} {base t : Nat} {v : Value} {l : List Rdg} (h : OwnK w base v l) (ho : Only t w w') (ht : t < base) : OwnK w' base v l := by
  unfold OwnK
  refine World.ownsRow.kept h ⟨ho.os, ho.tape, ho.output, by rw [ho.size]; exact Nat.le_refl _, fun i _ hne => ho.block i (fun e => hne (by rw [e]))⟩ (row := some t) (.inr ?_)
  intro e
  have := (h.lt t e).1
  omega
theorem OwnK.slice {w : World} {base : Nat} {v : Value} {l : List Rdg} (h : OwnK w base v l) : ∃ A c, v = .slice A l.length c ∧ l.length ≤ c ∧ c ≤ maxLen ∧ (A = none → c = 0) ∧ Rds w w.heap.size A (rdf l) := by
  have ⟨A, c, hv, h1, h2, h3⟩ : ∃ A c, v = .slice A l.length c ∧ l.length ≤ c ∧ c ≤ maxLen ∧ (A = none → c = 0) := by
    rcases h.2 with ⟨rfl, h0⟩ | ⟨g, cap, cur, rfl, _, _, h1, h2, _⟩
    · exact ⟨none, 0, by rw [h0], by omega, Nat.zero_le _, fun _ => rfl⟩
    · exact ⟨_, cap, rfl, h1, h2, fun h => by cases h⟩
  subst hv
  refine ⟨A, c, rfl, h1, h2, h3, fun hn => ?_⟩
  have hpos : 0 < l.length := by
    rcases Nat.eq_zero_or_pos l.length with h0 | h0
    · exact absurd (by rw [List.eq_nil_of_length_eq_zero h0]; rfl) hn
    · exact h0
  obtain ⟨g, cap, hv, _, hlt⟩ := h.form hpos
  have hA : A = some ⟨g, 0, none⟩ := by injection hv
  subst hA
  exact ⟨_, rfl, hlt, h.cells (g := g) rfl⟩
theorem one_rdf (l : List Rdg) : ∀ u ∈ rdf l, u.oneCell' = true := by
  intro u hu
  unfold rdf at hu
  obtain ⟨r, _, hr⟩ := List.mem_flatMap.1 hu
  simp [rdc, iv] at hr
  rcases hr with rfl | rfl | rfl <;> rfl
section
variable {w : World} {ops : Array Oper} {rest : List Oper} {o : Oper} {a : Act} {Q : Exit → Act → World → Prop}
set_option maxRecDepth 100000 in
/-- 'l = append(l, m..)', l the call's own. -/
theorem push_rdgs (hgd : o.guard = none) (sl x : Operand)
    (ho : o.op = .call { callee := .builtin .append, args := #[sl, x], argTypes := #[28, 28] })
    (base : Nat) (v : Value) (M L : List Rdg) (B : Nat) (A : Option Addr) (n c : Nat) (hn : n = L.length) (hA : A = none → c = 0) (hs : a.eval sl = v) (hx : a.eval x = .slice A n c)
    (hr : Rds w B A (rdf L)) (hown : OwnK w base v M) (hlen : M.length + L.length ≤ 1000000000000) (hbase : base ≤ w.heap.size)
    (h : ∀ v' w', OwnK w' base v' (M ++ L) → Below base w w' → w.grownBy w' v.ownBlock → (v'.ownBlock = v.ownBlock ∨ v'.ownBlock = some w.heap.size) → wpList Try.prog ops Q rest (a.put o.dst v') w') :
    wpList Try.prog ops Q (o :: rest) a w := by
  subst hn
  obtain ⟨i0, hi, hz0, hz1, hz2⟩ := info_parts infoG14
  cases A with
  | none =>
    have hl : L = [] := by
      cases L with
      | nil => rfl
      | cons r L =>
        obtain ⟨ad, hh, _⟩ := hr (by simp [rdf, rdc])
        cases hh
    subst hl
    rw [hA rfl] at hx
    refine wpList_plain hgd fun K hK => ?_
    have hrun := run_append_owned_none (P := Try.prog) w base 28 o.type 48 i0 3 Try.underlying28 hi v M.length _ hown
    unfold Oper.wp execOp
    simp only [ho, resolve, invoke, builtin, Sem.run_bind, Sem.run_pure, Result.andThen_ok, List.map_toArray, List.map_cons, List.map_nil, hs, hx, List.length_nil, hrun]
    exact hK _ _ (h v w (by simpa using hown) (Below.refl _ _) (World.grownBy.refl w _) (.inl rfl))
  | some ad =>
    have hcell : ∀ j u, (rdf L)[j]? = some u → w.cell? (ad.add j) = some u := by
      intro j u hu
      obtain ⟨ad', he, _, hc⟩ := hr.look hu
      injection he with he
      subst he
      exact hc
    refine wpList_append_own_at w hgd sl x 28 ho base 48 i0 _ 3 24 Try.underlying28 hi hz0 hz1 hz2 rfl (by decide) v M.length _ hs hown ad L.length c (rdf L) hx (rdf_len L) hcell
      (one_rdf L) (by unfold maxLen; omega) (by omega) hbase ?_
    intro v' w' h2 h3 _ h5
    refine h v' w' ?_ ((Below.refl _ _).grown h3 hbase fun _ hk => (hown.lt _ hk).1) h3 h5
    unfold OwnK rdf at *
    rw [List.length_append, List.flatMap_append]
    exact h2
end

set_option maxRecDepth 100000 in
set_option maxHeartbeats 1000000 in
theorem cloneK_any {B : Nat} (L : List Rdg) (A : Option Addr) (n c : Nat) (w : World) (hn : n = L.length) (hA : Rds w B A (rdf L)) (hB : B ≤ w.heap.size) (hAn : A = none → c = 0) (hl : n ≤ 1000000) :
    Calls Try.prog 27 #[.slice A n c] w fun e w' => ∃ v, e = .returned v ∧ OwnK w' w.heap.size v L ∧ Below w.heap.size w w' := by
  cases A with
  | none =>
    have hl0 : L = [] := by
      cases L with
      | nil => rfl
      | cons r L =>
        obtain ⟨ad, hh, _⟩ := hA (by simp [rdf, rdc])
        cases hh
    subst hl0
    obtain rfl : n = 0 := hn
    obtain rfl : c = 0 := hAn rfl
    have hO := ownK_nil w w.heap.size
    have hE := eqlN_nilK (P := Try.prog) 28 48 none 0 0 Try.underlying28
    clear hA hAn
    go_enter Try.func27, Try.ntmps27
    go_wp2_with fail
    go_ret
    exact ⟨_, rfl, hO, Below.refl _ _⟩
  | some ad =>
    have hb1 : Below w.heap.size w (w.alloc (.cells #[] 48)) := (Below.refl w.heap.size w).alloc (Nat.le_refl _) _
    have hO' := Lib.hid (ownK_made w w.heap.size (Nat.le_refl _))
    have hA1' := Lib.hid (hA.below (hb1.mono hB))
    have hb1' := Lib.hid hb1
    have hs1' : Hid (w.heap.size ≤ (w.alloc (.cells #[] 48)).heap.size) := by show _ ≤ _; simp
    have hn' := Lib.hid hn
    have hll : Hid (([] : List Rdg).length + L.length ≤ 1000000000000) := by show _ ≤ _; rw [← hn]; simp; omega
    have hE : ∀ W, (binOp .eql 28 (.slice (some ad) n c) (.slice none 0 0)).run Try.prog W = .ok (.bool false) W := eqlN_nilK (P := Try.prog) 28 48 (some ad) n c Try.underlying28
    clear hb1 hA hAn hn
    go_enter Try.func27, Try.ntmps27
    go_wp2_with (refine push_rdgs rfl _ _ rfl w.heap.size _ [] L _ (some ad) n c hn'.out (fun h => by cases h) rfl rfl hA1'.out hO'.out hll.out hs1'.out ?_; intro v4 w4 ho4 hb4 hgr4 hob4)
    rw [List.nil_append] at ho4
    have hend := hb1'.out.trans hb4
    go_ret
    exact ⟨_, rfl, ho4, hend⟩

end Go.Proofs.Ytbkgbjimooobbaa
