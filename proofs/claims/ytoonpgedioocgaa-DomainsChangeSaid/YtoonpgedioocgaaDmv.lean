/-
  Stage 10 (domain): the reference's Same; Count; example.
-/
import Derived.Test.YtoonpgedioocgaaDmk
import Derived.Laws.StructEq
namespace Go.Proofs.Ytoonpgedioocgaa
set_option linter.unusedVariables false
set_option linter.unusedSimpArgs false
open Go.RowKit

section
variable {P : Program}
theorem load_at_run {o : Oper} {a : Act} (ty : TypeId) (y : Operand) (hop : o.op = .load ty y) (ad : Addr) (hy : a.eval y = .pointer (some ad)) (cs : List Value) (d : TypeDesc)
    (hu : P.underlying ty = some d) (hd : d.isRow = true) (hi : (P.info? ty).map (·.size) = some cs.length) (W : World) (hc : ∀ j v, cs[j]? = some v → W.cell? (ad.add j) = some v) : (execOp a.eval o).run P W = .ok (.value (.agg cs.toArray)) W := by
  have hl : (loadCells ad cs.length).run P W = .ok cs.toArray W := run_loadCells_list (P := P) W ad cs hc
  have hv : (loadVar ty ad).run P W = .ok (.agg cs.toArray) W := by
    cases hq : P.info? ty with
    | none => simp [hq] at hi
    | some i =>
      have hs : i.size = cs.length := by simpa [hq] using hi
      have hagg : (isAgg ty).run P W = .ok true W := by
        unfold isAgg
        rw [Sem.run_bind, run_underlying hu W]
        cases d <;> simp_all [TypeDesc.isRow]
      simp [loadVar, Sem.run_bind, hagg, sizeOf, typeInfo, hq, hs, hl]
  unfold execOp
  simp only [hop, hy, Instr.loadAt, Instr.sureAddr, Sem.run_bind, Sem.run_pure, Result.andThen_ok, hv]
end
theorem fields_rack : (Try.prog.fieldsOf 55).toList.map (fun f => (f.name, f.type, f.offset)) = [("House", 3, 0), ("Van", 4, 1)] := by kernel_rfl
theorem run_ne_rack (r s : Int × Bool) (w : World) : (binOp .neq 55 (.agg (rv r).toArray) (.agg (rv s).toArray)).run Try.prog w = .ok (.bool (decide (r ≠ s))) w := by
  obtain ⟨x, y⟩ := r
  obtain ⟨x', y'⟩ := s
  have hb : (!(x == x' && y == y')) = decide ((x, y) ≠ (x', y')) := by
    rw [Bool.eq_iff_iff]
    simp
  rw [run_neq_struct, run_equalIn_struct w 9999 55 _ _ (by kernel_rfl) (by kernel_rfl), ← hb]
  obtain ⟨f1, f2, hf, n1, t1, o1, n2, t2, o2⟩ : ∃ f1 f2 : Field, (Try.prog.fieldsOf 55).toList = [f1, f2] ∧ f1.name = "House" ∧ f1.type = 3 ∧ f1.offset = 0 ∧ f2.name = "Van" ∧ f2.type = 4 ∧ f2.offset = 1 := by
    obtain ⟨f1, l1, e1, g1, h1⟩ := List.map_eq_cons_iff.1 fields_rack
    obtain ⟨f2, l2, e2, g2, h2⟩ := List.map_eq_cons_iff.1 h1
    have e3 := List.map_eq_nil_iff.1 h2
    simp only [Prod.mk.injEq] at g1 g2
    exact ⟨f1, f2, by rw [e1, e2, e3], g1.1, g1.2.1, g1.2.2, g2.1, g2.2.1, g2.2.2⟩
  rw [hf]
  have ui := Try.underlying3
  have ub := Try.underlying4
  have p1 : ∀ (u : Int) (v : Bool), (part 3 (rv (u, v)).toArray 0).run Try.prog w = .ok (.int .i64 u) w := fun u v => by
    simp [part, isAgg, run_underlying ui, rv, iv]
  have p2 : ∀ (u : Int) (v : Bool), (part 4 (rv (u, v)).toArray 1).run Try.prog w = .ok (.bool v) w := fun u v => by
    simp [part, isAgg, run_underlying ub, rv, iv]
  simp only [Op.eqFields, n1, n2, t1, t2, o1, o2]
  simp only [ne_eq, String.reduceEq, not_false_eq_true, if_true, Sem.run_bind, p1, p2, Result.andThen_ok, run_equalIn_int w 9998 3 .i64 .i64 x x' ui]
  cases hx : (x == x')
  · simp
  · simp [p1, p2, run_equalIn_bool w 9998 4 y y' ub]
    by_cases hy : y = y' <;> simp [hy]
theorem ne_rack_run {o : Oper} {a : Act} (x y : Operand) (k : TypeId) (ho : o.op = .binOp .neq 55 x y k) (r s : Int × Bool) (hx : a.eval x = .agg (rv r).toArray) (hy : a.eval y = .agg (rv s).toArray) (b : Bool) (hb : decide (r ≠ s) = b) (W : World) :
    (execOp a.eval o).run Try.prog W = .ok (.value (.bool b)) W := by
  have hr := run_ne_rack r s W
  rw [hb] at hr
  have hg : (eqGuard .neq 55 x y (.agg (rv r).toArray) (.agg (rv s).toArray)).run Try.prog W = .ok () W := run_eqGuard_agg W .neq 55 x y _ _ (by kernel_rfl)
  unfold execOp
  simp only [ho, hx, hy, Sem.run_bind, Sem.run_pure, Result.andThen_ok, hr, hg]
/-- Are two domains equal? -/
def sameD (a b : Dm) : Bool := decide (a.D = b.D ∧ a.R = b.R ∧ a.H = b.H ∧ a.O = b.O)

set_option maxRecDepth 100000 in
set_option maxHeartbeats 4000000 in
theorem same10_any {B B' : Nat} (h h' : Hd) (d d' : Dm) (w : World) (m : DomM w B h d) (m' : DomM w B' h' d') :
    Calls Try.prog 27 #[h.val, h'.val] w fun e w' => e = .returned (.bool (sameD d d')) ∧ Below w.heap.size w w' := by
  obtain ⟨W1, hW1⟩ : ∃ W1, W1 = (w.alloc (.cells h.cells.toArray 25)).alloc (.cells h'.cells.toArray 25) := ⟨_, rfl⟩
  have hB1 : Hid (Below w.heap.size w W1) := by show Below _ _ _; rw [hW1]; exact ((Below.refl _ _).alloc (Nat.le_refl _) _).alloc (by simp) _
  have hR1 : Hid (Blk W1 w.heap.size h.cells 25) := by show Blk _ _ _ _; rw [hW1]; exact (Blk.new _ _ _).alloc _
  have hR2 : Hid (Blk W1 (w.heap.size + 1) h'.cells 25) := by show Blk _ _ _ _; rw [hW1]; exact (Blk.new _ _ _).at (by simp)
  have p0 : ∀ n, (W1.drewN n).cell? ⟨w.heap.size, 0, none⟩ = some (.slice h.a1 h.n1 h.c1) := fun n => hR1.out.cell (j := 0) rfl
  have p1 : ∀ n, (W1.drewN n).cell? ⟨w.heap.size, 1, none⟩ = some (.slice h.a2 h.n2 h.c2) := fun n => hR1.out.cell (j := 1) rfl
  have p2 : ∀ n, (W1.drewN n).cell? ⟨w.heap.size, 2, none⟩ = some (.slice h.a3 h.n3 h.c3) := fun n => hR1.out.cell (j := 2) rfl
  have p3 : ∀ n, (W1.drewN n).cell? ⟨w.heap.size, 3, none⟩ = some (.int .i64 h.o) := fun n => hR1.out.cell (j := 3) rfl
  have q0 : ∀ n, (W1.drewN n).cell? ⟨w.heap.size + 1, 0, none⟩ = some (.slice h'.a1 h'.n1 h'.c1) := fun n => hR2.out.cell (j := 0) rfl
  have q1 : ∀ n, (W1.drewN n).cell? ⟨w.heap.size + 1, 1, none⟩ = some (.slice h'.a2 h'.n2 h'.c2) := fun n => hR2.out.cell (j := 1) rfl
  have q2 : ∀ n, (W1.drewN n).cell? ⟨w.heap.size + 1, 2, none⟩ = some (.slice h'.a3 h'.n3 h'.c3) := fun n => hR2.out.cell (j := 2) rfl
  have q3 : ∀ n, (W1.drewN n).cell? ⟨w.heap.size + 1, 3, none⟩ = some (.int .i64 h'.o) := fun n => hR2.out.cell (j := 3) rfl
  have p00 := p0 0
  have q00 := q0 0
  have hm1 := Lib.hid (m.below hB1.out)
  have hm2 := Lib.hid (m'.below hB1.out)
  have hBn : Hid (∀ n, Below w.heap.size w (W1.drewN n)) := fun n => below_drewN hB1.out n
  have S1 := Lib.hid (fun n => sameZ_any d.D d'.D h.a1 h'.a1 h.n1 h'.n1 h.c1 h'.c1 (W1.drewN n) hm1.out.r1 hm2.out.r1 hm1.out.l1 hm2.out.l1 hm1.out.s1)
  have S2 := Lib.hid (fun n => sameZ_any d.H d'.H h.a3 h'.a3 h.n3 h'.n3 h.c3 h'.c3 (W1.drewN n) hm1.out.r3 hm2.out.r3 hm1.out.l3 hm2.out.l3 hm1.out.s3)
  obtain ⟨r, hr0⟩ : ∃ r, r = sameD d d' := ⟨_, rfl⟩
  have hr : Hid (r = decide (d.D = d'.D ∧ d.R = d'.R ∧ d.H = d'.H ∧ d.O = d'.O)) := hr0
  rw [← hr0]
  obtain ⟨b1, hb1⟩ : ∃ b, b = sameZ d.D d'.D := ⟨_, rfl⟩
  obtain ⟨b2, hb2⟩ : ∃ b, b = sameZ d.H d'.H := ⟨_, rfl⟩
  have hb1' : Hid (b1 = decide (d.D = d'.D)) := hb1
  have hb2' : Hid (b2 = decide (d.H = d'.H)) := hb2
  rw [← hb1] at S1
  rw [← hb2] at S2
  have hlo : Hid (h.o = d.O ∧ h'.o = d'.O) := ⟨m.eo, m'.eo⟩
  have hl2 : Hid (h.n2 = d.R.length ∧ h'.n2 = d'.R.length) := ⟨m.l2, m'.l2⟩
  have hs2 : h.n2 ≤ 140737488355328 := m.s2
  have hW1' := Lib.hid hW1
  have hrk := Lib.hid size_rack
  have hur : Hid (Try.prog.underlying 55 = _) := Try.underlying55
  unfold Hd.cells at hW1' hR1 hR2
  clear hr0 hb1 hb2 m m' hW1
  obtain ⟨a1, n1, c1, a2, n2, c2, a3, n3, c3, o⟩ := h
  obtain ⟨a1', n1', c1', a2', n2', c2', a3', n3', c3', o'⟩ := h'
  dsimp only at *
  unfold Hd.val
  dsimp only
  cases b1 with
  | false =>
    have hz : Hid (r = false) := by show _ = _; rw [hr.out, decide_eq_false_iff_not]; intro hh; have := hb1'.out; rw [decide_eq_true hh.1] at this; cases this
    go_enter Try.func27, Try.ntmps27
    go_wp2_with fail
    generalize hg : (w.alloc _).alloc _ = Wg
    have hgW : W1 = Wg := by rw [← hg, hW1'.out]
    clear hg hW1'
    subst hgW
    go_wp2_with fail
    refine (S1.out 0).mono ?_
    rintro e wa ⟨rfl, na, rfl⟩
    go_wp2_with fail
    refine (S2.out _).mono ?_
    rintro e wb ⟨rfl, nb, rfl⟩
    go_wp2_with fail
    go_ret
    exact ⟨by rw [hz.out]; rfl, hBn.out _⟩
  | true =>
  cases b2 with
  | false =>
    have hz : Hid (r = false) := by show _ = _; rw [hr.out, decide_eq_false_iff_not]; intro hh; have := hb2'.out; rw [decide_eq_true hh.2.2.1] at this; cases this
    go_enter Try.func27, Try.ntmps27
    go_wp2_with fail
    generalize hg : (w.alloc _).alloc _ = Wg
    have hgW : W1 = Wg := by rw [← hg, hW1'.out]
    clear hg hW1'
    subst hgW
    go_wp2_with fail
    refine (S1.out 0).mono ?_
    rintro e wa ⟨rfl, na, rfl⟩
    go_wp2_with fail
    refine (S2.out _).mono ?_
    rintro e wb ⟨rfl, nb, rfl⟩
    go_wp2_with fail
    go_ret
    exact ⟨by rw [hz.out]; rfl, hBn.out _⟩
  | true =>
  cases e3 : (o != o') with
  | true =>
    have hz : Hid (r = false) := by show _ = _; rw [hr.out, decide_eq_false_iff_not]; intro hh; have h1 := hlo.out.1; have h2 := hlo.out.2; rw [h1, h2, hh.2.2.2] at e3; simp at e3
    go_enter Try.func27, Try.ntmps27
    go_wp2_with fail
    generalize hg : (w.alloc _).alloc _ = Wg
    have hgW : W1 = Wg := by rw [← hg, hW1'.out]
    clear hg hW1'
    subst hgW
    go_wp2_with fail
    refine (S1.out 0).mono ?_
    rintro e wa ⟨rfl, na, rfl⟩
    go_wp2_with fail
    refine (S2.out _).mono ?_
    rintro e wb ⟨rfl, nb, rfl⟩
    go_wp2_with fail
    go_ret
    exact ⟨by rw [hz.out]; rfl, hBn.out _⟩
  | false =>
  cases e4 : ((n2 : Int) != (n2' : Int)) with
  | true =>
    have hz : Hid (r = false) := by show _ = _; rw [hr.out, decide_eq_false_iff_not]; intro hh; have h1 := hl2.out.1; have h2 := hl2.out.2; rw [h1, h2, hh.2.1] at e4; simp at e4
    go_enter Try.func27, Try.ntmps27
    go_wp2_with fail
    generalize hg : (w.alloc _).alloc _ = Wg
    have hgW : W1 = Wg := by rw [← hg, hW1'.out]
    clear hg hW1'
    subst hgW
    go_wp2_with fail
    refine (S1.out 0).mono ?_
    rintro e wa ⟨rfl, na, rfl⟩
    go_wp2_with fail
    refine (S2.out _).mono ?_
    rintro e wb ⟨rfl, nb, rfl⟩
    go_wp2_with fail
    go_ret
    exact ⟨by rw [hz.out]; rfl, hBn.out _⟩
  | false =>
  have hz1 := of_decide_eq_true hb1'.out.symm
  have hz2 := of_decide_eq_true hb2'.out.symm
  have hrz : Hid (r = decide (d.R = d'.R)) := by
    show _ = _
    rw [hr.out, decide_eq_decide]
    have h1 := hlo.out.1
    have h2 := hlo.out.2
    have h3 : o = o' := by simpa using e3
    exact ⟨fun hh => hh.2.1, fun hh => ⟨hz1, hh, hz2, by omega⟩⟩
  have hnn : n2' = n2 := by have := e4; simp at this; omega
  subst hnn
  clear e4 hz1 hz2
  go_enter Try.func27, Try.ntmps27
  go_wp2_with fail
  generalize hg : (w.alloc _).alloc _ = Wg
  have hgW : W1 = Wg := by rw [← hg, hW1'.out]
  clear hg hW1'
  subst hgW
  go_wp2_with fail
  refine (S1.out 0).mono ?_
  rintro e wa ⟨rfl, na, rfl⟩
  go_wp2_with fail
  refine (S2.out _).mono ?_
  rintro e wb ⟨rfl, nb, rfl⟩
  go_wp2_with fail
  go_loopw [7] (fun i wr => ∃ k n : Nat, k ≤ n2' ∧ i = .int .i64 k ∧ Hid (d.R.take k = d'.R.take k) ∧ wr = W1.drewN n) (fun i _ => n2' - (intOf i).toNat)
  case atStart => exact ⟨0, _, by omega, rfl, rfl, rfl⟩
  case round =>
    obtain ⟨k, n, hk, rfl, heq, rfl⟩ := hrel
    by_cases hlt : k < n2'
    · have t : (k : Int) < (n2' : Int) := by omega
      have t0 : 0 ≤ (k : Int) := by omega
      obtain ⟨x, hx⟩ : ∃ x, d.R[k]? = some x := ⟨_, List.getElem?_eq_getElem (by have := hl2.out.1; omega)⟩
      obtain ⟨y, hy⟩ : ∃ x, d'.R[k]? = some x := ⟨_, List.getElem?_eq_getElem (by have := hl2.out.2; omega)⟩
      obtain ⟨ad, e1, _, g1⟩ := hm1.out.r2.look (rflat_at hx).1
      obtain ⟨ad', e1', _, g1'⟩ := hm1.out.r2.look (rflat_at hx).2
      obtain ⟨bd, e2, _, g2⟩ := hm2.out.r2.look (rflat_at hy).1
      obtain ⟨bd', e2', _, g2'⟩ := hm2.out.r2.look (rflat_at hy).2
      dsimp only at e1 e1' e2 e2'
      subst e1
      obtain rfl := Option.some.inj e1'
      subst e2
      obtain rfl := Option.some.inj e2'
      have hcx : Hid (∀ (W : World), Below W1.heap.size W1 W → ∀ j v, (rv x)[j]? = some v → W.cell? ((ad.add (k * 2)).add j) = some v) := by
        intro W hW j v hv
        rw [add_twice]
        match j, hv with
        | 0, hv => injection hv with hv; rw [← hv]; exact (hW.cell (World.block_lt_of_cell? W1 _ g1)).trans g1
        | 1, hv => injection hv with hv; rw [← hv]; exact (hW.cell (World.block_lt_of_cell? W1 _ g1')).trans g1'
      have hcy : Hid (∀ (W : World), Below W1.heap.size W1 W → ∀ j v, (rv y)[j]? = some v → W.cell? ((bd.add (k * 2)).add j) = some v) := by
        intro W hW j v hv
        rw [add_twice]
        match j, hv with
        | 0, hv => injection hv with hv; rw [← hv]; exact (hW.cell (World.block_lt_of_cell? W1 _ g2)).trans g2
        | 1, hv => injection hv with hv; rw [← hv]; exact (hW.cell (World.block_lt_of_cell? W1 _ g2')).trans g2'
      have hx' := Lib.hid hx
      have hy' := Lib.hid hy
      have hq : Hid (∀ q : ExtOf (W1.drewN (n + 1)), Below W1.heap.size W1 q.world) := fun q => (below_drewN (Below.refl W1.heap.size W1) n).trans (ExtOf.below (w1 := W1.drewN n) (B := W1.heap.size) q (Nat.le_refl _))
      have p1' : ∀ q : ExtOf (W1.drewN (n + 1)), q.world.cell? ⟨w.heap.size, 1, none⟩ = some (.slice (some ad) n2' c2) := fun q => by
        rw [(hq.out q).cell (World.block_lt_of_cell? W1 _ (p1 0))]; exact p1 0
      have q1' : ∀ q : ExtOf (W1.drewN (n + 1)), q.world.cell? ⟨w.heap.size + 1, 1, none⟩ = some (.slice (some bd) n2' c2') := fun q => by
        rw [(hq.out q).cell (World.block_lt_of_cell? W1 _ (q1 0))]; exact q1 0
      clear hx hy g1 g1' g2 g2' e1' e2'
      cases hbx : decide (x ≠ y) with
      | false =>
        have hxy : x = y := by simpa using hbx
        have hnx := Lib.hid (takeZ_next heq.out hx'.out (hxy ▸ hy'.out))
        clear hxy
        have hbx' := Lib.hid hbx
        clear hbx
        go_wp2_with fail
        refine wp_region_planM [] [(true, 0), (true, 1), (true, 2), (true, 3), (true, 4), (true, 5), (true, 6), (true, 7), (true, 8), (true, 9), (true, 10)] (by decide) (by kernel_rfl) (by kernel_rfl) (by decide) (by intro c a d v w h; cases d <;> exact h) ?_
        change wpPlanM _ _ _ _ _ _ (W1.drewN (n + 1))
        iterate 4 (refine wpPlanM_plain rfl (fun K hK => ?_); go_simp; refine hK _ ?_; clear hK K)
        refine wpPlanM_runW rfl (by rfl) _ (fun q => load_at_run 55 _ rfl (ad.add (k * 2)) rfl (rv x) _ hur.out rfl hrk.out q.world (hcx.out _ (hq.out q))) ?_
        iterate 4 (refine wpPlanM_plain rfl (fun K hK => ?_); go_simp; refine hK _ ?_; clear hK K)
        refine wpPlanM_runW rfl (by rfl) _ (fun q => load_at_run 55 _ rfl (bd.add (k * 2)) rfl (rv y) _ hur.out rfl hrk.out q.world (hcy.out _ (hq.out q))) ?_
        refine wpPlanM_runW rfl (by rfl) _ (fun q => ne_rack_run _ _ _ rfl x y rfl rfl false hbx'.out q.world) ?_
        refine wpPlanM_nil ?_
        go_wp2
        go_roundw
        case rel => exact ⟨k + 1, _, by omega, by go_num, hnx, by first | rfl | (go_simp; done) | (go_simp; rfl)⟩
        case measure => simp [intOf]; omega
      | true =>
        have hxy : x ≠ y := by simpa using hbx
        have hf : Hid (r = false) := by
          show _ = _
          rw [hrz.out, decide_eq_false_iff_not]
          intro hh
          have h1 := hx'.out
          rw [hh, hy'.out] at h1
          exact hxy (Option.some.inj h1).symm
        clear hxy
        have hbx' := Lib.hid hbx
        clear hbx
        go_wp2_with fail
        refine wp_region_planM [] [(true, 0), (true, 1), (true, 2), (true, 3), (true, 4), (true, 5), (true, 6), (true, 7), (true, 8), (true, 9), (true, 10)] (by decide) (by kernel_rfl) (by kernel_rfl) (by decide) (by intro c a d v w h; cases d <;> exact h) ?_
        change wpPlanM _ _ _ _ _ _ (W1.drewN (n + 1))
        iterate 4 (refine wpPlanM_plain rfl (fun K hK => ?_); go_simp; refine hK _ ?_; clear hK K)
        refine wpPlanM_runW rfl (by rfl) _ (fun q => load_at_run 55 _ rfl (ad.add (k * 2)) rfl (rv x) _ hur.out rfl hrk.out q.world (hcx.out _ (hq.out q))) ?_
        iterate 4 (refine wpPlanM_plain rfl (fun K hK => ?_); go_simp; refine hK _ ?_; clear hK K)
        refine wpPlanM_runW rfl (by rfl) _ (fun q => load_at_run 55 _ rfl (bd.add (k * 2)) rfl (rv y) _ hur.out rfl hrk.out q.world (hcy.out _ (hq.out q))) ?_
        refine wpPlanM_runW rfl (by rfl) _ (fun q => ne_rack_run _ _ _ rfl x y rfl rfl true hbx'.out q.world) ?_
        refine wpPlanM_nil ?_
        go_wp2
        go_ret
        exact ⟨by rw [hf.out]; rfl, below_drewN hB1.out (n + 1)⟩
    · have t : ¬ (k : Int) < (n2' : Int) := by omega
      have hf : Hid (r = true) := by
        have := heq.out
        rw [List.take_of_length_le (by have := hl2.out.1; omega), List.take_of_length_le (by have := hl2.out.2; omega)] at this
        show _ = _
        rw [hrz.out, this]
        simp
      go_wp2_with fail
      go_ret
      exact ⟨by rw [hf.out]; rfl, hBn.out n⟩
end Go.Proofs.Ytoonpgedioocgaa
