/-
  Stage 14 (clock): common, Join of the program and of the specification.
-/
import Derived.Test.YtbkgbjimooobbaaUd
import Derived.Lib.MinMax
namespace Go.Proofs.Ytbkgbjimooobbaa
set_option linter.unusedVariables false
set_option linter.unusedSimpArgs false
open Go.RowKit

/-- Ranges as cells. -/
def wfl (l : List (Int × Int)) : List Value := l.flatMap fun p => [iv p.1, iv p.2]
theorem wfl_at {l : List (Int × Int)} {k : Nat} {r : Int × Int} (h : l[k]? = some r) : (wfl l)[k * 2]? = some (iv r.1) ∧ (wfl l)[k * 2 + 1]? = some (iv r.2) := by
  induction l generalizing k with
  | nil => simp at h
  | cons x l ih =>
    cases k with
    | zero =>
      obtain rfl : x = r := by simpa using h
      exact ⟨rfl, rfl⟩
    | succ k =>
      have := ih (k := k) (by simpa using h)
      have e : wfl (x :: l) = [iv x.1, iv x.2] ++ wfl l := rfl
      have hl : [iv x.1, iv x.2].length = 2 := rfl
      rw [show (k + 1) * 2 = k * 2 + 2 by omega, e, List.getElem?_append_right (by rw [hl]; omega), List.getElem?_append_right (by rw [hl]; omega), hl]
      exact ⟨by simpa using this.1, by rw [show k * 2 + 2 + 1 - 2 = k * 2 + 1 by omega]; exact this.2⟩
/-- From the greatest beginning to the least end. -/
def cmLo : List (Int × Int) → Int → Int
  | [], u => u
  | p :: l, u => cmLo l (max u p.1)
def cmHi : List (Int × Int) → Int → Int
  | [], u => u
  | p :: l, u => cmHi l (min u p.2)

section
variable {P : Program}
theorem load_at_runK {o : Oper} {a : Act} (ty : TypeId) (y : Operand) (hop : o.op = .load ty y) (ad : Addr) (hy : a.eval y = .pointer (some ad)) (cs : List Value) (d : TypeDesc)
    (hu : P.underlying ty = some d) (hd : d.isRow = true) (hi : (P.info? ty).map (·.size) = some cs.length) (W : World) (hc : ∀ j v, cs[j]? = some v → W.cell? (ad.add j) = some v) : (execOp a.eval o).run P W = .ok (.value (.agg cs.toArray)) W := by
  have hl : (loadCells ad cs.length).run P W = .ok cs.toArray W := run_loadCells_list (P := P) W ad cs hc
  have hv : (loadVar ty ad).run P W = .ok (.agg cs.toArray) W := by
    cases hq : P.info? ty with
    | none => simp [hq] at hi
    | some i =>
      have hs : i.size = cs.length := by simpa [hq] using hi
      have hagg : (isAgg ty).run P W = .ok true W := by
        unfold isAgg
        rw [Sem.run_bind, run_underlying hu W]
        cases d <;> simp_all [TypeDesc.isRow]
      simp [loadVar, Sem.run_bind, hagg, sizeOf, typeInfo, hq, hs, hl]
  unfold execOp
  simp only [hop, hy, Instr.loadAt, Instr.sureAddr, Sem.run_bind, Sem.run_pure, Result.andThen_ok, hv]
theorem wpList_load_at {ops : Array Oper} {rest : List Oper} {o : Oper} {a : Act} {W : World} {Q : Exit → Act → World → Prop} (hgd : o.guard = none) (ty : TypeId) (y : Operand) (hop : o.op = .load ty y) (ad : Addr) (hy : a.eval y = .pointer (some ad)) (cs : List Value) (d : TypeDesc)
    (hu : P.underlying ty = some d) (hd : d.isRow = true) (hi : (P.info? ty).map (·.size) = some cs.length) (hc : ∀ j v, cs[j]? = some v → W.cell? (ad.add j) = some v)
    (h : wpList P ops Q rest (a.put o.dst (.agg cs.toArray)) W) : wpList P ops Q (o :: rest) a W := by
  refine wpList_plain hgd fun K hK => ?_
  unfold Oper.wp
  rw [load_at_runK ty y hop ad hy cs d hu hd hi W hc]
  exact hK _ _ h
end
/-- All cells but one stand. -/
def ButC (b : Nat) (W W' : World) : Prop := W'.cell? ⟨b, 1, none⟩ = W.cell? ⟨b, 1, none⟩ ∧ ∀ p : Addr, p.block ≠ b → W'.cell? p = W.cell? p
theorem ButC.refl (b : Nat) (W : World) : ButC b W W := ⟨rfl, fun _ _ => rfl⟩
theorem ButC.trans {b : Nat} {A C D : World} (h : ButC b A C) (k : ButC b C D) : ButC b A D := ⟨k.1.trans h.1, fun p hp => (k.2 p hp).trans (h.2 p hp)⟩

set_option maxRecDepth 100000 in
set_option maxHeartbeats 4000000 in
theorem common_any {B : Nat} (l : List (Int × Int)) (A : Option Addr) (n c : Nat) (w : World) (hr : Rds w B A (wfl l)) (hB : B ≤ w.heap.size) (hn : n = l.length) (hs : n ≤ 1000) :
    Calls Try.prog 29 #[.slice A n c] w fun e w' => e = .returned (.agg #[.int .i64 (cmLo l 0), .int .i64 (cmHi l 3600000000)]) ∧ Below w.heap.size w w' := by
  obtain ⟨U, hU⟩ : ∃ U, U = cmLo l 0 := ⟨_, rfl⟩
  obtain ⟨V, hV⟩ : ∃ V, V = cmHi l 3600000000 := ⟨_, rfl⟩
  rw [← hU, ← hV]
  obtain ⟨W2, hW2⟩ : ∃ W2, W2 = (w.alloc (.cells #[.int .i64 0, .int .i64 0] 45)).alloc (.cells #[.int .i64 0, .int .i64 3600000000] 45) := ⟨_, rfl⟩
  have s2 : Hid (W2.heap.size = w.heap.size + 2) := by show _ = _; rw [hW2]; simp
  have E : Hid (Below w.heap.size w W2) := by show Below _ _ _; rw [hW2]; exact ((Below.refl _ _).alloc (Nat.le_refl _) _).alloc (by simp) _
  have X1 : Hid (Blk W2 w.heap.size [.int .i64 0, .int .i64 0] 45) := by show Blk _ _ _ _; rw [hW2]; exact (Blk.new w [_, _] _).alloc _
  have X2 : Hid (Blk W2 (w.heap.size + 1) [.int .i64 0, .int .i64 3600000000] 45) := by show Blk _ _ _ _; rw [hW2]; exact (Blk.new _ [_, _] _).at (by simp)
  have hW2' := Lib.hid hW2
  have hUH := Lib.hid hU
  have hVH := Lib.hid hV
  have hn' := Lib.hid hn
  have hr' := Lib.hid hr
  have hsz := Lib.hid size_whn
  have hsi : Hid ((Try.prog.info? 3).map (·.size) = some 1) := by show _ = _; kernel_rfl
  have hun : Hid (Try.prog.underlying 45 = _) := Try.underlying45
  clear hW2 hU hV hn hr
  go_enter Try.func29, Try.ntmps29
  go_upto_region 2 with fail
  generalize hgg : (w.alloc _).alloc _ = Wg
  have hgW : W2 = Wg := by rw [← hgg, hW2'.out]
  clear hgg hW2'
  subst hgW
  go_wp2_with fail
  go_loopg [9] n (fun g s9 wx => ∃ (k : Nat) (u v : Int), k + g = n ∧ s9 = .int .i64 k ∧ Hid (Below w.heap.size w wx) ∧ Hid True ∧ Hid (w.heap.size + 2 ≤ wx.heap.size) ∧ Hid (Blk wx w.heap.size [.int .i64 0, .int .i64 0] 45) ∧ Hid (Blk wx (w.heap.size + 1) [.int .i64 u, .int .i64 v] 45) ∧ Hid (U = cmLo (l.drop k) u) ∧ Hid (V = cmHi (l.drop k) v))
  case atStart => exact ⟨0, 0, 3600000000, by omega, rfl, E, trivial, Nat.le_of_eq s2.out.symm, X1, X2, hUH, hVH⟩
  case round =>
    clear E X1 X2 hUH hVH s2
    obtain ⟨k, u, v, hkg, rfl, E, _, sz, X1, X2, hU, hV⟩ := hrel
    cases gk with
    | zero =>
      have hkz : ¬ ((k : Int) < (n : Int)) := by omega
      have hz : Hid (U = u ∧ V = v) := by
        show _ ∧ _
        rw [hU.out, hV.out, List.drop_eq_nil_of_le (by have := hn'.out; omega)]
        exact ⟨rfl, rfl⟩
      go_wp2_with (first | (refine wpList_blk_load rfl 45 _ rfl 0 rfl X2.out [_, _] rfl _ hun.out rfl hsz.out ?_) | (refine wpList_row_store rfl 45 _ _ rfl [.int .i64 u, .int .i64 v] rfl rfl X1.out hsz.out rfl (one2 _ _) ?_; intro w9 hw9 ho9) | fail)
      exact bodyPost_ret (ret_blk rfl _ w9 (g := w.heap.size) rfl hw9.out _ hun.out rfl hsz.out) rfl ⟨(by rw [hz.out.1, hz.out.2]), E.out.trans (ho9.below (Nat.le_refl _))⟩
    | succ gk =>
      have hkz : (k : Int) < (n : Int) := by omega
      obtain ⟨x, hx⟩ : ∃ x, l[k]? = some x := ⟨_, List.getElem?_eq_getElem (by have := hn'.out; omega)⟩
      have hdrop : l.drop k = x :: l.drop (k + 1) := by rw [List.drop_eq_getElem_cons (List.getElem?_eq_some_iff.1 hx).1, (List.getElem?_eq_some_iff.1 hx).2]
      obtain ⟨a, b⟩ := x
      obtain ⟨f1, f2⟩ := wfl_at hx
      obtain ⟨ad, rfl, hbb, hca⟩ := hr'.out.look f1
      obtain ⟨ad', e', _, hcb⟩ := hr'.out.look f2
      obtain rfl := Option.some.inj e'
      unfold iv at hca hcb
      dsimp only at hca hcb
      have hU2 : Hid (U = cmLo (l.drop (k + 1)) (max u a)) := by show _ = _; rw [hU.out, hdrop]; rfl
      have hV2 : Hid (V = cmHi (l.drop (k + 1)) (min v b)) := by show _ = _; rw [hV.out, hdrop]; rfl
      have hBr : Hid (Below w.heap.size w wr) := E
      have ca : Hid (wr.cell? (ad.add (k * 2)) = some (.int .i64 a)) := (E.out.cell (p := ad.add (k * 2)) (by rw [add_block]; omega)).trans hca
      have cb : Hid (wr.cell? (ad.add (k * 2 + 1)) = some (.int .i64 b)) := (E.out.cell (p := ad.add (k * 2 + 1)) (by rw [add_block]; omega)).trans hcb
      have hrr : Hid (Rds wr B (some ad) (wfl l)) := hr'.out.below (E.out.mono hB)
      clear hx hdrop hU hV f1 f2 hca hcb
      have hcl : Hid (∀ j v, ([.int .i64 a, .int .i64 b] : List Value)[j]? = some v → wr.cell? ((ad.add (k * 2)).add j) = some v) := by
        intro j v hj
        rw [add_twice]
        rcases j with _ | _ | j
        · rw [← Option.some.inj hj]; exact ca.out
        · rw [← Option.some.inj hj]; exact cb.out
        · simp at hj
      obtain ⟨W3, hW3⟩ : ∃ W3, W3 = wr.alloc (.cells #[.int .i64 a, .int .i64 b] 45) := ⟨_, rfl⟩
      have B3 : Hid (Below wr.heap.size wr W3) := by show Below _ _ _; rw [hW3]; exact (Below.refl _ _).alloc (Nat.le_refl _) _
      have E3 : Hid (Below w.heap.size w W3) := E.out.trans (B3.out.mono E.out.size)
      have Y1 := Lib.hid (X1.out.below B3.out X1.out.lt)
      have Y2 := Lib.hid (X2.out.below B3.out X2.out.lt)
      have Y3 : Hid (Blk W3 wr.heap.size [.int .i64 a, .int .i64 b] 45) := by show Blk _ _ _ _; rw [hW3]; exact Blk.new _ [_, _] _
      have hne : Hid (wr.heap.size ≠ w.heap.size + 1) := by show _ ≠ _; have := sz.out; omega
      have s3 : Hid (w.heap.size + 2 ≤ W3.heap.size) := by show _ ≤ _; rw [hW3, World.size_alloc]; have := sz.out; omega
      have hW3' := Lib.hid hW3
      clear hW3 ca cb hrr
      go_upto_region 5 with (refine wpList_load_at rfl 45 _ rfl (ad.add (k * 2)) rfl [.int .i64 a, .int .i64 b] _ hun.out rfl hsz.out hcl.out ?_)
      generalize hgg : wr.alloc _ = Wg
      have hgW : W3 = Wg := by rw [← hgg, hW3'.out]
      clear hgg hW3' hcl
      subst hgW
      have f0 : Hid (Blk W3.drew (w.heap.size + 1) [.int .i64 u, .int .i64 v] 45) := Y2.out.drew
      have p0 : W3.drew.cell? ⟨w.heap.size + 1, 0, none⟩ = some (.int .i64 u) := f0.out.cell (j := 0) rfl
      have p1 : ∀ x : ROf (ButC (w.heap.size + 1)) W3.drew, x.world.cell? ⟨w.heap.size + 1, 1, none⟩ = some (.int .i64 v) := fun x => x.rel.1.trans (f0.out.cell (j := 1) rfl)
      have p2 : ∀ x : ROf (ButC (w.heap.size + 1)) W3.drew, x.world.cell? ⟨wr.heap.size, 0, none⟩ = some (.int .i64 a) := fun x => (x.rel.2 _ hne.out).trans ((Y3.out.drew).cell (j := 0) rfl)
      have p3 : ∀ x : ROf (ButC (w.heap.size + 1)) W3.drew, x.world.cell? ⟨wr.heap.size, 1, none⟩ = some (.int .i64 b) := fun x => (x.rel.2 _ hne.out).trans ((Y3.out.drew).cell (j := 1) rfl)
      refine wp_region_planR (R := ButC (w.heap.size + 1)) (ButC.refl _) (fun _ _ _ h k => h.trans k) [13] [(true, 0), (true, 2), (true, 3), (true, 5), (true, 6), (true, 7), (true, 8), (true, 9), (false, 1), (true, 4), (true, 10), (false, 11), (true, 12), (false, 13)] (by decide) (by kernel_rfl) (by kernel_rfl) (by decide) (by intro c a d v w h; cases d <;> exact h) ?_
      change wpPlanR _ _ _ _ _ _ _ W3.drew
      have hnn : Nonempty (ROf (ButC (w.heap.size + 1)) W3.drew) := ⟨⟨W3.drew, ButC.refl _ _⟩⟩
      iterate 8 (refine wpPlanR_plain rfl (fun K hK => ?_); go_simp; refine hK _ ?_; clear hK K)
      refine wpPlanR_call rfl (fun K hK => ?_)
      go_wp2_with fail
      refine planPostR_normal ⟨.inr (ButC.refl _ _), hK _ _ ?_⟩
      clear hK K
      iterate 2 (refine wpPlanR_plain rfl (fun K hK => ?_); go_simp; refine hK _ ?_; clear hK K)
      clear hnn p0 p1 p2 p3
      refine wpPlanR_call rfl (fun K hK => ?_)
      refine wpList_blk_store rfl 3 _ _ rfl 0 (.int .i64 (max u a)) rfl rfl f0.out hsi.out (Nat.le_of_ble_eq_true rfl) (one_int _ _) ?_
      intro W5 hW5 ho5
      have g5 : ButC (w.heap.size + 1) W3.drew W5 := by
        refine ⟨?_, fun p hp => World.cell?_of_block (ho5.block _ hp)⟩
        have h1 : Blk W5 (w.heap.size + 1) [.int .i64 (max u a), .int .i64 v] 45 := hW5.out
        exact (h1.cell (j := 1) rfl).trans (f0.out.cell (j := 1) rfl).symm
      refine wpList_end (planPostR_normal ⟨.inr g5, hK _ _ ?_⟩)
      clear hK K
      have f5 : Hid (Blk W5 (w.heap.size + 1) [.int .i64 (max u a), .int .i64 v] 45) := hW5.out
      have hnn : Nonempty (ROf (ButC (w.heap.size + 1)) W5) := ⟨⟨W5, ButC.refl _ _⟩⟩
      iterate 1 (refine wpPlanR_plain rfl (fun K hK => ?_); go_simp; refine hK _ ?_; clear hK K)
      clear hnn
      refine wpPlanR_call rfl (fun K hK => ?_)
      refine wpList_blk_store rfl 3 _ _ rfl 1 (.int .i64 (min v b)) rfl rfl f5.out hsi.out (Nat.le_of_ble_eq_true rfl) (one_int _ _) ?_
      intro W6 hW6 ho6
      refine wpList_end (planPostR_normal ⟨.inl (by first | trivial | simp), hK _ _ ?_⟩)
      clear hK K
      refine wpPlanR_nil ?_
      have f6 : Hid (Blk W6 (w.heap.size + 1) [.int .i64 (max u a), .int .i64 (min v b)] 45) := hW6.out
      have b36 : Hid (Below (w.heap.size + 1) W3 W6) := (((Below.refl _ _).drew).trans (ho5.below (Nat.le_refl _))).trans (ho6.below (Nat.le_refl _))
      have E6 : Hid (Below w.heap.size w W6) := E3.out.trans (b36.out.mono (by omega))
      have Y16 : Hid (Blk W6 w.heap.size [.int .i64 0, .int .i64 0] 45) := Y1.out.below b36.out (by omega)
      have s6 : Hid (w.heap.size + 2 ≤ W6.heap.size) := Nat.le_trans s3.out b36.out.size
      clear hW5 hW6 ho5 ho6 f0 f5 g5 Y1 Y2 Y3 E3 E B3
      generalize max u a = u2 at *
      generalize min v b = v2 at *
      go_wp2_with fail
      go_roundg gk
      case measure => omega
      case rel => exact ⟨k + 1, u2, v2, by omega, by go_num, E6, trivial, s6, Y16, f6, hU2, hV2⟩
end Go.Proofs.Ytbkgbjimooobbaa
