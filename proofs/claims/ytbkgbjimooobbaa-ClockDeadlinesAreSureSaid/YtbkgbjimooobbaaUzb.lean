/-
  Stage 14 (clock): a step of a run. (Written by tools/genuzb.py.)
-/
import Derived.Test.YtbkgbjimooobbaaUza
import Derived.Lib.MinMax
namespace Go.Proofs.Ytbkgbjimooobbaa
set_option linter.unusedVariables false
set_option linter.unusedSimpArgs false
open Go.RowKit
theorem wpPlanH_nil {P : Program} {md : Region.Mode} {ops : Array Oper} {Q : Exit → Act → World → Prop} {S : World → Prop} {fuel : Nat} {listed : Array Bool} {a : Act} {w : World} (h : wpAnyH P md ops Q S fuel listed a w) : wpPlanH P md ops Q S [] fuel listed a w := by
  unfold wpPlanH
  exact h
attribute [local irreducible] wpPlanM wpPlanH wpAnyH
theorem tmod_rng {d m : Int} (h : 0 < m) : -m < d.tmod m ∧ d.tmod m < m := by
  rcases Int.le_total 0 d with h0 | h0
  · rw [Int.tmod_eq_emod_of_nonneg h0]
    have := Int.emod_nonneg d (show m ≠ 0 by omega)
    have := Int.emod_lt_of_pos d h
    omega
  · have e : d.tmod m = -((-d) % m) := by
      rw [← Int.tmod_eq_emod_of_nonneg (by omega : 0 ≤ -d), Int.neg_tmod]; omega
    rw [e]
    have := Int.emod_nonneg (-d) (show m ≠ 0 by omega)
    have := Int.emod_lt_of_pos (-d) h
    omega
theorem wrap_nat {j : Nat} (h : j < 140737488355328) : IntKind.i64.wrap (j : Int) = (j : Int) ∧ wrap64 (j : Int) = (j : Int) :=
  ⟨by rw [IntKind.wrap_i64]; omega, by unfold wrap64; omega⟩
theorem mul_small {n x : Int} (n0 : 0 ≤ n) (n1 : n ≤ 499) (x0 : 0 ≤ x) (x1 : x ≤ 1100000) : 0 ≤ n * x ∧ n * x ≤ 548900000 :=
  ⟨Int.mul_nonneg n0 x0, Int.mul_le_mul n1 x1 x0 (by omega)⟩
theorem mul_255 {e n : Int} (e0 : 0 ≤ e) (e1 : e ≤ 255) (n0 : 0 ≤ n) : 0 ≤ e * n ∧ e * n ≤ 255 * n :=
  ⟨Int.mul_nonneg e0 n0, Int.mul_le_mul_of_nonneg_right e1 n0⟩

set_option maxRecDepth 100000 in
set_option maxHeartbeats 16000000 in
theorem goOn_any {B : Nat} (T V : Int) (k : Clk) (f d kd ea la : Int) (w : World) (m : ClkM w B k) (R : RunK k.rate T V k.l) (f0 : 0 ≤ f) (f1 : f ≤ 65535) (d0 : -2147483648 ≤ d) (d1 : d ≤ 2147483647) (kd0 : 0 ≤ kd) (kd1 : kd ≤ 255) (ea0 : 0 ≤ ea) (ea1 : ea ≤ 255) (la0 : 0 ≤ la) (la1 : la ≤ 255) (tb : T ≤ 1000000) (vb : V ≤ 100000000000000) :
    Calls Try.prog 6 #[.agg #[.int .i64 T, .int .i64 V, .int .i64 k.rate, .slice k.A k.n k.c], .agg #[.int .u16 f, .int .i32 d, .int .u8 kd, .int .u8 ea, .int .u8 la]] w fun e w' => ∃ (T' V' : Int) (k' : Clk), e = .returned (.tuple #[.agg #[.int .i64 T', .int .i64 V', .int .i64 k'.rate, .slice k'.A k'.n k'.c], .bool true]) ∧ ClkM w' w'.heap.size k' ∧ RunK k'.rate T' V' k'.l ∧ T' ≤ T + 499 ∧ V' ≤ V + 548900000 ∧ (∀ ad, k'.A = some ad → k.A = some ad ∨ w.heap.size ≤ ad.block) ∧ Below w.heap.size w w' := by
  rcases k with ⟨rate, A, n, c, l⟩
  dsimp only at *
  have hn := Lib.hid m.len
  dsimp only at hn
  obtain ⟨k0, k1⟩ := R.rate
  have T0 := R.t0
  have V0 := R.v0
  obtain ⟨nn, hnn⟩ : ∃ x, x = f % 500 := ⟨_, rfl⟩
  obtain ⟨dv, hdv⟩ : ∃ x, x = d.tmod (rate + 1) := ⟨_, rfl⟩
  have hdr := tmod_rng (d := d) (m := rate + 1) (by omega)
  rw [← hdv] at hdr
  obtain ⟨pr, hpr⟩ : ∃ x, x = nn * (1000000 + dv) := ⟨_, rfl⟩
  have hps := mul_small (n := nn) (x := 1000000 + dv) (by omega) (by omega) (by omega) (by omega)
  rw [← hpr] at hps
  obtain ⟨T2, hT2⟩ : ∃ x, x = T + nn := ⟨_, rfl⟩
  obtain ⟨V2, hV2⟩ : ∃ x, x = V + pr := ⟨_, rfl⟩
  have R2 : RunK rate T2 V2 l := by rw [hT2, hV2, hpr]; exact R.go (by omega) (by omega) (by omega) (by omega) (by rw [← hpr]; omega)
  obtain ⟨sn, hsn⟩ : ∃ x, x = V / 1000000 := ⟨_, rfl⟩
  obtain ⟨lc, hlc⟩ : ∃ x, x = V2 / 1000000 := ⟨_, rfl⟩
  obtain ⟨ek, hek⟩ : ∃ x, x = kd % 3 := ⟨_, rfl⟩
  obtain ⟨me, hme⟩ : ∃ x, x = ea * nn := ⟨_, rfl⟩
  have hms := mul_255 (e := ea) (n := nn) ea0 ea1 (by omega)
  rw [← hme] at hms
  obtain ⟨a1, ha1⟩ : ∃ x, x = T + me / 255 := ⟨_, rfl⟩
  have ha1r : T ≤ a1 ∧ a1 ≤ T2 := by omega
  obtain ⟨lo, hlo⟩ : ∃ x, x = max 0 (T2 - ea) := ⟨_, rfl⟩
  obtain ⟨lo2, hlo2⟩ : ∃ x, x = max 0 (a1 - la) := ⟨_, rfl⟩
  have wf : IntKind.i64.wrap f = f := by rw [IntKind.wrap_i64]; omega
  have wd : IntKind.i64.wrap d = d := by rw [IntKind.wrap_i64]; omega
  have we : IntKind.i64.wrap ea = ea := by rw [IntKind.wrap_i64]; omega
  have wl : IntKind.i64.wrap la = la := by rw [IntKind.wrap_i64]; omega
  have w1 : IntKind.i64.wrap (rate + 1) = rate + 1 := by rw [IntKind.wrap_i64]; omega
  have w2 : IntKind.i64.wrap (1000000 + dv) = 1000000 + dv := by rw [IntKind.wrap_i64]; omega
  have w3 : IntKind.i64.wrap pr = pr := by rw [IntKind.wrap_i64]; omega
  have w4 : IntKind.i64.wrap V2 = V2 := by rw [IntKind.wrap_i64]; omega
  have w5 : IntKind.i64.wrap T2 = T2 := by rw [IntKind.wrap_i64]; omega
  have w6 : IntKind.i64.wrap (T2 - ea) = T2 - ea := by rw [IntKind.wrap_i64]; omega
  have w7 : IntKind.i64.wrap (T2 + la) = T2 + la := by rw [IntKind.wrap_i64]; omega
  have w8 : IntKind.i64.wrap me = me := by rw [IntKind.wrap_i64]; omega
  have w9 : IntKind.i64.wrap a1 = a1 := by rw [IntKind.wrap_i64]; omega
  have w10 : IntKind.i64.wrap (a1 - la) = a1 - la := by rw [IntKind.wrap_i64]; omega
  have w12 : wrap64 lc = lc := by first | (unfold wrap64; omega) | (show IntKind.i64.wrap lc = lc; rw [IntKind.wrap_i64]; omega)
  have w12' : IntKind.i64.wrap lc = lc := by rw [IntKind.wrap_i64]; omega
  obtain ⟨m5, hm5⟩ : ∃ x, x = me / 255 := ⟨_, rfl⟩
  have w13 : wrap64 m5 = m5 := by first | (unfold wrap64; omega) | (show IntKind.i64.wrap m5 = m5; rw [IntKind.wrap_i64]; omega)
  have w13' : IntKind.i64.wrap m5 = m5 := by rw [IntKind.wrap_i64]; omega
  have w11 : IntKind.i64.wrap (a1 + ea) = a1 + ea := by rw [IntKind.wrap_i64]; omega
  have r1 := hnn.symm
  have r1' : f.tmod 500 = nn := by rw [Int.tmod_eq_emod_of_nonneg f0]; exact hnn.symm
  have r2 := hdv.symm
  have r2' : ¬ rate + 1 = 0 := by omega
  have r3 := hpr.symm
  have r4 := hT2.symm
  have r5 := hV2.symm
  have r6 := hsn.symm
  have r6' : V.tdiv 1000000 = sn := by rw [Int.tdiv_eq_ediv_of_nonneg V0]; exact hsn.symm
  have r7 := hlc.symm
  have r7' : V2.tdiv 1000000 = lc := by rw [Int.tdiv_eq_ediv_of_nonneg (by omega)]; exact hlc.symm
  have r8 := hek.symm
  have r8' : kd.tmod 3 = ek := by rw [Int.tmod_eq_emod_of_nonneg kd0]; exact hek.symm
  have r9 := hme.symm
  have r10 := hm5.symm
  have r10b : me.tdiv 255 = m5 := by rw [Int.tdiv_eq_ediv_of_nonneg hms.1]; exact hm5.symm
  have x9 := Lib.hid (show wrap64 a1 = a1 by unfold wrap64; omega)
  have x10 := Lib.hid (show wrap64 (a1 - la) = a1 - la by unfold wrap64; omega)
  have x11 := Lib.hid (show wrap64 (a1 + ea) = a1 + ea by unfold wrap64; omega)
  have r10' : T + m5 = a1 := by omega
  have r11 := hlo.symm
  have r12 := hlo2.symm
  have wk : IntKind.u8.wrap ek = ek := by rw [IntKind.wrap_u8]; omega
  obtain ⟨hi2, ans1, ans2, ans3, ans4, ans5⟩ := R2.ans (V := V) (T := T) (at' := a1) (ea := ea) (la := la) V0 T0 (by rw [show T2 - T = nn by omega, show V2 - V = pr by omega, hpr]; exact Int.mul_le_mul_of_nonneg_left (by omega) (by omega)) (by omega) ha1r.1 ha1r.2 ea0 la0 (by omega)
  rw [← hsn, ← hlc, ← hlo2] at ans1 ans2
  rw [← hlo2] at ans3
  have hok1 : okR ⟨lc, lo, T2 + la⟩ = true := okR_iff.2 ⟨⟨by show 0 ≤ lc; omega, by show lc ≤ _; omega⟩, ⟨by show 0 ≤ lo; omega, by show lo ≤ _; omega⟩, ⟨by show 0 ≤ T2 + la; omega, by show T2 + la ≤ _; omega⟩, by show lo ≤ T2 + la; omega⟩
  have hok2 : okR ⟨lc, lo2, hi2⟩ = true := okR_iff.2 ⟨⟨by show 0 ≤ lc; omega, by show lc ≤ _; omega⟩, ⟨by show 0 ≤ lo2; omega, by show lo2 ≤ _; omega⟩, ⟨by show 0 ≤ hi2; omega, by show hi2 ≤ _; omega⟩, by show lo2 ≤ hi2; omega⟩
  have S1 := Lib.hid (R2.syn (r := ⟨lc, lo, T2 + la⟩) hok1 hlc (by show lo ≤ T2; omega) (by show T2 ≤ T2 + la; omega))
  have S2 := Lib.hid (R2.syn (r := ⟨lc, lo2, hi2⟩) hok2 hlc (by show lo2 ≤ T2; exact ans3) (by show T2 ≤ hi2; exact ans4))
  have R2H := Lib.hid R2
  have hTb : Hid (T2 ≤ T + 499) := by show _ ≤ _; omega
  have hVb : Hid (V2 ≤ V + 548900000) := by show _ ≤ _; omega
  have ekc : ek = 0 ∨ ek = 1 ∨ ek = 2 := by omega
  have ans3H := Lib.hid ans3
  have ans4H := Lib.hid ans4
  clear hok1 hok2 ans3 ans4 ans5 R2 R hnn hdv hdr hpr hps hT2 hV2 hsn hlc hek hme hms ha1 ha1r hlo hlo2 hm5
  obtain ⟨w0, hw0⟩ : ∃ w0, w0 = ((w.alloc (.cells #[.int .i64 T, .int .i64 V, .int .i64 rate, .slice A n c] 32)).alloc (.cells #[.int .u16 f, .int .i32 d, .int .u8 kd, .int .u8 ea, .int .u8 la] 36)).alloc (.cells #[.int .i64 0, .int .i64 0, .int .i64 0, .slice none 0 0] 32) := ⟨_, rfl⟩
  have E : Hid (Below w.heap.size w w0) := by show Below _ _ _; rw [hw0]; exact (((Below.refl _ _).alloc (Nat.le_refl _) _).alloc (by simp) _).alloc (by simp; omega) _
  have X2 : Hid (Blk w0 w.heap.size [.int .i64 T, .int .i64 V, .int .i64 rate, .slice A n c] 32) := by show Blk _ _ _ _; rw [hw0]; exact ((Blk.new w [_, _, _, _] _).alloc _).alloc _
  have X3 : Hid (Blk w0 (w.heap.size + 1) [.int .u16 f, .int .i32 d, .int .u8 kd, .int .u8 ea, .int .u8 la] 36) := by show Blk _ _ _ _; rw [hw0]; exact ((Blk.new _ [_, _, _, _, _] _).at (by simp)).alloc _
  have X4 : Hid (Blk w0 (w.heap.size + 1 + 1) [.int .i64 0, .int .i64 0, .int .i64 0, .slice none 0 0] 32) := by show Blk _ _ _ _; rw [hw0]; exact (Blk.new _ [_, _, _, _] _).at (by simp)
  have M := Lib.hid (m.below E.out)
  have hBw : Hid (B ≤ w.heap.size) := m.le
  have hw0' := Lib.hid hw0
  clear hw0 m
  have hszc := Lib.hid size_clk
  have hunc : Hid (Try.prog.underlying 30 = _) := Try.underlying30
  have hszr := Lib.hid size_rdg
  have hunr : Hid (Try.prog.underlying 48 = _) := Try.underlying48
  have hszm := Lib.hid size_mom
  have hunm : Hid (Try.prog.underlying 32 = _) := Try.underlying32
  have hsi : Hid ((Try.prog.info? 3).map (·.size) = some 1) := by show _ = _; kernel_rfl
  have CW := Lib.hid (fun a b W => when_any a b W)
  have CA := Lib.hid (fun W (h : ClkM W B ⟨rate, A, n, c, l⟩) => answer_any _ sn lc lo2 (a1 + ea) W h)
  have CS := Lib.hid (fun r W (h : ClkM W B ⟨rate, A, n, c, l⟩) => sync_any _ r W h)
  dsimp only at CA CS
  rw [ans1, ans2] at CA
  dsimp only [SyEnd] at CS
  dsimp only at CA
  clear ans1 ans2
  obtain ⟨s0, hs0⟩ : ∃ s, w.heap.size = s := ⟨_, rfl⟩
  have hs0' := Lib.hid hs0
  rw [hs0] at X2 X3 X4 hBw
  go_enter Try.func6, Try.ntmps6
  go_upto_region 1 with fail
  generalize hgg : ((w.alloc _).alloc _).alloc _ = Wg
  have hgW : w0 = Wg := by rw [← hgg, hw0'.out]
  clear hgg hw0'
  subst hgW
  try rw [hs0]
  have hne : Nonempty (SOf fun W => Below w0.heap.size w0 W) := ⟨⟨w0, Below.refl _ _⟩⟩
  refine wp_region_planH (fun W => Below w0.heap.size w0 W) [0, 1, 2, 3, 4, 5, 6] 4 (by kernel_rfl) (by kernel_rfl) (by kernel_rfl) (by kernel_rfl) (by intro c a d v w h; cases d <;> exact h) ((Below.refl _ _).drew) ?_
  change wpPlanH _ _ _ _ _ _ _ _ _ w0.drew
  have P0 : ∀ q : SOf fun W => Below w0.heap.size w0 W, q.world.cell? ⟨s0, 0, none⟩ = some (.int .i64 T) := fun q => (Blk.below X2.out q.meets X2.out.lt).cell (j := 0) rfl
  have P1 : ∀ q : SOf fun W => Below w0.heap.size w0 W, q.world.cell? ⟨s0, 1, none⟩ = some (.int .i64 V) := fun q => (Blk.below X2.out q.meets X2.out.lt).cell (j := 1) rfl
  iterate 1 (refine wpPlanH_plain rfl (fun K hK => ?_); go_simp; refine hK _ ?_; clear hK K)
  refine wpPlanH_runW rfl (by rfl) _ (fun q => load_run 30 _ rfl s0 2 rfl [.int .i64 rate, .slice A n c] _ hunc.out rfl hszc.out q.world ((Blk.below X2.out q.meets X2.out.lt).range 2 _ rfl)) ?_
  iterate 5 (refine wpPlanH_plain rfl (fun K hK => ?_); go_simp; refine hK _ ?_; clear hK K)
  refine wpPlanH_nil ?_
  clear P0 P1 hne
  have F0 : Hid (Below w0.heap.size w0 w0.drew) := (Below.refl _ _).drew
  have hb : Below w0.heap.size w0 w0.drew := (Below.refl _ _).drew
  generalize w0.drew = v1 at F0 hb ⊢
  replace E : Hid (Below w.heap.size w v1) := E.out.trans (hb.mono E.out.size)
  replace X2 := Lib.hid (X2.out.below hb X2.out.lt)
  replace X3 := Lib.hid (X3.out.below hb X3.out.lt)
  replace X4 := Lib.hid (X4.out.below hb X4.out.lt)
  replace M := Lib.hid (M.out.below hb)
  clear hb
  refine wpAnyH_each (rs := [7]) (by kernel_rfl) (by decide) (fun K hK i hi => ?_)
  obtain rfl := List.mem_singleton.1 hi
  refine wpOp_listed rfl ?_
  go_wp2_with fail
  obtain ⟨g6, hgL⟩ : ∃ x, x = v1.heap.size := ⟨_, rfl⟩
  have hb : Below v1.heap.size v1 (v1.alloc (.cells #[.int .i64 0, .slice none 0 0] 30)) := (Below.refl _ _).alloc (Nat.le_refl _) _
  have X6 : Hid (Blk (v1.alloc (.cells #[.int .i64 0, .slice none 0 0] 30)) g6 [.int .i64 0, .slice none 0 0] 30) := by show Blk _ _ _ _; rw [hgL]; exact Blk.new _ [_, _] _
  have hg6 : Hid (s0 + 3 ≤ g6) := by show _ ≤ _; have := X4.out.lt; omega
  have hg6v : Hid (w0.heap.size ≤ g6) := by show _ ≤ _; rw [hgL]; exact F0.out.size
  replace F0 : Hid (Below w0.heap.size w0 (v1.alloc (.cells #[.int .i64 0, .slice none 0 0] 30))) := F0.out.trans (hb.mono F0.out.size)
  replace E : Hid (Below w.heap.size w (v1.alloc (.cells #[.int .i64 0, .slice none 0 0] 30))) := E.out.trans (hb.mono E.out.size)
  replace X2 := Lib.hid (X2.out.below hb X2.out.lt)
  replace X3 := Lib.hid (X3.out.below hb X3.out.lt)
  replace X4 := Lib.hid (X4.out.below hb X4.out.lt)
  replace M := Lib.hid (M.out.below hb)
  clear hb
  rw [← hgL]
  refine postH_normal (hK _ _ _ F0.out ?_)
  clear hK K hgL
  generalize v1.alloc _ = v2 at *
  refine wpAnyH_each (rs := [8]) (by kernel_rfl) (by decide) (fun K hK i hi => ?_)
  obtain rfl := List.mem_singleton.1 hi
  refine wpOp_listed rfl ?_
  refine wpList_row_store rfl 30 _ _ rfl [.int .i64 rate, .slice A n c] rfl rfl X6.out hszc.out rfl (oneC _ _ _ _) ?_; intro v3 hw9 ho9
  replace F0 : Hid (Below w0.heap.size w0 v3) := F0.out.trans (ho9.below hg6v.out)
  have hb : Below s0 v2 v3 := ho9.below (by have := hg6.out; omega)
  replace E : Hid (Below w.heap.size w v3) := E.out.trans (by rw [hs0'.out]; exact hb)
  replace X2 := Lib.hid (X2.out.only ho9 (by have := hg6.out; omega))
  replace X3 := Lib.hid (X3.out.only ho9 (by have := hg6.out; omega))
  replace X4 := Lib.hid (X4.out.only ho9 (by have := hg6.out; omega))
  replace M := Lib.hid (M.out.keep (hb.mono hBw.out))
  replace X6 := Lib.hid hw9.out
  clear hb hw9 ho9
  refine wpList_end (postH_normal (hK _ _ _ F0.out ?_))
  clear hK K
  refine wpAnyH_each (rs := [9]) (by kernel_rfl) (by decide) (fun K hK i hi => ?_)
  obtain rfl := List.mem_singleton.1 hi
  refine wpOp_listed rfl ?_
  go_wp2_with fail
  refine postH_normal (hK _ _ _ F0.out ?_)
  clear hK K
  refine wpAnyH_each (rs := [10]) (by kernel_rfl) (by decide) (fun K hK i hi => ?_)
  obtain rfl := List.mem_singleton.1 hi
  refine wpOp_listed rfl ?_
  go_wp2_with fail
  refine postH_normal (hK _ _ _ F0.out ?_)
  clear hK K
  refine wpAnyH_done (by kernel_rfl) ?_ _
  clear F0 hg6v
  have q0 := X2.out.cell (j := 0) rfl
  have q1 := X3.out.cell (j := 0) rfl
  go_upto_region 4 with (refine wpList_blk_store rfl 3 _ _ rfl 0 (.int .i64 T2) rfl rfl X2.out hsi.out (Nat.le_of_ble_eq_true rfl) (one_int _ _) ?_; intro v4 hw9 ho9)
  have hb : Below s0 v3 v4 := ho9.below (by omega)
  replace E : Hid (Below w.heap.size w v4) := E.out.trans (by rw [hs0'.out]; exact hb)
  replace X2 := Lib.hid hw9.out
  replace X3 := Lib.hid (X3.out.only ho9 (by omega))
  replace X4 := Lib.hid (X4.out.only ho9 (by omega))
  replace M := Lib.hid (M.out.keep (hb.mono hBw.out))
  replace X6 := Lib.hid (X6.out.only ho9 (by have := hg6.out; omega))
  clear hb hw9 ho9
  replace X2 : Hid (Blk v4 s0 [.int .i64 T2, .int .i64 V, .int .i64 rate, .slice A n c] 32) := X2
  clear q0 q1
  refine wp_region_planM [14] [(true, 0), (true, 1), (true, 2), (true, 3), (true, 4), (true, 5), (true, 6), (true, 7), (true, 8), (true, 9), (true, 10), (true, 11), (true, 12), (true, 13), (false, 14)] (by decide) (by kernel_rfl) (by kernel_rfl) (by decide) (by intro c a d v w h; cases d <;> exact h) ?_
  change wpPlanM _ _ _ _ _ _ v4.drew
  have hb : Below v4.heap.size v4 v4.drew := (Below.refl _ _).drew
  generalize hgd : v4.drew = v5 at hb ⊢
  replace E : Hid (Below w.heap.size w v5) := E.out.trans (hb.mono E.out.size)
  replace X2 := Lib.hid (X2.out.below hb X2.out.lt)
  replace X3 := Lib.hid (X3.out.below hb X3.out.lt)
  replace X4 := Lib.hid (X4.out.below hb X4.out.lt)
  replace M := Lib.hid (M.out.below hb)
  replace X6 := Lib.hid (X6.out.below hb X6.out.lt)
  clear hb hgd
  have P0 : ∀ q : ExtOf v5, q.world.cell? ⟨s0, 1, none⟩ = some (.int .i64 V) := fun q => (Blk.below X2.out q.ext X2.out.lt).cell (j := 1) rfl
  have P1 : ∀ q : ExtOf v5, q.world.cell? ⟨s0 + 1, 1, none⟩ = some (.int .i32 d) := fun q => (Blk.below X3.out q.ext X3.out.lt).cell (j := 1) rfl
  have P2 : ∀ q : ExtOf v5, q.world.cell? ⟨g6, 0, none⟩ = some (.int .i64 rate) := fun q => (Blk.below X6.out q.ext X6.out.lt).cell (j := 0) rfl
  iterate 14 (refine wpPlanM_plain rfl (fun K hK => ?_); go_simp; refine hK _ ?_; clear hK K)
  clear P0 P1 P2
  refine wpPlanM_call rfl (fun K hK => ?_)
  refine wpList_blk_store rfl 3 _ _ rfl 1 (.int .i64 V2) rfl rfl X2.out hsi.out (Nat.le_of_ble_eq_true rfl) (one_int _ _) ?_; intro v6 hw9 ho9
  have hb : Below s0 v5 v6 := ho9.below (by omega)
  replace E : Hid (Below w.heap.size w v6) := E.out.trans (by rw [hs0'.out]; exact hb)
  replace X2 := Lib.hid hw9.out
  replace X3 := Lib.hid (X3.out.only ho9 (by omega))
  replace X4 := Lib.hid (X4.out.only ho9 (by omega))
  replace M := Lib.hid (M.out.keep (hb.mono hBw.out))
  replace X6 := Lib.hid (X6.out.only ho9 (by have := hg6.out; omega))
  clear hb hw9 ho9
  refine wpList_end (planPostL_normal ⟨.inl (by simp), hK _ _ ?_⟩)
  clear hK K
  replace X2 : Hid (Blk v6 s0 [.int .i64 T2, .int .i64 V2, .int .i64 rate, .slice A n c] 32) := X2
  refine wpPlanM_nil ?_
  have q0 := X2.out.cell (j := 0) rfl
  have q1 := X2.out.cell (j := 1) rfl
  have q2 := X3.out.cell (j := 2) rfl
  have q3 := X3.out.cell (j := 3) rfl
  have q4 := X3.out.cell (j := 4) rfl
  go_wp2_with fail
  refine (CW.out lo (T2 + la) _).mono ?_
  rintro e v7 ⟨rfl, hb⟩
  replace E : Hid (Below w.heap.size w v7) := E.out.trans (hb.mono E.out.size)
  replace X2 := Lib.hid (X2.out.below hb X2.out.lt)
  replace X3 := Lib.hid (X3.out.below hb X3.out.lt)
  replace X4 := Lib.hid (X4.out.below hb X4.out.lt)
  replace M := Lib.hid (M.out.below hb)
  replace X6 := Lib.hid (X6.out.below hb X6.out.lt)
  clear hb 
  clear q0 q1 q2 q3 q4
  obtain ⟨g11, hg11e⟩ : ∃ x, x = v7.heap.size := ⟨_, rfl⟩
  have hg11 : Hid (s0 + 3 ≤ g11) := by show _ ≤ _; have := X4.out.lt; omega
  have hg11n : Hid (g6 < g11) := by show _ < _; have := X6.out.lt; omega
  have X11 : Hid (Blk (v7.alloc (.cells #[.int .i64 lc, .int .i64 lo, .int .i64 (T2 + la)] 48)) v7.heap.size [.int .i64 lc, .int .i64 lo, .int .i64 (T2 + la)] 48) := Blk.new v7 [_, _, _] _
  have hb : Below v7.heap.size v7 (v7.alloc (.cells #[.int .i64 lc, .int .i64 lo, .int .i64 (T2 + la)] 48)) := (Below.refl _ _).alloc (Nat.le_refl _) _
  replace E : Hid (Below w.heap.size w (v7.alloc (.cells #[.int .i64 lc, .int .i64 lo, .int .i64 (T2 + la)] 48))) := E.out.trans (hb.mono E.out.size)
  replace X2 := Lib.hid (X2.out.below hb X2.out.lt)
  replace X3 := Lib.hid (X3.out.below hb X3.out.lt)
  replace X4 := Lib.hid (X4.out.below hb X4.out.lt)
  replace M := Lib.hid (M.out.below hb)
  replace X6 := Lib.hid (X6.out.below hb X6.out.lt)
  clear hb
  have q2 := X3.out.cell (j := 2) rfl
  rcases ekc with rfl | rfl | rfl
  · skip
    go_upto_region 9 with fail
    generalize hvv : (v7.alloc (.cells #[.int .i64 lc, .int .i64 lo, .int .i64 (T2 + la)] 48)) = v8 at *
    clear hvv
    rw [← hg11e] at X11 ⊢
    clear hg11e
    go_wp2_with (first | (refine wpList_blk_load rfl 32 _ rfl 0 rfl X2.out [_, _, _, _] rfl _ hunm.out rfl hszm.out ?_) | (refine wpList_row_store rfl 32 _ _ rfl [.int .i64 T2, .int .i64 V2, .int .i64 rate, .slice A n c] rfl rfl X4.out hszm.out rfl (oneM _ _ _ _ _ _) ?_; intro v9 hw9 ho9))
    skip
    have hb : Below s0 v8 v9 := ho9.below (by omega)
    replace E : Hid (Below w.heap.size w v9) := E.out.trans (by rw [hs0'.out]; exact hb)
    replace X2 := Lib.hid (X2.out.only ho9 (by omega))
    replace X3 := Lib.hid (X3.out.only ho9 (by omega))
    replace X4 := Lib.hid hw9.out
    replace M := Lib.hid (M.out.keep (hb.mono hBw.out))
    replace X6 := Lib.hid (X6.out.only ho9 (by have := hg6.out; omega))
    replace X11 := Lib.hid (X11.out.only ho9 (by have := hg11.out; omega))
    clear hb hw9 ho9
    exact bodyPost_ret (ret_cellK rfl _ v9 (g := s0 + 1 + 1) _ rfl rfl X4.out _ hunm.out rfl hszm.out) rfl ⟨T2, V2, ⟨rate, A, n, c, l⟩, rfl, M.out.up (Nat.le_trans hBw.out (by have := X2.out.lt; omega)) (Nat.le_refl _), R2H.out, hTb.out, hVb.out, (fun _ h => .inl h), E.out⟩
  · skip
    go_upto_region 16 with fail
    generalize hvv : (v7.alloc (.cells #[.int .i64 lc, .int .i64 lo, .int .i64 (T2 + la)] 48)) = v8 at *
    clear hvv
    rw [← hg11e] at X11 ⊢
    clear hg11e
    clear q2
    have hsz4 : s0 + 3 ≤ v8.heap.size := by have := X4.out.lt; omega
    have hsz4' := Lib.hid hsz4
    clear hsz4
    go_wp2_with (first | (refine wpList_blk_load rfl 30 _ rfl 0 rfl X6.out [_, _] rfl _ hunc.out rfl hszc.out ?_) | (refine wpList_blk_load rfl 48 _ rfl 0 rfl X11.out [_, _, _] rfl _ hunr.out rfl hszr.out ?_))
    refine (CS.out ⟨lc, lo, T2 + la⟩ _ M.out).mono ?_
    rintro e v9 ⟨k1, e1, rfl, hk1, hk2, hk3, hk4, hk5, hb⟩
    replace E : Hid (Below w.heap.size w v9) := E.out.trans (hb.mono E.out.size)
    replace X2 := Lib.hid (X2.out.below hb X2.out.lt)
    replace X3 := Lib.hid (X3.out.below hb X3.out.lt)
    replace X4 := Lib.hid (X4.out.below hb X4.out.lt)
    replace M := Lib.hid (M.out.below hb)
    replace X6 := Lib.hid (X6.out.below hb X6.out.lt)
    replace X11 := Lib.hid (X11.out.below hb X11.out.lt)
    have M1 := Lib.hid hk4
    have hr1 := Lib.hid hk1
    have hl1 := Lib.hid hk2
    have he1 := Lib.hid hk3
    have h5 : Hid (∀ ad, k1.A = some ad → s0 + 3 ≤ ad.block) := fun ad h => Nat.le_trans hsz4'.out (hk5 ad h)
    clear hb CS hk1 hk2 hk3 hk4 hk5
    have Y14 : Hid (Blk (v9.alloc (.cells #[.int .i64 k1.rate, .slice k1.A k1.n k1.c] 30)) v9.heap.size [.int .i64 k1.rate, .slice k1.A k1.n k1.c] 30) := Blk.new v9 [_, _] _
    have hb : Below v9.heap.size v9 (v9.alloc (.cells #[.int .i64 k1.rate, .slice k1.A k1.n k1.c] 30)) := (Below.refl _ _).alloc (Nat.le_refl _) _
    replace E : Hid (Below w.heap.size w (v9.alloc (.cells #[.int .i64 k1.rate, .slice k1.A k1.n k1.c] 30))) := E.out.trans (hb.mono E.out.size)
    replace X2 := Lib.hid (X2.out.below hb X2.out.lt)
    replace X3 := Lib.hid (X3.out.below hb X3.out.lt)
    replace X4 := Lib.hid (X4.out.below hb X4.out.lt)
    replace M := Lib.hid (M.out.below hb)
    replace X6 := Lib.hid (X6.out.below hb X6.out.lt)
    replace X11 := Lib.hid (X11.out.below hb X11.out.lt)
    replace M1 := Lib.hid (M1.out.below hb)
    clear hb
    rcases S1.out with ⟨hst, he⟩ | ⟨he, hr, hRK⟩
    · skip
      obtain rfl : e1 = 15 := he1.out.trans he
      have hlast : ∃ (j : Nat) (z : Rdg), n = j + 1 ∧ l[j]? = some z ∧ lc ≤ z.L := by
        rcases Nat.eq_zero_or_pos n with hz | hz
        · rw [stB_nil (by rw [← hn.out]; exact hz)] at hst; cases hst
        · obtain ⟨z, hx⟩ : ∃ x, l[n - 1]? = some x := ⟨_, List.getElem?_eq_getElem (by have := hn.out; omega)⟩
          rw [stB_last (by rw [← hn.out]; omega) hx] at hst
          exact ⟨n - 1, z, by omega, hx, of_decide_eq_true hst⟩
      obtain ⟨j, z, hjn, hlz, htb⟩ := hlast
      have hjnH := Lib.hid hjn
      have hlzH := Lib.hid hlz
      clear he hst hjn hlz
      clear M1 h5 hr1 hl1 he1 hsz4'
      go_upto_region 18 with fail
      generalize hvv : (v9.alloc (.cells #[.int .i64 k1.rate, .slice k1.A k1.n k1.c] 30)) = v10 at *
      clear hvv
      obtain ⟨ad, hA, hbb, hcl0⟩ := M.out.rd3 hlzH.out
      dsimp only at hA
      subst hA
      have hadl : Hid (ad.block < s0) := Nat.lt_of_lt_of_le hbb hBw.out
      have c0 : v10.cell? (ad.add (j * 3)) = some (.int .i64 z.L) := by
        have := hcl0 0 _ rfl
        rw [add_twice] at this
        exact this
      have c0H := Lib.hid c0
      have hjn0 := hjnH.out
      have hsm : n ≤ 140737488355328 := M.out.small
      have e1 : (n : Int) - 1 = (j : Int) := by omega
      have hw1 : IntKind.i64.wrap ((n : Int) - 1) = (j : Int) := by rw [IntKind.wrap_i64]; omega
      have hw1' : wrap64 ((n : Int) - 1) = (j : Int) := by rw [e1]; unfold wrap64; omega
      have j0 : 0 ≤ (j : Int) := by omega
      have j2 : j < n := by omega
      have j1 : (j : Int) < (n : Int) := by omega
      have b3 : decide (0 < (n : Int)) = true := decide_eq_true (by omega)
      have b4 : decide (0 < n) = true := decide_eq_true (by omega)
      have b3' : (0 : Int) < (n : Int) := by omega
      have tz := decide_eq_true htb
      have hjb0 : Hid (j < 140737488355328) := by show _ < _; omega
      clear hcl0 hbb hjn0 c0 hsm
      have hne : Nonempty (SOf fun W => GrK (s0 + 1 + 1) v10 W) := ⟨⟨v10, GrK.of (Below.refl _ _)⟩⟩
      refine wp_region_planH (fun W => GrK (s0 + 1 + 1) v10 W) [0, 1, 2, 3, 4, 5, 6, 7, 8, 9, 10, 11, 12, 13, 14, 15, 16, 17] 2 (by kernel_rfl) (by kernel_rfl) (by kernel_rfl) (by kernel_rfl) (by intro c a d v w h; cases d <;> exact h) (GrK.of (Below.refl _ _).drew) ?_
      change wpPlanH _ _ _ _ _ _ _ _ _ v10.drew
      refine wpPlanH_runW rfl (by rfl) _ (fun q => load_run 32 _ rfl s0 0 rfl [.int .i64 T2, .int .i64 V2, .int .i64 rate, .slice (some ad) n c] _ hunm.out rfl hszm.out q.world ((q.meets.blk X2.out (by omega)).range 0 _ (take_all0 _))) ?_
      have P0 : ∀ q : SOf fun W => GrK (s0 + 1 + 1) v10 W, q.world.cell? ⟨g6, 1, none⟩ = some (.slice (some ad) n c) := fun q => (q.meets.blk X6.out (by have := hg6.out; omega)).cell (j := 1) rfl
      have P1 : ∀ q : SOf fun W => GrK (s0 + 1 + 1) v10 W, q.world.cell? (ad.add (j * 3)) = some (.int .i64 z.L) := fun q => (World.cell?_of_block (q.meets.block _ (by rw [add_block]; have := hadl.out; have := X2.out.lt; omega) (by rw [add_block]; have := hadl.out; intro e; injection e with e; omega))).trans c0H.out
      have hw2 := (wrap_nat hjb0.out).1
      have hw2' := (wrap_nat hjb0.out).2
      clear hjb0
      iterate 17 (refine wpPlanH_plain rfl (fun K hK => ?_); go_simp; refine hK _ ?_; clear hK K)
      refine wpPlanH_nil ?_
      clear P0 P1 hne hw1 hw1' hw2 hw2' j0 j1 j2 b3 b4 b3'
      have F0 : Hid (GrK (s0 + 1 + 1) v10 v10.drew) := GrK.of (Below.refl _ _).drew
      have hb : Below v10.heap.size v10 v10.drew := (Below.refl _ _).drew
      generalize v10.drew = v11 at F0 hb ⊢
      replace E : Hid (Below w.heap.size w v11) := E.out.trans (hb.mono E.out.size)
      replace X2 := Lib.hid (X2.out.below hb X2.out.lt)
      replace X4 := Lib.hid (X4.out.below hb X4.out.lt)
      replace M := Lib.hid (M.out.below hb)
      replace X6 := Lib.hid (X6.out.below hb X6.out.lt)
      clear hb
      refine wpAnyH_each (rs := [18]) (by kernel_rfl) (by decide) (fun K hK i hi => ?_)
      obtain rfl := List.mem_singleton.1 hi
      refine wpOp_listed rfl ?_
      refine wpList_row_store rfl 32 _ _ rfl [.int .i64 T2, .int .i64 V2, .int .i64 rate, .slice (some ad) n c] rfl rfl X4.out hszm.out rfl (oneM _ _ _ _ _ _) ?_; intro v12 hw9 ho9
      replace F0 : Hid (GrK (s0 + 1 + 1) v10 v12) := F0.out.trans (GrK.only ho9)
      have hb : Below s0 v11 v12 := ho9.below (by omega)
      replace E : Hid (Below w.heap.size w v12) := E.out.trans (by rw [hs0'.out]; exact hb)
      replace X2 := Lib.hid (X2.out.only ho9 (by omega))
      replace X4 := Lib.hid hw9.out
      replace M := Lib.hid (M.out.keep (hb.mono hBw.out))
      replace X6 := Lib.hid (X6.out.only ho9 (by have := hg6.out; omega))
      clear hb hw9 ho9
      refine wpList_end (postH_normal (hK _ _ _ F0.out ?_))
      clear hK K
      refine wpAnyH_each (rs := [19]) (by kernel_rfl) (by decide) (fun K hK i hi => ?_)
      obtain rfl := List.mem_singleton.1 hi
      refine wpOp_listed rfl ?_
      go_wp2_with fail
      refine postH_normal (hK _ _ _ F0.out ?_)
      clear hK K
      refine wpAnyH_done (by kernel_rfl) ?_ _
      go_wp2_with fail
      exact bodyPost_ret (ret_cellK rfl _ v12 (g := s0 + 1 + 1) _ rfl rfl X4.out _ hunm.out rfl hszm.out) rfl ⟨T2, V2, ⟨rate, some ad, n, c, l⟩, rfl, M.out.up (Nat.le_trans hBw.out (by have := X2.out.lt; omega)) (Nat.le_refl _), R2H.out, hTb.out, hVb.out, (fun _ h => .inl h), E.out⟩
    · skip
      obtain rfl : e1 = 0 := he1.out.trans he
      have hRKH : Hid (RunK k1.rate T2 V2 k1.l) := by show RunK _ _ _ _; rw [hr1.out, hl1.out, hr]; exact hRK
      clear he hr hRK hr1 hl1 he1
      go_upto_region 19 with fail
      generalize hvv : (v9.alloc (.cells #[.int .i64 k1.rate, .slice k1.A k1.n k1.c] 30)) = v11 at *
      clear hvv
      go_upto_region 20 with (first | (refine wpList_blk_load rfl 30 _ rfl 0 rfl Y14.out [_, _] rfl _ hunc.out rfl hszc.out ?_) | (refine wpList_blk_store rfl 30 _ _ rfl 2 (.agg #[.int .i64 k1.rate, .slice k1.A k1.n k1.c]) rfl rfl X2.out hszc.out (Nat.le_of_ble_eq_true rfl) (oneC _ _ _ _) ?_; intro v12 hw9 ho9))
      have hb : Below s0 v11 v12 := ho9.below (by omega)
      replace E : Hid (Below w.heap.size w v12) := E.out.trans (by rw [hs0'.out]; exact hb)
      replace X2 := Lib.hid hw9.out
      replace X3 := Lib.hid (X3.out.only ho9 (by omega))
      replace X4 := Lib.hid (X4.out.only ho9 (by omega))
      replace M := Lib.hid (M.out.keep (hb.mono hBw.out))
      replace X6 := Lib.hid (X6.out.only ho9 (by have := hg6.out; omega))
      replace X11 := Lib.hid (X11.out.only ho9 (by have := hg11.out; omega))
      replace M1 := Lib.hid (M1.out.only ho9 (.inr fun ad h => by have := h5.out ad h; omega))
      clear hb hw9 ho9
      replace X2 : Hid (Blk v12 s0 [.int .i64 T2, .int .i64 V2, .int .i64 k1.rate, .slice k1.A k1.n k1.c] 32) := X2
      go_wp2_with (first | (refine wpList_blk_load rfl 32 _ rfl 0 rfl X2.out [_, _, _, _] rfl _ hunm.out rfl hszm.out ?_) | (refine wpList_row_store rfl 32 _ _ rfl [.int .i64 T2, .int .i64 V2, .int .i64 k1.rate, .slice k1.A k1.n k1.c] rfl rfl X4.out hszm.out rfl (oneM _ _ _ _ _ _) ?_; intro v13 hw9 ho9))
      have hb : Below s0 v12 v13 := ho9.below (by omega)
      replace E : Hid (Below w.heap.size w v13) := E.out.trans (by rw [hs0'.out]; exact hb)
      replace X2 := Lib.hid (X2.out.only ho9 (by omega))
      replace X3 := Lib.hid (X3.out.only ho9 (by omega))
      replace X4 := Lib.hid hw9.out
      replace M := Lib.hid (M.out.keep (hb.mono hBw.out))
      replace X6 := Lib.hid (X6.out.only ho9 (by have := hg6.out; omega))
      replace X11 := Lib.hid (X11.out.only ho9 (by have := hg11.out; omega))
      replace M1 := Lib.hid (M1.out.only ho9 (.inr fun ad h => by have := h5.out ad h; omega))
      clear hb hw9 ho9
      exact bodyPost_ret (ret_cellK rfl _ v13 (g := s0 + 1 + 1) _ rfl rfl X4.out _ hunm.out rfl hszm.out) rfl ⟨T2, V2, k1, rfl, M1.out.up M1.out.le (Nat.le_refl _), hRKH.out, hTb.out, hVb.out, (fun ad h => .inr (by have := h5.out ad h; have := hs0'.out; omega)), E.out⟩
  · skip
    have q3 := X3.out.cell (j := 3) rfl
    have y9 := x9.out
    go_upto_region 13 with fail
    generalize hvv : (v7.alloc (.cells #[.int .i64 lc, .int .i64 lo, .int .i64 (T2 + la)] 48)) = v8 at *
    clear hvv
    rw [← hg11e] at X11 ⊢
    clear hg11e
    clear q2 q3 y9
    have hne : Nonempty (SOf fun W => GrK g11 v8 W) := ⟨⟨v8, GrK.of (Below.refl _ _)⟩⟩
    refine wp_region_planH (fun W => GrK g11 v8 W) [0, 1, 2, 3, 4, 5, 6, 7, 8, 9, 10, 11, 12, 13] 7 (by kernel_rfl) (by kernel_rfl) (by kernel_rfl) (by kernel_rfl) (by intro c a d v w h; cases d <;> exact h) (GrK.of (Below.refl _ _).drew) ?_
    change wpPlanH _ _ _ _ _ _ _ _ _ v8.drew
    refine wpPlanH_runW rfl (by rfl) _ (fun q => load_run 30 _ rfl g6 0 rfl [.int .i64 rate, .slice A n c] _ hunc.out rfl hszc.out q.world ((q.meets.blk X6.out (by have := hg11n.out; omega)).range 0 _ (take_all0 _))) ?_
    have P0 : ∀ q : SOf fun W => GrK g11 v8 W, q.world.cell? ⟨s0 + 1, 4, none⟩ = some (.int .u8 la) := fun q => (q.meets.blk X3.out (by have := hg11.out; omega)).cell (j := 4) rfl
    have P1 : ∀ q : SOf fun W => GrK g11 v8 W, q.world.cell? ⟨s0 + 1, 3, none⟩ = some (.int .u8 ea) := fun q => (q.meets.blk X3.out (by have := hg11.out; omega)).cell (j := 3) rfl
    have y9 := x9.out
    have y10 := x10.out
    have y11 := x11.out
    iterate 13 (refine wpPlanH_plain rfl (fun K hK => ?_); go_simp; refine hK _ ?_; clear hK K)
    refine wpPlanH_nil ?_
    clear P0 P1 hne y9 y10 y11
    have F0 : Hid (GrK g11 v8 v8.drew) := GrK.of (Below.refl _ _).drew
    have hb : Below v8.heap.size v8 v8.drew := (Below.refl _ _).drew
    generalize v8.drew = v9 at F0 hb ⊢
    replace E : Hid (Below w.heap.size w v9) := E.out.trans (hb.mono E.out.size)
    replace X2 := Lib.hid (X2.out.below hb X2.out.lt)
    replace X3 := Lib.hid (X3.out.below hb X3.out.lt)
    replace X4 := Lib.hid (X4.out.below hb X4.out.lt)
    replace M := Lib.hid (M.out.below hb)
    replace X6 := Lib.hid (X6.out.below hb X6.out.lt)
    replace X11 := Lib.hid (X11.out.below hb X11.out.lt)
    clear hb
    refine wpAnyH_each (rs := [14]) (by kernel_rfl) (by decide) (fun K hK i hi => ?_)
    obtain rfl := List.mem_singleton.1 hi
    refine wpOp_listed rfl ?_
    go_wp2_with fail
    refine (CW.out lo2 (a1 + ea) _).mono ?_
    rintro e v10 ⟨rfl, hb⟩
    replace F0 : Hid (GrK g11 v8 v10) := F0.out.trans (GrK.of hb)
    replace E : Hid (Below w.heap.size w v10) := E.out.trans (hb.mono E.out.size)
    replace X2 := Lib.hid (X2.out.below hb X2.out.lt)
    replace X3 := Lib.hid (X3.out.below hb X3.out.lt)
    replace X4 := Lib.hid (X4.out.below hb X4.out.lt)
    replace M := Lib.hid (M.out.below hb)
    replace X6 := Lib.hid (X6.out.below hb X6.out.lt)
    replace X11 := Lib.hid (X11.out.below hb X11.out.lt)
    clear hb
    go_wp2_with fail
    refine postH_normal (hK _ _ _ F0.out ?_)
    clear hK K
    refine wpAnyH_each (rs := [15]) (by kernel_rfl) (by decide) (fun K hK i hi => ?_)
    obtain rfl := List.mem_singleton.1 hi
    refine wpOp_listed rfl ?_
    go_wp2_with fail
    refine (CA.out _ M.out).mono ?_
    rintro e v11 ⟨rfl, hb⟩
    replace F0 : Hid (GrK g11 v8 v11) := F0.out.trans (GrK.of hb)
    replace E : Hid (Below w.heap.size w v11) := E.out.trans (hb.mono E.out.size)
    replace X2 := Lib.hid (X2.out.below hb X2.out.lt)
    replace X3 := Lib.hid (X3.out.below hb X3.out.lt)
    replace X4 := Lib.hid (X4.out.below hb X4.out.lt)
    replace M := Lib.hid (M.out.below hb)
    replace X6 := Lib.hid (X6.out.below hb X6.out.lt)
    replace X11 := Lib.hid (X11.out.below hb X11.out.lt)
    clear hb
    go_wp2_with fail
    refine postH_normal (hK _ _ _ F0.out ?_)
    clear hK K
    refine wpAnyH_of_plan (by kernel_rfl) (by intro c a d v w h; cases d <;> exact h) [16, 17, 18] 2 _ _ _ F0.out (by kernel_rfl) ?_
    have hne : Nonempty (SOf fun W => GrK g11 v8 W) := ⟨⟨v8, GrK.of (Below.refl _ _)⟩⟩
    iterate 3 (refine wpPlanH_plain rfl (fun K hK => ?_); go_simp; refine hK _ ?_; clear hK K)
    refine wpPlanH_nil ?_
    clear hne
    refine wpAnyH_each (rs := [19]) (by kernel_rfl) (by decide) (fun K hK i hi => ?_)
    obtain rfl := List.mem_singleton.1 hi
    refine wpOp_listed rfl ?_
    refine wpList_row_store rfl 48 _ _ rfl [.int .i64 lc, .int .i64 lo2, .int .i64 hi2] rfl rfl X11.out hszr.out rfl (one3 _ _ _) ?_; intro v12 hw9 ho9
    replace F0 : Hid (GrK g11 v8 v12) := F0.out.trans (GrK.only ho9)
    have hb : Below s0 v11 v12 := ho9.below (by have := hg11.out; omega)
    replace E : Hid (Below w.heap.size w v12) := E.out.trans (by rw [hs0'.out]; exact hb)
    replace X2 := Lib.hid (X2.out.only ho9 (by have := hg11.out; omega))
    replace X3 := Lib.hid (X3.out.only ho9 (by have := hg11.out; omega))
    replace X4 := Lib.hid (X4.out.only ho9 (by have := hg11.out; omega))
    replace M := Lib.hid (M.out.keep (hb.mono hBw.out))
    replace X6 := Lib.hid (X6.out.only ho9 (by have := hg11n.out; omega))
    replace X11 := Lib.hid hw9.out
    clear hb hw9 ho9
    refine wpList_end (postH_normal (hK _ _ _ F0.out ?_))
    clear hK K
    refine wpAnyH_each (rs := [20]) (by kernel_rfl) (by decide) (fun K hK i hi => ?_)
    obtain rfl := List.mem_singleton.1 hi
    refine wpOp_listed rfl ?_
    go_wp2_with fail
    refine postH_normal (hK _ _ _ F0.out ?_)
    clear hK K
    refine wpAnyH_done (by kernel_rfl) ?_ _
    clear F0 CA CW
    have q0 := X2.out.cell (j := 0) rfl
    have q5 := X11.out.cell (j := 0) rfl
    have q6 := X11.out.cell (j := 1) rfl
    have q7 := X11.out.cell (j := 2) rfl
    have n1 : ¬ T2 < lo2 := by have := ans3H.out; omega
    have tn1 := decide_eq_false n1
    have n2 : ¬ hi2 < T2 := by have := ans4H.out; omega
    have tn2 := decide_eq_false n2
    go_upto_region 16 with fail
    clear q0 q5 q6 q7 n1 n2 tn1 tn2
    have hsz4 : s0 + 3 ≤ v12.heap.size := by have := X4.out.lt; omega
    have hsz4' := Lib.hid hsz4
    clear hsz4
    go_wp2_with (first | (refine wpList_blk_load rfl 30 _ rfl 0 rfl X6.out [_, _] rfl _ hunc.out rfl hszc.out ?_) | (refine wpList_blk_load rfl 48 _ rfl 0 rfl X11.out [_, _, _] rfl _ hunr.out rfl hszr.out ?_))
    refine (CS.out ⟨lc, lo2, hi2⟩ _ M.out).mono ?_
    rintro e v13 ⟨k1, e1, rfl, hk1, hk2, hk3, hk4, hk5, hb⟩
    replace E : Hid (Below w.heap.size w v13) := E.out.trans (hb.mono E.out.size)
    replace X2 := Lib.hid (X2.out.below hb X2.out.lt)
    replace X3 := Lib.hid (X3.out.below hb X3.out.lt)
    replace X4 := Lib.hid (X4.out.below hb X4.out.lt)
    replace M := Lib.hid (M.out.below hb)
    replace X6 := Lib.hid (X6.out.below hb X6.out.lt)
    replace X11 := Lib.hid (X11.out.below hb X11.out.lt)
    have M1 := Lib.hid hk4
    have hr1 := Lib.hid hk1
    have hl1 := Lib.hid hk2
    have he1 := Lib.hid hk3
    have h5 : Hid (∀ ad, k1.A = some ad → s0 + 3 ≤ ad.block) := fun ad h => Nat.le_trans hsz4'.out (hk5 ad h)
    clear hb CS hk1 hk2 hk3 hk4 hk5
    have Y14 : Hid (Blk (v13.alloc (.cells #[.int .i64 k1.rate, .slice k1.A k1.n k1.c] 30)) v13.heap.size [.int .i64 k1.rate, .slice k1.A k1.n k1.c] 30) := Blk.new v13 [_, _] _
    have hb : Below v13.heap.size v13 (v13.alloc (.cells #[.int .i64 k1.rate, .slice k1.A k1.n k1.c] 30)) := (Below.refl _ _).alloc (Nat.le_refl _) _
    replace E : Hid (Below w.heap.size w (v13.alloc (.cells #[.int .i64 k1.rate, .slice k1.A k1.n k1.c] 30))) := E.out.trans (hb.mono E.out.size)
    replace X2 := Lib.hid (X2.out.below hb X2.out.lt)
    replace X3 := Lib.hid (X3.out.below hb X3.out.lt)
    replace X4 := Lib.hid (X4.out.below hb X4.out.lt)
    replace M := Lib.hid (M.out.below hb)
    replace X6 := Lib.hid (X6.out.below hb X6.out.lt)
    replace X11 := Lib.hid (X11.out.below hb X11.out.lt)
    replace M1 := Lib.hid (M1.out.below hb)
    clear hb
    rcases S2.out with ⟨hst, he⟩ | ⟨he, hr, hRK⟩
    · skip
      obtain rfl : e1 = 15 := he1.out.trans he
      have hlast : ∃ (j : Nat) (z : Rdg), n = j + 1 ∧ l[j]? = some z ∧ lc ≤ z.L := by
        rcases Nat.eq_zero_or_pos n with hz | hz
        · rw [stB_nil (by rw [← hn.out]; exact hz)] at hst; cases hst
        · obtain ⟨z, hx⟩ : ∃ x, l[n - 1]? = some x := ⟨_, List.getElem?_eq_getElem (by have := hn.out; omega)⟩
          rw [stB_last (by rw [← hn.out]; omega) hx] at hst
          exact ⟨n - 1, z, by omega, hx, of_decide_eq_true hst⟩
      obtain ⟨j, z, hjn, hlz, htb⟩ := hlast
      have hjnH := Lib.hid hjn
      have hlzH := Lib.hid hlz
      clear he hst hjn hlz
      clear M1 h5 hr1 hl1 he1 hsz4'
      go_upto_region 18 with fail
      generalize hvv : (v13.alloc (.cells #[.int .i64 k1.rate, .slice k1.A k1.n k1.c] 30)) = v14 at *
      clear hvv
      obtain ⟨ad, hA, hbb, hcl0⟩ := M.out.rd3 hlzH.out
      dsimp only at hA
      subst hA
      have hadl : Hid (ad.block < s0) := Nat.lt_of_lt_of_le hbb hBw.out
      have c0 : v14.cell? (ad.add (j * 3)) = some (.int .i64 z.L) := by
        have := hcl0 0 _ rfl
        rw [add_twice] at this
        exact this
      have c0H := Lib.hid c0
      have hjn0 := hjnH.out
      have hsm : n ≤ 140737488355328 := M.out.small
      have e1 : (n : Int) - 1 = (j : Int) := by omega
      have hw1 : IntKind.i64.wrap ((n : Int) - 1) = (j : Int) := by rw [IntKind.wrap_i64]; omega
      have hw1' : wrap64 ((n : Int) - 1) = (j : Int) := by rw [e1]; unfold wrap64; omega
      have j0 : 0 ≤ (j : Int) := by omega
      have j2 : j < n := by omega
      have j1 : (j : Int) < (n : Int) := by omega
      have b3 : decide (0 < (n : Int)) = true := decide_eq_true (by omega)
      have b4 : decide (0 < n) = true := decide_eq_true (by omega)
      have b3' : (0 : Int) < (n : Int) := by omega
      have tz := decide_eq_true htb
      have hjb0 : Hid (j < 140737488355328) := by show _ < _; omega
      clear hcl0 hbb hjn0 c0 hsm
      have hne : Nonempty (SOf fun W => GrK (s0 + 1 + 1) v14 W) := ⟨⟨v14, GrK.of (Below.refl _ _)⟩⟩
      refine wp_region_planH (fun W => GrK (s0 + 1 + 1) v14 W) [0, 1, 2, 3, 4, 5, 6, 7, 8, 9, 10, 11, 12, 13, 14, 15, 16, 17] 2 (by kernel_rfl) (by kernel_rfl) (by kernel_rfl) (by kernel_rfl) (by intro c a d v w h; cases d <;> exact h) (GrK.of (Below.refl _ _).drew) ?_
      change wpPlanH _ _ _ _ _ _ _ _ _ v14.drew
      refine wpPlanH_runW rfl (by rfl) _ (fun q => load_run 32 _ rfl s0 0 rfl [.int .i64 T2, .int .i64 V2, .int .i64 rate, .slice (some ad) n c] _ hunm.out rfl hszm.out q.world ((q.meets.blk X2.out (by omega)).range 0 _ (take_all0 _))) ?_
      have P0 : ∀ q : SOf fun W => GrK (s0 + 1 + 1) v14 W, q.world.cell? ⟨g6, 1, none⟩ = some (.slice (some ad) n c) := fun q => (q.meets.blk X6.out (by have := hg6.out; omega)).cell (j := 1) rfl
      have P1 : ∀ q : SOf fun W => GrK (s0 + 1 + 1) v14 W, q.world.cell? (ad.add (j * 3)) = some (.int .i64 z.L) := fun q => (World.cell?_of_block (q.meets.block _ (by rw [add_block]; have := hadl.out; have := X2.out.lt; omega) (by rw [add_block]; have := hadl.out; intro e; injection e with e; omega))).trans c0H.out
      have hw2 := (wrap_nat hjb0.out).1
      have hw2' := (wrap_nat hjb0.out).2
      clear hjb0
      iterate 17 (refine wpPlanH_plain rfl (fun K hK => ?_); go_simp; refine hK _ ?_; clear hK K)
      refine wpPlanH_nil ?_
      clear P0 P1 hne hw1 hw1' hw2 hw2' j0 j1 j2 b3 b4 b3'
      have F0 : Hid (GrK (s0 + 1 + 1) v14 v14.drew) := GrK.of (Below.refl _ _).drew
      have hb : Below v14.heap.size v14 v14.drew := (Below.refl _ _).drew
      generalize v14.drew = v15 at F0 hb ⊢
      replace E : Hid (Below w.heap.size w v15) := E.out.trans (hb.mono E.out.size)
      replace X2 := Lib.hid (X2.out.below hb X2.out.lt)
      replace X4 := Lib.hid (X4.out.below hb X4.out.lt)
      replace M := Lib.hid (M.out.below hb)
      replace X6 := Lib.hid (X6.out.below hb X6.out.lt)
      clear hb
      refine wpAnyH_each (rs := [18]) (by kernel_rfl) (by decide) (fun K hK i hi => ?_)
      obtain rfl := List.mem_singleton.1 hi
      refine wpOp_listed rfl ?_
      refine wpList_row_store rfl 32 _ _ rfl [.int .i64 T2, .int .i64 V2, .int .i64 rate, .slice (some ad) n c] rfl rfl X4.out hszm.out rfl (oneM _ _ _ _ _ _) ?_; intro v16 hw9 ho9
      replace F0 : Hid (GrK (s0 + 1 + 1) v14 v16) := F0.out.trans (GrK.only ho9)
      have hb : Below s0 v15 v16 := ho9.below (by omega)
      replace E : Hid (Below w.heap.size w v16) := E.out.trans (by rw [hs0'.out]; exact hb)
      replace X2 := Lib.hid (X2.out.only ho9 (by omega))
      replace X4 := Lib.hid hw9.out
      replace M := Lib.hid (M.out.keep (hb.mono hBw.out))
      replace X6 := Lib.hid (X6.out.only ho9 (by have := hg6.out; omega))
      clear hb hw9 ho9
      refine wpList_end (postH_normal (hK _ _ _ F0.out ?_))
      clear hK K
      refine wpAnyH_each (rs := [19]) (by kernel_rfl) (by decide) (fun K hK i hi => ?_)
      obtain rfl := List.mem_singleton.1 hi
      refine wpOp_listed rfl ?_
      go_wp2_with fail
      refine postH_normal (hK _ _ _ F0.out ?_)
      clear hK K
      refine wpAnyH_done (by kernel_rfl) ?_ _
      go_wp2_with fail
      exact bodyPost_ret (ret_cellK rfl _ v16 (g := s0 + 1 + 1) _ rfl rfl X4.out _ hunm.out rfl hszm.out) rfl ⟨T2, V2, ⟨rate, some ad, n, c, l⟩, rfl, M.out.up (Nat.le_trans hBw.out (by have := X2.out.lt; omega)) (Nat.le_refl _), R2H.out, hTb.out, hVb.out, (fun _ h => .inl h), E.out⟩
    · skip
      obtain rfl : e1 = 0 := he1.out.trans he
      have hRKH : Hid (RunK k1.rate T2 V2 k1.l) := by show RunK _ _ _ _; rw [hr1.out, hl1.out, hr]; exact hRK
      clear he hr hRK hr1 hl1 he1
      go_upto_region 19 with fail
      generalize hvv : (v13.alloc (.cells #[.int .i64 k1.rate, .slice k1.A k1.n k1.c] 30)) = v15 at *
      clear hvv
      go_upto_region 20 with (first | (refine wpList_blk_load rfl 30 _ rfl 0 rfl Y14.out [_, _] rfl _ hunc.out rfl hszc.out ?_) | (refine wpList_blk_store rfl 30 _ _ rfl 2 (.agg #[.int .i64 k1.rate, .slice k1.A k1.n k1.c]) rfl rfl X2.out hszc.out (Nat.le_of_ble_eq_true rfl) (oneC _ _ _ _) ?_; intro v16 hw9 ho9))
      have hb : Below s0 v15 v16 := ho9.below (by omega)
      replace E : Hid (Below w.heap.size w v16) := E.out.trans (by rw [hs0'.out]; exact hb)
      replace X2 := Lib.hid hw9.out
      replace X3 := Lib.hid (X3.out.only ho9 (by omega))
      replace X4 := Lib.hid (X4.out.only ho9 (by omega))
      replace M := Lib.hid (M.out.keep (hb.mono hBw.out))
      replace X6 := Lib.hid (X6.out.only ho9 (by have := hg6.out; omega))
      replace X11 := Lib.hid (X11.out.only ho9 (by have := hg11.out; omega))
      replace M1 := Lib.hid (M1.out.only ho9 (.inr fun ad h => by have := h5.out ad h; omega))
      clear hb hw9 ho9
      replace X2 : Hid (Blk v16 s0 [.int .i64 T2, .int .i64 V2, .int .i64 k1.rate, .slice k1.A k1.n k1.c] 32) := X2
      go_wp2_with (first | (refine wpList_blk_load rfl 32 _ rfl 0 rfl X2.out [_, _, _, _] rfl _ hunm.out rfl hszm.out ?_) | (refine wpList_row_store rfl 32 _ _ rfl [.int .i64 T2, .int .i64 V2, .int .i64 k1.rate, .slice k1.A k1.n k1.c] rfl rfl X4.out hszm.out rfl (oneM _ _ _ _ _ _) ?_; intro v17 hw9 ho9))
      have hb : Below s0 v16 v17 := ho9.below (by omega)
      replace E : Hid (Below w.heap.size w v17) := E.out.trans (by rw [hs0'.out]; exact hb)
      replace X2 := Lib.hid (X2.out.only ho9 (by omega))
      replace X3 := Lib.hid (X3.out.only ho9 (by omega))
      replace X4 := Lib.hid hw9.out
      replace M := Lib.hid (M.out.keep (hb.mono hBw.out))
      replace X6 := Lib.hid (X6.out.only ho9 (by have := hg6.out; omega))
      replace X11 := Lib.hid (X11.out.only ho9 (by have := hg11.out; omega))
      replace M1 := Lib.hid (M1.out.only ho9 (.inr fun ad h => by have := h5.out ad h; omega))
      clear hb hw9 ho9
      exact bodyPost_ret (ret_cellK rfl _ v17 (g := s0 + 1 + 1) _ rfl rfl X4.out _ hunm.out rfl hszm.out) rfl ⟨T2, V2, k1, rfl, M1.out.up M1.out.le (Nat.le_refl _), hRKH.out, hTb.out, hVb.out, (fun ad h => .inr (by have := h5.out ad h; have := hs0'.out; omega)), E.out⟩

end Go.Proofs.Ytbkgbjimooobbaa
