/-
  Stage 14 (clock): the walk of ClockReadsAsSpecified. (Written by tools/genuv.py.)
-/
import Derived.Test.YtpdalebnodgcdaaUr
namespace Go.Proofs.Ytpdalebnodgcdaa
set_option linter.unusedVariables false
set_option linter.unusedSimpArgs false
open Go.RowKit

set_option maxRecDepth 100000 in
set_option maxHeartbeats 16000000 in
theorem reads_walk (k : Clk) (x y : Int) (r : Rdg) (w : World) (m : ClkM w w.heap.size k) :
    Calls Try.prog 3 #[.agg #[.int .i64 k.rate, .slice k.A k.n k.c], .agg #[.int .i64 x, .int .i64 y], .agg #[.int .i64 r.L, .int .i64 r.lo, .int .i64 r.hi]] w fun e w' => e = .returned (.bool true) ∧ Below w.heap.size w w' := by
  rcases k with ⟨rate, A, n, c, l⟩
  rcases r with ⟨L, lo, hi⟩
  dsimp only at *
  obtain ⟨w0, hw0⟩ : ∃ w0, w0 = ((w.alloc (.cells #[.int .i64 rate, .slice A n c] 24)).alloc (.cells #[.int .i64 x, .int .i64 y] 25)).alloc (.cells #[.int .i64 L, .int .i64 lo, .int .i64 hi] 29) := ⟨_, rfl⟩
  have E : Hid (Below w.heap.size w w0) := by show Below _ _ _; rw [hw0]; exact (((Below.refl _ _).alloc (Nat.le_refl _) _).alloc (by simp) _).alloc (by simp; omega) _
  have X1 : Hid (Blk w0 w.heap.size [.int .i64 rate, .slice A n c] 24) := by show Blk _ _ _ _; rw [hw0]; exact ((Blk.new w [_, _] _).alloc _).alloc _
  have X2 : Hid (Blk w0 (w.heap.size + 1) [.int .i64 x, .int .i64 y] 25) := by show Blk _ _ _ _; rw [hw0]; exact ((Blk.new _ [_, _] _).at (by simp)).alloc _
  have X3 : Hid (Blk w0 (w.heap.size + 2) [.int .i64 L, .int .i64 lo, .int .i64 hi] 29) := by show Blk _ _ _ _; rw [hw0]; exact (Blk.new _ [_, _, _] _).at (by simp)
  have M := Lib.hid (m.below E.out)
  have hw0' := Lib.hid hw0
  clear hw0 m
  have hszc := Lib.hid size_clk
  have hunc : Hid (Try.prog.underlying 24 = _) := Try.underlying24
  have hszr := Lib.hid size_rdg
  have hunr : Hid (Try.prog.underlying 29 = _) := Try.underlying29
  have hszw := Lib.hid size_whn
  have hunw : Hid (Try.prog.underlying 27 = _) := Try.underlying27
  have KW : ClkM w0 w.heap.size ⟨rate, A, n, c, l⟩ := M.out
  obtain ⟨s0, hs0⟩ : ∃ s, w.heap.size = s := ⟨_, rfl⟩
  have CF := Lib.hid (fun W => few_any14 ⟨rate, A, n, c, l⟩ W)
  dsimp only at CF
  have C1 := Lib.hid (fun W => Passed_any rate x W)
  have C2 := Lib.hid (fun W => rPassed_any rate x W)
  have C3 := Lib.hid (fun W (h : ClkM W s0 ⟨rate, A, n, c, l⟩) => now_any _ y W h)
  have C4 := Lib.hid (fun W (h : ClkM W s0 ⟨rate, A, n, c, l⟩) => rNow_any _ y W h)
  have C5 := Lib.hid (fun W (h : ClkM W s0 ⟨rate, A, n, c, l⟩) => sync_any _ ⟨L, lo, hi⟩ W h)
  have C6 := Lib.hid (fun W (h : ClkM W s0 ⟨rate, A, n, c, l⟩) => rSync_any _ ⟨L, lo, hi⟩ W h)
  have C7 := Lib.hid (fun W (h : ClkM W s0 ⟨rate, A, n, c, l⟩) => check14_any _ W h)
  have C8 := Lib.hid (fun W (h : ClkM W s0 ⟨rate, A, n, c, l⟩) => rCheck14_any _ W h)
  dsimp only at C1 C2 C3 C4 C5 C6 C7 C8
  dsimp only [SyEnd] at C5 C6
  generalize paLo rate x = pa at *
  generalize paHi rate x = pb at *
  generalize paE rate x = pe at *
  generalize nwLo rate l y = na at *
  generalize nwHi rate l y = nb at *
  generalize nwE rate l y = ne at *
  generalize chkK rate l = ck at *
  generalize syR rate l ⟨L, lo, hi⟩ = sr at *
  generalize syL rate l ⟨L, lo, hi⟩ = sl at *
  generalize syE rate l ⟨L, lo, hi⟩ = se at *
  clear KW
  rw [hs0] at M X1 X2 X3
  obtain ⟨f0, hf0⟩ : ∃ f, decide (n ≤ 20) = f := ⟨_, rfl⟩
  rw [hf0] at CF
  clear hf0
  cases f0 with
  | false =>
    go_enter Try.func3, Try.ntmps3
    go_upto_region 1 with fail
    generalize hgg : ((w.alloc _).alloc _).alloc _ = Wg
    have hgW : w0 = Wg := by rw [← hgg, hw0'.out]
    clear hgg hw0'
    subst hgW
    try rw [hs0]
    go_wp2_with (refine wpList_blk_load rfl 24 _ rfl 0 rfl X1.out [_, _] rfl _ hunc.out rfl hszc.out ?_)
    refine (CF.out _).mono ?_
    rintro e v1 ⟨rfl, hb⟩
    replace E : Hid (Below w.heap.size w v1) := E.out.trans (hb.mono E.out.size)
    replace X1 := Lib.hid (X1.out.below hb X1.out.lt)
    replace X2 := Lib.hid (X2.out.below hb X2.out.lt)
    replace X3 := Lib.hid (X3.out.below hb X3.out.lt)
    replace M := Lib.hid (M.out.below hb)
    clear hb CF
    go_wp2_with fail
    refine (sanity_any14 _).mono ?_
    rintro e v2 ⟨rfl, hb⟩
    replace E : Hid (Below w.heap.size w v2) := E.out.trans (hb.mono E.out.size)
    replace X1 := Lib.hid (X1.out.below hb X1.out.lt)
    replace X2 := Lib.hid (X2.out.below hb X2.out.lt)
    replace X3 := Lib.hid (X3.out.below hb X3.out.lt)
    replace M := Lib.hid (M.out.below hb)
    clear hb 
    go_wp2_with fail
    go_ret
    exact ⟨rfl, E.out⟩
  | true =>
    go_enter Try.func3, Try.ntmps3
    go_upto_region 1 with fail
    generalize hgg : ((w.alloc _).alloc _).alloc _ = Wg
    have hgW : w0 = Wg := by rw [← hgg, hw0'.out]
    clear hgg hw0'
    subst hgW
    try rw [hs0]
    go_wp2_with (refine wpList_blk_load rfl 24 _ rfl 0 rfl X1.out [_, _] rfl _ hunc.out rfl hszc.out ?_)
    refine (CF.out _).mono ?_
    rintro e v1 ⟨rfl, hb⟩
    replace E : Hid (Below w.heap.size w v1) := E.out.trans (hb.mono E.out.size)
    replace X1 := Lib.hid (X1.out.below hb X1.out.lt)
    replace X2 := Lib.hid (X2.out.below hb X2.out.lt)
    replace X3 := Lib.hid (X3.out.below hb X3.out.lt)
    replace M := Lib.hid (M.out.below hb)
    clear hb CF
    have q0 := X1.out.cell (j := 0) rfl
    have q1 := X2.out.cell (j := 0) rfl
    have q2 := X2.out.cell (j := 1) rfl
    go_wp2_with fail
    refine (C1.out _).mono ?_
    rintro e v2 ⟨rfl, hv⟩
    subst hv
    clear C1
    go_wp2_with fail
    refine (C2.out _).mono ?_
    rintro e v3 ⟨rfl, hb⟩
    replace E : Hid (Below w.heap.size w v3) := E.out.trans (hb.mono E.out.size)
    replace X1 := Lib.hid (X1.out.below hb X1.out.lt)
    replace X2 := Lib.hid (X2.out.below hb X2.out.lt)
    replace X3 := Lib.hid (X3.out.below hb X3.out.lt)
    replace M := Lib.hid (M.out.below hb)
    clear hb C2 q0 q1 q2
    have Y1 : Hid (Blk (v3.alloc (.cells #[.int .i64 pa, .int .i64 pb, .int .i64 pe] 36)) v3.heap.size [.int .i64 pa, .int .i64 pb, .int .i64 pe] 36) := Blk.new v3 [_, _, _] _
    have hb : Below v3.heap.size v3 (v3.alloc (.cells #[.int .i64 pa, .int .i64 pb, .int .i64 pe] 36)) := (Below.refl _ _).alloc (Nat.le_refl _) _
    replace E : Hid (Below w.heap.size w (v3.alloc (.cells #[.int .i64 pa, .int .i64 pb, .int .i64 pe] 36))) := E.out.trans (hb.mono E.out.size)
    replace X1 := Lib.hid (X1.out.below hb X1.out.lt)
    replace X2 := Lib.hid (X2.out.below hb X2.out.lt)
    replace X3 := Lib.hid (X3.out.below hb X3.out.lt)
    replace M := Lib.hid (M.out.below hb)
    clear hb
    have q0 := X1.out.cell (j := 0) rfl
    have q1 := X2.out.cell (j := 0) rfl
    have q2 := X2.out.cell (j := 1) rfl
    go_wp2_with (refine wpList_blk_load rfl 24 _ rfl 0 rfl X1.out [_, _] rfl _ hunc.out rfl hszc.out ?_)
    refine (C3.out _ M.out).mono ?_
    rintro e v4 ⟨rfl, hb⟩
    replace E : Hid (Below w.heap.size w v4) := E.out.trans (hb.mono E.out.size)
    replace X1 := Lib.hid (X1.out.below hb X1.out.lt)
    replace X2 := Lib.hid (X2.out.below hb X2.out.lt)
    replace X3 := Lib.hid (X3.out.below hb X3.out.lt)
    replace M := Lib.hid (M.out.below hb)
    replace Y1 := Lib.hid (Y1.out.below hb Y1.out.lt)
    clear hb C3 q0 q1 q2
    have Y2 : Hid (Blk (v4.alloc (.cells #[.int .i64 na, .int .i64 nb] 27)) v4.heap.size [.int .i64 na, .int .i64 nb] 27) := Blk.new v4 [_, _] _
    have hb : Below v4.heap.size v4 (v4.alloc (.cells #[.int .i64 na, .int .i64 nb] 27)) := (Below.refl _ _).alloc (Nat.le_refl _) _
    replace E : Hid (Below w.heap.size w (v4.alloc (.cells #[.int .i64 na, .int .i64 nb] 27))) := E.out.trans (hb.mono E.out.size)
    replace X1 := Lib.hid (X1.out.below hb X1.out.lt)
    replace X2 := Lib.hid (X2.out.below hb X2.out.lt)
    replace X3 := Lib.hid (X3.out.below hb X3.out.lt)
    replace M := Lib.hid (M.out.below hb)
    replace Y1 := Lib.hid (Y1.out.below hb Y1.out.lt)
    clear hb
    have q0 := X1.out.cell (j := 0) rfl
    have q1 := X2.out.cell (j := 0) rfl
    have q2 := X2.out.cell (j := 1) rfl
    go_wp2_with (refine wpList_blk_load rfl 24 _ rfl 0 rfl X1.out [_, _] rfl _ hunc.out rfl hszc.out ?_)
    refine (C4.out _ M.out).mono ?_
    rintro e v5 ⟨rfl, hb⟩
    replace E : Hid (Below w.heap.size w v5) := E.out.trans (hb.mono E.out.size)
    replace X1 := Lib.hid (X1.out.below hb X1.out.lt)
    replace X2 := Lib.hid (X2.out.below hb X2.out.lt)
    replace X3 := Lib.hid (X3.out.below hb X3.out.lt)
    replace M := Lib.hid (M.out.below hb)
    replace Y1 := Lib.hid (Y1.out.below hb Y1.out.lt)
    replace Y2 := Lib.hid (Y2.out.below hb Y2.out.lt)
    clear hb C4 q0 q1 q2
    have Y3 : Hid (Blk (v5.alloc (.cells #[.int .i64 na, .int .i64 nb, .int .i64 ne] 41)) v5.heap.size [.int .i64 na, .int .i64 nb, .int .i64 ne] 41) := Blk.new v5 [_, _, _] _
    have hb : Below v5.heap.size v5 (v5.alloc (.cells #[.int .i64 na, .int .i64 nb, .int .i64 ne] 41)) := (Below.refl _ _).alloc (Nat.le_refl _) _
    replace E : Hid (Below w.heap.size w (v5.alloc (.cells #[.int .i64 na, .int .i64 nb, .int .i64 ne] 41))) := E.out.trans (hb.mono E.out.size)
    replace X1 := Lib.hid (X1.out.below hb X1.out.lt)
    replace X2 := Lib.hid (X2.out.below hb X2.out.lt)
    replace X3 := Lib.hid (X3.out.below hb X3.out.lt)
    replace M := Lib.hid (M.out.below hb)
    replace Y1 := Lib.hid (Y1.out.below hb Y1.out.lt)
    replace Y2 := Lib.hid (Y2.out.below hb Y2.out.lt)
    clear hb
    go_wp2_with (first | (refine wpList_blk_load rfl 24 _ rfl 0 rfl X1.out [_, _] rfl _ hunc.out rfl hszc.out ?_) | (refine wpList_blk_load rfl 29 _ rfl 0 rfl X3.out [_, _, _] rfl _ hunr.out rfl hszr.out ?_))
    refine (C5.out _ M.out).mono ?_
    rintro e v6 ⟨k1, e1, rfl, hk1, hk2, hk3, hk4, hk5, hb⟩
    replace E : Hid (Below w.heap.size w v6) := E.out.trans (hb.mono E.out.size)
    replace X1 := Lib.hid (X1.out.below hb X1.out.lt)
    replace X2 := Lib.hid (X2.out.below hb X2.out.lt)
    replace X3 := Lib.hid (X3.out.below hb X3.out.lt)
    replace M := Lib.hid (M.out.below hb)
    replace Y1 := Lib.hid (Y1.out.below hb Y1.out.lt)
    replace Y2 := Lib.hid (Y2.out.below hb Y2.out.lt)
    replace Y3 := Lib.hid (Y3.out.below hb Y3.out.lt)
    subst e1
    have M1 := Lib.hid hk4
    have hr1 := Lib.hid hk1
    have hl1 := Lib.hid hk2
    clear hb C5 hk1 hk2 hk4 hk5
    have Y4 : Hid (Blk (v6.alloc (.cells #[.int .i64 k1.rate, .slice k1.A k1.n k1.c] 24)) v6.heap.size [.int .i64 k1.rate, .slice k1.A k1.n k1.c] 24) := Blk.new v6 [_, _] _
    have hb : Below v6.heap.size v6 (v6.alloc (.cells #[.int .i64 k1.rate, .slice k1.A k1.n k1.c] 24)) := (Below.refl _ _).alloc (Nat.le_refl _) _
    replace E : Hid (Below w.heap.size w (v6.alloc (.cells #[.int .i64 k1.rate, .slice k1.A k1.n k1.c] 24))) := E.out.trans (hb.mono E.out.size)
    replace X1 := Lib.hid (X1.out.below hb X1.out.lt)
    replace X2 := Lib.hid (X2.out.below hb X2.out.lt)
    replace X3 := Lib.hid (X3.out.below hb X3.out.lt)
    replace M := Lib.hid (M.out.below hb)
    replace Y1 := Lib.hid (Y1.out.below hb Y1.out.lt)
    replace Y2 := Lib.hid (Y2.out.below hb Y2.out.lt)
    replace Y3 := Lib.hid (Y3.out.below hb Y3.out.lt)
    replace M1 := Lib.hid (M1.out.below hb)
    clear hb
    go_wp2_with (first | (refine wpList_blk_load rfl 24 _ rfl 0 rfl X1.out [_, _] rfl _ hunc.out rfl hszc.out ?_) | (refine wpList_blk_load rfl 29 _ rfl 0 rfl X3.out [_, _, _] rfl _ hunr.out rfl hszr.out ?_))
    refine (C6.out _ M.out).mono ?_
    rintro e v7 ⟨k2, e2, rfl, hk1, hk2, hk3, hk4, hk5, hb⟩
    replace E : Hid (Below w.heap.size w v7) := E.out.trans (hb.mono E.out.size)
    replace X1 := Lib.hid (X1.out.below hb X1.out.lt)
    replace X2 := Lib.hid (X2.out.below hb X2.out.lt)
    replace X3 := Lib.hid (X3.out.below hb X3.out.lt)
    replace M := Lib.hid (M.out.below hb)
    replace Y1 := Lib.hid (Y1.out.below hb Y1.out.lt)
    replace Y2 := Lib.hid (Y2.out.below hb Y2.out.lt)
    replace Y3 := Lib.hid (Y3.out.below hb Y3.out.lt)
    replace M1 := Lib.hid (M1.out.below hb)
    replace Y4 := Lib.hid (Y4.out.below hb Y4.out.lt)
    subst e2
    have M2 := Lib.hid hk4
    have hr2 := Lib.hid hk1
    have hl2 := Lib.hid hk2
    clear hb C6 hk1 hk2 hk4 hk5
    have Y5 : Hid (Blk (v7.alloc (.cells #[.int .i64 k2.rate, .slice k2.A k2.n k2.c, .int .i64 se] 46)) v7.heap.size [.int .i64 k2.rate, .slice k2.A k2.n k2.c, .int .i64 se] 46) := Blk.new v7 [_, _, _] _
    have hb : Below v7.heap.size v7 (v7.alloc (.cells #[.int .i64 k2.rate, .slice k2.A k2.n k2.c, .int .i64 se] 46)) := (Below.refl _ _).alloc (Nat.le_refl _) _
    replace E : Hid (Below w.heap.size w (v7.alloc (.cells #[.int .i64 k2.rate, .slice k2.A k2.n k2.c, .int .i64 se] 46))) := E.out.trans (hb.mono E.out.size)
    replace X1 := Lib.hid (X1.out.below hb X1.out.lt)
    replace X2 := Lib.hid (X2.out.below hb X2.out.lt)
    replace X3 := Lib.hid (X3.out.below hb X3.out.lt)
    replace M := Lib.hid (M.out.below hb)
    replace Y1 := Lib.hid (Y1.out.below hb Y1.out.lt)
    replace Y2 := Lib.hid (Y2.out.below hb Y2.out.lt)
    replace Y3 := Lib.hid (Y3.out.below hb Y3.out.lt)
    replace M1 := Lib.hid (M1.out.below hb)
    replace Y4 := Lib.hid (Y4.out.below hb Y4.out.lt)
    replace M2 := Lib.hid (M2.out.below hb)
    clear hb
    go_upto_region 9 with fail
    generalize hvv : (v7.alloc (.cells #[.int .i64 k2.rate, .slice k2.A k2.n k2.c, .int .i64 se] 46)) = v8 at *
    clear hvv
    refine wp_region_planM [] [(true, 0), (true, 2), (false, 1), (false, 3), (true, 4), (true, 5), (true, 6), (true, 7), (true, 8), (true, 9), (true, 10), (true, 11), (true, 12), (true, 13), (true, 14), (true, 15), (true, 16), (true, 17), (true, 18), (true, 19), (true, 20), (true, 21), (true, 22)] (by decide) (by kernel_rfl) (by kernel_rfl) (by decide) (by intro c a d v w h; cases d <;> exact h) ?_
    change wpPlanM _ _ _ _ _ _ v8.drew
    have hb : Below v8.heap.size v8 v8.drew := (Below.refl _ _).drew
    generalize hgd : v8.drew = v9 at hb ⊢
    replace E : Hid (Below w.heap.size w v9) := E.out.trans (hb.mono E.out.size)
    replace X1 := Lib.hid (X1.out.below hb X1.out.lt)
    replace X2 := Lib.hid (X2.out.below hb X2.out.lt)
    replace X3 := Lib.hid (X3.out.below hb X3.out.lt)
    replace M := Lib.hid (M.out.below hb)
    replace Y1 := Lib.hid (Y1.out.below hb Y1.out.lt)
    replace Y2 := Lib.hid (Y2.out.below hb Y2.out.lt)
    replace Y3 := Lib.hid (Y3.out.below hb Y3.out.lt)
    replace M1 := Lib.hid (M1.out.below hb)
    replace Y4 := Lib.hid (Y4.out.below hb Y4.out.lt)
    replace M2 := Lib.hid (M2.out.below hb)
    replace Y5 := Lib.hid (Y5.out.below hb Y5.out.lt)
    clear hb hgd
    refine wpPlanM_runW rfl (by rfl) _ (fun q => load_run 24 _ rfl s0 0 rfl [.int .i64 rate, .slice A n c] _ hunc.out rfl hszc.out q.world ((Blk.below X1.out q.ext X1.out.lt).range 0 _ (take_all0 _))) ?_
    refine wpPlanM_runW rfl (by rfl) _ (fun q => load_run 24 _ rfl s0 0 rfl [.int .i64 rate, .slice A n c] _ hunc.out rfl hszc.out q.world ((Blk.below X1.out q.ext X1.out.lt).range 0 _ (take_all0 _))) ?_
    refine wpPlanM_call rfl (fun K hK => ?_)
    go_wp2_with fail
    refine (C7.out _ M.out).mono ?_
    rintro e v10 ⟨rfl, hb⟩
    have hbp := Lib.hid hb
    replace E : Hid (Below w.heap.size w v10) := E.out.trans (hb.mono E.out.size)
    replace X1 := Lib.hid (X1.out.below hb X1.out.lt)
    replace X2 := Lib.hid (X2.out.below hb X2.out.lt)
    replace X3 := Lib.hid (X3.out.below hb X3.out.lt)
    replace M := Lib.hid (M.out.below hb)
    replace Y1 := Lib.hid (Y1.out.below hb Y1.out.lt)
    replace Y2 := Lib.hid (Y2.out.below hb Y2.out.lt)
    replace Y3 := Lib.hid (Y3.out.below hb Y3.out.lt)
    replace M1 := Lib.hid (M1.out.below hb)
    replace Y4 := Lib.hid (Y4.out.below hb Y4.out.lt)
    replace M2 := Lib.hid (M2.out.below hb)
    replace Y5 := Lib.hid (Y5.out.below hb Y5.out.lt)
    clear hb
    go_wp2_with fail
    refine planPostL_normal ⟨.inr hbp.out, hK _ _ ?_⟩
    clear hK K hbp
    refine wpPlanM_call rfl (fun K hK => ?_)
    go_wp2_with fail
    refine (C8.out _ M.out).mono ?_
    rintro e v11 ⟨rfl, hb⟩
    have hbp := Lib.hid hb
    replace E : Hid (Below w.heap.size w v11) := E.out.trans (hb.mono E.out.size)
    replace X1 := Lib.hid (X1.out.below hb X1.out.lt)
    replace X2 := Lib.hid (X2.out.below hb X2.out.lt)
    replace X3 := Lib.hid (X3.out.below hb X3.out.lt)
    replace M := Lib.hid (M.out.below hb)
    replace Y1 := Lib.hid (Y1.out.below hb Y1.out.lt)
    replace Y2 := Lib.hid (Y2.out.below hb Y2.out.lt)
    replace Y3 := Lib.hid (Y3.out.below hb Y3.out.lt)
    replace M1 := Lib.hid (M1.out.below hb)
    replace Y4 := Lib.hid (Y4.out.below hb Y4.out.lt)
    replace M2 := Lib.hid (M2.out.below hb)
    replace Y5 := Lib.hid (Y5.out.below hb Y5.out.lt)
    clear hb
    go_wp2_with fail
    refine planPostL_normal ⟨.inr hbp.out, hK _ _ ?_⟩
    clear hK K hbp
    have P0 : ∀ q : ExtOf v11, q.world.cell? ⟨v3.heap.size, 0, none⟩ = some (.int .i64 pa) := fun q => (Blk.below Y1.out q.ext Y1.out.lt).cell (j := 0) rfl
    have P1 : ∀ q : ExtOf v11, q.world.cell? ⟨v3.heap.size, 1, none⟩ = some (.int .i64 pb) := fun q => (Blk.below Y1.out q.ext Y1.out.lt).cell (j := 1) rfl
    have P2 : ∀ q : ExtOf v11, q.world.cell? ⟨v3.heap.size, 2, none⟩ = some (.int .i64 pe) := fun q => (Blk.below Y1.out q.ext Y1.out.lt).cell (j := 2) rfl
    iterate 19 (refine wpPlanM_plain rfl (fun K hK => ?_); go_simp; refine hK _ ?_; clear hK K)
    refine wpPlanM_nil ?_
    clear P0 P1 P2 C7 C8
    go_upto_region 11 with fail
    go_wp2_with fail
    refine (sanity_any14 _).mono ?_
    rintro e v12 ⟨rfl, hb⟩
    replace E : Hid (Below w.heap.size w v12) := E.out.trans (hb.mono E.out.size)
    replace X1 := Lib.hid (X1.out.below hb X1.out.lt)
    replace X2 := Lib.hid (X2.out.below hb X2.out.lt)
    replace X3 := Lib.hid (X3.out.below hb X3.out.lt)
    replace M := Lib.hid (M.out.below hb)
    replace Y1 := Lib.hid (Y1.out.below hb Y1.out.lt)
    replace Y2 := Lib.hid (Y2.out.below hb Y2.out.lt)
    replace Y3 := Lib.hid (Y3.out.below hb Y3.out.lt)
    replace M1 := Lib.hid (M1.out.below hb)
    replace Y4 := Lib.hid (Y4.out.below hb Y4.out.lt)
    replace M2 := Lib.hid (M2.out.below hb)
    replace Y5 := Lib.hid (Y5.out.below hb Y5.out.lt)
    clear hb 
    have z0 := Y3.out.cell (j := 2) rfl
    have z1 := Y5.out.cell (j := 2) rfl
    go_wp2_with (first | (refine wpList_blk_loadW (by rfl) 27 _ rfl 0 rfl Y2.out [_, _] rfl _ hunw.out rfl hszw.out ?_) | (refine wpList_blk_loadW (by rfl) 27 _ rfl 0 rfl Y3.out [_, _] rfl _ hunw.out rfl hszw.out ?_) | (refine wpList_blk_loadW (by rfl) 24 _ rfl 0 rfl Y4.out [_, _] rfl _ hunc.out rfl hszc.out ?_) | (refine wpList_blk_loadW (by rfl) 24 _ rfl 0 rfl Y5.out [_, _] rfl _ hunc.out rfl hszc.out ?_) | (refine wpList_runW (by rfl) _ (eqw_run _ _ _ rfl na nb na nb rfl rfl true (by simp) _) ?_))
    refine (same14_any k1 k2 _ M1.out M2.out (by rw [hr2.out, hr1.out]) (by rw [hl2.out, hl1.out])).mono ?_
    rintro e v13 ⟨rfl, hb⟩
    replace E : Hid (Below w.heap.size w v13) := E.out.trans (hb.mono E.out.size)
    replace X1 := Lib.hid (X1.out.below hb X1.out.lt)
    replace X2 := Lib.hid (X2.out.below hb X2.out.lt)
    replace X3 := Lib.hid (X3.out.below hb X3.out.lt)
    replace M := Lib.hid (M.out.below hb)
    replace Y1 := Lib.hid (Y1.out.below hb Y1.out.lt)
    replace Y2 := Lib.hid (Y2.out.below hb Y2.out.lt)
    replace Y3 := Lib.hid (Y3.out.below hb Y3.out.lt)
    replace M1 := Lib.hid (M1.out.below hb)
    replace Y4 := Lib.hid (Y4.out.below hb Y4.out.lt)
    replace M2 := Lib.hid (M2.out.below hb)
    replace Y5 := Lib.hid (Y5.out.below hb Y5.out.lt)
    clear hb 
    go_wp2_with fail
    go_ret
    exact ⟨by first | rfl | (simp; done), E.out⟩
end Go.Proofs.Ytpdalebnodgcdaa
