/-
  Stage 14 (clock): the walk of ClockAnswersAsSpecified. (Written by tools/genuw.py.)
-/
import Derived.Test.YtpdalebnodgcdaaUr
namespace Go.Proofs.Ytpdalebnodgcdaa
set_option linter.unusedVariables false
set_option linter.unusedSimpArgs false
open Go.RowKit
attribute [local irreducible] wpPlanM

set_option maxRecDepth 100000 in
set_option maxHeartbeats 4000000 in
theorem answers_walk (k : Clk) (x y a b c d : Int) (w : World) (m : ClkM w w.heap.size k) :
    Calls Try.prog 4 #[.agg #[.int .i64 k.rate, .slice k.A k.n k.c], .agg #[.int .i64 x, .int .i64 y], .agg #[.int .i64 a, .int .i64 b, .int .i64 c, .int .i64 d]] w fun e w' => e = .returned (.bool true) ∧ Below w.heap.size w w' := by
  rcases k with ⟨rate, A, n, cc, l⟩
  dsimp only at *
  obtain ⟨w0, hw0⟩ : ∃ w0, w0 = ((w.alloc (.cells #[.int .i64 rate, .slice A n cc] 24)).alloc (.cells #[.int .i64 x, .int .i64 y] 25)).alloc (.cells #[.int .i64 a, .int .i64 b, .int .i64 c, .int .i64 d] 51) := ⟨_, rfl⟩
  have E : Hid (Below w.heap.size w w0) := by show Below _ _ _; rw [hw0]; exact (((Below.refl _ _).alloc (Nat.le_refl _) _).alloc (by simp) _).alloc (by simp; omega) _
  have X1 : Hid (Blk w0 w.heap.size [.int .i64 rate, .slice A n cc] 24) := by show Blk _ _ _ _; rw [hw0]; exact ((Blk.new w [_, _] _).alloc _).alloc _
  have X2 : Hid (Blk w0 (w.heap.size + 1) [.int .i64 x, .int .i64 y] 25) := by show Blk _ _ _ _; rw [hw0]; exact ((Blk.new _ [_, _] _).at (by simp)).alloc _
  have X3 : Hid (Blk w0 (w.heap.size + 2) [.int .i64 a, .int .i64 b, .int .i64 c, .int .i64 d] 51) := by show Blk _ _ _ _; rw [hw0]; exact (Blk.new _ [_, _, _, _] _).at (by simp)
  have M := Lib.hid (m.below E.out)
  have hw0' := Lib.hid hw0
  clear hw0 m
  have hszc := Lib.hid size_clk
  have hunc : Hid (Try.prog.underlying 24 = _) := Try.underlying24
  have hszr := Lib.hid size_rdg
  have hunr : Hid (Try.prog.underlying 29 = _) := Try.underlying29
  have hszw := Lib.hid size_whn
  have hunw : Hid (Try.prog.underlying 27 = _) := Try.underlying27
  obtain ⟨s0, hs0⟩ : ∃ s, w.heap.size = s := ⟨_, rfl⟩
  have CF := Lib.hid (fun W => few_any14 ⟨rate, A, n, cc, l⟩ W)
  dsimp only at CF
  have C1 := Lib.hid (fun W (h : ClkM W s0 ⟨rate, A, n, cc, l⟩) => answer_any _ x y a b W h)
  have C2 := Lib.hid (fun W (h : ClkM W s0 ⟨rate, A, n, cc, l⟩) => rAnswer_any _ x y a b W h)
  have C3 := Lib.hid (fun W => join_any a b c d W)
  have C4 := Lib.hid (fun W => rJoin_any a b c d W)
  have C5 := Lib.hid (fun W => valid_any a b W)
  have C6 := Lib.hid (fun W => valid_any c d W)
  have C7 := Lib.hid (fun W => order_any a b c d W)
  have C8 := Lib.hid (fun W => rOrder_any a b c d W)
  dsimp only at C1 C2
  generalize anR rate l x y a b = ar at *
  generalize anE rate l x y a b = ae at *
  generalize jnLo a b c d = jl at *
  generalize jnHi a b c d = jh at *
  generalize jnE a b c d = je at *
  generalize ordW a b c d = od at *
  generalize okW a b = p at *
  generalize okW c d = q at *
  rw [hs0] at M X1 X2 X3
  obtain ⟨f0, hf0⟩ : ∃ f, decide (n ≤ 20) = f := ⟨_, rfl⟩
  rw [hf0] at CF
  clear hf0
  cases f0 with
  | false =>
    go_enter Try.func4, Try.ntmps4
    go_upto_region 1 with fail
    generalize hgg : ((w.alloc _).alloc _).alloc _ = Wg
    have hgW : w0 = Wg := by rw [← hgg, hw0'.out]
    clear hgg hw0'
    subst hgW
    try rw [hs0]
    go_wp2_with (refine wpList_blk_load rfl 24 _ rfl 0 rfl X1.out [_, _] rfl _ hunc.out rfl hszc.out ?_)
    refine (CF.out _).mono ?_
    rintro e v1 ⟨rfl, hb⟩
    replace E : Hid (Below w.heap.size w v1) := E.out.trans (hb.mono E.out.size)
    replace X1 := Lib.hid (X1.out.below hb X1.out.lt)
    replace X2 := Lib.hid (X2.out.below hb X2.out.lt)
    replace X3 := Lib.hid (X3.out.below hb X3.out.lt)
    replace M := Lib.hid (M.out.below hb)
    clear hb CF
    go_wp2_with fail
    refine (sanity_any14 _).mono ?_
    rintro e v2 ⟨rfl, hb⟩
    replace E : Hid (Below w.heap.size w v2) := E.out.trans (hb.mono E.out.size)
    replace X1 := Lib.hid (X1.out.below hb X1.out.lt)
    replace X2 := Lib.hid (X2.out.below hb X2.out.lt)
    replace X3 := Lib.hid (X3.out.below hb X3.out.lt)
    replace M := Lib.hid (M.out.below hb)
    clear hb 
    go_wp2_with fail
    go_ret
    exact ⟨rfl, E.out⟩
  | true =>
    go_enter Try.func4, Try.ntmps4
    go_upto_region 1 with fail
    generalize hgg : ((w.alloc _).alloc _).alloc _ = Wg
    have hgW : w0 = Wg := by rw [← hgg, hw0'.out]
    clear hgg hw0'
    subst hgW
    try rw [hs0]
    go_wp2_with (refine wpList_blk_load rfl 24 _ rfl 0 rfl X1.out [_, _] rfl _ hunc.out rfl hszc.out ?_)
    refine (CF.out _).mono ?_
    rintro e v1 ⟨rfl, hb⟩
    replace E : Hid (Below w.heap.size w v1) := E.out.trans (hb.mono E.out.size)
    replace X1 := Lib.hid (X1.out.below hb X1.out.lt)
    replace X2 := Lib.hid (X2.out.below hb X2.out.lt)
    replace X3 := Lib.hid (X3.out.below hb X3.out.lt)
    replace M := Lib.hid (M.out.below hb)
    clear hb CF
    have q1 := X2.out.cell (j := 0) rfl
    have q2 := X2.out.cell (j := 1) rfl
    go_wp2_with (first | (refine wpList_blk_load rfl 24 _ rfl 0 rfl X1.out [_, _] rfl _ hunc.out rfl hszc.out ?_) | (refine wpList_blk_load rfl 27 _ rfl 0 rfl X3.out [_, _] rfl _ hunw.out rfl hszw.out ?_) | (refine wpList_blk_load rfl 27 _ rfl 2 rfl X3.out [_, _] rfl _ hunw.out rfl hszw.out ?_))
    refine (C1.out _ M.out).mono ?_
    rintro e v2 ⟨rfl, hb⟩
    replace E : Hid (Below w.heap.size w v2) := E.out.trans (hb.mono E.out.size)
    replace X1 := Lib.hid (X1.out.below hb X1.out.lt)
    replace X2 := Lib.hid (X2.out.below hb X2.out.lt)
    replace X3 := Lib.hid (X3.out.below hb X3.out.lt)
    replace M := Lib.hid (M.out.below hb)
    clear hb C1 q1 q2
    have Y1 : Hid (Blk (v2.alloc (.cells #[.int .i64 ar.L, .int .i64 ar.lo, .int .i64 ar.hi] 29)) v2.heap.size [.int .i64 ar.L, .int .i64 ar.lo, .int .i64 ar.hi] 29) := Blk.new v2 [_, _, _] _
    have hb : Below v2.heap.size v2 (v2.alloc (.cells #[.int .i64 ar.L, .int .i64 ar.lo, .int .i64 ar.hi] 29)) := (Below.refl _ _).alloc (Nat.le_refl _) _
    replace E : Hid (Below w.heap.size w (v2.alloc (.cells #[.int .i64 ar.L, .int .i64 ar.lo, .int .i64 ar.hi] 29))) := E.out.trans (hb.mono E.out.size)
    replace X1 := Lib.hid (X1.out.below hb X1.out.lt)
    replace X2 := Lib.hid (X2.out.below hb X2.out.lt)
    replace X3 := Lib.hid (X3.out.below hb X3.out.lt)
    replace M := Lib.hid (M.out.below hb)
    clear hb
    have q1 := X2.out.cell (j := 0) rfl
    have q2 := X2.out.cell (j := 1) rfl
    go_wp2_with (first | (refine wpList_blk_load rfl 24 _ rfl 0 rfl X1.out [_, _] rfl _ hunc.out rfl hszc.out ?_) | (refine wpList_blk_load rfl 27 _ rfl 0 rfl X3.out [_, _] rfl _ hunw.out rfl hszw.out ?_) | (refine wpList_blk_load rfl 27 _ rfl 2 rfl X3.out [_, _] rfl _ hunw.out rfl hszw.out ?_))
    refine (C2.out _ M.out).mono ?_
    rintro e v3 ⟨rfl, hb⟩
    replace E : Hid (Below w.heap.size w v3) := E.out.trans (hb.mono E.out.size)
    replace X1 := Lib.hid (X1.out.below hb X1.out.lt)
    replace X2 := Lib.hid (X2.out.below hb X2.out.lt)
    replace X3 := Lib.hid (X3.out.below hb X3.out.lt)
    replace M := Lib.hid (M.out.below hb)
    replace Y1 := Lib.hid (Y1.out.below hb Y1.out.lt)
    clear hb C2 q1 q2
    have Y2 : Hid (Blk (v3.alloc (.cells #[.int .i64 ar.L, .int .i64 ar.lo, .int .i64 ar.hi, .int .i64 ae] 55)) v3.heap.size [.int .i64 ar.L, .int .i64 ar.lo, .int .i64 ar.hi, .int .i64 ae] 55) := Blk.new v3 [_, _, _, _] _
    have hb : Below v3.heap.size v3 (v3.alloc (.cells #[.int .i64 ar.L, .int .i64 ar.lo, .int .i64 ar.hi, .int .i64 ae] 55)) := (Below.refl _ _).alloc (Nat.le_refl _) _
    replace E : Hid (Below w.heap.size w (v3.alloc (.cells #[.int .i64 ar.L, .int .i64 ar.lo, .int .i64 ar.hi, .int .i64 ae] 55))) := E.out.trans (hb.mono E.out.size)
    replace X1 := Lib.hid (X1.out.below hb X1.out.lt)
    replace X2 := Lib.hid (X2.out.below hb X2.out.lt)
    replace X3 := Lib.hid (X3.out.below hb X3.out.lt)
    replace M := Lib.hid (M.out.below hb)
    replace Y1 := Lib.hid (Y1.out.below hb Y1.out.lt)
    clear hb
    go_wp2_with (first | (refine wpList_blk_load rfl 24 _ rfl 0 rfl X1.out [_, _] rfl _ hunc.out rfl hszc.out ?_) | (refine wpList_blk_load rfl 27 _ rfl 0 rfl X3.out [_, _] rfl _ hunw.out rfl hszw.out ?_) | (refine wpList_blk_load rfl 27 _ rfl 2 rfl X3.out [_, _] rfl _ hunw.out rfl hszw.out ?_))
    refine (C3.out _).mono ?_
    rintro e v4 ⟨rfl, hb⟩
    replace E : Hid (Below w.heap.size w v4) := E.out.trans (hb.mono E.out.size)
    replace X1 := Lib.hid (X1.out.below hb X1.out.lt)
    replace X2 := Lib.hid (X2.out.below hb X2.out.lt)
    replace X3 := Lib.hid (X3.out.below hb X3.out.lt)
    replace M := Lib.hid (M.out.below hb)
    replace Y1 := Lib.hid (Y1.out.below hb Y1.out.lt)
    replace Y2 := Lib.hid (Y2.out.below hb Y2.out.lt)
    clear hb C3
    have Y3 : Hid (Blk (v4.alloc (.cells #[.int .i64 jl, .int .i64 jh] 27)) v4.heap.size [.int .i64 jl, .int .i64 jh] 27) := Blk.new v4 [_, _] _
    have hb : Below v4.heap.size v4 (v4.alloc (.cells #[.int .i64 jl, .int .i64 jh] 27)) := (Below.refl _ _).alloc (Nat.le_refl _) _
    replace E : Hid (Below w.heap.size w (v4.alloc (.cells #[.int .i64 jl, .int .i64 jh] 27))) := E.out.trans (hb.mono E.out.size)
    replace X1 := Lib.hid (X1.out.below hb X1.out.lt)
    replace X2 := Lib.hid (X2.out.below hb X2.out.lt)
    replace X3 := Lib.hid (X3.out.below hb X3.out.lt)
    replace M := Lib.hid (M.out.below hb)
    replace Y1 := Lib.hid (Y1.out.below hb Y1.out.lt)
    replace Y2 := Lib.hid (Y2.out.below hb Y2.out.lt)
    clear hb
    go_wp2_with (first | (refine wpList_blk_load rfl 24 _ rfl 0 rfl X1.out [_, _] rfl _ hunc.out rfl hszc.out ?_) | (refine wpList_blk_load rfl 27 _ rfl 0 rfl X3.out [_, _] rfl _ hunw.out rfl hszw.out ?_) | (refine wpList_blk_load rfl 27 _ rfl 2 rfl X3.out [_, _] rfl _ hunw.out rfl hszw.out ?_))
    refine (C4.out _).mono ?_
    rintro e v5 ⟨rfl, hb⟩
    replace E : Hid (Below w.heap.size w v5) := E.out.trans (hb.mono E.out.size)
    replace X1 := Lib.hid (X1.out.below hb X1.out.lt)
    replace X2 := Lib.hid (X2.out.below hb X2.out.lt)
    replace X3 := Lib.hid (X3.out.below hb X3.out.lt)
    replace M := Lib.hid (M.out.below hb)
    replace Y1 := Lib.hid (Y1.out.below hb Y1.out.lt)
    replace Y2 := Lib.hid (Y2.out.below hb Y2.out.lt)
    replace Y3 := Lib.hid (Y3.out.below hb Y3.out.lt)
    clear hb C4
    have Y4 : Hid (Blk (v5.alloc (.cells #[.int .i64 jl, .int .i64 jh, .int .i64 je] 41)) v5.heap.size [.int .i64 jl, .int .i64 jh, .int .i64 je] 41) := Blk.new v5 [_, _, _] _
    have hb : Below v5.heap.size v5 (v5.alloc (.cells #[.int .i64 jl, .int .i64 jh, .int .i64 je] 41)) := (Below.refl _ _).alloc (Nat.le_refl _) _
    replace E : Hid (Below w.heap.size w (v5.alloc (.cells #[.int .i64 jl, .int .i64 jh, .int .i64 je] 41))) := E.out.trans (hb.mono E.out.size)
    replace X1 := Lib.hid (X1.out.below hb X1.out.lt)
    replace X2 := Lib.hid (X2.out.below hb X2.out.lt)
    replace X3 := Lib.hid (X3.out.below hb X3.out.lt)
    replace M := Lib.hid (M.out.below hb)
    replace Y1 := Lib.hid (Y1.out.below hb Y1.out.lt)
    replace Y2 := Lib.hid (Y2.out.below hb Y2.out.lt)
    replace Y3 := Lib.hid (Y3.out.below hb Y3.out.lt)
    clear hb
    go_upto_region 7 with fail
    generalize hvv : (v5.alloc (.cells #[.int .i64 jl, .int .i64 jh, .int .i64 je] 41)) = v6 at *
    clear hvv
    have z0 := Y2.out.cell (j := 3) rfl
    have z1 := Y4.out.cell (j := 2) rfl
    go_wp2_with (first | (refine wpList_blk_loadW (by rfl) 29 _ rfl 0 rfl Y1.out [_, _, _] rfl _ hunr.out rfl hszr.out ?_) | (refine wpList_blk_loadW (by rfl) 29 _ rfl 0 rfl Y2.out [_, _, _] rfl _ hunr.out rfl hszr.out ?_) | (refine wpList_blk_loadW (by rfl) 27 _ rfl 0 rfl Y3.out [_, _] rfl _ hunw.out rfl hszw.out ?_) | (refine wpList_blk_loadW (by rfl) 27 _ rfl 0 rfl Y4.out [_, _] rfl _ hunw.out rfl hszw.out ?_) | (refine wpList_runW (by rfl) _ (ner_run _ _ _ rfl ar ar rfl rfl false (by simp) _) ?_) | (refine wpList_runW (by rfl) _ (new_run _ _ _ rfl jl jh jl jh rfl rfl false (by simp) _) ?_))
    clear z0 z1
    cases p with
    | false =>
      refine wp_region_planM [] [(false, 0), (true, 1), (true, 2), (true, 3), (false, 4), (true, 5), (true, 6), (true, 7), (true, 8), (false, 9), (true, 10), (true, 11), (true, 12), (true, 13), (true, 14), (true, 15), (true, 16), (true, 18), (true, 19), (true, 20), (true, 21), (false, 17), (false, 22), (true, 23), (true, 24), (true, 25), (true, 26)] (by decide) (by kernel_rfl) (by kernel_rfl) (by decide) (by intro c a d v w h; cases d <;> exact h) ?_
      change wpPlanM _ _ _ _ _ _ v6.drew
      have hb : Below v6.heap.size v6 v6.drew := (Below.refl _ _).drew
      generalize hgd : v6.drew = v7 at hb ⊢
      replace E : Hid (Below w.heap.size w v7) := E.out.trans (hb.mono E.out.size)
      replace X3 := Lib.hid (X3.out.below hb X3.out.lt)
      clear hb hgd
      refine wpPlanM_call rfl (fun K hK => ?_)
      go_wp2_with fail
      refine (sanity_any14 _).mono ?_
      rintro e v8 ⟨rfl, hb⟩
      have hbp := Lib.hid hb
      replace E : Hid (Below w.heap.size w v8) := E.out.trans (hb.mono E.out.size)
      replace X3 := Lib.hid (X3.out.below hb X3.out.lt)
      clear hb
      go_wp2_with fail
      refine planPostL_normal ⟨.inr hbp.out, hK _ _ ?_⟩
      clear hK K hbp
      iterate 2 (refine wpPlanM_plain rfl (fun K hK => ?_); go_simp; refine hK _ ?_; clear hK K)
      refine wpPlanM_runW rfl (by rfl) _ (fun q => load_run 27 _ rfl (s0 + 2) 0 rfl [.int .i64 a, .int .i64 b] _ hunw.out rfl hszw.out q.world ((Blk.below X3.out q.ext X3.out.lt).range 0 _ rfl)) ?_
      refine wpPlanM_call rfl (fun K hK => ?_)
      go_wp2_with fail
      refine (C5.out _).mono ?_
      rintro e v9 ⟨rfl, hb⟩
      have hbp := Lib.hid hb
      replace E : Hid (Below w.heap.size w v9) := E.out.trans (hb.mono E.out.size)
      replace X3 := Lib.hid (X3.out.below hb X3.out.lt)
      clear hb
      go_wp2_with fail
      refine planPostL_normal ⟨.inr hbp.out, hK _ _ ?_⟩
      clear hK K hbp
      iterate 2 (refine wpPlanM_plain rfl (fun K hK => ?_); go_simp; refine hK _ ?_; clear hK K)
      iterate 1 (refine wpPlanM_plain rfl (fun K hK => ?_); go_simp; skip; refine hK _ ?_; clear hK K)
      iterate 1 (refine wpPlanM_plain rfl (fun K hK => ?_); go_simp; skip; refine hK _ ?_; clear hK K)
      refine wpPlanM_call rfl (fun K hK => ?_)
      refine wpList_skip (by rfl) ?_
      refine wpList_end (planPostL_normal ⟨.inr (Below.refl _ _), ?_⟩)
      go_simp
      skip
      refine hK _ _ ?_
      clear hK K
      iterate 3 (refine wpPlanM_plain rfl (fun K hK => ?_); go_simp; skip; refine hK _ ?_; clear hK K)
      iterate 8 (refine wpPlanM_plain rfl (fun K hK => ?_); go_simp; skip; refine hK _ ?_; clear hK K)
      refine wpPlanM_call rfl (fun K hK => ?_)
      refine wpList_skip (by rfl) ?_
      refine wpList_end (planPostL_normal ⟨.inr (Below.refl _ _), ?_⟩)
      go_simp
      skip
      refine hK _ _ ?_
      clear hK K
      refine wpPlanM_call rfl (fun K hK => ?_)
      refine wpList_skip (by rfl) ?_
      refine wpList_end (planPostL_normal ⟨.inr (Below.refl _ _), ?_⟩)
      go_simp
      skip
      refine hK _ _ ?_
      clear hK K
      iterate 4 (refine wpPlanM_plain rfl (fun K hK => ?_); go_simp; skip; refine hK _ ?_; clear hK K)
      refine wpPlanM_nil ?_
      go_wp2_with fail
      go_ret
      exact ⟨by first | rfl | (go_simp; done), E.out⟩
    | true =>
      cases q with
      | false =>
        refine wp_region_planM [] [(false, 0), (true, 1), (true, 2), (true, 3), (false, 4), (true, 5), (true, 6), (true, 7), (true, 8), (false, 9), (true, 10), (true, 11), (true, 12), (true, 13), (true, 14), (true, 15), (true, 16), (true, 18), (true, 19), (true, 20), (true, 21), (false, 17), (false, 22), (true, 23), (true, 24), (true, 25), (true, 26)] (by decide) (by kernel_rfl) (by kernel_rfl) (by decide) (by intro c a d v w h; cases d <;> exact h) ?_
        change wpPlanM _ _ _ _ _ _ v6.drew
        have hb : Below v6.heap.size v6 v6.drew := (Below.refl _ _).drew
        generalize hgd : v6.drew = v7 at hb ⊢
        replace E : Hid (Below w.heap.size w v7) := E.out.trans (hb.mono E.out.size)
        replace X3 := Lib.hid (X3.out.below hb X3.out.lt)
        clear hb hgd
        refine wpPlanM_call rfl (fun K hK => ?_)
        go_wp2_with fail
        refine (sanity_any14 _).mono ?_
        rintro e v8 ⟨rfl, hb⟩
        have hbp := Lib.hid hb
        replace E : Hid (Below w.heap.size w v8) := E.out.trans (hb.mono E.out.size)
        replace X3 := Lib.hid (X3.out.below hb X3.out.lt)
        clear hb
        go_wp2_with fail
        refine planPostL_normal ⟨.inr hbp.out, hK _ _ ?_⟩
        clear hK K hbp
        iterate 2 (refine wpPlanM_plain rfl (fun K hK => ?_); go_simp; refine hK _ ?_; clear hK K)
        refine wpPlanM_runW rfl (by rfl) _ (fun q => load_run 27 _ rfl (s0 + 2) 0 rfl [.int .i64 a, .int .i64 b] _ hunw.out rfl hszw.out q.world ((Blk.below X3.out q.ext X3.out.lt).range 0 _ rfl)) ?_
        refine wpPlanM_call rfl (fun K hK => ?_)
        go_wp2_with fail
        refine (C5.out _).mono ?_
        rintro e v9 ⟨rfl, hb⟩
        have hbp := Lib.hid hb
        replace E : Hid (Below w.heap.size w v9) := E.out.trans (hb.mono E.out.size)
        replace X3 := Lib.hid (X3.out.below hb X3.out.lt)
        clear hb
        go_wp2_with fail
        refine planPostL_normal ⟨.inr hbp.out, hK _ _ ?_⟩
        clear hK K hbp
        iterate 2 (refine wpPlanM_plain rfl (fun K hK => ?_); go_simp; refine hK _ ?_; clear hK K)
        iterate 1 (refine wpPlanM_plain rfl (fun K hK => ?_); go_simp; skip; refine hK _ ?_; clear hK K)
        refine wpPlanM_runW rfl (by rfl) _ (fun q => load_run 27 _ rfl (s0 + 2) 2 rfl [.int .i64 c, .int .i64 d] _ hunw.out rfl hszw.out q.world ((Blk.below X3.out q.ext X3.out.lt).range 2 _ rfl)) ?_
        refine wpPlanM_call rfl (fun K hK => ?_)
        go_wp2_with fail
        refine (C6.out _).mono ?_
        rintro e v10 ⟨rfl, hb⟩
        have hbp := Lib.hid hb
        replace E : Hid (Below w.heap.size w v10) := E.out.trans (hb.mono E.out.size)
        replace X3 := Lib.hid (X3.out.below hb X3.out.lt)
        clear hb
        go_wp2_with fail
        refine planPostL_normal ⟨.inr hbp.out, hK _ _ ?_⟩
        clear hK K hbp
        iterate 3 (refine wpPlanM_plain rfl (fun K hK => ?_); go_simp; skip; refine hK _ ?_; clear hK K)
        iterate 8 (refine wpPlanM_plain rfl (fun K hK => ?_); go_simp; skip; refine hK _ ?_; clear hK K)
        refine wpPlanM_call rfl (fun K hK => ?_)
        refine wpList_skip (by rfl) ?_
        refine wpList_end (planPostL_normal ⟨.inr (Below.refl _ _), ?_⟩)
        go_simp
        skip
        refine hK _ _ ?_
        clear hK K
        refine wpPlanM_call rfl (fun K hK => ?_)
        refine wpList_skip (by rfl) ?_
        refine wpList_end (planPostL_normal ⟨.inr (Below.refl _ _), ?_⟩)
        go_simp
        skip
        refine hK _ _ ?_
        clear hK K
        iterate 4 (refine wpPlanM_plain rfl (fun K hK => ?_); go_simp; skip; refine hK _ ?_; clear hK K)
        refine wpPlanM_nil ?_
        go_wp2_with fail
        go_ret
        exact ⟨by first | rfl | (go_simp; done), E.out⟩
      | true =>
        refine wp_region_planM [] [(false, 0), (true, 1), (true, 2), (true, 3), (false, 4), (true, 5), (true, 6), (true, 7), (true, 8), (false, 9), (true, 10), (true, 11), (true, 12), (true, 13), (true, 14), (true, 15), (true, 16), (true, 18), (true, 19), (true, 20), (true, 21), (false, 17), (false, 22), (true, 23), (true, 24), (true, 25), (true, 26)] (by decide) (by kernel_rfl) (by kernel_rfl) (by decide) (by intro c a d v w h; cases d <;> exact h) ?_
        change wpPlanM _ _ _ _ _ _ v6.drew
        have hb : Below v6.heap.size v6 v6.drew := (Below.refl _ _).drew
        generalize hgd : v6.drew = v7 at hb ⊢
        replace E : Hid (Below w.heap.size w v7) := E.out.trans (hb.mono E.out.size)
        replace X3 := Lib.hid (X3.out.below hb X3.out.lt)
        clear hb hgd
        refine wpPlanM_call rfl (fun K hK => ?_)
        go_wp2_with fail
        refine (sanity_any14 _).mono ?_
        rintro e v8 ⟨rfl, hb⟩
        have hbp := Lib.hid hb
        replace E : Hid (Below w.heap.size w v8) := E.out.trans (hb.mono E.out.size)
        replace X3 := Lib.hid (X3.out.below hb X3.out.lt)
        clear hb
        go_wp2_with fail
        refine planPostL_normal ⟨.inr hbp.out, hK _ _ ?_⟩
        clear hK K hbp
        iterate 2 (refine wpPlanM_plain rfl (fun K hK => ?_); go_simp; refine hK _ ?_; clear hK K)
        refine wpPlanM_runW rfl (by rfl) _ (fun q => load_run 27 _ rfl (s0 + 2) 0 rfl [.int .i64 a, .int .i64 b] _ hunw.out rfl hszw.out q.world ((Blk.below X3.out q.ext X3.out.lt).range 0 _ rfl)) ?_
        refine wpPlanM_call rfl (fun K hK => ?_)
        go_wp2_with fail
        refine (C5.out _).mono ?_
        rintro e v9 ⟨rfl, hb⟩
        have hbp := Lib.hid hb
        replace E : Hid (Below w.heap.size w v9) := E.out.trans (hb.mono E.out.size)
        replace X3 := Lib.hid (X3.out.below hb X3.out.lt)
        clear hb
        go_wp2_with fail
        refine planPostL_normal ⟨.inr hbp.out, hK _ _ ?_⟩
        clear hK K hbp
        iterate 2 (refine wpPlanM_plain rfl (fun K hK => ?_); go_simp; refine hK _ ?_; clear hK K)
        iterate 1 (refine wpPlanM_plain rfl (fun K hK => ?_); go_simp; skip; refine hK _ ?_; clear hK K)
        refine wpPlanM_runW rfl (by rfl) _ (fun q => load_run 27 _ rfl (s0 + 2) 2 rfl [.int .i64 c, .int .i64 d] _ hunw.out rfl hszw.out q.world ((Blk.below X3.out q.ext X3.out.lt).range 2 _ rfl)) ?_
        refine wpPlanM_call rfl (fun K hK => ?_)
        go_wp2_with fail
        refine (C6.out _).mono ?_
        rintro e v10 ⟨rfl, hb⟩
        have hbp := Lib.hid hb
        replace E : Hid (Below w.heap.size w v10) := E.out.trans (hb.mono E.out.size)
        replace X3 := Lib.hid (X3.out.below hb X3.out.lt)
        clear hb
        go_wp2_with fail
        refine planPostL_normal ⟨.inr hbp.out, hK _ _ ?_⟩
        clear hK K hbp
        iterate 3 (refine wpPlanM_plain rfl (fun K hK => ?_); go_simp; skip; refine hK _ ?_; clear hK K)
        iterate 1 (refine wpPlanM_plain rfl (fun K hK => ?_); go_simp; refine hK _ ?_; clear hK K)
        refine wpPlanM_runW rfl (by rfl) _ (fun q => load_run 27 _ rfl (s0 + 2) 0 rfl [.int .i64 a, .int .i64 b] _ hunw.out rfl hszw.out q.world ((Blk.below X3.out q.ext X3.out.lt).range 0 _ rfl)) ?_
        iterate 1 (refine wpPlanM_plain rfl (fun K hK => ?_); go_simp; refine hK _ ?_; clear hK K)
        refine wpPlanM_runW rfl (by rfl) _ (fun q => load_run 27 _ rfl (s0 + 2) 2 rfl [.int .i64 c, .int .i64 d] _ hunw.out rfl hszw.out q.world ((Blk.below X3.out q.ext X3.out.lt).range 2 _ rfl)) ?_
        iterate 1 (refine wpPlanM_plain rfl (fun K hK => ?_); go_simp; refine hK _ ?_; clear hK K)
        refine wpPlanM_runW rfl (by rfl) _ (fun q => load_run 27 _ rfl (s0 + 2) 0 rfl [.int .i64 a, .int .i64 b] _ hunw.out rfl hszw.out q.world ((Blk.below X3.out q.ext X3.out.lt).range 0 _ rfl)) ?_
        iterate 1 (refine wpPlanM_plain rfl (fun K hK => ?_); go_simp; refine hK _ ?_; clear hK K)
        refine wpPlanM_runW rfl (by rfl) _ (fun q => load_run 27 _ rfl (s0 + 2) 2 rfl [.int .i64 c, .int .i64 d] _ hunw.out rfl hszw.out q.world ((Blk.below X3.out q.ext X3.out.lt).range 2 _ rfl)) ?_
        refine wpPlanM_call rfl (fun K hK => ?_)
        go_wp2_with fail
        refine (C7.out _).mono ?_
        rintro e v11 ⟨rfl, hb⟩
        have hbp := Lib.hid hb
        replace E : Hid (Below w.heap.size w v11) := E.out.trans (hb.mono E.out.size)
        replace X3 := Lib.hid (X3.out.below hb X3.out.lt)
        clear hb
        go_wp2_with fail
        refine planPostL_normal ⟨.inr hbp.out, hK _ _ ?_⟩
        clear hK K hbp
        refine wpPlanM_call rfl (fun K hK => ?_)
        go_wp2_with fail
        refine (C8.out _).mono ?_
        rintro e v12 ⟨rfl, hb⟩
        have hbp := Lib.hid hb
        replace E : Hid (Below w.heap.size w v12) := E.out.trans (hb.mono E.out.size)
        replace X3 := Lib.hid (X3.out.below hb X3.out.lt)
        clear hb
        go_wp2_with fail
        refine planPostL_normal ⟨.inr hbp.out, hK _ _ ?_⟩
        clear hK K hbp
        iterate 4 (refine wpPlanM_plain rfl (fun K hK => ?_); go_simp; skip; refine hK _ ?_; clear hK K)
        refine wpPlanM_nil ?_
        go_wp2_with fail
        go_ret
        exact ⟨by first | rfl | (go_simp; done), E.out⟩
end Go.Proofs.Ytpdalebnodgcdaa
