/-
  Stage 14 (clock): sanity, which calls all of the package. (Written by tools/genur.py.)
-/
import Derived.Test.YtbkgbjimooobbaaUq
namespace Go.Proofs.Ytbkgbjimooobbaa
set_option linter.unusedVariables false
set_option linter.unusedSimpArgs false
open Go.RowKit

set_option maxRecDepth 100000 in
set_option maxHeartbeats 16000000 in
theorem sanity_any14 (w : World) : Calls Try.prog 4 #[] w fun e w' => e = .returned (.bool true) ∧ Below w.heap.size w w' := by
  have hszc := Lib.hid size_clk
  have hunc : Hid (Try.prog.underlying 30 = _) := Try.underlying30
  have hszr := Lib.hid size_rdg
  have hunr : Hid (Try.prog.underlying 48 = _) := Try.underlying48
  have hszw := Lib.hid size_whn
  have hunw : Hid (Try.prog.underlying 45 = _) := Try.underlying45
  have E : Hid (Below w.heap.size w w) := Below.refl _ _
  have CW := Lib.hid (fun a b W => when_any a b W)
  go_enter Try.func4, Try.ntmps4
  go_wp2_with fail
  refine (CW.out 50 60 _).mono ?_
  rintro e v1 ⟨rfl, hb⟩
  replace E : Hid (Below w.heap.size w v1) := E.out.trans (hb.mono E.out.size)
  clear hb 
  have hbs := run_build_rdg 100 50 60 v1
  have hb1 : Below v1.heap.size v1 (v1.alloc (.cells #[.int .i64 100, .int .i64 50, .int .i64 60] 48)) := (Below.refl _ _).alloc (Nat.le_refl _) _
  have hr0 : Rds (v1.alloc (.cells #[.int .i64 100, .int .i64 50, .int .i64 60] 48)) (v1.heap.size + 1) (some ⟨v1.heap.size, 0, none⟩) (rdf l0) := Rds.new v1 [.int .i64 100, .int .i64 50, .int .i64 60] _
  have hsz2 : (v1.alloc (.cells #[.int .i64 100, .int .i64 50, .int .i64 60] 48)).heap.size = v1.heap.size + 1 := World.size_alloc _ _
  have hb1' := Lib.hid hb1
  have hr0' := Lib.hid hr0
  have hsz2' := Lib.hid hsz2
  clear hb1 hr0 hsz2
  go_upto_region 2 with (refine wpList_buildSlice_one rfl 28 _ rfl (.agg #[.int .i64 100, .int .i64 50, .int .i64 60]) _ rfl hbs ?_)
  generalize hv2 : v1.alloc _ = v2 at *
  clear hv2 hbs
  have hz := hsz2'.out
  have hb : Below v1.heap.size v1 (v2.alloc (.cells #[.int .i64 100000, .slice (some ⟨v1.heap.size, 0, none⟩) 1 1] 30)) := hb1'.out.alloc (by omega) _
  have X1 : Hid (Blk (v2.alloc (.cells #[.int .i64 100000, .slice (some ⟨v1.heap.size, 0, none⟩) 1 1] 30)) (v1.heap.size + 1) [.int .i64 100000, .slice (some ⟨v1.heap.size, 0, none⟩) 1 1] 30) := by show Blk _ _ _ _; rw [← hz]; exact Blk.new v2 [_, _] _
  have M : Hid (ClkM (v2.alloc (.cells #[.int .i64 100000, .slice (some ⟨v1.heap.size, 0, none⟩) 1 1] 30)) (v1.heap.size + 1) ⟨100000, some ⟨v1.heap.size, 0, none⟩, 1, 1, l0⟩) := ⟨hr0'.out.alloc (by omega) _, rfl, ⟨Nat.le_refl _, (by decide : (1 : Nat) ≤ maxLen), fun h => by cases h⟩, (by decide : (1 : Nat) ≤ 140737488355328), by rw [World.size_alloc]; omega, (by unfold Wm.Fits; omega : Wm.Fits (100000 : Int)), fun x hx => by rw [List.mem_singleton.1 hx]; unfold Wm.Fits; dsimp only; omega⟩
  replace E : Hid (Below w.heap.size w (v2.alloc (.cells #[.int .i64 100000, .slice (some ⟨v1.heap.size, 0, none⟩) 1 1] 30))) := E.out.trans (hb.mono E.out.size)
  clear hb hb1' hr0' hsz2' hz
  generalize v1.heap.size = g0 at *
  generalize v2.alloc _ = v3 at *
  obtain ⟨gC, hgC⟩ : ∃ y, y = g0 + 1 := ⟨_, rfl⟩
  rw [← hgC] at X1 ⊢
  clear hgC
  have C := Lib.hid (Passed_any 100000 11 v3)
  rw [ex_pa11.1, ex_pa11.2.1, ex_pa11.2.2] at C
  go_wp2_with fail
  refine C.out.mono ?_
  rintro e v4 ⟨rfl, hv4⟩
  subst hv4
  clear C
  have C := Lib.hid (Passed_any 100000 0 v4)
  rw [ex_pa0.1, ex_pa0.2.1, ex_pa0.2.2] at C
  go_wp2_with fail
  refine C.out.mono ?_
  rintro e v5 ⟨rfl, hv5⟩
  subst hv5
  clear C
  have C := Lib.hid (fun W (h : ClkM W (g0 + 1) ⟨100000, some ⟨g0, 0, none⟩, 1, 1, l0⟩) => now_any _ 111 W h)
  dsimp only at C
  rw [ex_now111.1, ex_now111.2.1, ex_now111.2.2] at C
  go_wp2_with (refine wpList_blk_load rfl 30 _ rfl 0 rfl X1.out [_, _] rfl _ hunc.out rfl hszc.out ?_)
  refine (C.out _ M.out).mono ?_
  rintro e v6 ⟨rfl, hb⟩
  replace E : Hid (Below w.heap.size w v6) := E.out.trans (hb.mono E.out.size)
  replace X1 := Lib.hid (X1.out.below hb X1.out.lt)
  replace M := Lib.hid (M.out.below hb)
  clear hb C
  have X8 : Hid (Blk (v6.alloc (.cells #[.int .i64 60, .int .i64 73] 45)) v6.heap.size [.int .i64 60, .int .i64 73] 45) := Blk.new v6 [_, _] _
  have hb : Below v6.heap.size v6 (v6.alloc (.cells #[.int .i64 60, .int .i64 73] 45)) := (Below.refl _ _).alloc (Nat.le_refl _) _
  replace E : Hid (Below w.heap.size w (v6.alloc (.cells #[.int .i64 60, .int .i64 73] 45))) := E.out.trans (hb.mono E.out.size)
  replace X1 := Lib.hid (X1.out.below hb X1.out.lt)
  replace M := Lib.hid (M.out.below hb)
  clear hb
  have C := Lib.hid (fun W (h : ClkM W (g0 + 1) ⟨100000, some ⟨g0, 0, none⟩, 1, 1, l0⟩) => now_any _ 89 W h)
  dsimp only at C
  rw [ex_now89.1, ex_now89.2.1, ex_now89.2.2] at C
  go_wp2_with (refine wpList_blk_load rfl 30 _ rfl 0 rfl X1.out [_, _] rfl _ hunc.out rfl hszc.out ?_)
  refine (C.out _ M.out).mono ?_
  rintro e v7 ⟨rfl, hb⟩
  replace E : Hid (Below w.heap.size w v7) := E.out.trans (hb.mono E.out.size)
  replace X1 := Lib.hid (X1.out.below hb X1.out.lt)
  replace M := Lib.hid (M.out.below hb)
  replace X8 := Lib.hid (X8.out.below hb X8.out.lt)
  clear hb C
  have X10 : Hid (Blk (v7.alloc (.cells #[.int .i64 37, .int .i64 50] 45)) v7.heap.size [.int .i64 37, .int .i64 50] 45) := Blk.new v7 [_, _] _
  have hb : Below v7.heap.size v7 (v7.alloc (.cells #[.int .i64 37, .int .i64 50] 45)) := (Below.refl _ _).alloc (Nat.le_refl _) _
  replace E : Hid (Below w.heap.size w (v7.alloc (.cells #[.int .i64 37, .int .i64 50] 45))) := E.out.trans (hb.mono E.out.size)
  replace X1 := Lib.hid (X1.out.below hb X1.out.lt)
  replace M := Lib.hid (M.out.below hb)
  replace X8 := Lib.hid (X8.out.below hb X8.out.lt)
  clear hb
  have C := Lib.hid (fun W (h : ClkM W (g0 + 1) ⟨100000, some ⟨g0, 0, none⟩, 1, 1, l0⟩) => now_any _ 100 W h)
  dsimp only at C
  rw [ex_now100.1, ex_now100.2.1, ex_now100.2.2] at C
  go_wp2_with (refine wpList_blk_load rfl 30 _ rfl 0 rfl X1.out [_, _] rfl _ hunc.out rfl hszc.out ?_)
  refine (C.out _ M.out).mono ?_
  rintro e v8 ⟨rfl, hb⟩
  replace E : Hid (Below w.heap.size w v8) := E.out.trans (hb.mono E.out.size)
  replace X1 := Lib.hid (X1.out.below hb X1.out.lt)
  replace M := Lib.hid (M.out.below hb)
  replace X8 := Lib.hid (X8.out.below hb X8.out.lt)
  replace X10 := Lib.hid (X10.out.below hb X10.out.lt)
  clear hb C
  have X12 : Hid (Blk (v8.alloc (.cells #[.int .i64 49, .int .i64 61] 45)) v8.heap.size [.int .i64 49, .int .i64 61] 45) := Blk.new v8 [_, _] _
  have hb : Below v8.heap.size v8 (v8.alloc (.cells #[.int .i64 49, .int .i64 61] 45)) := (Below.refl _ _).alloc (Nat.le_refl _) _
  replace E : Hid (Below w.heap.size w (v8.alloc (.cells #[.int .i64 49, .int .i64 61] 45))) := E.out.trans (hb.mono E.out.size)
  replace X1 := Lib.hid (X1.out.below hb X1.out.lt)
  replace M := Lib.hid (M.out.below hb)
  replace X8 := Lib.hid (X8.out.below hb X8.out.lt)
  replace X10 := Lib.hid (X10.out.below hb X10.out.lt)
  clear hb
  have CM := Lib.hid (fun W (h : ClkM W (g0 + 1) ⟨100000, some ⟨g0, 0, none⟩, 1, 1, l0⟩) => sync_any _ ⟨111, 70, 80⟩ W h)
  dsimp only [SyEnd] at CM
  rw [ex_sync1, ex_sync2] at CM
  go_upto_region 7 with fail
  generalize hvv : (v8.alloc (.cells #[.int .i64 49, .int .i64 61] 45)) = v9 at *
  clear hvv
  go_cut [14, 15] from 58 to 64 (fun va vb W => Hid (SyB v9 [⟨100, 50, 60⟩, ⟨111, 70, 73⟩] 0 va vb W))
  case first J KK hJ hKK =>
    refine wp_region_planH (fun W => Below v9.heap.size v9 W) [0] 9 (by kernel_rfl) (by kernel_rfl) (by kernel_rfl) (by kernel_rfl) (by intro c a d v w h; cases d <;> exact h) ((Below.refl _ _).drew) ?_
    change wpPlanH _ _ _ _ _ _ _ _ _ v9.drew
    refine wpPlanH_runW rfl (by rfl) _ (fun q => load_run 30 _ rfl gC 0 rfl [.int .i64 100000, .slice (some ⟨g0, 0, none⟩) 1 1] _ hunc.out rfl hszc.out q.world ((Blk.below X1.out q.meets X1.out.lt).range 0 _ (take_all0 _))) ?_
    have F0 : Hid (Below v9.heap.size v9 v9.drew) := (Below.refl _ _).drew
    have Ma := Lib.hid (M.out.below F0.out)
    have hne : Nonempty (SOf fun W => Below v9.heap.size v9 W) := ⟨⟨v9, Below.refl _ _⟩⟩
    generalize v9.drew = u0 at F0 Ma ⊢
    refine wpAnyH_each (rs := [1, 7]) (by kernel_rfl) (by decide) (fun K hK i hi => ?_)
    simp only [List.mem_cons, List.not_mem_nil, or_false] at hi
    rcases hi with rfl | rfl
    · skip
      refine wpOp_listed rfl ?_
      go_wp2_with fail
      refine (CW.out 70 80 _).mono ?_
      rintro e u1 ⟨rfl, hb⟩
      replace F0 : Hid (Below v9.heap.size v9 u1) := F0.out.trans (hb.mono F0.out.size)
      replace Ma := Lib.hid (Ma.out.below hb)
      go_wp2_with fail
      refine postH_normal (hK _ _ _ F0.out ?_)
      clear hK K hb
      refine wpAnyH_of_plan (by kernel_rfl) (by intro c a d v w h; cases d <;> exact h) [2] 7 _ _ _ F0.out (by kernel_rfl) ?_
      refine wpPlanH_plain rfl (fun K hK => ?_); go_simp; refine hK _ ?_; clear hK K
      refine wpAnyH_each (rs := [3, 7]) (by kernel_rfl) (by decide) (fun K hK i hi => ?_)
      simp only [List.mem_cons, List.not_mem_nil, or_false] at hi
      rcases hi with rfl | rfl
      · skip
        refine wpOp_listed rfl ?_
        go_wp2_with fail
        refine (CM.out _ Ma.out).mono ?_
        rintro e u2 ⟨k1, e1, rfl, hk1, hk2, hk3, hk4, hk5, hb⟩
        obtain rfl := hk3
        replace F0 : Hid (Below v9.heap.size v9 u2) := F0.out.trans (hb.mono F0.out.size)
        replace Ma := Lib.hid (Ma.out.below hb)
        obtain ⟨Bk, hBk⟩ : ∃ y, y = u2.heap.size := ⟨_, rfl⟩
        rw [← hBk] at hk4
        have MK := Lib.hid hk4
        have hkl := Lib.hid hk2
        skip
        clear hk1 hk2 hk4 hBk
        go_wp2_with fail
        refine postH_normal (hK _ _ _ F0.out ?_)
        clear hK K hb
        refine wpAnyH_of_plan (by kernel_rfl) (by intro c a d v w h; cases d <;> exact h) [4, 5, 6] 3 _ _ _ F0.out (by kernel_rfl) ?_
        iterate 3 (refine wpPlanH_plain rfl (fun K hK => ?_); go_simp; refine hK _ ?_; clear hK K)
        refine wpAnyH_each (rs := [7]) (by kernel_rfl) (by decide) (fun K hK i hi => ?_)
        obtain rfl := List.mem_singleton.1 hi
        refine wpOp_listed rfl ?_
        go_wp2_with fail
        obtain ⟨gL, hgL⟩ : ∃ x, x = u2.heap.size := ⟨_, rfl⟩
        have hb : Below u2.heap.size u2 (u2.alloc (.cells #[.int .i64 0, .slice none 0 0] 30)) := (Below.refl _ _).alloc (Nat.le_refl _) _
        have BX : Hid (Blk (u2.alloc (.cells #[.int .i64 0, .slice none 0 0] 30)) gL [.int .i64 0, .slice none 0 0] 30) := by show Blk _ _ _ _; rw [hgL]; exact Blk.new _ [_, _] _
        have hgl : Hid (v9.heap.size ≤ gL) := by show _ ≤ _; rw [hgL]; exact F0.out.size
        have hgl2 : Hid (gL < (u2.alloc (.cells #[.int .i64 0, .slice none 0 0] 30)).heap.size) := by show _ < _; rw [hgL]; simp
        replace F0 : Hid (Below v9.heap.size v9 (u2.alloc (.cells #[.int .i64 0, .slice none 0 0] 30))) := F0.out.trans (hb.mono F0.out.size)
        replace Ma := Lib.hid (Ma.out.below hb)
        have hkne : Hid (Bk ≤ gL ∨ ∀ ad, k1.A = some ad → ad.block ≠ gL) := .inl (by rw [hgL]; exact MK.out.le)
        replace MK := Lib.hid (MK.out.below hb)
        rw [← hgL]
        refine postH_normal (hK _ _ _ F0.out ?_)
        clear hK K hb hgL
        generalize u2.alloc _ = u3 at *
        refine wpAnyH_each (rs := [8]) (by kernel_rfl) (by decide) (fun K hK i hi => ?_)
        obtain rfl := List.mem_singleton.1 hi
        refine wpOp_listed rfl ?_
        refine wpList_row_store rfl 30 _ _ rfl [.int .i64 k1.rate, .slice k1.A k1.n k1.c] rfl rfl BX.out hszc.out rfl (oneC _ _ _ _) ?_
        intro u9 hw6 ho6
        have MK9 : ClkM u9 u9.heap.size k1 := ((MK.out.only ho6 hkne.out).up (MK.out.only ho6 hkne.out).le (Nat.le_refl _)) 
        replace F0 : Hid (Below v9.heap.size v9 u9) := F0.out.trans (ho6.below hgl.out)
        refine wpList_end (postH_normal (hK _ _ _ F0.out ?_))
        clear hK K
        refine wpAnyH_each (rs := [9]) (by kernel_rfl) (by decide) (fun K hK i hi => ?_)
        obtain rfl := List.mem_singleton.1 hi
        refine wpOp_listed rfl ?_
        go_wp2_with fail
        refine postH_normal (hK _ _ _ F0.out ?_)
        clear hK K
        refine wpAnyH_done (by kernel_rfl) ?_ _
        try go_wp2_with fail
        go_meet
        exact ⟨gL, k1, by first | rfl | (go_simp; done), by first | rfl | (go_simp; done), hgl.out, hw6.out, MK9, hkl.out, F0.out⟩
      · skip
        refine wpOp_listed rfl ?_
        go_wp2_with fail
        obtain ⟨gL, hgL⟩ : ∃ x, x = u1.heap.size := ⟨_, rfl⟩
        have hb : Below u1.heap.size u1 (u1.alloc (.cells #[.int .i64 0, .slice none 0 0] 30)) := (Below.refl _ _).alloc (Nat.le_refl _) _
        have BX : Hid (Blk (u1.alloc (.cells #[.int .i64 0, .slice none 0 0] 30)) gL [.int .i64 0, .slice none 0 0] 30) := by show Blk _ _ _ _; rw [hgL]; exact Blk.new _ [_, _] _
        have hgl : Hid (v9.heap.size ≤ gL) := by show _ ≤ _; rw [hgL]; exact F0.out.size
        have hgl2 : Hid (gL < (u1.alloc (.cells #[.int .i64 0, .slice none 0 0] 30)).heap.size) := by show _ < _; rw [hgL]; simp
        replace F0 : Hid (Below v9.heap.size v9 (u1.alloc (.cells #[.int .i64 0, .slice none 0 0] 30))) := F0.out.trans (hb.mono F0.out.size)
        replace Ma := Lib.hid (Ma.out.below hb)
        rw [← hgL]
        refine postH_normal (hK _ _ _ F0.out ?_)
        clear hK K hb hgL
        generalize u1.alloc _ = u2 at *
        refine wpAnyH_each (rs := [3]) (by kernel_rfl) (by decide) (fun K hK i hi => ?_)
        obtain rfl := List.mem_singleton.1 hi
        refine wpOp_listed rfl ?_
        go_wp2_with fail
        refine (CM.out _ Ma.out).mono ?_
        rintro e u3 ⟨k1, e1, rfl, hk1, hk2, hk3, hk4, hk5, hb⟩
        obtain rfl := hk3
        have hkne0 : Hid (∀ ad, k1.A = some ad → ad.block ≠ gL) := fun ad h => by have := hk5 ad h; have := hgl2.out; omega
        replace F0 : Hid (Below v9.heap.size v9 u3) := F0.out.trans (hb.mono F0.out.size)
        replace Ma := Lib.hid (Ma.out.below hb)
        replace BX := Lib.hid (BX.out.below hb BX.out.lt)
        replace hgl2 := Lib.hid (Nat.lt_of_lt_of_le hgl2.out hb.size)
        obtain ⟨Bk, hBk⟩ : ∃ y, y = u3.heap.size := ⟨_, rfl⟩
        rw [← hBk] at hk4
        have MK := Lib.hid hk4
        have hkl := Lib.hid hk2
        have hkne : Hid (Bk ≤ gL ∨ ∀ ad, k1.A = some ad → ad.block ≠ gL) := .inr hkne0.out
        clear hk1 hk2 hk4 hBk hk5
        go_wp2_with fail
        refine postH_normal (hK _ _ _ F0.out ?_)
        clear hK K hb
        refine wpAnyH_of_plan (by kernel_rfl) (by intro c a d v w h; cases d <;> exact h) [4, 5, 6] 2 _ _ _ F0.out (by kernel_rfl) ?_
        iterate 3 (refine wpPlanH_plain rfl (fun K hK => ?_); go_simp; refine hK _ ?_; clear hK K)
        refine wpAnyH_each (rs := [8]) (by kernel_rfl) (by decide) (fun K hK i hi => ?_)
        obtain rfl := List.mem_singleton.1 hi
        refine wpOp_listed rfl ?_
        refine wpList_row_store rfl 30 _ _ rfl [.int .i64 k1.rate, .slice k1.A k1.n k1.c] rfl rfl BX.out hszc.out rfl (oneC _ _ _ _) ?_
        intro u9 hw6 ho6
        have MK9 : ClkM u9 u9.heap.size k1 := ((MK.out.only ho6 hkne.out).up (MK.out.only ho6 hkne.out).le (Nat.le_refl _)) 
        replace F0 : Hid (Below v9.heap.size v9 u9) := F0.out.trans (ho6.below hgl.out)
        refine wpList_end (postH_normal (hK _ _ _ F0.out ?_))
        clear hK K
        refine wpAnyH_each (rs := [9]) (by kernel_rfl) (by decide) (fun K hK i hi => ?_)
        obtain rfl := List.mem_singleton.1 hi
        refine wpOp_listed rfl ?_
        go_wp2_with fail
        refine postH_normal (hK _ _ _ F0.out ?_)
        clear hK K
        refine wpAnyH_done (by kernel_rfl) ?_ _
        try go_wp2_with fail
        go_meet
        exact ⟨gL, k1, by first | rfl | (go_simp; done), by first | rfl | (go_simp; done), hgl.out, hw6.out, MK9, hkl.out, F0.out⟩
    · skip
      refine wpOp_listed rfl ?_
      go_wp2_with fail
      obtain ⟨gL, hgL⟩ : ∃ x, x = u0.heap.size := ⟨_, rfl⟩
      have hb : Below u0.heap.size u0 (u0.alloc (.cells #[.int .i64 0, .slice none 0 0] 30)) := (Below.refl _ _).alloc (Nat.le_refl _) _
      have BX : Hid (Blk (u0.alloc (.cells #[.int .i64 0, .slice none 0 0] 30)) gL [.int .i64 0, .slice none 0 0] 30) := by show Blk _ _ _ _; rw [hgL]; exact Blk.new _ [_, _] _
      have hgl : Hid (v9.heap.size ≤ gL) := by show _ ≤ _; rw [hgL]; exact F0.out.size
      have hgl2 : Hid (gL < (u0.alloc (.cells #[.int .i64 0, .slice none 0 0] 30)).heap.size) := by show _ < _; rw [hgL]; simp
      replace F0 : Hid (Below v9.heap.size v9 (u0.alloc (.cells #[.int .i64 0, .slice none 0 0] 30))) := F0.out.trans (hb.mono F0.out.size)
      replace Ma := Lib.hid (Ma.out.below hb)
      rw [← hgL]
      refine postH_normal (hK _ _ _ F0.out ?_)
      clear hK K hb hgL
      generalize u0.alloc _ = u1 at *
      refine wpAnyH_each (rs := [1]) (by kernel_rfl) (by decide) (fun K hK i hi => ?_)
      obtain rfl := List.mem_singleton.1 hi
      refine wpOp_listed rfl ?_
      go_wp2_with fail
      refine (CW.out 70 80 _).mono ?_
      rintro e u2 ⟨rfl, hb⟩
      replace F0 : Hid (Below v9.heap.size v9 u2) := F0.out.trans (hb.mono F0.out.size)
      replace Ma := Lib.hid (Ma.out.below hb)
      replace BX := Lib.hid (BX.out.below hb BX.out.lt)
      replace hgl2 := Lib.hid (Nat.lt_of_lt_of_le hgl2.out hb.size)
      go_wp2_with fail
      refine postH_normal (hK _ _ _ F0.out ?_)
      clear hK K hb
      refine wpAnyH_of_plan (by kernel_rfl) (by intro c a d v w h; cases d <;> exact h) [2] 6 _ _ _ F0.out (by kernel_rfl) ?_
      refine wpPlanH_plain rfl (fun K hK => ?_); go_simp; refine hK _ ?_; clear hK K
      refine wpAnyH_each (rs := [3]) (by kernel_rfl) (by decide) (fun K hK i hi => ?_)
      obtain rfl := List.mem_singleton.1 hi
      refine wpOp_listed rfl ?_
      go_wp2_with fail
      refine (CM.out _ Ma.out).mono ?_
      rintro e u3 ⟨k1, e1, rfl, hk1, hk2, hk3, hk4, hk5, hb⟩
      obtain rfl := hk3
      have hkne0 : Hid (∀ ad, k1.A = some ad → ad.block ≠ gL) := fun ad h => by have := hk5 ad h; have := hgl2.out; omega
      replace F0 : Hid (Below v9.heap.size v9 u3) := F0.out.trans (hb.mono F0.out.size)
      replace Ma := Lib.hid (Ma.out.below hb)
      replace BX := Lib.hid (BX.out.below hb BX.out.lt)
      replace hgl2 := Lib.hid (Nat.lt_of_lt_of_le hgl2.out hb.size)
      obtain ⟨Bk, hBk⟩ : ∃ y, y = u3.heap.size := ⟨_, rfl⟩
      rw [← hBk] at hk4
      have MK := Lib.hid hk4
      have hkl := Lib.hid hk2
      have hkne : Hid (Bk ≤ gL ∨ ∀ ad, k1.A = some ad → ad.block ≠ gL) := .inr hkne0.out
      clear hk1 hk2 hk4 hBk hk5
      go_wp2_with fail
      refine postH_normal (hK _ _ _ F0.out ?_)
      clear hK K hb
      refine wpAnyH_of_plan (by kernel_rfl) (by intro c a d v w h; cases d <;> exact h) [4, 5, 6] 2 _ _ _ F0.out (by kernel_rfl) ?_
      iterate 3 (refine wpPlanH_plain rfl (fun K hK => ?_); go_simp; refine hK _ ?_; clear hK K)
      refine wpAnyH_each (rs := [8]) (by kernel_rfl) (by decide) (fun K hK i hi => ?_)
      obtain rfl := List.mem_singleton.1 hi
      refine wpOp_listed rfl ?_
      refine wpList_row_store rfl 30 _ _ rfl [.int .i64 k1.rate, .slice k1.A k1.n k1.c] rfl rfl BX.out hszc.out rfl (oneC _ _ _ _) ?_
      intro u9 hw6 ho6
      have MK9 : ClkM u9 u9.heap.size k1 := ((MK.out.only ho6 hkne.out).up (MK.out.only ho6 hkne.out).le (Nat.le_refl _)) 
      replace F0 : Hid (Below v9.heap.size v9 u9) := F0.out.trans (ho6.below hgl.out)
      refine wpList_end (postH_normal (hK _ _ _ F0.out ?_))
      clear hK K
      refine wpAnyH_each (rs := [9]) (by kernel_rfl) (by decide) (fun K hK i hi => ?_)
      obtain rfl := List.mem_singleton.1 hi
      refine wpOp_listed rfl ?_
      go_wp2_with fail
      refine postH_normal (hK _ _ _ F0.out ?_)
      clear hK K
      refine wpAnyH_done (by kernel_rfl) ?_ _
      try go_wp2_with fail
      go_meet
      exact ⟨gL, k1, by first | rfl | (go_simp; done), by first | rfl | (go_simp; done), hgl.out, hw6.out, MK9, hkl.out, F0.out⟩
  case rest =>
    obtain ⟨X14g, X14k, rfl, rfl, _, X14b, X14m, X14l, hb⟩ := hcut.out
    clear hcut
    replace E : Hid (Below w.heap.size w wc) := E.out.trans (hb.mono E.out.size)
    replace X1 := Lib.hid (X1.out.below hb X1.out.lt)
    replace M := Lib.hid (M.out.below hb)
    replace X8 := Lib.hid (X8.out.below hb X8.out.lt)
    replace X10 := Lib.hid (X10.out.below hb X10.out.lt)
    replace X12 := Lib.hid (X12.out.below hb X12.out.lt)
    clear hb
    have X14 := Lib.hid X14b
    have X14M := Lib.hid X14m
    have X14L := Lib.hid X14l
    clear X14b X14m X14l
    generalize hwc : wc = v10 at *
    clear hwc
    have CM := Lib.hid (fun W (h : ClkM W (g0 + 1) ⟨100000, some ⟨g0, 0, none⟩, 1, 1, l0⟩) => sync_any _ ⟨111, 74, 80⟩ W h)
    dsimp only [SyEnd] at CM
    rw [ex_sync3, (sy_err (rate := 100000) (l := l0) (r := ⟨111, 74, 80⟩) (by rw [ex_sync3]; decide)).1] at CM
    go_upto_region 8 with fail
    generalize hvv : v10 = v11 at *
    clear hvv
    go_cut [16, 17] from 65 to 71 (fun va vb W => Hid (SyB v11 [] 24 va vb W))
    case first J KK hJ hKK =>
      refine wp_region_planH (fun W => Below v11.heap.size v11 W) [0] 9 (by kernel_rfl) (by kernel_rfl) (by kernel_rfl) (by kernel_rfl) (by intro c a d v w h; cases d <;> exact h) ((Below.refl _ _).drew) ?_
      change wpPlanH _ _ _ _ _ _ _ _ _ v11.drew
      refine wpPlanH_runW rfl (by rfl) _ (fun q => load_run 30 _ rfl gC 0 rfl [.int .i64 100000, .slice (some ⟨g0, 0, none⟩) 1 1] _ hunc.out rfl hszc.out q.world ((Blk.below X1.out q.meets X1.out.lt).range 0 _ (take_all0 _))) ?_
      have F0 : Hid (Below v11.heap.size v11 v11.drew) := (Below.refl _ _).drew
      have Ma := Lib.hid (M.out.below F0.out)
      have hne : Nonempty (SOf fun W => Below v11.heap.size v11 W) := ⟨⟨v11, Below.refl _ _⟩⟩
      generalize v11.drew = u0 at F0 Ma ⊢
      refine wpAnyH_each (rs := [1, 7]) (by kernel_rfl) (by decide) (fun K hK i hi => ?_)
      simp only [List.mem_cons, List.not_mem_nil, or_false] at hi
      rcases hi with rfl | rfl
      · skip
        refine wpOp_listed rfl ?_
        go_wp2_with fail
        refine (CW.out 74 80 _).mono ?_
        rintro e u1 ⟨rfl, hb⟩
        replace F0 : Hid (Below v11.heap.size v11 u1) := F0.out.trans (hb.mono F0.out.size)
        replace Ma := Lib.hid (Ma.out.below hb)
        go_wp2_with fail
        refine postH_normal (hK _ _ _ F0.out ?_)
        clear hK K hb
        refine wpAnyH_of_plan (by kernel_rfl) (by intro c a d v w h; cases d <;> exact h) [2] 7 _ _ _ F0.out (by kernel_rfl) ?_
        refine wpPlanH_plain rfl (fun K hK => ?_); go_simp; refine hK _ ?_; clear hK K
        refine wpAnyH_each (rs := [3, 7]) (by kernel_rfl) (by decide) (fun K hK i hi => ?_)
        simp only [List.mem_cons, List.not_mem_nil, or_false] at hi
        rcases hi with rfl | rfl
        · skip
          refine wpOp_listed rfl ?_
          go_wp2_with fail
          refine (CM.out _ Ma.out).mono ?_
          rintro e u2 ⟨k1, e1, rfl, hk1, hk2, hk3, hk4, hk5, hb⟩
          obtain rfl := hk3
          replace F0 : Hid (Below v11.heap.size v11 u2) := F0.out.trans (hb.mono F0.out.size)
          replace Ma := Lib.hid (Ma.out.below hb)
          obtain ⟨Bk, hBk⟩ : ∃ y, y = u2.heap.size := ⟨_, rfl⟩
          rw [← hBk] at hk4
          have MK := Lib.hid hk4
          have hkl := Lib.hid hk2
          skip
          clear hk1 hk2 hk4 hBk
          go_wp2_with fail
          refine postH_normal (hK _ _ _ F0.out ?_)
          clear hK K hb
          refine wpAnyH_of_plan (by kernel_rfl) (by intro c a d v w h; cases d <;> exact h) [4, 5, 6] 3 _ _ _ F0.out (by kernel_rfl) ?_
          iterate 3 (refine wpPlanH_plain rfl (fun K hK => ?_); go_simp; refine hK _ ?_; clear hK K)
          refine wpAnyH_each (rs := [7]) (by kernel_rfl) (by decide) (fun K hK i hi => ?_)
          obtain rfl := List.mem_singleton.1 hi
          refine wpOp_listed rfl ?_
          go_wp2_with fail
          obtain ⟨gL, hgL⟩ : ∃ x, x = u2.heap.size := ⟨_, rfl⟩
          have hb : Below u2.heap.size u2 (u2.alloc (.cells #[.int .i64 0, .slice none 0 0] 30)) := (Below.refl _ _).alloc (Nat.le_refl _) _
          have BX : Hid (Blk (u2.alloc (.cells #[.int .i64 0, .slice none 0 0] 30)) gL [.int .i64 0, .slice none 0 0] 30) := by show Blk _ _ _ _; rw [hgL]; exact Blk.new _ [_, _] _
          have hgl : Hid (v11.heap.size ≤ gL) := by show _ ≤ _; rw [hgL]; exact F0.out.size
          have hgl2 : Hid (gL < (u2.alloc (.cells #[.int .i64 0, .slice none 0 0] 30)).heap.size) := by show _ < _; rw [hgL]; simp
          replace F0 : Hid (Below v11.heap.size v11 (u2.alloc (.cells #[.int .i64 0, .slice none 0 0] 30))) := F0.out.trans (hb.mono F0.out.size)
          replace Ma := Lib.hid (Ma.out.below hb)
          have hkne : Hid (Bk ≤ gL ∨ ∀ ad, k1.A = some ad → ad.block ≠ gL) := .inl (by rw [hgL]; exact MK.out.le)
          replace MK := Lib.hid (MK.out.below hb)
          rw [← hgL]
          refine postH_normal (hK _ _ _ F0.out ?_)
          clear hK K hb hgL
          generalize u2.alloc _ = u3 at *
          refine wpAnyH_each (rs := [8]) (by kernel_rfl) (by decide) (fun K hK i hi => ?_)
          obtain rfl := List.mem_singleton.1 hi
          refine wpOp_listed rfl ?_
          refine wpList_row_store rfl 30 _ _ rfl [.int .i64 k1.rate, .slice k1.A k1.n k1.c] rfl rfl BX.out hszc.out rfl (oneC _ _ _ _) ?_
          intro u9 hw6 ho6
          have MK9 : ClkM u9 u9.heap.size k1 := ((MK.out.only ho6 hkne.out).up (MK.out.only ho6 hkne.out).le (Nat.le_refl _)) 
          replace F0 : Hid (Below v11.heap.size v11 u9) := F0.out.trans (ho6.below hgl.out)
          refine wpList_end (postH_normal (hK _ _ _ F0.out ?_))
          clear hK K
          refine wpAnyH_each (rs := [9]) (by kernel_rfl) (by decide) (fun K hK i hi => ?_)
          obtain rfl := List.mem_singleton.1 hi
          refine wpOp_listed rfl ?_
          go_wp2_with fail
          refine postH_normal (hK _ _ _ F0.out ?_)
          clear hK K
          refine wpAnyH_done (by kernel_rfl) ?_ _
          try go_wp2_with fail
          go_meet
          exact ⟨gL, k1, by first | rfl | (go_simp; done), by first | rfl | (go_simp; done), hgl.out, hw6.out, MK9, hkl.out, F0.out⟩
        · skip
          refine wpOp_listed rfl ?_
          go_wp2_with fail
          obtain ⟨gL, hgL⟩ : ∃ x, x = u1.heap.size := ⟨_, rfl⟩
          have hb : Below u1.heap.size u1 (u1.alloc (.cells #[.int .i64 0, .slice none 0 0] 30)) := (Below.refl _ _).alloc (Nat.le_refl _) _
          have BX : Hid (Blk (u1.alloc (.cells #[.int .i64 0, .slice none 0 0] 30)) gL [.int .i64 0, .slice none 0 0] 30) := by show Blk _ _ _ _; rw [hgL]; exact Blk.new _ [_, _] _
          have hgl : Hid (v11.heap.size ≤ gL) := by show _ ≤ _; rw [hgL]; exact F0.out.size
          have hgl2 : Hid (gL < (u1.alloc (.cells #[.int .i64 0, .slice none 0 0] 30)).heap.size) := by show _ < _; rw [hgL]; simp
          replace F0 : Hid (Below v11.heap.size v11 (u1.alloc (.cells #[.int .i64 0, .slice none 0 0] 30))) := F0.out.trans (hb.mono F0.out.size)
          replace Ma := Lib.hid (Ma.out.below hb)
          rw [← hgL]
          refine postH_normal (hK _ _ _ F0.out ?_)
          clear hK K hb hgL
          generalize u1.alloc _ = u2 at *
          refine wpAnyH_each (rs := [3]) (by kernel_rfl) (by decide) (fun K hK i hi => ?_)
          obtain rfl := List.mem_singleton.1 hi
          refine wpOp_listed rfl ?_
          go_wp2_with fail
          refine (CM.out _ Ma.out).mono ?_
          rintro e u3 ⟨k1, e1, rfl, hk1, hk2, hk3, hk4, hk5, hb⟩
          obtain rfl := hk3
          have hkne0 : Hid (∀ ad, k1.A = some ad → ad.block ≠ gL) := fun ad h => by have := hk5 ad h; have := hgl2.out; omega
          replace F0 : Hid (Below v11.heap.size v11 u3) := F0.out.trans (hb.mono F0.out.size)
          replace Ma := Lib.hid (Ma.out.below hb)
          replace BX := Lib.hid (BX.out.below hb BX.out.lt)
          replace hgl2 := Lib.hid (Nat.lt_of_lt_of_le hgl2.out hb.size)
          obtain ⟨Bk, hBk⟩ : ∃ y, y = u3.heap.size := ⟨_, rfl⟩
          rw [← hBk] at hk4
          have MK := Lib.hid hk4
          have hkl := Lib.hid hk2
          have hkne : Hid (Bk ≤ gL ∨ ∀ ad, k1.A = some ad → ad.block ≠ gL) := .inr hkne0.out
          clear hk1 hk2 hk4 hBk hk5
          go_wp2_with fail
          refine postH_normal (hK _ _ _ F0.out ?_)
          clear hK K hb
          refine wpAnyH_of_plan (by kernel_rfl) (by intro c a d v w h; cases d <;> exact h) [4, 5, 6] 2 _ _ _ F0.out (by kernel_rfl) ?_
          iterate 3 (refine wpPlanH_plain rfl (fun K hK => ?_); go_simp; refine hK _ ?_; clear hK K)
          refine wpAnyH_each (rs := [8]) (by kernel_rfl) (by decide) (fun K hK i hi => ?_)
          obtain rfl := List.mem_singleton.1 hi
          refine wpOp_listed rfl ?_
          refine wpList_row_store rfl 30 _ _ rfl [.int .i64 k1.rate, .slice k1.A k1.n k1.c] rfl rfl BX.out hszc.out rfl (oneC _ _ _ _) ?_
          intro u9 hw6 ho6
          have MK9 : ClkM u9 u9.heap.size k1 := ((MK.out.only ho6 hkne.out).up (MK.out.only ho6 hkne.out).le (Nat.le_refl _)) 
          replace F0 : Hid (Below v11.heap.size v11 u9) := F0.out.trans (ho6.below hgl.out)
          refine wpList_end (postH_normal (hK _ _ _ F0.out ?_))
          clear hK K
          refine wpAnyH_each (rs := [9]) (by kernel_rfl) (by decide) (fun K hK i hi => ?_)
          obtain rfl := List.mem_singleton.1 hi
          refine wpOp_listed rfl ?_
          go_wp2_with fail
          refine postH_normal (hK _ _ _ F0.out ?_)
          clear hK K
          refine wpAnyH_done (by kernel_rfl) ?_ _
          try go_wp2_with fail
          go_meet
          exact ⟨gL, k1, by first | rfl | (go_simp; done), by first | rfl | (go_simp; done), hgl.out, hw6.out, MK9, hkl.out, F0.out⟩
      · skip
        refine wpOp_listed rfl ?_
        go_wp2_with fail
        obtain ⟨gL, hgL⟩ : ∃ x, x = u0.heap.size := ⟨_, rfl⟩
        have hb : Below u0.heap.size u0 (u0.alloc (.cells #[.int .i64 0, .slice none 0 0] 30)) := (Below.refl _ _).alloc (Nat.le_refl _) _
        have BX : Hid (Blk (u0.alloc (.cells #[.int .i64 0, .slice none 0 0] 30)) gL [.int .i64 0, .slice none 0 0] 30) := by show Blk _ _ _ _; rw [hgL]; exact Blk.new _ [_, _] _
        have hgl : Hid (v11.heap.size ≤ gL) := by show _ ≤ _; rw [hgL]; exact F0.out.size
        have hgl2 : Hid (gL < (u0.alloc (.cells #[.int .i64 0, .slice none 0 0] 30)).heap.size) := by show _ < _; rw [hgL]; simp
        replace F0 : Hid (Below v11.heap.size v11 (u0.alloc (.cells #[.int .i64 0, .slice none 0 0] 30))) := F0.out.trans (hb.mono F0.out.size)
        replace Ma := Lib.hid (Ma.out.below hb)
        rw [← hgL]
        refine postH_normal (hK _ _ _ F0.out ?_)
        clear hK K hb hgL
        generalize u0.alloc _ = u1 at *
        refine wpAnyH_each (rs := [1]) (by kernel_rfl) (by decide) (fun K hK i hi => ?_)
        obtain rfl := List.mem_singleton.1 hi
        refine wpOp_listed rfl ?_
        go_wp2_with fail
        refine (CW.out 74 80 _).mono ?_
        rintro e u2 ⟨rfl, hb⟩
        replace F0 : Hid (Below v11.heap.size v11 u2) := F0.out.trans (hb.mono F0.out.size)
        replace Ma := Lib.hid (Ma.out.below hb)
        replace BX := Lib.hid (BX.out.below hb BX.out.lt)
        replace hgl2 := Lib.hid (Nat.lt_of_lt_of_le hgl2.out hb.size)
        go_wp2_with fail
        refine postH_normal (hK _ _ _ F0.out ?_)
        clear hK K hb
        refine wpAnyH_of_plan (by kernel_rfl) (by intro c a d v w h; cases d <;> exact h) [2] 6 _ _ _ F0.out (by kernel_rfl) ?_
        refine wpPlanH_plain rfl (fun K hK => ?_); go_simp; refine hK _ ?_; clear hK K
        refine wpAnyH_each (rs := [3]) (by kernel_rfl) (by decide) (fun K hK i hi => ?_)
        obtain rfl := List.mem_singleton.1 hi
        refine wpOp_listed rfl ?_
        go_wp2_with fail
        refine (CM.out _ Ma.out).mono ?_
        rintro e u3 ⟨k1, e1, rfl, hk1, hk2, hk3, hk4, hk5, hb⟩
        obtain rfl := hk3
        have hkne0 : Hid (∀ ad, k1.A = some ad → ad.block ≠ gL) := fun ad h => by have := hk5 ad h; have := hgl2.out; omega
        replace F0 : Hid (Below v11.heap.size v11 u3) := F0.out.trans (hb.mono F0.out.size)
        replace Ma := Lib.hid (Ma.out.below hb)
        replace BX := Lib.hid (BX.out.below hb BX.out.lt)
        replace hgl2 := Lib.hid (Nat.lt_of_lt_of_le hgl2.out hb.size)
        obtain ⟨Bk, hBk⟩ : ∃ y, y = u3.heap.size := ⟨_, rfl⟩
        rw [← hBk] at hk4
        have MK := Lib.hid hk4
        have hkl := Lib.hid hk2
        have hkne : Hid (Bk ≤ gL ∨ ∀ ad, k1.A = some ad → ad.block ≠ gL) := .inr hkne0.out
        clear hk1 hk2 hk4 hBk hk5
        go_wp2_with fail
        refine postH_normal (hK _ _ _ F0.out ?_)
        clear hK K hb
        refine wpAnyH_of_plan (by kernel_rfl) (by intro c a d v w h; cases d <;> exact h) [4, 5, 6] 2 _ _ _ F0.out (by kernel_rfl) ?_
        iterate 3 (refine wpPlanH_plain rfl (fun K hK => ?_); go_simp; refine hK _ ?_; clear hK K)
        refine wpAnyH_each (rs := [8]) (by kernel_rfl) (by decide) (fun K hK i hi => ?_)
        obtain rfl := List.mem_singleton.1 hi
        refine wpOp_listed rfl ?_
        refine wpList_row_store rfl 30 _ _ rfl [.int .i64 k1.rate, .slice k1.A k1.n k1.c] rfl rfl BX.out hszc.out rfl (oneC _ _ _ _) ?_
        intro u9 hw6 ho6
        have MK9 : ClkM u9 u9.heap.size k1 := ((MK.out.only ho6 hkne.out).up (MK.out.only ho6 hkne.out).le (Nat.le_refl _)) 
        replace F0 : Hid (Below v11.heap.size v11 u9) := F0.out.trans (ho6.below hgl.out)
        refine wpList_end (postH_normal (hK _ _ _ F0.out ?_))
        clear hK K
        refine wpAnyH_each (rs := [9]) (by kernel_rfl) (by decide) (fun K hK i hi => ?_)
        obtain rfl := List.mem_singleton.1 hi
        refine wpOp_listed rfl ?_
        go_wp2_with fail
        refine postH_normal (hK _ _ _ F0.out ?_)
        clear hK K
        refine wpAnyH_done (by kernel_rfl) ?_ _
        try go_wp2_with fail
        go_meet
        exact ⟨gL, k1, by first | rfl | (go_simp; done), by first | rfl | (go_simp; done), hgl.out, hw6.out, MK9, hkl.out, F0.out⟩
    case rest =>
      obtain ⟨X16g, X16k, rfl, rfl, _, X16b, X16m, X16l, hb⟩ := hcut.out
      clear hcut
      replace E : Hid (Below w.heap.size w wc) := E.out.trans (hb.mono E.out.size)
      replace X1 := Lib.hid (X1.out.below hb X1.out.lt)
      replace M := Lib.hid (M.out.below hb)
      replace X8 := Lib.hid (X8.out.below hb X8.out.lt)
      replace X10 := Lib.hid (X10.out.below hb X10.out.lt)
      replace X12 := Lib.hid (X12.out.below hb X12.out.lt)
      replace X14 := Lib.hid (X14.out.below hb X14.out.lt)
      replace X14M := Lib.hid (X14M.out.below hb)
      clear hb
      have X16 := Lib.hid X16b
      have X16M := Lib.hid X16m
      have X16L := Lib.hid X16l
      clear X16b X16m X16l
      generalize hwc : wc = v12 at *
      clear hwc
      have CM := Lib.hid (fun W (h : ClkM W (g0 + 1) ⟨100000, some ⟨g0, 0, none⟩, 1, 1, l0⟩) => answer_any _ 100 109 55 57 W h)
      dsimp only at CM
      rw [ex_answer, ex_answer2.1, ex_answer2.2.1, ex_answer2.2.2] at CM
      go_upto_region 9 with fail
      generalize hvv : v12 = v13 at *
      clear hvv
      go_cut [18, 19] from 72 to 77 (fun va vb W => Hid (AnB v13 (⟨109, 55, 68⟩ : Rdg) 0 va vb W))
      case first J KK hJ hKK =>
        refine wp_region_planH (fun W => Below v13.heap.size v13 W) [0] 8 (by kernel_rfl) (by kernel_rfl) (by kernel_rfl) (by kernel_rfl) (by intro c a d v w h; cases d <;> exact h) ((Below.refl _ _).drew) ?_
        change wpPlanH _ _ _ _ _ _ _ _ _ v13.drew
        refine wpPlanH_runW rfl (by rfl) _ (fun q => load_run 30 _ rfl gC 0 rfl [.int .i64 100000, .slice (some ⟨g0, 0, none⟩) 1 1] _ hunc.out rfl hszc.out q.world ((Blk.below X1.out q.meets X1.out.lt).range 0 _ (take_all0 _))) ?_
        have F0 : Hid (Below v13.heap.size v13 v13.drew) := (Below.refl _ _).drew
        have Ma := Lib.hid (M.out.below F0.out)
        have hne : Nonempty (SOf fun W => Below v13.heap.size v13 W) := ⟨⟨v13, Below.refl _ _⟩⟩
        generalize v13.drew = u0 at F0 Ma ⊢
        refine wpAnyH_each (rs := [1, 6]) (by kernel_rfl) (by decide) (fun K hK i hi => ?_)
        simp only [List.mem_cons, List.not_mem_nil, or_false] at hi
        rcases hi with rfl | rfl
        · skip
          refine wpOp_listed rfl ?_
          go_wp2_with fail
          refine (CW.out 55 57 _).mono ?_
          rintro e u1 ⟨rfl, hb⟩
          replace F0 : Hid (Below v13.heap.size v13 u1) := F0.out.trans (hb.mono F0.out.size)
          replace Ma := Lib.hid (Ma.out.below hb)
          go_wp2_with fail
          refine postH_normal (hK _ _ _ F0.out ?_)
          clear hK K hb
          refine wpAnyH_each (rs := [2, 6]) (by kernel_rfl) (by decide) (fun K hK i hi => ?_)
          simp only [List.mem_cons, List.not_mem_nil, or_false] at hi
          rcases hi with rfl | rfl
          · skip
            refine wpOp_listed rfl ?_
            go_wp2_with fail
            refine (CM.out _ Ma.out).mono ?_
            rintro e u2 ⟨rfl, hb⟩
            replace F0 : Hid (Below v13.heap.size v13 u2) := F0.out.trans (hb.mono F0.out.size)
            replace Ma := Lib.hid (Ma.out.below hb)
            go_wp2_with fail
            refine postH_normal (hK _ _ _ F0.out ?_)
            clear hK K hb
            refine wpAnyH_of_plan (by kernel_rfl) (by intro c a d v w h; cases d <;> exact h) [3, 4, 5] 3 _ _ _ F0.out (by kernel_rfl) ?_
            iterate 3 (refine wpPlanH_plain rfl (fun K hK => ?_); go_simp; refine hK _ ?_; clear hK K)
            refine wpAnyH_each (rs := [6]) (by kernel_rfl) (by decide) (fun K hK i hi => ?_)
            obtain rfl := List.mem_singleton.1 hi
            refine wpOp_listed rfl ?_
            go_wp2_with fail
            obtain ⟨gL, hgL⟩ : ∃ x, x = u2.heap.size := ⟨_, rfl⟩
            have hb : Below u2.heap.size u2 (u2.alloc (.cells #[.int .i64 0, .int .i64 0, .int .i64 0] 48)) := (Below.refl _ _).alloc (Nat.le_refl _) _
            have BX : Hid (Blk (u2.alloc (.cells #[.int .i64 0, .int .i64 0, .int .i64 0] 48)) gL [.int .i64 0, .int .i64 0, .int .i64 0] 48) := by show Blk _ _ _ _; rw [hgL]; exact Blk.new _ [_, _, _] _
            have hgl : Hid (v13.heap.size ≤ gL) := by show _ ≤ _; rw [hgL]; exact F0.out.size
            have hgl2 : Hid (gL < (u2.alloc (.cells #[.int .i64 0, .int .i64 0, .int .i64 0] 48)).heap.size) := by show _ < _; rw [hgL]; simp
            replace F0 : Hid (Below v13.heap.size v13 (u2.alloc (.cells #[.int .i64 0, .int .i64 0, .int .i64 0] 48))) := F0.out.trans (hb.mono F0.out.size)
            replace Ma := Lib.hid (Ma.out.below hb)
            rw [← hgL]
            refine postH_normal (hK _ _ _ F0.out ?_)
            clear hK K hb hgL
            generalize u2.alloc _ = u3 at *
            refine wpAnyH_each (rs := [7]) (by kernel_rfl) (by decide) (fun K hK i hi => ?_)
            obtain rfl := List.mem_singleton.1 hi
            refine wpOp_listed rfl ?_
            refine wpList_row_store rfl 48 _ _ rfl [.int .i64 (⟨109, 55, 68⟩ : Rdg).L, .int .i64 (⟨109, 55, 68⟩ : Rdg).lo, .int .i64 (⟨109, 55, 68⟩ : Rdg).hi] rfl rfl BX.out hszr.out rfl (one3 _ _ _) ?_
            intro u9 hw6 ho6
            replace F0 : Hid (Below v13.heap.size v13 u9) := F0.out.trans (ho6.below hgl.out)
            refine wpList_end (postH_normal (hK _ _ _ F0.out ?_))
            clear hK K
            refine wpAnyH_each (rs := [8]) (by kernel_rfl) (by decide) (fun K hK i hi => ?_)
            obtain rfl := List.mem_singleton.1 hi
            refine wpOp_listed rfl ?_
            go_wp2_with fail
            refine postH_normal (hK _ _ _ F0.out ?_)
            clear hK K
            refine wpAnyH_done (by kernel_rfl) ?_ _
            try go_wp2_with fail
            go_meet
            exact ⟨gL, by first | rfl | (go_simp; done), by first | rfl | (go_simp; done), hgl.out, hw6.out, F0.out⟩
          · skip
            refine wpOp_listed rfl ?_
            go_wp2_with fail
            obtain ⟨gL, hgL⟩ : ∃ x, x = u1.heap.size := ⟨_, rfl⟩
            have hb : Below u1.heap.size u1 (u1.alloc (.cells #[.int .i64 0, .int .i64 0, .int .i64 0] 48)) := (Below.refl _ _).alloc (Nat.le_refl _) _
            have BX : Hid (Blk (u1.alloc (.cells #[.int .i64 0, .int .i64 0, .int .i64 0] 48)) gL [.int .i64 0, .int .i64 0, .int .i64 0] 48) := by show Blk _ _ _ _; rw [hgL]; exact Blk.new _ [_, _, _] _
            have hgl : Hid (v13.heap.size ≤ gL) := by show _ ≤ _; rw [hgL]; exact F0.out.size
            have hgl2 : Hid (gL < (u1.alloc (.cells #[.int .i64 0, .int .i64 0, .int .i64 0] 48)).heap.size) := by show _ < _; rw [hgL]; simp
            replace F0 : Hid (Below v13.heap.size v13 (u1.alloc (.cells #[.int .i64 0, .int .i64 0, .int .i64 0] 48))) := F0.out.trans (hb.mono F0.out.size)
            replace Ma := Lib.hid (Ma.out.below hb)
            rw [← hgL]
            refine postH_normal (hK _ _ _ F0.out ?_)
            clear hK K hb hgL
            generalize u1.alloc _ = u2 at *
            refine wpAnyH_each (rs := [2]) (by kernel_rfl) (by decide) (fun K hK i hi => ?_)
            obtain rfl := List.mem_singleton.1 hi
            refine wpOp_listed rfl ?_
            go_wp2_with fail
            refine (CM.out _ Ma.out).mono ?_
            rintro e u3 ⟨rfl, hb⟩
            replace F0 : Hid (Below v13.heap.size v13 u3) := F0.out.trans (hb.mono F0.out.size)
            replace Ma := Lib.hid (Ma.out.below hb)
            replace BX := Lib.hid (BX.out.below hb BX.out.lt)
            replace hgl2 := Lib.hid (Nat.lt_of_lt_of_le hgl2.out hb.size)
            go_wp2_with fail
            refine postH_normal (hK _ _ _ F0.out ?_)
            clear hK K hb
            refine wpAnyH_of_plan (by kernel_rfl) (by intro c a d v w h; cases d <;> exact h) [3, 4, 5] 2 _ _ _ F0.out (by kernel_rfl) ?_
            iterate 3 (refine wpPlanH_plain rfl (fun K hK => ?_); go_simp; refine hK _ ?_; clear hK K)
            refine wpAnyH_each (rs := [7]) (by kernel_rfl) (by decide) (fun K hK i hi => ?_)
            obtain rfl := List.mem_singleton.1 hi
            refine wpOp_listed rfl ?_
            refine wpList_row_store rfl 48 _ _ rfl [.int .i64 (⟨109, 55, 68⟩ : Rdg).L, .int .i64 (⟨109, 55, 68⟩ : Rdg).lo, .int .i64 (⟨109, 55, 68⟩ : Rdg).hi] rfl rfl BX.out hszr.out rfl (one3 _ _ _) ?_
            intro u9 hw6 ho6
            replace F0 : Hid (Below v13.heap.size v13 u9) := F0.out.trans (ho6.below hgl.out)
            refine wpList_end (postH_normal (hK _ _ _ F0.out ?_))
            clear hK K
            refine wpAnyH_each (rs := [8]) (by kernel_rfl) (by decide) (fun K hK i hi => ?_)
            obtain rfl := List.mem_singleton.1 hi
            refine wpOp_listed rfl ?_
            go_wp2_with fail
            refine postH_normal (hK _ _ _ F0.out ?_)
            clear hK K
            refine wpAnyH_done (by kernel_rfl) ?_ _
            try go_wp2_with fail
            go_meet
            exact ⟨gL, by first | rfl | (go_simp; done), by first | rfl | (go_simp; done), hgl.out, hw6.out, F0.out⟩
        · skip
          refine wpOp_listed rfl ?_
          go_wp2_with fail
          obtain ⟨gL, hgL⟩ : ∃ x, x = u0.heap.size := ⟨_, rfl⟩
          have hb : Below u0.heap.size u0 (u0.alloc (.cells #[.int .i64 0, .int .i64 0, .int .i64 0] 48)) := (Below.refl _ _).alloc (Nat.le_refl _) _
          have BX : Hid (Blk (u0.alloc (.cells #[.int .i64 0, .int .i64 0, .int .i64 0] 48)) gL [.int .i64 0, .int .i64 0, .int .i64 0] 48) := by show Blk _ _ _ _; rw [hgL]; exact Blk.new _ [_, _, _] _
          have hgl : Hid (v13.heap.size ≤ gL) := by show _ ≤ _; rw [hgL]; exact F0.out.size
          have hgl2 : Hid (gL < (u0.alloc (.cells #[.int .i64 0, .int .i64 0, .int .i64 0] 48)).heap.size) := by show _ < _; rw [hgL]; simp
          replace F0 : Hid (Below v13.heap.size v13 (u0.alloc (.cells #[.int .i64 0, .int .i64 0, .int .i64 0] 48))) := F0.out.trans (hb.mono F0.out.size)
          replace Ma := Lib.hid (Ma.out.below hb)
          rw [← hgL]
          refine postH_normal (hK _ _ _ F0.out ?_)
          clear hK K hb hgL
          generalize u0.alloc _ = u1 at *
          refine wpAnyH_each (rs := [1]) (by kernel_rfl) (by decide) (fun K hK i hi => ?_)
          obtain rfl := List.mem_singleton.1 hi
          refine wpOp_listed rfl ?_
          go_wp2_with fail
          refine (CW.out 55 57 _).mono ?_
          rintro e u2 ⟨rfl, hb⟩
          replace F0 : Hid (Below v13.heap.size v13 u2) := F0.out.trans (hb.mono F0.out.size)
          replace Ma := Lib.hid (Ma.out.below hb)
          replace BX := Lib.hid (BX.out.below hb BX.out.lt)
          replace hgl2 := Lib.hid (Nat.lt_of_lt_of_le hgl2.out hb.size)
          go_wp2_with fail
          refine postH_normal (hK _ _ _ F0.out ?_)
          clear hK K hb
          refine wpAnyH_each (rs := [2]) (by kernel_rfl) (by decide) (fun K hK i hi => ?_)
          obtain rfl := List.mem_singleton.1 hi
          refine wpOp_listed rfl ?_
          go_wp2_with fail
          refine (CM.out _ Ma.out).mono ?_
          rintro e u3 ⟨rfl, hb⟩
          replace F0 : Hid (Below v13.heap.size v13 u3) := F0.out.trans (hb.mono F0.out.size)
          replace Ma := Lib.hid (Ma.out.below hb)
          replace BX := Lib.hid (BX.out.below hb BX.out.lt)
          replace hgl2 := Lib.hid (Nat.lt_of_lt_of_le hgl2.out hb.size)
          go_wp2_with fail
          refine postH_normal (hK _ _ _ F0.out ?_)
          clear hK K hb
          refine wpAnyH_of_plan (by kernel_rfl) (by intro c a d v w h; cases d <;> exact h) [3, 4, 5] 2 _ _ _ F0.out (by kernel_rfl) ?_
          iterate 3 (refine wpPlanH_plain rfl (fun K hK => ?_); go_simp; refine hK _ ?_; clear hK K)
          refine wpAnyH_each (rs := [7]) (by kernel_rfl) (by decide) (fun K hK i hi => ?_)
          obtain rfl := List.mem_singleton.1 hi
          refine wpOp_listed rfl ?_
          refine wpList_row_store rfl 48 _ _ rfl [.int .i64 (⟨109, 55, 68⟩ : Rdg).L, .int .i64 (⟨109, 55, 68⟩ : Rdg).lo, .int .i64 (⟨109, 55, 68⟩ : Rdg).hi] rfl rfl BX.out hszr.out rfl (one3 _ _ _) ?_
          intro u9 hw6 ho6
          replace F0 : Hid (Below v13.heap.size v13 u9) := F0.out.trans (ho6.below hgl.out)
          refine wpList_end (postH_normal (hK _ _ _ F0.out ?_))
          clear hK K
          refine wpAnyH_each (rs := [8]) (by kernel_rfl) (by decide) (fun K hK i hi => ?_)
          obtain rfl := List.mem_singleton.1 hi
          refine wpOp_listed rfl ?_
          go_wp2_with fail
          refine postH_normal (hK _ _ _ F0.out ?_)
          clear hK K
          refine wpAnyH_done (by kernel_rfl) ?_ _
          try go_wp2_with fail
          go_meet
          exact ⟨gL, by first | rfl | (go_simp; done), by first | rfl | (go_simp; done), hgl.out, hw6.out, F0.out⟩
      case rest =>
        obtain ⟨X18g, rfl, rfl, _, X18b, hb⟩ := hcut.out
        clear hcut
        replace E : Hid (Below w.heap.size w wc) := E.out.trans (hb.mono E.out.size)
        replace X1 := Lib.hid (X1.out.below hb X1.out.lt)
        replace M := Lib.hid (M.out.below hb)
        replace X8 := Lib.hid (X8.out.below hb X8.out.lt)
        replace X10 := Lib.hid (X10.out.below hb X10.out.lt)
        replace X12 := Lib.hid (X12.out.below hb X12.out.lt)
        replace X14 := Lib.hid (X14.out.below hb X14.out.lt)
        replace X14M := Lib.hid (X14M.out.below hb)
        replace X16 := Lib.hid (X16.out.below hb X16.out.lt)
        replace X16M := Lib.hid (X16M.out.below hb)
        clear hb
        have X18 := Lib.hid X18b
        clear X18b
        generalize hwc : wc = v14 at *
        clear hwc
        have C := Lib.hid (fun W (h : ClkM W (g0 + 1) ⟨100000, some ⟨g0, 0, none⟩, 1, 1, l0⟩) => latest_any _ 73 W h)
        dsimp only at C
        go_wp2_with (refine wpList_blk_load rfl 30 _ rfl 0 rfl X1.out [_, _] rfl _ hunc.out rfl hszc.out ?_)
        refine (C.out _ M.out).mono ?_
        rintro e v15 ⟨nn, ee, rfl, hL, hb⟩
        replace E : Hid (Below w.heap.size w v15) := E.out.trans (hb.mono E.out.size)
        replace X1 := Lib.hid (X1.out.below hb X1.out.lt)
        replace M := Lib.hid (M.out.below hb)
        replace X8 := Lib.hid (X8.out.below hb X8.out.lt)
        replace X10 := Lib.hid (X10.out.below hb X10.out.lt)
        replace X12 := Lib.hid (X12.out.below hb X12.out.lt)
        replace X14 := Lib.hid (X14.out.below hb X14.out.lt)
        replace X14M := Lib.hid (X14M.out.below hb)
        replace X16 := Lib.hid (X16.out.below hb X16.out.lt)
        replace X16M := Lib.hid (X16M.out.below hb)
        replace X18 := Lib.hid (X18.out.below hb X18.out.lt)
        clear hb C
        obtain ⟨rfl, rfl⟩ := LatR.uniq hL ex_latest
        clear hL
        have C := Lib.hid (fun W (h : ClkM W (g0 + 1) ⟨100000, some ⟨g0, 0, none⟩, 1, 1, l0⟩) => earliest_any _ 60 W h)
        dsimp only at C
        go_wp2_with (refine wpList_blk_load rfl 30 _ rfl 0 rfl X1.out [_, _] rfl _ hunc.out rfl hszc.out ?_)
        refine (C.out _ M.out).mono ?_
        rintro e v16 ⟨nn, ee, rfl, hL, hb⟩
        replace E : Hid (Below w.heap.size w v16) := E.out.trans (hb.mono E.out.size)
        replace X1 := Lib.hid (X1.out.below hb X1.out.lt)
        replace M := Lib.hid (M.out.below hb)
        replace X8 := Lib.hid (X8.out.below hb X8.out.lt)
        replace X10 := Lib.hid (X10.out.below hb X10.out.lt)
        replace X12 := Lib.hid (X12.out.below hb X12.out.lt)
        replace X14 := Lib.hid (X14.out.below hb X14.out.lt)
        replace X14M := Lib.hid (X14M.out.below hb)
        replace X16 := Lib.hid (X16.out.below hb X16.out.lt)
        replace X16M := Lib.hid (X16M.out.below hb)
        replace X18 := Lib.hid (X18.out.below hb X18.out.lt)
        clear hb C
        obtain ⟨rfl, rfl⟩ := EarR.uniq hL ex_earliest
        clear hL
        have C := Lib.hid (fun W => join_any 1 5 4 9 W)
        rw [ex_join.1, ex_join.2.1, ex_join.2.2] at C
        go_wp2_with fail
        refine (CW.out 1 5 _).mono ?_
        rintro e v17 ⟨rfl, hb⟩
        replace E : Hid (Below w.heap.size w v17) := E.out.trans (hb.mono E.out.size)
        replace X1 := Lib.hid (X1.out.below hb X1.out.lt)
        replace M := Lib.hid (M.out.below hb)
        replace X8 := Lib.hid (X8.out.below hb X8.out.lt)
        replace X10 := Lib.hid (X10.out.below hb X10.out.lt)
        replace X12 := Lib.hid (X12.out.below hb X12.out.lt)
        replace X14 := Lib.hid (X14.out.below hb X14.out.lt)
        replace X14M := Lib.hid (X14M.out.below hb)
        replace X16 := Lib.hid (X16.out.below hb X16.out.lt)
        replace X16M := Lib.hid (X16M.out.below hb)
        replace X18 := Lib.hid (X18.out.below hb X18.out.lt)
        clear hb 
        go_wp2_with fail
        refine (CW.out 4 9 _).mono ?_
        rintro e v18 ⟨rfl, hb⟩
        replace E : Hid (Below w.heap.size w v18) := E.out.trans (hb.mono E.out.size)
        replace X1 := Lib.hid (X1.out.below hb X1.out.lt)
        replace M := Lib.hid (M.out.below hb)
        replace X8 := Lib.hid (X8.out.below hb X8.out.lt)
        replace X10 := Lib.hid (X10.out.below hb X10.out.lt)
        replace X12 := Lib.hid (X12.out.below hb X12.out.lt)
        replace X14 := Lib.hid (X14.out.below hb X14.out.lt)
        replace X14M := Lib.hid (X14M.out.below hb)
        replace X16 := Lib.hid (X16.out.below hb X16.out.lt)
        replace X16M := Lib.hid (X16M.out.below hb)
        replace X18 := Lib.hid (X18.out.below hb X18.out.lt)
        clear hb 
        go_wp2_with fail
        refine (C.out _).mono ?_
        rintro e v19 ⟨rfl, hb⟩
        replace E : Hid (Below w.heap.size w v19) := E.out.trans (hb.mono E.out.size)
        replace X1 := Lib.hid (X1.out.below hb X1.out.lt)
        replace M := Lib.hid (M.out.below hb)
        replace X8 := Lib.hid (X8.out.below hb X8.out.lt)
        replace X10 := Lib.hid (X10.out.below hb X10.out.lt)
        replace X12 := Lib.hid (X12.out.below hb X12.out.lt)
        replace X14 := Lib.hid (X14.out.below hb X14.out.lt)
        replace X14M := Lib.hid (X14M.out.below hb)
        replace X16 := Lib.hid (X16.out.below hb X16.out.lt)
        replace X16M := Lib.hid (X16M.out.below hb)
        replace X18 := Lib.hid (X18.out.below hb X18.out.lt)
        clear hb C
        have X24 : Hid (Blk (v19.alloc (.cells #[.int .i64 4, .int .i64 5] 45)) v19.heap.size [.int .i64 4, .int .i64 5] 45) := Blk.new v19 [_, _] _
        have hb : Below v19.heap.size v19 (v19.alloc (.cells #[.int .i64 4, .int .i64 5] 45)) := (Below.refl _ _).alloc (Nat.le_refl _) _
        replace E : Hid (Below w.heap.size w (v19.alloc (.cells #[.int .i64 4, .int .i64 5] 45))) := E.out.trans (hb.mono E.out.size)
        replace X1 := Lib.hid (X1.out.below hb X1.out.lt)
        replace M := Lib.hid (M.out.below hb)
        replace X8 := Lib.hid (X8.out.below hb X8.out.lt)
        replace X10 := Lib.hid (X10.out.below hb X10.out.lt)
        replace X12 := Lib.hid (X12.out.below hb X12.out.lt)
        replace X14 := Lib.hid (X14.out.below hb X14.out.lt)
        replace X14M := Lib.hid (X14M.out.below hb)
        replace X16 := Lib.hid (X16.out.below hb X16.out.lt)
        replace X16M := Lib.hid (X16M.out.below hb)
        replace X18 := Lib.hid (X18.out.below hb X18.out.lt)
        clear hb
        go_upto_region 14 with fail
        generalize hvv : (v19.alloc (.cells #[.int .i64 4, .int .i64 5] 45)) = v20 at *
        clear hvv
        refine wp_region_planM [] [(true, 0), (true, 1), (true, 2), (true, 3), (true, 4), (true, 5), (true, 6), (true, 7), (true, 8), (true, 9), (true, 10), (true, 11), (true, 12), (true, 13), (true, 14), (true, 15), (false, 16), (true, 17), (true, 18), (true, 19), (true, 20), (false, 21), (true, 22), (true, 23), (true, 24), (true, 25), (false, 26), (true, 27), (true, 28), (true, 29), (true, 30), (true, 31), (true, 32), (true, 33), (true, 34), (true, 35), (true, 36), (true, 37)] (by decide) (by kernel_rfl) (by kernel_rfl) (by decide) (by intro c a d v w h; cases d <;> exact h) ?_
        change wpPlanM _ _ _ _ _ _ v20.drew
        have hb : Below v20.heap.size v20 v20.drew := (Below.refl _ _).drew
        generalize hgd : v20.drew = v21 at hb ⊢
        replace E : Hid (Below w.heap.size w v21) := E.out.trans (hb.mono E.out.size)
        replace X1 := Lib.hid (X1.out.below hb X1.out.lt)
        replace M := Lib.hid (M.out.below hb)
        replace X8 := Lib.hid (X8.out.below hb X8.out.lt)
        replace X10 := Lib.hid (X10.out.below hb X10.out.lt)
        replace X12 := Lib.hid (X12.out.below hb X12.out.lt)
        replace X14 := Lib.hid (X14.out.below hb X14.out.lt)
        replace X14M := Lib.hid (X14M.out.below hb)
        replace X16 := Lib.hid (X16.out.below hb X16.out.lt)
        replace X16M := Lib.hid (X16M.out.below hb)
        replace X18 := Lib.hid (X18.out.below hb X18.out.lt)
        replace X24 := Lib.hid (X24.out.below hb X24.out.lt)
        clear hb hgd
        iterate 15 (refine wpPlanM_plain rfl (fun K hK => ?_); go_simp; refine hK _ ?_; clear hK K)
        refine wpPlanM_runW rfl (by rfl) _ (fun q => load_run 45 _ rfl v6.heap.size 0 rfl [.int .i64 60, .int .i64 73] _ hunw.out rfl hszw.out q.world ((Blk.below X8.out q.ext X8.out.lt).range 0 _ (take_all0 _))) ?_
        refine wpPlanM_call rfl (fun K hK => ?_)
        go_wp2_with fail
        refine (CW.out 60 73 _).mono ?_
        rintro e v22 ⟨rfl, hb⟩
        have hbp := Lib.hid hb
        replace E : Hid (Below w.heap.size w v22) := E.out.trans (hb.mono E.out.size)
        replace X1 := Lib.hid (X1.out.below hb X1.out.lt)
        replace M := Lib.hid (M.out.below hb)
        replace X8 := Lib.hid (X8.out.below hb X8.out.lt)
        replace X10 := Lib.hid (X10.out.below hb X10.out.lt)
        replace X12 := Lib.hid (X12.out.below hb X12.out.lt)
        replace X14 := Lib.hid (X14.out.below hb X14.out.lt)
        replace X14M := Lib.hid (X14M.out.below hb)
        replace X16 := Lib.hid (X16.out.below hb X16.out.lt)
        replace X16M := Lib.hid (X16M.out.below hb)
        replace X18 := Lib.hid (X18.out.below hb X18.out.lt)
        replace X24 := Lib.hid (X24.out.below hb X24.out.lt)
        clear hb
        go_wp2_with fail
        refine planPostL_normal ⟨.inr hbp.out, hK _ _ ?_⟩
        clear hK K hbp
        refine wpPlanM_runW rfl (by rfl) _ (fun q => eqw_run _ _ _ rfl 60 73 60 73 rfl rfl true (by decide) q.world) ?_
        iterate 2 (refine wpPlanM_plain rfl (fun K hK => ?_); go_simp; refine hK _ ?_; clear hK K)
        refine wpPlanM_runW rfl (by rfl) _ (fun q => load_run 45 _ rfl v7.heap.size 0 rfl [.int .i64 37, .int .i64 50] _ hunw.out rfl hszw.out q.world ((Blk.below X10.out q.ext X10.out.lt).range 0 _ (take_all0 _))) ?_
        refine wpPlanM_call rfl (fun K hK => ?_)
        go_wp2_with fail
        refine (CW.out 37 50 _).mono ?_
        rintro e v23 ⟨rfl, hb⟩
        have hbp := Lib.hid hb
        replace E : Hid (Below w.heap.size w v23) := E.out.trans (hb.mono E.out.size)
        replace X1 := Lib.hid (X1.out.below hb X1.out.lt)
        replace M := Lib.hid (M.out.below hb)
        replace X8 := Lib.hid (X8.out.below hb X8.out.lt)
        replace X10 := Lib.hid (X10.out.below hb X10.out.lt)
        replace X12 := Lib.hid (X12.out.below hb X12.out.lt)
        replace X14 := Lib.hid (X14.out.below hb X14.out.lt)
        replace X14M := Lib.hid (X14M.out.below hb)
        replace X16 := Lib.hid (X16.out.below hb X16.out.lt)
        replace X16M := Lib.hid (X16M.out.below hb)
        replace X18 := Lib.hid (X18.out.below hb X18.out.lt)
        replace X24 := Lib.hid (X24.out.below hb X24.out.lt)
        clear hb
        go_wp2_with fail
        refine planPostL_normal ⟨.inr hbp.out, hK _ _ ?_⟩
        clear hK K hbp
        refine wpPlanM_runW rfl (by rfl) _ (fun q => eqw_run _ _ _ rfl 37 50 37 50 rfl rfl true (by decide) q.world) ?_
        iterate 2 (refine wpPlanM_plain rfl (fun K hK => ?_); go_simp; refine hK _ ?_; clear hK K)
        refine wpPlanM_runW rfl (by rfl) _ (fun q => load_run 45 _ rfl v8.heap.size 0 rfl [.int .i64 49, .int .i64 61] _ hunw.out rfl hszw.out q.world ((Blk.below X12.out q.ext X12.out.lt).range 0 _ (take_all0 _))) ?_
        refine wpPlanM_call rfl (fun K hK => ?_)
        go_wp2_with fail
        refine (CW.out 49 61 _).mono ?_
        rintro e v24 ⟨rfl, hb⟩
        have hbp := Lib.hid hb
        replace E : Hid (Below w.heap.size w v24) := E.out.trans (hb.mono E.out.size)
        replace X1 := Lib.hid (X1.out.below hb X1.out.lt)
        replace M := Lib.hid (M.out.below hb)
        replace X8 := Lib.hid (X8.out.below hb X8.out.lt)
        replace X10 := Lib.hid (X10.out.below hb X10.out.lt)
        replace X12 := Lib.hid (X12.out.below hb X12.out.lt)
        replace X14 := Lib.hid (X14.out.below hb X14.out.lt)
        replace X14M := Lib.hid (X14M.out.below hb)
        replace X16 := Lib.hid (X16.out.below hb X16.out.lt)
        replace X16M := Lib.hid (X16M.out.below hb)
        replace X18 := Lib.hid (X18.out.below hb X18.out.lt)
        replace X24 := Lib.hid (X24.out.below hb X24.out.lt)
        clear hb
        go_wp2_with fail
        refine planPostL_normal ⟨.inr hbp.out, hK _ _ ?_⟩
        clear hK K hbp
        refine wpPlanM_runW rfl (by rfl) _ (fun q => eqw_run _ _ _ rfl 49 61 49 61 rfl rfl true (by decide) q.world) ?_
        iterate 10 (refine wpPlanM_plain rfl (fun K hK => ?_); go_simp; refine hK _ ?_; clear hK K)
        refine wpPlanM_nil ?_
        go_upto_region 15 with fail
        have hn14 : X14k.n = 2 := by rw [X14M.out.len, X14L.out]; rfl
        obtain ⟨ad14, hA14, hbb14, hcl14⟩ := X14M.out.rd3 (j := 1) (r := ⟨111, 70, 73⟩) (by rw [X14L.out]; rfl)
        rw [hn14, hA14] at X14
        have hcl : Hid (∀ W, Below v24.heap.size v24 W → ∀ i y, ([.int .i64 111, .int .i64 70, .int .i64 73] : List Value)[i]? = some y → W.cell? ((ad14.add 3).add i) = some y) := fun W hW i y hi => (hW.cell (by rw [add_block, add_block]; exact Nat.lt_of_lt_of_le hbb14 X14M.out.le)).trans (hcl14 i y hi)
        have B14 : Hid (Below v24.heap.size v24 v24) := Below.refl _ _
        clear hn14 hA14 hcl14
        refine wp_region_planM [] [(true, 0), (true, 1), (true, 2), (true, 3), (true, 4), (true, 5), (true, 6), (true, 7), (true, 8), (false, 9), (true, 10), (true, 11), (true, 12), (true, 13), (true, 14), (true, 15), (true, 16), (true, 17), (true, 18), (false, 19), (true, 20), (true, 21), (true, 22), (true, 23)] (by decide) (by kernel_rfl) (by kernel_rfl) (by decide) (by intro c a d v w h; cases d <;> exact h) ?_
        change wpPlanM _ _ _ _ _ _ v24.drew
        have hb : Below v24.heap.size v24 v24.drew := (Below.refl _ _).drew
        generalize hgd : v24.drew = v25 at hb ⊢
        replace E : Hid (Below w.heap.size w v25) := E.out.trans (hb.mono E.out.size)
        replace X1 := Lib.hid (X1.out.below hb X1.out.lt)
        replace M := Lib.hid (M.out.below hb)
        replace X8 := Lib.hid (X8.out.below hb X8.out.lt)
        replace X10 := Lib.hid (X10.out.below hb X10.out.lt)
        replace X12 := Lib.hid (X12.out.below hb X12.out.lt)
        replace X14 := Lib.hid (X14.out.below hb X14.out.lt)
        replace X14M := Lib.hid (X14M.out.below hb)
        replace X16 := Lib.hid (X16.out.below hb X16.out.lt)
        replace X16M := Lib.hid (X16M.out.below hb)
        replace X18 := Lib.hid (X18.out.below hb X18.out.lt)
        replace X24 := Lib.hid (X24.out.below hb X24.out.lt)
        replace B14 : Hid (Below v24.heap.size v24 v25) := B14.out.trans hb
        clear hb hgd
        have P14 : ∀ q : ExtOf v25, q.world.cell? ⟨X14g, 1, none⟩ = some (.slice (some ad14) 2 X14k.c) := fun q => (Blk.below X14.out q.ext X14.out.lt).cell (j := 1) rfl
        iterate 8 (refine wpPlanM_plain rfl (fun K hK => ?_); go_simp; refine hK _ ?_; clear hK K)
        refine wpPlanM_runW rfl (by rfl) _ (fun q => load_at_runK 48 _ rfl (ad14.add 3) rfl [.int .i64 111, .int .i64 70, .int .i64 73] _ hunr.out rfl hszr.out q.world (hcl.out q.world (B14.out.trans (Below.mono q.ext B14.out.size)))) ?_
        clear P14
        refine wpPlanM_call rfl (fun K hK => ?_)
        go_wp2_with fail
        refine (CW.out 70 73 _).mono ?_
        rintro e v26 ⟨rfl, hb⟩
        have hbp := Lib.hid hb
        replace E : Hid (Below w.heap.size w v26) := E.out.trans (hb.mono E.out.size)
        replace X1 := Lib.hid (X1.out.below hb X1.out.lt)
        replace M := Lib.hid (M.out.below hb)
        replace X8 := Lib.hid (X8.out.below hb X8.out.lt)
        replace X10 := Lib.hid (X10.out.below hb X10.out.lt)
        replace X12 := Lib.hid (X12.out.below hb X12.out.lt)
        replace X14 := Lib.hid (X14.out.below hb X14.out.lt)
        replace X14M := Lib.hid (X14M.out.below hb)
        replace X16 := Lib.hid (X16.out.below hb X16.out.lt)
        replace X16M := Lib.hid (X16M.out.below hb)
        replace X18 := Lib.hid (X18.out.below hb X18.out.lt)
        replace X24 := Lib.hid (X24.out.below hb X24.out.lt)
        replace B14 : Hid (Below v24.heap.size v24 v26) := B14.out.trans (hb.mono B14.out.size)
        clear hb
        go_wp2_with fail
        refine planPostL_normal ⟨.inr hbp.out, hK _ _ ?_⟩
        clear hK K hbp
        iterate 1 (refine wpPlanM_plain rfl (fun K hK => ?_); go_simp; refine hK _ ?_; clear hK K)
        refine wpPlanM_runW rfl (by rfl) _ (fun q => eqr_run _ _ _ rfl ⟨111, 70, 73⟩ ⟨111, 70, 73⟩ rfl rfl true (by decide) q.world) ?_
        iterate 6 (refine wpPlanM_plain rfl (fun K hK => ?_); go_simp; refine hK _ ?_; clear hK K)
        refine wpPlanM_runW rfl (by rfl) _ (fun q => load_run 48 _ rfl X18g 0 rfl [.int .i64 109, .int .i64 55, .int .i64 68] _ hunr.out rfl hszr.out q.world ((Blk.below X18.out q.ext X18.out.lt).range 0 _ (take_all0 _))) ?_
        refine wpPlanM_call rfl (fun K hK => ?_)
        go_wp2_with fail
        refine (CW.out 55 68 _).mono ?_
        rintro e v27 ⟨rfl, hb⟩
        have hbp := Lib.hid hb
        replace E : Hid (Below w.heap.size w v27) := E.out.trans (hb.mono E.out.size)
        replace X1 := Lib.hid (X1.out.below hb X1.out.lt)
        replace M := Lib.hid (M.out.below hb)
        replace X8 := Lib.hid (X8.out.below hb X8.out.lt)
        replace X10 := Lib.hid (X10.out.below hb X10.out.lt)
        replace X12 := Lib.hid (X12.out.below hb X12.out.lt)
        replace X14 := Lib.hid (X14.out.below hb X14.out.lt)
        replace X14M := Lib.hid (X14M.out.below hb)
        replace X16 := Lib.hid (X16.out.below hb X16.out.lt)
        replace X16M := Lib.hid (X16M.out.below hb)
        replace X18 := Lib.hid (X18.out.below hb X18.out.lt)
        replace X24 := Lib.hid (X24.out.below hb X24.out.lt)
        replace B14 : Hid (Below v24.heap.size v24 v27) := B14.out.trans (hb.mono B14.out.size)
        clear hb
        go_wp2_with fail
        refine planPostL_normal ⟨.inr hbp.out, hK _ _ ?_⟩
        clear hK K hbp
        iterate 1 (refine wpPlanM_plain rfl (fun K hK => ?_); go_simp; refine hK _ ?_; clear hK K)
        refine wpPlanM_runW rfl (by rfl) _ (fun q => eqr_run _ _ _ rfl ⟨109, 55, 68⟩ ⟨109, 55, 68⟩ rfl rfl true (by decide) q.world) ?_
        iterate 2 (refine wpPlanM_plain rfl (fun K hK => ?_); go_simp; refine hK _ ?_; clear hK K)
        refine wpPlanM_nil ?_
        go_upto_region 16 with fail
        generalize hvv : v27 = v28 at *
        clear hvv
        refine wp_region_planM [] [(true, 0), (true, 1), (true, 2), (true, 3), (true, 4), (true, 5), (true, 6), (true, 7), (true, 8), (false, 9), (true, 10), (true, 11), (true, 12), (false, 13), (false, 14), (false, 15), (true, 16), (true, 17), (true, 18), (false, 19), (false, 20), (false, 21), (true, 22), (true, 23), (true, 24), (false, 25), (false, 26), (false, 27), (true, 28), (true, 29), (true, 30), (true, 31), (false, 32), (true, 33), (true, 34), (true, 35)] (by decide) (by kernel_rfl) (by kernel_rfl) (by decide) (by intro c a d v w h; cases d <;> exact h) ?_
        change wpPlanM _ _ _ _ _ _ v28.drew
        have hb : Below v28.heap.size v28 v28.drew := (Below.refl _ _).drew
        generalize hgd : v28.drew = v29 at hb ⊢
        replace E : Hid (Below w.heap.size w v29) := E.out.trans (hb.mono E.out.size)
        replace X1 := Lib.hid (X1.out.below hb X1.out.lt)
        replace M := Lib.hid (M.out.below hb)
        replace X8 := Lib.hid (X8.out.below hb X8.out.lt)
        replace X10 := Lib.hid (X10.out.below hb X10.out.lt)
        replace X12 := Lib.hid (X12.out.below hb X12.out.lt)
        replace X14 := Lib.hid (X14.out.below hb X14.out.lt)
        replace X14M := Lib.hid (X14M.out.below hb)
        replace X16 := Lib.hid (X16.out.below hb X16.out.lt)
        replace X16M := Lib.hid (X16M.out.below hb)
        replace X18 := Lib.hid (X18.out.below hb X18.out.lt)
        replace X24 := Lib.hid (X24.out.below hb X24.out.lt)
        clear hb hgd
        replace B14 : Hid (Below v29.heap.size v29 v29) := Below.refl _ _
        have O1 := Lib.hid (fun W => order_any 1 2 3 4 W)
        rw [ex_ord.1] at O1
        have O2 := Lib.hid (fun W => order_any 3 4 1 2 W)
        rw [ex_ord.2.1] at O2
        have O3 := Lib.hid (fun W => order_any 1 3 3 4 W)
        rw [ex_ord.2.2] at O3
        have CK := Lib.hid (fun W (h : ClkM W (g0 + 1) ⟨100000, some ⟨g0, 0, none⟩, 1, 1, l0⟩) => check14_any _ W h)
        dsimp only at CK
        rw [ex_chk] at CK
        iterate 8 (refine wpPlanM_plain rfl (fun K hK => ?_); go_simp; refine hK _ ?_; clear hK K)
        refine wpPlanM_runW rfl (by rfl) _ (fun q => load_run 45 _ rfl v19.heap.size 0 rfl [.int .i64 4, .int .i64 5] _ hunw.out rfl hszw.out q.world ((Blk.below X24.out q.ext X24.out.lt).range 0 _ (take_all0 _))) ?_
        refine wpPlanM_call rfl (fun K hK => ?_)
        go_wp2_with fail
        refine (CW.out 4 5 _).mono ?_
        rintro e v30 ⟨rfl, hb⟩
        have hbp := Lib.hid hb
        replace E : Hid (Below w.heap.size w v30) := E.out.trans (hb.mono E.out.size)
        replace X1 := Lib.hid (X1.out.below hb X1.out.lt)
        replace M := Lib.hid (M.out.below hb)
        replace X8 := Lib.hid (X8.out.below hb X8.out.lt)
        replace X10 := Lib.hid (X10.out.below hb X10.out.lt)
        replace X12 := Lib.hid (X12.out.below hb X12.out.lt)
        replace X14 := Lib.hid (X14.out.below hb X14.out.lt)
        replace X14M := Lib.hid (X14M.out.below hb)
        replace X16 := Lib.hid (X16.out.below hb X16.out.lt)
        replace X16M := Lib.hid (X16M.out.below hb)
        replace X18 := Lib.hid (X18.out.below hb X18.out.lt)
        replace X24 := Lib.hid (X24.out.below hb X24.out.lt)
        replace B14 : Hid (Below v29.heap.size v29 v30) := B14.out.trans (hb.mono B14.out.size)
        clear hb
        go_wp2_with fail
        refine planPostL_normal ⟨.inr hbp.out, hK _ _ ?_⟩
        clear hK K hbp
        refine wpPlanM_runW rfl (by rfl) _ (fun q => eqw_run _ _ _ rfl 4 5 4 5 rfl rfl true (by decide) q.world) ?_
        iterate 2 (refine wpPlanM_plain rfl (fun K hK => ?_); go_simp; refine hK _ ?_; clear hK K)
        refine wpPlanM_call rfl (fun K hK => ?_)
        go_wp2_with fail
        refine (CW.out 1 2 _).mono ?_
        rintro e v31 ⟨rfl, hb⟩
        have hbp := Lib.hid hb
        replace E : Hid (Below w.heap.size w v31) := E.out.trans (hb.mono E.out.size)
        replace X1 := Lib.hid (X1.out.below hb X1.out.lt)
        replace M := Lib.hid (M.out.below hb)
        replace X8 := Lib.hid (X8.out.below hb X8.out.lt)
        replace X10 := Lib.hid (X10.out.below hb X10.out.lt)
        replace X12 := Lib.hid (X12.out.below hb X12.out.lt)
        replace X14 := Lib.hid (X14.out.below hb X14.out.lt)
        replace X14M := Lib.hid (X14M.out.below hb)
        replace X16 := Lib.hid (X16.out.below hb X16.out.lt)
        replace X16M := Lib.hid (X16M.out.below hb)
        replace X18 := Lib.hid (X18.out.below hb X18.out.lt)
        replace X24 := Lib.hid (X24.out.below hb X24.out.lt)
        replace B14 : Hid (Below v29.heap.size v29 v31) := B14.out.trans (hb.mono B14.out.size)
        clear hb
        go_wp2_with fail
        refine planPostL_normal ⟨.inr hbp.out, hK _ _ ?_⟩
        clear hK K hbp
        refine wpPlanM_call rfl (fun K hK => ?_)
        go_wp2_with fail
        refine (CW.out 3 4 _).mono ?_
        rintro e v32 ⟨rfl, hb⟩
        have hbp := Lib.hid hb
        replace E : Hid (Below w.heap.size w v32) := E.out.trans (hb.mono E.out.size)
        replace X1 := Lib.hid (X1.out.below hb X1.out.lt)
        replace M := Lib.hid (M.out.below hb)
        replace X8 := Lib.hid (X8.out.below hb X8.out.lt)
        replace X10 := Lib.hid (X10.out.below hb X10.out.lt)
        replace X12 := Lib.hid (X12.out.below hb X12.out.lt)
        replace X14 := Lib.hid (X14.out.below hb X14.out.lt)
        replace X14M := Lib.hid (X14M.out.below hb)
        replace X16 := Lib.hid (X16.out.below hb X16.out.lt)
        replace X16M := Lib.hid (X16M.out.below hb)
        replace X18 := Lib.hid (X18.out.below hb X18.out.lt)
        replace X24 := Lib.hid (X24.out.below hb X24.out.lt)
        replace B14 : Hid (Below v29.heap.size v29 v32) := B14.out.trans (hb.mono B14.out.size)
        clear hb
        go_wp2_with fail
        refine planPostL_normal ⟨.inr hbp.out, hK _ _ ?_⟩
        clear hK K hbp
        refine wpPlanM_call rfl (fun K hK => ?_)
        go_wp2_with fail
        refine (O1.out _).mono ?_
        rintro e v33 ⟨rfl, hb⟩
        have hbp := Lib.hid hb
        replace E : Hid (Below w.heap.size w v33) := E.out.trans (hb.mono E.out.size)
        replace X1 := Lib.hid (X1.out.below hb X1.out.lt)
        replace M := Lib.hid (M.out.below hb)
        replace X8 := Lib.hid (X8.out.below hb X8.out.lt)
        replace X10 := Lib.hid (X10.out.below hb X10.out.lt)
        replace X12 := Lib.hid (X12.out.below hb X12.out.lt)
        replace X14 := Lib.hid (X14.out.below hb X14.out.lt)
        replace X14M := Lib.hid (X14M.out.below hb)
        replace X16 := Lib.hid (X16.out.below hb X16.out.lt)
        replace X16M := Lib.hid (X16M.out.below hb)
        replace X18 := Lib.hid (X18.out.below hb X18.out.lt)
        replace X24 := Lib.hid (X24.out.below hb X24.out.lt)
        replace B14 : Hid (Below v29.heap.size v29 v33) := B14.out.trans (hb.mono B14.out.size)
        clear hb
        go_wp2_with fail
        refine planPostL_normal ⟨.inr hbp.out, hK _ _ ?_⟩
        clear hK K hbp
        iterate 3 (refine wpPlanM_plain rfl (fun K hK => ?_); go_simp; refine hK _ ?_; clear hK K)
        refine wpPlanM_call rfl (fun K hK => ?_)
        go_wp2_with fail
        refine (CW.out 3 4 _).mono ?_
        rintro e v34 ⟨rfl, hb⟩
        have hbp := Lib.hid hb
        replace E : Hid (Below w.heap.size w v34) := E.out.trans (hb.mono E.out.size)
        replace X1 := Lib.hid (X1.out.below hb X1.out.lt)
        replace M := Lib.hid (M.out.below hb)
        replace X8 := Lib.hid (X8.out.below hb X8.out.lt)
        replace X10 := Lib.hid (X10.out.below hb X10.out.lt)
        replace X12 := Lib.hid (X12.out.below hb X12.out.lt)
        replace X14 := Lib.hid (X14.out.below hb X14.out.lt)
        replace X14M := Lib.hid (X14M.out.below hb)
        replace X16 := Lib.hid (X16.out.below hb X16.out.lt)
        replace X16M := Lib.hid (X16M.out.below hb)
        replace X18 := Lib.hid (X18.out.below hb X18.out.lt)
        replace X24 := Lib.hid (X24.out.below hb X24.out.lt)
        replace B14 : Hid (Below v29.heap.size v29 v34) := B14.out.trans (hb.mono B14.out.size)
        clear hb
        go_wp2_with fail
        refine planPostL_normal ⟨.inr hbp.out, hK _ _ ?_⟩
        clear hK K hbp
        refine wpPlanM_call rfl (fun K hK => ?_)
        go_wp2_with fail
        refine (CW.out 1 2 _).mono ?_
        rintro e v35 ⟨rfl, hb⟩
        have hbp := Lib.hid hb
        replace E : Hid (Below w.heap.size w v35) := E.out.trans (hb.mono E.out.size)
        replace X1 := Lib.hid (X1.out.below hb X1.out.lt)
        replace M := Lib.hid (M.out.below hb)
        replace X8 := Lib.hid (X8.out.below hb X8.out.lt)
        replace X10 := Lib.hid (X10.out.below hb X10.out.lt)
        replace X12 := Lib.hid (X12.out.below hb X12.out.lt)
        replace X14 := Lib.hid (X14.out.below hb X14.out.lt)
        replace X14M := Lib.hid (X14M.out.below hb)
        replace X16 := Lib.hid (X16.out.below hb X16.out.lt)
        replace X16M := Lib.hid (X16M.out.below hb)
        replace X18 := Lib.hid (X18.out.below hb X18.out.lt)
        replace X24 := Lib.hid (X24.out.below hb X24.out.lt)
        replace B14 : Hid (Below v29.heap.size v29 v35) := B14.out.trans (hb.mono B14.out.size)
        clear hb
        go_wp2_with fail
        refine planPostL_normal ⟨.inr hbp.out, hK _ _ ?_⟩
        clear hK K hbp
        refine wpPlanM_call rfl (fun K hK => ?_)
        go_wp2_with fail
        refine (O2.out _).mono ?_
        rintro e v36 ⟨rfl, hb⟩
        have hbp := Lib.hid hb
        replace E : Hid (Below w.heap.size w v36) := E.out.trans (hb.mono E.out.size)
        replace X1 := Lib.hid (X1.out.below hb X1.out.lt)
        replace M := Lib.hid (M.out.below hb)
        replace X8 := Lib.hid (X8.out.below hb X8.out.lt)
        replace X10 := Lib.hid (X10.out.below hb X10.out.lt)
        replace X12 := Lib.hid (X12.out.below hb X12.out.lt)
        replace X14 := Lib.hid (X14.out.below hb X14.out.lt)
        replace X14M := Lib.hid (X14M.out.below hb)
        replace X16 := Lib.hid (X16.out.below hb X16.out.lt)
        replace X16M := Lib.hid (X16M.out.below hb)
        replace X18 := Lib.hid (X18.out.below hb X18.out.lt)
        replace X24 := Lib.hid (X24.out.below hb X24.out.lt)
        replace B14 : Hid (Below v29.heap.size v29 v36) := B14.out.trans (hb.mono B14.out.size)
        clear hb
        go_wp2_with fail
        refine planPostL_normal ⟨.inr hbp.out, hK _ _ ?_⟩
        clear hK K hbp
        iterate 3 (refine wpPlanM_plain rfl (fun K hK => ?_); go_simp; refine hK _ ?_; clear hK K)
        refine wpPlanM_call rfl (fun K hK => ?_)
        go_wp2_with fail
        refine (CW.out 1 3 _).mono ?_
        rintro e v37 ⟨rfl, hb⟩
        have hbp := Lib.hid hb
        replace E : Hid (Below w.heap.size w v37) := E.out.trans (hb.mono E.out.size)
        replace X1 := Lib.hid (X1.out.below hb X1.out.lt)
        replace M := Lib.hid (M.out.below hb)
        replace X8 := Lib.hid (X8.out.below hb X8.out.lt)
        replace X10 := Lib.hid (X10.out.below hb X10.out.lt)
        replace X12 := Lib.hid (X12.out.below hb X12.out.lt)
        replace X14 := Lib.hid (X14.out.below hb X14.out.lt)
        replace X14M := Lib.hid (X14M.out.below hb)
        replace X16 := Lib.hid (X16.out.below hb X16.out.lt)
        replace X16M := Lib.hid (X16M.out.below hb)
        replace X18 := Lib.hid (X18.out.below hb X18.out.lt)
        replace X24 := Lib.hid (X24.out.below hb X24.out.lt)
        replace B14 : Hid (Below v29.heap.size v29 v37) := B14.out.trans (hb.mono B14.out.size)
        clear hb
        go_wp2_with fail
        refine planPostL_normal ⟨.inr hbp.out, hK _ _ ?_⟩
        clear hK K hbp
        refine wpPlanM_call rfl (fun K hK => ?_)
        go_wp2_with fail
        refine (CW.out 3 4 _).mono ?_
        rintro e v38 ⟨rfl, hb⟩
        have hbp := Lib.hid hb
        replace E : Hid (Below w.heap.size w v38) := E.out.trans (hb.mono E.out.size)
        replace X1 := Lib.hid (X1.out.below hb X1.out.lt)
        replace M := Lib.hid (M.out.below hb)
        replace X8 := Lib.hid (X8.out.below hb X8.out.lt)
        replace X10 := Lib.hid (X10.out.below hb X10.out.lt)
        replace X12 := Lib.hid (X12.out.below hb X12.out.lt)
        replace X14 := Lib.hid (X14.out.below hb X14.out.lt)
        replace X14M := Lib.hid (X14M.out.below hb)
        replace X16 := Lib.hid (X16.out.below hb X16.out.lt)
        replace X16M := Lib.hid (X16M.out.below hb)
        replace X18 := Lib.hid (X18.out.below hb X18.out.lt)
        replace X24 := Lib.hid (X24.out.below hb X24.out.lt)
        replace B14 : Hid (Below v29.heap.size v29 v38) := B14.out.trans (hb.mono B14.out.size)
        clear hb
        go_wp2_with fail
        refine planPostL_normal ⟨.inr hbp.out, hK _ _ ?_⟩
        clear hK K hbp
        refine wpPlanM_call rfl (fun K hK => ?_)
        go_wp2_with fail
        refine (O3.out _).mono ?_
        rintro e v39 ⟨rfl, hb⟩
        have hbp := Lib.hid hb
        replace E : Hid (Below w.heap.size w v39) := E.out.trans (hb.mono E.out.size)
        replace X1 := Lib.hid (X1.out.below hb X1.out.lt)
        replace M := Lib.hid (M.out.below hb)
        replace X8 := Lib.hid (X8.out.below hb X8.out.lt)
        replace X10 := Lib.hid (X10.out.below hb X10.out.lt)
        replace X12 := Lib.hid (X12.out.below hb X12.out.lt)
        replace X14 := Lib.hid (X14.out.below hb X14.out.lt)
        replace X14M := Lib.hid (X14M.out.below hb)
        replace X16 := Lib.hid (X16.out.below hb X16.out.lt)
        replace X16M := Lib.hid (X16M.out.below hb)
        replace X18 := Lib.hid (X18.out.below hb X18.out.lt)
        replace X24 := Lib.hid (X24.out.below hb X24.out.lt)
        replace B14 : Hid (Below v29.heap.size v29 v39) := B14.out.trans (hb.mono B14.out.size)
        clear hb
        go_wp2_with fail
        refine planPostL_normal ⟨.inr hbp.out, hK _ _ ?_⟩
        clear hK K hbp
        iterate 3 (refine wpPlanM_plain rfl (fun K hK => ?_); go_simp; refine hK _ ?_; clear hK K)
        refine wpPlanM_runW rfl (by rfl) _ (fun q => load_run 30 _ rfl gC 0 rfl [.int .i64 100000, .slice (some ⟨g0, 0, none⟩) 1 1] _ hunc.out rfl hszc.out q.world ((Blk.below X1.out q.ext X1.out.lt).range 0 _ (take_all0 _))) ?_
        refine wpPlanM_call rfl (fun K hK => ?_)
        go_wp2_with fail
        refine (CK.out _ M.out).mono ?_
        rintro e v40 ⟨rfl, hb⟩
        have hbp := Lib.hid hb
        replace E : Hid (Below w.heap.size w v40) := E.out.trans (hb.mono E.out.size)
        replace X1 := Lib.hid (X1.out.below hb X1.out.lt)
        replace M := Lib.hid (M.out.below hb)
        replace X8 := Lib.hid (X8.out.below hb X8.out.lt)
        replace X10 := Lib.hid (X10.out.below hb X10.out.lt)
        replace X12 := Lib.hid (X12.out.below hb X12.out.lt)
        replace X14 := Lib.hid (X14.out.below hb X14.out.lt)
        replace X14M := Lib.hid (X14M.out.below hb)
        replace X16 := Lib.hid (X16.out.below hb X16.out.lt)
        replace X16M := Lib.hid (X16M.out.below hb)
        replace X18 := Lib.hid (X18.out.below hb X18.out.lt)
        replace X24 := Lib.hid (X24.out.below hb X24.out.lt)
        replace B14 : Hid (Below v29.heap.size v29 v40) := B14.out.trans (hb.mono B14.out.size)
        clear hb
        go_wp2_with fail
        refine planPostL_normal ⟨.inr hbp.out, hK _ _ ?_⟩
        clear hK K hbp
        iterate 3 (refine wpPlanM_plain rfl (fun K hK => ?_); go_simp; refine hK _ ?_; clear hK K)
        refine wpPlanM_nil ?_
        go_wp2_with fail
        go_ret
        exact ⟨by first | rfl | (go_simp; done), E.out⟩
end Go.Proofs.Ytbkgbjimooobbaa
