/-
  Stage 14 (clock): the walk of ClockDeadlinesAsSpecified. (Written by tools/genut.py.)
-/
import Derived.Test.YtpdalebnodgcdaaUr
namespace Go.Proofs.Ytpdalebnodgcdaa
set_option linter.unusedVariables false
set_option linter.unusedSimpArgs false
open Go.RowKit

/-- How the region ends that calls the specification twice. -/
def DlB (v : World) (n1 e1 n2 e2 : Int) (va vb : Value) (W : World) : Prop :=
  ∃ g g', va = .pointer (some ⟨g, 0, none⟩) ∧ vb = .pointer (some ⟨g', 0, none⟩) ∧ Blk W g [.int .i64 n1, .int .i64 e1] 65 ∧ Blk W g' [.int .i64 n2, .int .i64 e2] 65 ∧ Below v.heap.size v W

set_option maxRecDepth 100000 in
set_option maxHeartbeats 16000000 in
theorem deadlines_walk (k : Clk) (due : Int) (w : World) (m : ClkM w w.heap.size k) (hd : Wm.Fits due) :
    Calls Try.prog 5 #[.agg #[.int .i64 k.rate, .slice k.A k.n k.c], .int .i64 due] w fun e w' => e = .returned (.bool true) ∧ Below w.heap.size w w' := by
  obtain ⟨w0, hw0⟩ : ∃ w0, w0 = w.alloc (.cells #[.int .i64 k.rate, .slice k.A k.n k.c] 24) := ⟨_, rfl⟩
  have E : Hid (Below w.heap.size w w0) := by show Below _ _ _; rw [hw0]; exact (Below.refl _ _).alloc (Nat.le_refl _) _
  have X1 : Hid (Blk w0 w.heap.size [.int .i64 k.rate, .slice k.A k.n k.c] 24) := by show Blk _ _ _ _; rw [hw0]; exact Blk.new w [_, _] _
  have M := Lib.hid (m.below E.out)
  have hw0' := Lib.hid hw0
  clear hw0
  obtain ⟨gC, hgC⟩ : ∃ x, x = w.heap.size := ⟨_, rfl⟩
  have hszc := Lib.hid size_clk
  have hunc : Hid (Try.prog.underlying 24 = _) := Try.underlying24
  have hszf := Lib.hid size_fnd
  have hunf : Hid (Try.prog.underlying 65 = _) := Try.underlying65
  obtain ⟨s0, hs0⟩ : ∃ s, w.heap.size = s := ⟨_, rfl⟩
  have CF := Lib.hid (fun W => few_any14 k W)
  have C1 := Lib.hid (fun W (h : ClkM W s0 k) => latest_any k due W h)
  have C2 := Lib.hid (fun W (h : ClkM W s0 k) => earliest_any k due W h)
  have C3 := Lib.hid (fun W (h : ClkM W s0 k) => rLatest_any k due W h)
  have C4 := Lib.hid (fun W (h : ClkM W s0 k) => rEarliest_any k due W h)
  have hs0' := Lib.hid hs0
  rw [hs0] at M X1
  clear hgC gC m
  obtain ⟨f0, hf0⟩ : ∃ f, decide (k.n ≤ 20) = f := ⟨_, rfl⟩
  rw [hf0] at CF
  clear hf0
  rcases k with ⟨rate, A, n, c, l⟩
  dsimp only at *
  cases f0 with
  | false =>
    go_enter Try.func5, Try.ntmps5
    go_upto_region 1 with fail
    generalize hgg : w.alloc _ = Wg
    have hgW : w0 = Wg := by rw [← hgg, hw0'.out]
    clear hgg hw0'
    subst hgW
    try rw [hs0]
    go_wp2_with (refine wpList_blk_load rfl 24 _ rfl 0 rfl X1.out [_, _] rfl _ hunc.out rfl hszc.out ?_)
    refine (CF.out _).mono ?_
    rintro e v1 ⟨rfl, hb⟩
    replace E : Hid (Below w.heap.size w v1) := E.out.trans (hb.mono E.out.size)
    replace X1 := Lib.hid (X1.out.below hb X1.out.lt)
    replace M := Lib.hid (M.out.below hb)
    clear hb CF
    go_wp2_with fail
    refine (sanity_any14 _).mono ?_
    rintro e v2 ⟨rfl, hb⟩
    replace E : Hid (Below w.heap.size w v2) := E.out.trans (hb.mono E.out.size)
    clear hb
    go_wp2_with fail
    go_ret
    exact ⟨rfl, E.out⟩
  | true =>
    go_enter Try.func5, Try.ntmps5
    go_upto_region 1 with fail
    generalize hgg : w.alloc _ = Wg
    have hgW : w0 = Wg := by rw [← hgg, hw0'.out]
    clear hgg hw0'
    subst hgW
    try rw [hs0]
    go_wp2_with (refine wpList_blk_load rfl 24 _ rfl 0 rfl X1.out [_, _] rfl _ hunc.out rfl hszc.out ?_)
    refine (CF.out _).mono ?_
    rintro e v1 ⟨rfl, hb⟩
    replace E : Hid (Below w.heap.size w v1) := E.out.trans (hb.mono E.out.size)
    replace X1 := Lib.hid (X1.out.below hb X1.out.lt)
    replace M := Lib.hid (M.out.below hb)
    clear hb CF
    go_wp2_with (refine wpList_blk_load rfl 24 _ rfl 0 rfl X1.out [_, _] rfl _ hunc.out rfl hszc.out ?_)
    refine (C1.out _ M.out).mono ?_
    rintro e v2 ⟨n1, e1, rfl, h1, hb⟩
    have H1 := Lib.hid h1
    replace E : Hid (Below w.heap.size w v2) := E.out.trans (hb.mono E.out.size)
    replace X1 := Lib.hid (X1.out.below hb X1.out.lt)
    replace M := Lib.hid (M.out.below hb)
    clear hb C1 h1
    go_wp2_with (refine wpList_blk_load rfl 24 _ rfl 0 rfl X1.out [_, _] rfl _ hunc.out rfl hszc.out ?_)
    refine (C2.out _ M.out).mono ?_
    rintro e v3 ⟨n2, e2, rfl, h2, hb⟩
    have H2 := Lib.hid h2
    replace E : Hid (Below w.heap.size w v3) := E.out.trans (hb.mono E.out.size)
    replace X1 := Lib.hid (X1.out.below hb X1.out.lt)
    replace M := Lib.hid (M.out.below hb)
    clear hb C2 h2
    go_upto_region 5 with fail
    go_cut [9, 10] from 27 to 32 (fun va vb W => Hid (DlB v3 n1 e1 n2 e2 va vb W))
    case first J KK hJ hKK =>
      have hne : Nonempty (SOf fun W => Below v3.heap.size v3 W) := ⟨⟨v3, Below.refl _ _⟩⟩
      refine wp_region_planH (fun W => Below v3.heap.size v3 W) [0, 1, 3, 4] 6 (by kernel_rfl) (by kernel_rfl) (by kernel_rfl) (by kernel_rfl) (by intro c a d v w h; cases d <;> exact h) ((Below.refl _ _).drew) ?_
      change wpPlanH _ _ _ _ _ _ _ _ _ v3.drew
      refine wpPlanH_runW rfl (by rfl) _ (fun q => load_run 24 _ rfl s0 0 rfl [.int .i64 rate, .slice A n c] _ hunc.out rfl hszc.out q.world ((Blk.below X1.out q.meets X1.out.lt).range 0 _ (take_all0 _))) ?_
      iterate 1 (refine wpPlanH_plain rfl (fun K hK => ?_); go_simp; refine hK _ ?_; clear hK K)
      refine wpPlanH_runW rfl (by rfl) _ (fun q => load_run 24 _ rfl s0 0 rfl [.int .i64 rate, .slice A n c] _ hunc.out rfl hszc.out q.world ((Blk.below X1.out q.meets X1.out.lt).range 0 _ (take_all0 _))) ?_
      iterate 1 (refine wpPlanH_plain rfl (fun K hK => ?_); go_simp; refine hK _ ?_; clear hK K)
      have F0 : Hid (Below v3.heap.size v3 v3.drew) := (Below.refl _ _).drew
      have Ma := Lib.hid (M.out.below F0.out)
      generalize v3.drew = u0 at F0 Ma ⊢
      refine wpAnyH_each (rs := [2, 6, 7]) (by kernel_rfl) (by decide) (fun K hK i hi => ?_)
      simp only [List.mem_cons, List.not_mem_nil, or_false] at hi
      rcases hi with rfl | rfl | rfl
      · skip
        refine wpOp_listed rfl ?_
        go_wp2_with fail
        refine (C3.out _ Ma.out).mono ?_
        rintro e u1 ⟨n3, e3, rfl, h3, hb⟩
        obtain ⟨rfl, rfl⟩ := LatR.uniq H1.out h3
        clear h3
        replace F0 : Hid (Below v3.heap.size v3 u1) := F0.out.trans (hb.mono F0.out.size)
        replace Ma := Lib.hid (Ma.out.below hb)
        go_wp2_with fail
        refine postH_normal (hK _ _ _ F0.out ?_)
        clear hK K hb
        refine wpAnyH_each (rs := [5, 6, 7]) (by kernel_rfl) (by decide) (fun K hK i hi => ?_)
        simp only [List.mem_cons, List.not_mem_nil, or_false] at hi
        rcases hi with rfl | rfl | rfl
        · skip
          refine wpOp_listed rfl ?_
          go_wp2_with fail
          refine (C4.out _ Ma.out).mono ?_
          rintro e u2 ⟨n3, e3, rfl, h3, hb⟩
          obtain ⟨rfl, rfl⟩ := EarR.uniq H2.out h3
          clear h3
          replace F0 : Hid (Below v3.heap.size v3 u2) := F0.out.trans (hb.mono F0.out.size)
          replace Ma := Lib.hid (Ma.out.below hb)
          go_wp2_with fail
          refine postH_normal (hK _ _ _ F0.out ?_)
          clear hK K hb
          refine wpAnyH_each (rs := [6, 7]) (by kernel_rfl) (by decide) (fun K hK i hi => ?_)
          simp only [List.mem_cons, List.not_mem_nil, or_false] at hi
          rcases hi with rfl | rfl
          · skip
            refine wpOp_listed rfl ?_
            go_wp2_with fail
            obtain ⟨g6, hgL⟩ : ∃ x, x = u2.heap.size := ⟨_, rfl⟩
            have hb : Below u2.heap.size u2 (u2.alloc (.cells #[.int .i64 0, .int .i64 0] 65)) := (Below.refl _ _).alloc (Nat.le_refl _) _
            have B6 : Hid (Blk (u2.alloc (.cells #[.int .i64 0, .int .i64 0] 65)) g6 [.int .i64 0, .int .i64 0] 65) := by show Blk _ _ _ _; rw [hgL]; exact Blk.new _ [_, _] _
            have hg6 : Hid (v3.heap.size ≤ g6) := by show _ ≤ _; rw [hgL]; exact F0.out.size
            replace F0 : Hid (Below v3.heap.size v3 (u2.alloc (.cells #[.int .i64 0, .int .i64 0] 65))) := F0.out.trans (hb.mono F0.out.size)
            replace Ma := Lib.hid (Ma.out.below hb)
            rw [← hgL]
            refine postH_normal (hK _ _ _ F0.out ?_)
            clear hK K hb hgL
            generalize u2.alloc _ = u3 at *
            refine wpAnyH_each (rs := [7]) (by kernel_rfl) (by decide) (fun K hK i hi => ?_)
            obtain rfl := List.mem_singleton.1 hi
            refine wpOp_listed rfl ?_
            go_wp2_with fail
            obtain ⟨g7, hgL⟩ : ∃ x, x = u3.heap.size := ⟨_, rfl⟩
            have hb : Below u3.heap.size u3 (u3.alloc (.cells #[.int .i64 0, .int .i64 0] 65)) := (Below.refl _ _).alloc (Nat.le_refl _) _
            have B7 : Hid (Blk (u3.alloc (.cells #[.int .i64 0, .int .i64 0] 65)) g7 [.int .i64 0, .int .i64 0] 65) := by show Blk _ _ _ _; rw [hgL]; exact Blk.new _ [_, _] _
            have hg7 : Hid (v3.heap.size ≤ g7) := by show _ ≤ _; rw [hgL]; exact F0.out.size
            replace F0 : Hid (Below v3.heap.size v3 (u3.alloc (.cells #[.int .i64 0, .int .i64 0] 65))) := F0.out.trans (hb.mono F0.out.size)
            have hne67 : Hid (g6 ≠ g7) := by show ¬ _; have := B6.out.lt; omega
            replace Ma := Lib.hid (Ma.out.below hb)
            replace B6 := Lib.hid (B6.out.below hb B6.out.lt)
            rw [← hgL]
            refine postH_normal (hK _ _ _ F0.out ?_)
            clear hK K hb hgL
            generalize u3.alloc _ = u4 at *
            refine wpAnyH_each (rs := [8]) (by kernel_rfl) (by decide) (fun K hK i hi => ?_)
            obtain rfl := List.mem_singleton.1 hi
            refine wpOp_listed rfl ?_
            refine wpList_row_store rfl 65 _ _ rfl [.int .i64 n1, .int .i64 e1] rfl rfl B6.out hszf.out rfl (one2 _ _) ?_; intro u8 hw6 ho6
            replace F0 : Hid (Below v3.heap.size v3 u8) := F0.out.trans (ho6.below hg6.out)
            replace B7 := Lib.hid (B7.out.only ho6 hne67.out.symm)
            replace B6 := Lib.hid hw6.out
            refine wpList_end (postH_normal (hK _ _ _ F0.out ?_))
            clear hK K hw6 ho6
            refine wpAnyH_each (rs := [9]) (by kernel_rfl) (by decide) (fun K hK i hi => ?_)
            obtain rfl := List.mem_singleton.1 hi
            refine wpOp_listed rfl ?_
            refine wpList_row_store rfl 65 _ _ rfl [.int .i64 n2, .int .i64 e2] rfl rfl B7.out hszf.out rfl (one2 _ _) ?_; intro u9 hw6 ho6
            replace F0 : Hid (Below v3.heap.size v3 u9) := F0.out.trans (ho6.below hg7.out)
            replace B6 := Lib.hid (B6.out.only ho6 hne67.out)
            replace B7 := Lib.hid hw6.out
            refine wpList_end (postH_normal (hK _ _ _ F0.out ?_))
            clear hK K hw6 ho6
            refine wpAnyH_done (by kernel_rfl) ?_ _
            try go_wp2_with fail
            go_meet
            exact ⟨g6, g7, by first | rfl | (go_simp; done), by first | rfl | (go_simp; done), B6.out, B7.out, F0.out⟩
          · skip
            refine wpOp_listed rfl ?_
            go_wp2_with fail
            obtain ⟨g7, hgL⟩ : ∃ x, x = u2.heap.size := ⟨_, rfl⟩
            have hb : Below u2.heap.size u2 (u2.alloc (.cells #[.int .i64 0, .int .i64 0] 65)) := (Below.refl _ _).alloc (Nat.le_refl _) _
            have B7 : Hid (Blk (u2.alloc (.cells #[.int .i64 0, .int .i64 0] 65)) g7 [.int .i64 0, .int .i64 0] 65) := by show Blk _ _ _ _; rw [hgL]; exact Blk.new _ [_, _] _
            have hg7 : Hid (v3.heap.size ≤ g7) := by show _ ≤ _; rw [hgL]; exact F0.out.size
            replace F0 : Hid (Below v3.heap.size v3 (u2.alloc (.cells #[.int .i64 0, .int .i64 0] 65))) := F0.out.trans (hb.mono F0.out.size)
            replace Ma := Lib.hid (Ma.out.below hb)
            rw [← hgL]
            refine postH_normal (hK _ _ _ F0.out ?_)
            clear hK K hb hgL
            generalize u2.alloc _ = u3 at *
            refine wpAnyH_each (rs := [6]) (by kernel_rfl) (by decide) (fun K hK i hi => ?_)
            obtain rfl := List.mem_singleton.1 hi
            refine wpOp_listed rfl ?_
            go_wp2_with fail
            obtain ⟨g6, hgL⟩ : ∃ x, x = u3.heap.size := ⟨_, rfl⟩
            have hb : Below u3.heap.size u3 (u3.alloc (.cells #[.int .i64 0, .int .i64 0] 65)) := (Below.refl _ _).alloc (Nat.le_refl _) _
            have B6 : Hid (Blk (u3.alloc (.cells #[.int .i64 0, .int .i64 0] 65)) g6 [.int .i64 0, .int .i64 0] 65) := by show Blk _ _ _ _; rw [hgL]; exact Blk.new _ [_, _] _
            have hg6 : Hid (v3.heap.size ≤ g6) := by show _ ≤ _; rw [hgL]; exact F0.out.size
            replace F0 : Hid (Below v3.heap.size v3 (u3.alloc (.cells #[.int .i64 0, .int .i64 0] 65))) := F0.out.trans (hb.mono F0.out.size)
            have hne67 : Hid (g6 ≠ g7) := by show ¬ _; have := B7.out.lt; omega
            replace Ma := Lib.hid (Ma.out.below hb)
            replace B7 := Lib.hid (B7.out.below hb B7.out.lt)
            rw [← hgL]
            refine postH_normal (hK _ _ _ F0.out ?_)
            clear hK K hb hgL
            generalize u3.alloc _ = u4 at *
            refine wpAnyH_each (rs := [8]) (by kernel_rfl) (by decide) (fun K hK i hi => ?_)
            obtain rfl := List.mem_singleton.1 hi
            refine wpOp_listed rfl ?_
            refine wpList_row_store rfl 65 _ _ rfl [.int .i64 n1, .int .i64 e1] rfl rfl B6.out hszf.out rfl (one2 _ _) ?_; intro u8 hw6 ho6
            replace F0 : Hid (Below v3.heap.size v3 u8) := F0.out.trans (ho6.below hg6.out)
            replace B7 := Lib.hid (B7.out.only ho6 hne67.out.symm)
            replace B6 := Lib.hid hw6.out
            refine wpList_end (postH_normal (hK _ _ _ F0.out ?_))
            clear hK K hw6 ho6
            refine wpAnyH_each (rs := [9]) (by kernel_rfl) (by decide) (fun K hK i hi => ?_)
            obtain rfl := List.mem_singleton.1 hi
            refine wpOp_listed rfl ?_
            refine wpList_row_store rfl 65 _ _ rfl [.int .i64 n2, .int .i64 e2] rfl rfl B7.out hszf.out rfl (one2 _ _) ?_; intro u9 hw6 ho6
            replace F0 : Hid (Below v3.heap.size v3 u9) := F0.out.trans (ho6.below hg7.out)
            replace B6 := Lib.hid (B6.out.only ho6 hne67.out)
            replace B7 := Lib.hid hw6.out
            refine wpList_end (postH_normal (hK _ _ _ F0.out ?_))
            clear hK K hw6 ho6
            refine wpAnyH_done (by kernel_rfl) ?_ _
            try go_wp2_with fail
            go_meet
            exact ⟨g6, g7, by first | rfl | (go_simp; done), by first | rfl | (go_simp; done), B6.out, B7.out, F0.out⟩
        · skip
          refine wpOp_listed rfl ?_
          go_wp2_with fail
          obtain ⟨g6, hgL⟩ : ∃ x, x = u1.heap.size := ⟨_, rfl⟩
          have hb : Below u1.heap.size u1 (u1.alloc (.cells #[.int .i64 0, .int .i64 0] 65)) := (Below.refl _ _).alloc (Nat.le_refl _) _
          have B6 : Hid (Blk (u1.alloc (.cells #[.int .i64 0, .int .i64 0] 65)) g6 [.int .i64 0, .int .i64 0] 65) := by show Blk _ _ _ _; rw [hgL]; exact Blk.new _ [_, _] _
          have hg6 : Hid (v3.heap.size ≤ g6) := by show _ ≤ _; rw [hgL]; exact F0.out.size
          replace F0 : Hid (Below v3.heap.size v3 (u1.alloc (.cells #[.int .i64 0, .int .i64 0] 65))) := F0.out.trans (hb.mono F0.out.size)
          replace Ma := Lib.hid (Ma.out.below hb)
          rw [← hgL]
          refine postH_normal (hK _ _ _ F0.out ?_)
          clear hK K hb hgL
          generalize u1.alloc _ = u2 at *
          refine wpAnyH_each (rs := [5, 7]) (by kernel_rfl) (by decide) (fun K hK i hi => ?_)
          simp only [List.mem_cons, List.not_mem_nil, or_false] at hi
          rcases hi with rfl | rfl
          · skip
            refine wpOp_listed rfl ?_
            go_wp2_with fail
            refine (C4.out _ Ma.out).mono ?_
            rintro e u3 ⟨n3, e3, rfl, h3, hb⟩
            obtain ⟨rfl, rfl⟩ := EarR.uniq H2.out h3
            clear h3
            replace F0 : Hid (Below v3.heap.size v3 u3) := F0.out.trans (hb.mono F0.out.size)
            replace Ma := Lib.hid (Ma.out.below hb)
            replace B6 := Lib.hid (B6.out.below hb B6.out.lt)
            go_wp2_with fail
            refine postH_normal (hK _ _ _ F0.out ?_)
            clear hK K hb
            refine wpAnyH_each (rs := [7]) (by kernel_rfl) (by decide) (fun K hK i hi => ?_)
            obtain rfl := List.mem_singleton.1 hi
            refine wpOp_listed rfl ?_
            go_wp2_with fail
            obtain ⟨g7, hgL⟩ : ∃ x, x = u3.heap.size := ⟨_, rfl⟩
            have hb : Below u3.heap.size u3 (u3.alloc (.cells #[.int .i64 0, .int .i64 0] 65)) := (Below.refl _ _).alloc (Nat.le_refl _) _
            have B7 : Hid (Blk (u3.alloc (.cells #[.int .i64 0, .int .i64 0] 65)) g7 [.int .i64 0, .int .i64 0] 65) := by show Blk _ _ _ _; rw [hgL]; exact Blk.new _ [_, _] _
            have hg7 : Hid (v3.heap.size ≤ g7) := by show _ ≤ _; rw [hgL]; exact F0.out.size
            replace F0 : Hid (Below v3.heap.size v3 (u3.alloc (.cells #[.int .i64 0, .int .i64 0] 65))) := F0.out.trans (hb.mono F0.out.size)
            have hne67 : Hid (g6 ≠ g7) := by show ¬ _; have := B6.out.lt; omega
            replace Ma := Lib.hid (Ma.out.below hb)
            replace B6 := Lib.hid (B6.out.below hb B6.out.lt)
            rw [← hgL]
            refine postH_normal (hK _ _ _ F0.out ?_)
            clear hK K hb hgL
            generalize u3.alloc _ = u4 at *
            refine wpAnyH_each (rs := [8]) (by kernel_rfl) (by decide) (fun K hK i hi => ?_)
            obtain rfl := List.mem_singleton.1 hi
            refine wpOp_listed rfl ?_
            refine wpList_row_store rfl 65 _ _ rfl [.int .i64 n1, .int .i64 e1] rfl rfl B6.out hszf.out rfl (one2 _ _) ?_; intro u8 hw6 ho6
            replace F0 : Hid (Below v3.heap.size v3 u8) := F0.out.trans (ho6.below hg6.out)
            replace B7 := Lib.hid (B7.out.only ho6 hne67.out.symm)
            replace B6 := Lib.hid hw6.out
            refine wpList_end (postH_normal (hK _ _ _ F0.out ?_))
            clear hK K hw6 ho6
            refine wpAnyH_each (rs := [9]) (by kernel_rfl) (by decide) (fun K hK i hi => ?_)
            obtain rfl := List.mem_singleton.1 hi
            refine wpOp_listed rfl ?_
            refine wpList_row_store rfl 65 _ _ rfl [.int .i64 n2, .int .i64 e2] rfl rfl B7.out hszf.out rfl (one2 _ _) ?_; intro u9 hw6 ho6
            replace F0 : Hid (Below v3.heap.size v3 u9) := F0.out.trans (ho6.below hg7.out)
            replace B6 := Lib.hid (B6.out.only ho6 hne67.out)
            replace B7 := Lib.hid hw6.out
            refine wpList_end (postH_normal (hK _ _ _ F0.out ?_))
            clear hK K hw6 ho6
            refine wpAnyH_done (by kernel_rfl) ?_ _
            try go_wp2_with fail
            go_meet
            exact ⟨g6, g7, by first | rfl | (go_simp; done), by first | rfl | (go_simp; done), B6.out, B7.out, F0.out⟩
          · skip
            refine wpOp_listed rfl ?_
            go_wp2_with fail
            obtain ⟨g7, hgL⟩ : ∃ x, x = u2.heap.size := ⟨_, rfl⟩
            have hb : Below u2.heap.size u2 (u2.alloc (.cells #[.int .i64 0, .int .i64 0] 65)) := (Below.refl _ _).alloc (Nat.le_refl _) _
            have B7 : Hid (Blk (u2.alloc (.cells #[.int .i64 0, .int .i64 0] 65)) g7 [.int .i64 0, .int .i64 0] 65) := by show Blk _ _ _ _; rw [hgL]; exact Blk.new _ [_, _] _
            have hg7 : Hid (v3.heap.size ≤ g7) := by show _ ≤ _; rw [hgL]; exact F0.out.size
            replace F0 : Hid (Below v3.heap.size v3 (u2.alloc (.cells #[.int .i64 0, .int .i64 0] 65))) := F0.out.trans (hb.mono F0.out.size)
            have hne67 : Hid (g6 ≠ g7) := by show ¬ _; have := B6.out.lt; omega
            replace Ma := Lib.hid (Ma.out.below hb)
            replace B6 := Lib.hid (B6.out.below hb B6.out.lt)
            rw [← hgL]
            refine postH_normal (hK _ _ _ F0.out ?_)
            clear hK K hb hgL
            generalize u2.alloc _ = u3 at *
            refine wpAnyH_each (rs := [5]) (by kernel_rfl) (by decide) (fun K hK i hi => ?_)
            obtain rfl := List.mem_singleton.1 hi
            refine wpOp_listed rfl ?_
            go_wp2_with fail
            refine (C4.out _ Ma.out).mono ?_
            rintro e u4 ⟨n3, e3, rfl, h3, hb⟩
            obtain ⟨rfl, rfl⟩ := EarR.uniq H2.out h3
            clear h3
            replace F0 : Hid (Below v3.heap.size v3 u4) := F0.out.trans (hb.mono F0.out.size)
            replace Ma := Lib.hid (Ma.out.below hb)
            replace B6 := Lib.hid (B6.out.below hb B6.out.lt)
            replace B7 := Lib.hid (B7.out.below hb B7.out.lt)
            go_wp2_with fail
            refine postH_normal (hK _ _ _ F0.out ?_)
            clear hK K hb
            refine wpAnyH_each (rs := [8]) (by kernel_rfl) (by decide) (fun K hK i hi => ?_)
            obtain rfl := List.mem_singleton.1 hi
            refine wpOp_listed rfl ?_
            refine wpList_row_store rfl 65 _ _ rfl [.int .i64 n1, .int .i64 e1] rfl rfl B6.out hszf.out rfl (one2 _ _) ?_; intro u8 hw6 ho6
            replace F0 : Hid (Below v3.heap.size v3 u8) := F0.out.trans (ho6.below hg6.out)
            replace B7 := Lib.hid (B7.out.only ho6 hne67.out.symm)
            replace B6 := Lib.hid hw6.out
            refine wpList_end (postH_normal (hK _ _ _ F0.out ?_))
            clear hK K hw6 ho6
            refine wpAnyH_each (rs := [9]) (by kernel_rfl) (by decide) (fun K hK i hi => ?_)
            obtain rfl := List.mem_singleton.1 hi
            refine wpOp_listed rfl ?_
            refine wpList_row_store rfl 65 _ _ rfl [.int .i64 n2, .int .i64 e2] rfl rfl B7.out hszf.out rfl (one2 _ _) ?_; intro u9 hw6 ho6
            replace F0 : Hid (Below v3.heap.size v3 u9) := F0.out.trans (ho6.below hg7.out)
            replace B6 := Lib.hid (B6.out.only ho6 hne67.out)
            replace B7 := Lib.hid hw6.out
            refine wpList_end (postH_normal (hK _ _ _ F0.out ?_))
            clear hK K hw6 ho6
            refine wpAnyH_done (by kernel_rfl) ?_ _
            try go_wp2_with fail
            go_meet
            exact ⟨g6, g7, by first | rfl | (go_simp; done), by first | rfl | (go_simp; done), B6.out, B7.out, F0.out⟩
        · skip
          refine wpOp_listed rfl ?_
          go_wp2_with fail
          obtain ⟨g7, hgL⟩ : ∃ x, x = u1.heap.size := ⟨_, rfl⟩
          have hb : Below u1.heap.size u1 (u1.alloc (.cells #[.int .i64 0, .int .i64 0] 65)) := (Below.refl _ _).alloc (Nat.le_refl _) _
          have B7 : Hid (Blk (u1.alloc (.cells #[.int .i64 0, .int .i64 0] 65)) g7 [.int .i64 0, .int .i64 0] 65) := by show Blk _ _ _ _; rw [hgL]; exact Blk.new _ [_, _] _
          have hg7 : Hid (v3.heap.size ≤ g7) := by show _ ≤ _; rw [hgL]; exact F0.out.size
          replace F0 : Hid (Below v3.heap.size v3 (u1.alloc (.cells #[.int .i64 0, .int .i64 0] 65))) := F0.out.trans (hb.mono F0.out.size)
          replace Ma := Lib.hid (Ma.out.below hb)
          rw [← hgL]
          refine postH_normal (hK _ _ _ F0.out ?_)
          clear hK K hb hgL
          generalize u1.alloc _ = u2 at *
          refine wpAnyH_each (rs := [5, 6]) (by kernel_rfl) (by decide) (fun K hK i hi => ?_)
          simp only [List.mem_cons, List.not_mem_nil, or_false] at hi
          rcases hi with rfl | rfl
          · skip
            refine wpOp_listed rfl ?_
            go_wp2_with fail
            refine (C4.out _ Ma.out).mono ?_
            rintro e u3 ⟨n3, e3, rfl, h3, hb⟩
            obtain ⟨rfl, rfl⟩ := EarR.uniq H2.out h3
            clear h3
            replace F0 : Hid (Below v3.heap.size v3 u3) := F0.out.trans (hb.mono F0.out.size)
            replace Ma := Lib.hid (Ma.out.below hb)
            replace B7 := Lib.hid (B7.out.below hb B7.out.lt)
            go_wp2_with fail
            refine postH_normal (hK _ _ _ F0.out ?_)
            clear hK K hb
            refine wpAnyH_each (rs := [6]) (by kernel_rfl) (by decide) (fun K hK i hi => ?_)
            obtain rfl := List.mem_singleton.1 hi
            refine wpOp_listed rfl ?_
            go_wp2_with fail
            obtain ⟨g6, hgL⟩ : ∃ x, x = u3.heap.size := ⟨_, rfl⟩
            have hb : Below u3.heap.size u3 (u3.alloc (.cells #[.int .i64 0, .int .i64 0] 65)) := (Below.refl _ _).alloc (Nat.le_refl _) _
            have B6 : Hid (Blk (u3.alloc (.cells #[.int .i64 0, .int .i64 0] 65)) g6 [.int .i64 0, .int .i64 0] 65) := by show Blk _ _ _ _; rw [hgL]; exact Blk.new _ [_, _] _
            have hg6 : Hid (v3.heap.size ≤ g6) := by show _ ≤ _; rw [hgL]; exact F0.out.size
            replace F0 : Hid (Below v3.heap.size v3 (u3.alloc (.cells #[.int .i64 0, .int .i64 0] 65))) := F0.out.trans (hb.mono F0.out.size)
            have hne67 : Hid (g6 ≠ g7) := by show ¬ _; have := B7.out.lt; omega
            replace Ma := Lib.hid (Ma.out.below hb)
            replace B7 := Lib.hid (B7.out.below hb B7.out.lt)
            rw [← hgL]
            refine postH_normal (hK _ _ _ F0.out ?_)
            clear hK K hb hgL
            generalize u3.alloc _ = u4 at *
            refine wpAnyH_each (rs := [8]) (by kernel_rfl) (by decide) (fun K hK i hi => ?_)
            obtain rfl := List.mem_singleton.1 hi
            refine wpOp_listed rfl ?_
            refine wpList_row_store rfl 65 _ _ rfl [.int .i64 n1, .int .i64 e1] rfl rfl B6.out hszf.out rfl (one2 _ _) ?_; intro u8 hw6 ho6
            replace F0 : Hid (Below v3.heap.size v3 u8) := F0.out.trans (ho6.below hg6.out)
            replace B7 := Lib.hid (B7.out.only ho6 hne67.out.symm)
            replace B6 := Lib.hid hw6.out
            refine wpList_end (postH_normal (hK _ _ _ F0.out ?_))
            clear hK K hw6 ho6
            refine wpAnyH_each (rs := [9]) (by kernel_rfl) (by decide) (fun K hK i hi => ?_)
            obtain rfl := List.mem_singleton.1 hi
            refine wpOp_listed rfl ?_
            refine wpList_row_store rfl 65 _ _ rfl [.int .i64 n2, .int .i64 e2] rfl rfl B7.out hszf.out rfl (one2 _ _) ?_; intro u9 hw6 ho6
            replace F0 : Hid (Below v3.heap.size v3 u9) := F0.out.trans (ho6.below hg7.out)
            replace B6 := Lib.hid (B6.out.only ho6 hne67.out)
            replace B7 := Lib.hid hw6.out
            refine wpList_end (postH_normal (hK _ _ _ F0.out ?_))
            clear hK K hw6 ho6
            refine wpAnyH_done (by kernel_rfl) ?_ _
            try go_wp2_with fail
            go_meet
            exact ⟨g6, g7, by first | rfl | (go_simp; done), by first | rfl | (go_simp; done), B6.out, B7.out, F0.out⟩
          · skip
            refine wpOp_listed rfl ?_
            go_wp2_with fail
            obtain ⟨g6, hgL⟩ : ∃ x, x = u2.heap.size := ⟨_, rfl⟩
            have hb : Below u2.heap.size u2 (u2.alloc (.cells #[.int .i64 0, .int .i64 0] 65)) := (Below.refl _ _).alloc (Nat.le_refl _) _
            have B6 : Hid (Blk (u2.alloc (.cells #[.int .i64 0, .int .i64 0] 65)) g6 [.int .i64 0, .int .i64 0] 65) := by show Blk _ _ _ _; rw [hgL]; exact Blk.new _ [_, _] _
            have hg6 : Hid (v3.heap.size ≤ g6) := by show _ ≤ _; rw [hgL]; exact F0.out.size
            replace F0 : Hid (Below v3.heap.size v3 (u2.alloc (.cells #[.int .i64 0, .int .i64 0] 65))) := F0.out.trans (hb.mono F0.out.size)
            have hne67 : Hid (g6 ≠ g7) := by show ¬ _; have := B7.out.lt; omega
            replace Ma := Lib.hid (Ma.out.below hb)
            replace B7 := Lib.hid (B7.out.below hb B7.out.lt)
            rw [← hgL]
            refine postH_normal (hK _ _ _ F0.out ?_)
            clear hK K hb hgL
            generalize u2.alloc _ = u3 at *
            refine wpAnyH_each (rs := [5]) (by kernel_rfl) (by decide) (fun K hK i hi => ?_)
            obtain rfl := List.mem_singleton.1 hi
            refine wpOp_listed rfl ?_
            go_wp2_with fail
            refine (C4.out _ Ma.out).mono ?_
            rintro e u4 ⟨n3, e3, rfl, h3, hb⟩
            obtain ⟨rfl, rfl⟩ := EarR.uniq H2.out h3
            clear h3
            replace F0 : Hid (Below v3.heap.size v3 u4) := F0.out.trans (hb.mono F0.out.size)
            replace Ma := Lib.hid (Ma.out.below hb)
            replace B7 := Lib.hid (B7.out.below hb B7.out.lt)
            replace B6 := Lib.hid (B6.out.below hb B6.out.lt)
            go_wp2_with fail
            refine postH_normal (hK _ _ _ F0.out ?_)
            clear hK K hb
            refine wpAnyH_each (rs := [8]) (by kernel_rfl) (by decide) (fun K hK i hi => ?_)
            obtain rfl := List.mem_singleton.1 hi
            refine wpOp_listed rfl ?_
            refine wpList_row_store rfl 65 _ _ rfl [.int .i64 n1, .int .i64 e1] rfl rfl B6.out hszf.out rfl (one2 _ _) ?_; intro u8 hw6 ho6
            replace F0 : Hid (Below v3.heap.size v3 u8) := F0.out.trans (ho6.below hg6.out)
            replace B7 := Lib.hid (B7.out.only ho6 hne67.out.symm)
            replace B6 := Lib.hid hw6.out
            refine wpList_end (postH_normal (hK _ _ _ F0.out ?_))
            clear hK K hw6 ho6
            refine wpAnyH_each (rs := [9]) (by kernel_rfl) (by decide) (fun K hK i hi => ?_)
            obtain rfl := List.mem_singleton.1 hi
            refine wpOp_listed rfl ?_
            refine wpList_row_store rfl 65 _ _ rfl [.int .i64 n2, .int .i64 e2] rfl rfl B7.out hszf.out rfl (one2 _ _) ?_; intro u9 hw6 ho6
            replace F0 : Hid (Below v3.heap.size v3 u9) := F0.out.trans (ho6.below hg7.out)
            replace B6 := Lib.hid (B6.out.only ho6 hne67.out)
            replace B7 := Lib.hid hw6.out
            refine wpList_end (postH_normal (hK _ _ _ F0.out ?_))
            clear hK K hw6 ho6
            refine wpAnyH_done (by kernel_rfl) ?_ _
            try go_wp2_with fail
            go_meet
            exact ⟨g6, g7, by first | rfl | (go_simp; done), by first | rfl | (go_simp; done), B6.out, B7.out, F0.out⟩
      · skip
        refine wpOp_listed rfl ?_
        go_wp2_with fail
        obtain ⟨g6, hgL⟩ : ∃ x, x = u0.heap.size := ⟨_, rfl⟩
        have hb : Below u0.heap.size u0 (u0.alloc (.cells #[.int .i64 0, .int .i64 0] 65)) := (Below.refl _ _).alloc (Nat.le_refl _) _
        have B6 : Hid (Blk (u0.alloc (.cells #[.int .i64 0, .int .i64 0] 65)) g6 [.int .i64 0, .int .i64 0] 65) := by show Blk _ _ _ _; rw [hgL]; exact Blk.new _ [_, _] _
        have hg6 : Hid (v3.heap.size ≤ g6) := by show _ ≤ _; rw [hgL]; exact F0.out.size
        replace F0 : Hid (Below v3.heap.size v3 (u0.alloc (.cells #[.int .i64 0, .int .i64 0] 65))) := F0.out.trans (hb.mono F0.out.size)
        replace Ma := Lib.hid (Ma.out.below hb)
        rw [← hgL]
        refine postH_normal (hK _ _ _ F0.out ?_)
        clear hK K hb hgL
        generalize u0.alloc _ = u1 at *
        refine wpAnyH_each (rs := [2, 7]) (by kernel_rfl) (by decide) (fun K hK i hi => ?_)
        simp only [List.mem_cons, List.not_mem_nil, or_false] at hi
        rcases hi with rfl | rfl
        · skip
          refine wpOp_listed rfl ?_
          go_wp2_with fail
          refine (C3.out _ Ma.out).mono ?_
          rintro e u2 ⟨n3, e3, rfl, h3, hb⟩
          obtain ⟨rfl, rfl⟩ := LatR.uniq H1.out h3
          clear h3
          replace F0 : Hid (Below v3.heap.size v3 u2) := F0.out.trans (hb.mono F0.out.size)
          replace Ma := Lib.hid (Ma.out.below hb)
          replace B6 := Lib.hid (B6.out.below hb B6.out.lt)
          go_wp2_with fail
          refine postH_normal (hK _ _ _ F0.out ?_)
          clear hK K hb
          refine wpAnyH_each (rs := [5, 7]) (by kernel_rfl) (by decide) (fun K hK i hi => ?_)
          simp only [List.mem_cons, List.not_mem_nil, or_false] at hi
          rcases hi with rfl | rfl
          · skip
            refine wpOp_listed rfl ?_
            go_wp2_with fail
            refine (C4.out _ Ma.out).mono ?_
            rintro e u3 ⟨n3, e3, rfl, h3, hb⟩
            obtain ⟨rfl, rfl⟩ := EarR.uniq H2.out h3
            clear h3
            replace F0 : Hid (Below v3.heap.size v3 u3) := F0.out.trans (hb.mono F0.out.size)
            replace Ma := Lib.hid (Ma.out.below hb)
            replace B6 := Lib.hid (B6.out.below hb B6.out.lt)
            go_wp2_with fail
            refine postH_normal (hK _ _ _ F0.out ?_)
            clear hK K hb
            refine wpAnyH_each (rs := [7]) (by kernel_rfl) (by decide) (fun K hK i hi => ?_)
            obtain rfl := List.mem_singleton.1 hi
            refine wpOp_listed rfl ?_
            go_wp2_with fail
            obtain ⟨g7, hgL⟩ : ∃ x, x = u3.heap.size := ⟨_, rfl⟩
            have hb : Below u3.heap.size u3 (u3.alloc (.cells #[.int .i64 0, .int .i64 0] 65)) := (Below.refl _ _).alloc (Nat.le_refl _) _
            have B7 : Hid (Blk (u3.alloc (.cells #[.int .i64 0, .int .i64 0] 65)) g7 [.int .i64 0, .int .i64 0] 65) := by show Blk _ _ _ _; rw [hgL]; exact Blk.new _ [_, _] _
            have hg7 : Hid (v3.heap.size ≤ g7) := by show _ ≤ _; rw [hgL]; exact F0.out.size
            replace F0 : Hid (Below v3.heap.size v3 (u3.alloc (.cells #[.int .i64 0, .int .i64 0] 65))) := F0.out.trans (hb.mono F0.out.size)
            have hne67 : Hid (g6 ≠ g7) := by show ¬ _; have := B6.out.lt; omega
            replace Ma := Lib.hid (Ma.out.below hb)
            replace B6 := Lib.hid (B6.out.below hb B6.out.lt)
            rw [← hgL]
            refine postH_normal (hK _ _ _ F0.out ?_)
            clear hK K hb hgL
            generalize u3.alloc _ = u4 at *
            refine wpAnyH_each (rs := [8]) (by kernel_rfl) (by decide) (fun K hK i hi => ?_)
            obtain rfl := List.mem_singleton.1 hi
            refine wpOp_listed rfl ?_
            refine wpList_row_store rfl 65 _ _ rfl [.int .i64 n1, .int .i64 e1] rfl rfl B6.out hszf.out rfl (one2 _ _) ?_; intro u8 hw6 ho6
            replace F0 : Hid (Below v3.heap.size v3 u8) := F0.out.trans (ho6.below hg6.out)
            replace B7 := Lib.hid (B7.out.only ho6 hne67.out.symm)
            replace B6 := Lib.hid hw6.out
            refine wpList_end (postH_normal (hK _ _ _ F0.out ?_))
            clear hK K hw6 ho6
            refine wpAnyH_each (rs := [9]) (by kernel_rfl) (by decide) (fun K hK i hi => ?_)
            obtain rfl := List.mem_singleton.1 hi
            refine wpOp_listed rfl ?_
            refine wpList_row_store rfl 65 _ _ rfl [.int .i64 n2, .int .i64 e2] rfl rfl B7.out hszf.out rfl (one2 _ _) ?_; intro u9 hw6 ho6
            replace F0 : Hid (Below v3.heap.size v3 u9) := F0.out.trans (ho6.below hg7.out)
            replace B6 := Lib.hid (B6.out.only ho6 hne67.out)
            replace B7 := Lib.hid hw6.out
            refine wpList_end (postH_normal (hK _ _ _ F0.out ?_))
            clear hK K hw6 ho6
            refine wpAnyH_done (by kernel_rfl) ?_ _
            try go_wp2_with fail
            go_meet
            exact ⟨g6, g7, by first | rfl | (go_simp; done), by first | rfl | (go_simp; done), B6.out, B7.out, F0.out⟩
          · skip
            refine wpOp_listed rfl ?_
            go_wp2_with fail
            obtain ⟨g7, hgL⟩ : ∃ x, x = u2.heap.size := ⟨_, rfl⟩
            have hb : Below u2.heap.size u2 (u2.alloc (.cells #[.int .i64 0, .int .i64 0] 65)) := (Below.refl _ _).alloc (Nat.le_refl _) _
            have B7 : Hid (Blk (u2.alloc (.cells #[.int .i64 0, .int .i64 0] 65)) g7 [.int .i64 0, .int .i64 0] 65) := by show Blk _ _ _ _; rw [hgL]; exact Blk.new _ [_, _] _
            have hg7 : Hid (v3.heap.size ≤ g7) := by show _ ≤ _; rw [hgL]; exact F0.out.size
            replace F0 : Hid (Below v3.heap.size v3 (u2.alloc (.cells #[.int .i64 0, .int .i64 0] 65))) := F0.out.trans (hb.mono F0.out.size)
            have hne67 : Hid (g6 ≠ g7) := by show ¬ _; have := B6.out.lt; omega
            replace Ma := Lib.hid (Ma.out.below hb)
            replace B6 := Lib.hid (B6.out.below hb B6.out.lt)
            rw [← hgL]
            refine postH_normal (hK _ _ _ F0.out ?_)
            clear hK K hb hgL
            generalize u2.alloc _ = u3 at *
            refine wpAnyH_each (rs := [5]) (by kernel_rfl) (by decide) (fun K hK i hi => ?_)
            obtain rfl := List.mem_singleton.1 hi
            refine wpOp_listed rfl ?_
            go_wp2_with fail
            refine (C4.out _ Ma.out).mono ?_
            rintro e u4 ⟨n3, e3, rfl, h3, hb⟩
            obtain ⟨rfl, rfl⟩ := EarR.uniq H2.out h3
            clear h3
            replace F0 : Hid (Below v3.heap.size v3 u4) := F0.out.trans (hb.mono F0.out.size)
            replace Ma := Lib.hid (Ma.out.below hb)
            replace B6 := Lib.hid (B6.out.below hb B6.out.lt)
            replace B7 := Lib.hid (B7.out.below hb B7.out.lt)
            go_wp2_with fail
            refine postH_normal (hK _ _ _ F0.out ?_)
            clear hK K hb
            refine wpAnyH_each (rs := [8]) (by kernel_rfl) (by decide) (fun K hK i hi => ?_)
            obtain rfl := List.mem_singleton.1 hi
            refine wpOp_listed rfl ?_
            refine wpList_row_store rfl 65 _ _ rfl [.int .i64 n1, .int .i64 e1] rfl rfl B6.out hszf.out rfl (one2 _ _) ?_; intro u8 hw6 ho6
            replace F0 : Hid (Below v3.heap.size v3 u8) := F0.out.trans (ho6.below hg6.out)
            replace B7 := Lib.hid (B7.out.only ho6 hne67.out.symm)
            replace B6 := Lib.hid hw6.out
            refine wpList_end (postH_normal (hK _ _ _ F0.out ?_))
            clear hK K hw6 ho6
            refine wpAnyH_each (rs := [9]) (by kernel_rfl) (by decide) (fun K hK i hi => ?_)
            obtain rfl := List.mem_singleton.1 hi
            refine wpOp_listed rfl ?_
            refine wpList_row_store rfl 65 _ _ rfl [.int .i64 n2, .int .i64 e2] rfl rfl B7.out hszf.out rfl (one2 _ _) ?_; intro u9 hw6 ho6
            replace F0 : Hid (Below v3.heap.size v3 u9) := F0.out.trans (ho6.below hg7.out)
            replace B6 := Lib.hid (B6.out.only ho6 hne67.out)
            replace B7 := Lib.hid hw6.out
            refine wpList_end (postH_normal (hK _ _ _ F0.out ?_))
            clear hK K hw6 ho6
            refine wpAnyH_done (by kernel_rfl) ?_ _
            try go_wp2_with fail
            go_meet
            exact ⟨g6, g7, by first | rfl | (go_simp; done), by first | rfl | (go_simp; done), B6.out, B7.out, F0.out⟩
        · skip
          refine wpOp_listed rfl ?_
          go_wp2_with fail
          obtain ⟨g7, hgL⟩ : ∃ x, x = u1.heap.size := ⟨_, rfl⟩
          have hb : Below u1.heap.size u1 (u1.alloc (.cells #[.int .i64 0, .int .i64 0] 65)) := (Below.refl _ _).alloc (Nat.le_refl _) _
          have B7 : Hid (Blk (u1.alloc (.cells #[.int .i64 0, .int .i64 0] 65)) g7 [.int .i64 0, .int .i64 0] 65) := by show Blk _ _ _ _; rw [hgL]; exact Blk.new _ [_, _] _
          have hg7 : Hid (v3.heap.size ≤ g7) := by show _ ≤ _; rw [hgL]; exact F0.out.size
          replace F0 : Hid (Below v3.heap.size v3 (u1.alloc (.cells #[.int .i64 0, .int .i64 0] 65))) := F0.out.trans (hb.mono F0.out.size)
          have hne67 : Hid (g6 ≠ g7) := by show ¬ _; have := B6.out.lt; omega
          replace Ma := Lib.hid (Ma.out.below hb)
          replace B6 := Lib.hid (B6.out.below hb B6.out.lt)
          rw [← hgL]
          refine postH_normal (hK _ _ _ F0.out ?_)
          clear hK K hb hgL
          generalize u1.alloc _ = u2 at *
          refine wpAnyH_each (rs := [2]) (by kernel_rfl) (by decide) (fun K hK i hi => ?_)
          obtain rfl := List.mem_singleton.1 hi
          refine wpOp_listed rfl ?_
          go_wp2_with fail
          refine (C3.out _ Ma.out).mono ?_
          rintro e u3 ⟨n3, e3, rfl, h3, hb⟩
          obtain ⟨rfl, rfl⟩ := LatR.uniq H1.out h3
          clear h3
          replace F0 : Hid (Below v3.heap.size v3 u3) := F0.out.trans (hb.mono F0.out.size)
          replace Ma := Lib.hid (Ma.out.below hb)
          replace B6 := Lib.hid (B6.out.below hb B6.out.lt)
          replace B7 := Lib.hid (B7.out.below hb B7.out.lt)
          go_wp2_with fail
          refine postH_normal (hK _ _ _ F0.out ?_)
          clear hK K hb
          refine wpAnyH_each (rs := [5]) (by kernel_rfl) (by decide) (fun K hK i hi => ?_)
          obtain rfl := List.mem_singleton.1 hi
          refine wpOp_listed rfl ?_
          go_wp2_with fail
          refine (C4.out _ Ma.out).mono ?_
          rintro e u4 ⟨n3, e3, rfl, h3, hb⟩
          obtain ⟨rfl, rfl⟩ := EarR.uniq H2.out h3
          clear h3
          replace F0 : Hid (Below v3.heap.size v3 u4) := F0.out.trans (hb.mono F0.out.size)
          replace Ma := Lib.hid (Ma.out.below hb)
          replace B6 := Lib.hid (B6.out.below hb B6.out.lt)
          replace B7 := Lib.hid (B7.out.below hb B7.out.lt)
          go_wp2_with fail
          refine postH_normal (hK _ _ _ F0.out ?_)
          clear hK K hb
          refine wpAnyH_each (rs := [8]) (by kernel_rfl) (by decide) (fun K hK i hi => ?_)
          obtain rfl := List.mem_singleton.1 hi
          refine wpOp_listed rfl ?_
          refine wpList_row_store rfl 65 _ _ rfl [.int .i64 n1, .int .i64 e1] rfl rfl B6.out hszf.out rfl (one2 _ _) ?_; intro u8 hw6 ho6
          replace F0 : Hid (Below v3.heap.size v3 u8) := F0.out.trans (ho6.below hg6.out)
          replace B7 := Lib.hid (B7.out.only ho6 hne67.out.symm)
          replace B6 := Lib.hid hw6.out
          refine wpList_end (postH_normal (hK _ _ _ F0.out ?_))
          clear hK K hw6 ho6
          refine wpAnyH_each (rs := [9]) (by kernel_rfl) (by decide) (fun K hK i hi => ?_)
          obtain rfl := List.mem_singleton.1 hi
          refine wpOp_listed rfl ?_
          refine wpList_row_store rfl 65 _ _ rfl [.int .i64 n2, .int .i64 e2] rfl rfl B7.out hszf.out rfl (one2 _ _) ?_; intro u9 hw6 ho6
          replace F0 : Hid (Below v3.heap.size v3 u9) := F0.out.trans (ho6.below hg7.out)
          replace B6 := Lib.hid (B6.out.only ho6 hne67.out)
          replace B7 := Lib.hid hw6.out
          refine wpList_end (postH_normal (hK _ _ _ F0.out ?_))
          clear hK K hw6 ho6
          refine wpAnyH_done (by kernel_rfl) ?_ _
          try go_wp2_with fail
          go_meet
          exact ⟨g6, g7, by first | rfl | (go_simp; done), by first | rfl | (go_simp; done), B6.out, B7.out, F0.out⟩
      · skip
        refine wpOp_listed rfl ?_
        go_wp2_with fail
        obtain ⟨g7, hgL⟩ : ∃ x, x = u0.heap.size := ⟨_, rfl⟩
        have hb : Below u0.heap.size u0 (u0.alloc (.cells #[.int .i64 0, .int .i64 0] 65)) := (Below.refl _ _).alloc (Nat.le_refl _) _
        have B7 : Hid (Blk (u0.alloc (.cells #[.int .i64 0, .int .i64 0] 65)) g7 [.int .i64 0, .int .i64 0] 65) := by show Blk _ _ _ _; rw [hgL]; exact Blk.new _ [_, _] _
        have hg7 : Hid (v3.heap.size ≤ g7) := by show _ ≤ _; rw [hgL]; exact F0.out.size
        replace F0 : Hid (Below v3.heap.size v3 (u0.alloc (.cells #[.int .i64 0, .int .i64 0] 65))) := F0.out.trans (hb.mono F0.out.size)
        replace Ma := Lib.hid (Ma.out.below hb)
        rw [← hgL]
        refine postH_normal (hK _ _ _ F0.out ?_)
        clear hK K hb hgL
        generalize u0.alloc _ = u1 at *
        refine wpAnyH_each (rs := [2, 6]) (by kernel_rfl) (by decide) (fun K hK i hi => ?_)
        simp only [List.mem_cons, List.not_mem_nil, or_false] at hi
        rcases hi with rfl | rfl
        · skip
          refine wpOp_listed rfl ?_
          go_wp2_with fail
          refine (C3.out _ Ma.out).mono ?_
          rintro e u2 ⟨n3, e3, rfl, h3, hb⟩
          obtain ⟨rfl, rfl⟩ := LatR.uniq H1.out h3
          clear h3
          replace F0 : Hid (Below v3.heap.size v3 u2) := F0.out.trans (hb.mono F0.out.size)
          replace Ma := Lib.hid (Ma.out.below hb)
          replace B7 := Lib.hid (B7.out.below hb B7.out.lt)
          go_wp2_with fail
          refine postH_normal (hK _ _ _ F0.out ?_)
          clear hK K hb
          refine wpAnyH_each (rs := [5, 6]) (by kernel_rfl) (by decide) (fun K hK i hi => ?_)
          simp only [List.mem_cons, List.not_mem_nil, or_false] at hi
          rcases hi with rfl | rfl
          · skip
            refine wpOp_listed rfl ?_
            go_wp2_with fail
            refine (C4.out _ Ma.out).mono ?_
            rintro e u3 ⟨n3, e3, rfl, h3, hb⟩
            obtain ⟨rfl, rfl⟩ := EarR.uniq H2.out h3
            clear h3
            replace F0 : Hid (Below v3.heap.size v3 u3) := F0.out.trans (hb.mono F0.out.size)
            replace Ma := Lib.hid (Ma.out.below hb)
            replace B7 := Lib.hid (B7.out.below hb B7.out.lt)
            go_wp2_with fail
            refine postH_normal (hK _ _ _ F0.out ?_)
            clear hK K hb
            refine wpAnyH_each (rs := [6]) (by kernel_rfl) (by decide) (fun K hK i hi => ?_)
            obtain rfl := List.mem_singleton.1 hi
            refine wpOp_listed rfl ?_
            go_wp2_with fail
            obtain ⟨g6, hgL⟩ : ∃ x, x = u3.heap.size := ⟨_, rfl⟩
            have hb : Below u3.heap.size u3 (u3.alloc (.cells #[.int .i64 0, .int .i64 0] 65)) := (Below.refl _ _).alloc (Nat.le_refl _) _
            have B6 : Hid (Blk (u3.alloc (.cells #[.int .i64 0, .int .i64 0] 65)) g6 [.int .i64 0, .int .i64 0] 65) := by show Blk _ _ _ _; rw [hgL]; exact Blk.new _ [_, _] _
            have hg6 : Hid (v3.heap.size ≤ g6) := by show _ ≤ _; rw [hgL]; exact F0.out.size
            replace F0 : Hid (Below v3.heap.size v3 (u3.alloc (.cells #[.int .i64 0, .int .i64 0] 65))) := F0.out.trans (hb.mono F0.out.size)
            have hne67 : Hid (g6 ≠ g7) := by show ¬ _; have := B7.out.lt; omega
            replace Ma := Lib.hid (Ma.out.below hb)
            replace B7 := Lib.hid (B7.out.below hb B7.out.lt)
            rw [← hgL]
            refine postH_normal (hK _ _ _ F0.out ?_)
            clear hK K hb hgL
            generalize u3.alloc _ = u4 at *
            refine wpAnyH_each (rs := [8]) (by kernel_rfl) (by decide) (fun K hK i hi => ?_)
            obtain rfl := List.mem_singleton.1 hi
            refine wpOp_listed rfl ?_
            refine wpList_row_store rfl 65 _ _ rfl [.int .i64 n1, .int .i64 e1] rfl rfl B6.out hszf.out rfl (one2 _ _) ?_; intro u8 hw6 ho6
            replace F0 : Hid (Below v3.heap.size v3 u8) := F0.out.trans (ho6.below hg6.out)
            replace B7 := Lib.hid (B7.out.only ho6 hne67.out.symm)
            replace B6 := Lib.hid hw6.out
            refine wpList_end (postH_normal (hK _ _ _ F0.out ?_))
            clear hK K hw6 ho6
            refine wpAnyH_each (rs := [9]) (by kernel_rfl) (by decide) (fun K hK i hi => ?_)
            obtain rfl := List.mem_singleton.1 hi
            refine wpOp_listed rfl ?_
            refine wpList_row_store rfl 65 _ _ rfl [.int .i64 n2, .int .i64 e2] rfl rfl B7.out hszf.out rfl (one2 _ _) ?_; intro u9 hw6 ho6
            replace F0 : Hid (Below v3.heap.size v3 u9) := F0.out.trans (ho6.below hg7.out)
            replace B6 := Lib.hid (B6.out.only ho6 hne67.out)
            replace B7 := Lib.hid hw6.out
            refine wpList_end (postH_normal (hK _ _ _ F0.out ?_))
            clear hK K hw6 ho6
            refine wpAnyH_done (by kernel_rfl) ?_ _
            try go_wp2_with fail
            go_meet
            exact ⟨g6, g7, by first | rfl | (go_simp; done), by first | rfl | (go_simp; done), B6.out, B7.out, F0.out⟩
          · skip
            refine wpOp_listed rfl ?_
            go_wp2_with fail
            obtain ⟨g6, hgL⟩ : ∃ x, x = u2.heap.size := ⟨_, rfl⟩
            have hb : Below u2.heap.size u2 (u2.alloc (.cells #[.int .i64 0, .int .i64 0] 65)) := (Below.refl _ _).alloc (Nat.le_refl _) _
            have B6 : Hid (Blk (u2.alloc (.cells #[.int .i64 0, .int .i64 0] 65)) g6 [.int .i64 0, .int .i64 0] 65) := by show Blk _ _ _ _; rw [hgL]; exact Blk.new _ [_, _] _
            have hg6 : Hid (v3.heap.size ≤ g6) := by show _ ≤ _; rw [hgL]; exact F0.out.size
            replace F0 : Hid (Below v3.heap.size v3 (u2.alloc (.cells #[.int .i64 0, .int .i64 0] 65))) := F0.out.trans (hb.mono F0.out.size)
            have hne67 : Hid (g6 ≠ g7) := by show ¬ _; have := B7.out.lt; omega
            replace Ma := Lib.hid (Ma.out.below hb)
            replace B7 := Lib.hid (B7.out.below hb B7.out.lt)
            rw [← hgL]
            refine postH_normal (hK _ _ _ F0.out ?_)
            clear hK K hb hgL
            generalize u2.alloc _ = u3 at *
            refine wpAnyH_each (rs := [5]) (by kernel_rfl) (by decide) (fun K hK i hi => ?_)
            obtain rfl := List.mem_singleton.1 hi
            refine wpOp_listed rfl ?_
            go_wp2_with fail
            refine (C4.out _ Ma.out).mono ?_
            rintro e u4 ⟨n3, e3, rfl, h3, hb⟩
            obtain ⟨rfl, rfl⟩ := EarR.uniq H2.out h3
            clear h3
            replace F0 : Hid (Below v3.heap.size v3 u4) := F0.out.trans (hb.mono F0.out.size)
            replace Ma := Lib.hid (Ma.out.below hb)
            replace B7 := Lib.hid (B7.out.below hb B7.out.lt)
            replace B6 := Lib.hid (B6.out.below hb B6.out.lt)
            go_wp2_with fail
            refine postH_normal (hK _ _ _ F0.out ?_)
            clear hK K hb
            refine wpAnyH_each (rs := [8]) (by kernel_rfl) (by decide) (fun K hK i hi => ?_)
            obtain rfl := List.mem_singleton.1 hi
            refine wpOp_listed rfl ?_
            refine wpList_row_store rfl 65 _ _ rfl [.int .i64 n1, .int .i64 e1] rfl rfl B6.out hszf.out rfl (one2 _ _) ?_; intro u8 hw6 ho6
            replace F0 : Hid (Below v3.heap.size v3 u8) := F0.out.trans (ho6.below hg6.out)
            replace B7 := Lib.hid (B7.out.only ho6 hne67.out.symm)
            replace B6 := Lib.hid hw6.out
            refine wpList_end (postH_normal (hK _ _ _ F0.out ?_))
            clear hK K hw6 ho6
            refine wpAnyH_each (rs := [9]) (by kernel_rfl) (by decide) (fun K hK i hi => ?_)
            obtain rfl := List.mem_singleton.1 hi
            refine wpOp_listed rfl ?_
            refine wpList_row_store rfl 65 _ _ rfl [.int .i64 n2, .int .i64 e2] rfl rfl B7.out hszf.out rfl (one2 _ _) ?_; intro u9 hw6 ho6
            replace F0 : Hid (Below v3.heap.size v3 u9) := F0.out.trans (ho6.below hg7.out)
            replace B6 := Lib.hid (B6.out.only ho6 hne67.out)
            replace B7 := Lib.hid hw6.out
            refine wpList_end (postH_normal (hK _ _ _ F0.out ?_))
            clear hK K hw6 ho6
            refine wpAnyH_done (by kernel_rfl) ?_ _
            try go_wp2_with fail
            go_meet
            exact ⟨g6, g7, by first | rfl | (go_simp; done), by first | rfl | (go_simp; done), B6.out, B7.out, F0.out⟩
        · skip
          refine wpOp_listed rfl ?_
          go_wp2_with fail
          obtain ⟨g6, hgL⟩ : ∃ x, x = u1.heap.size := ⟨_, rfl⟩
          have hb : Below u1.heap.size u1 (u1.alloc (.cells #[.int .i64 0, .int .i64 0] 65)) := (Below.refl _ _).alloc (Nat.le_refl _) _
          have B6 : Hid (Blk (u1.alloc (.cells #[.int .i64 0, .int .i64 0] 65)) g6 [.int .i64 0, .int .i64 0] 65) := by show Blk _ _ _ _; rw [hgL]; exact Blk.new _ [_, _] _
          have hg6 : Hid (v3.heap.size ≤ g6) := by show _ ≤ _; rw [hgL]; exact F0.out.size
          replace F0 : Hid (Below v3.heap.size v3 (u1.alloc (.cells #[.int .i64 0, .int .i64 0] 65))) := F0.out.trans (hb.mono F0.out.size)
          have hne67 : Hid (g6 ≠ g7) := by show ¬ _; have := B7.out.lt; omega
          replace Ma := Lib.hid (Ma.out.below hb)
          replace B7 := Lib.hid (B7.out.below hb B7.out.lt)
          rw [← hgL]
          refine postH_normal (hK _ _ _ F0.out ?_)
          clear hK K hb hgL
          generalize u1.alloc _ = u2 at *
          refine wpAnyH_each (rs := [2]) (by kernel_rfl) (by decide) (fun K hK i hi => ?_)
          obtain rfl := List.mem_singleton.1 hi
          refine wpOp_listed rfl ?_
          go_wp2_with fail
          refine (C3.out _ Ma.out).mono ?_
          rintro e u3 ⟨n3, e3, rfl, h3, hb⟩
          obtain ⟨rfl, rfl⟩ := LatR.uniq H1.out h3
          clear h3
          replace F0 : Hid (Below v3.heap.size v3 u3) := F0.out.trans (hb.mono F0.out.size)
          replace Ma := Lib.hid (Ma.out.below hb)
          replace B7 := Lib.hid (B7.out.below hb B7.out.lt)
          replace B6 := Lib.hid (B6.out.below hb B6.out.lt)
          go_wp2_with fail
          refine postH_normal (hK _ _ _ F0.out ?_)
          clear hK K hb
          refine wpAnyH_each (rs := [5]) (by kernel_rfl) (by decide) (fun K hK i hi => ?_)
          obtain rfl := List.mem_singleton.1 hi
          refine wpOp_listed rfl ?_
          go_wp2_with fail
          refine (C4.out _ Ma.out).mono ?_
          rintro e u4 ⟨n3, e3, rfl, h3, hb⟩
          obtain ⟨rfl, rfl⟩ := EarR.uniq H2.out h3
          clear h3
          replace F0 : Hid (Below v3.heap.size v3 u4) := F0.out.trans (hb.mono F0.out.size)
          replace Ma := Lib.hid (Ma.out.below hb)
          replace B7 := Lib.hid (B7.out.below hb B7.out.lt)
          replace B6 := Lib.hid (B6.out.below hb B6.out.lt)
          go_wp2_with fail
          refine postH_normal (hK _ _ _ F0.out ?_)
          clear hK K hb
          refine wpAnyH_each (rs := [8]) (by kernel_rfl) (by decide) (fun K hK i hi => ?_)
          obtain rfl := List.mem_singleton.1 hi
          refine wpOp_listed rfl ?_
          refine wpList_row_store rfl 65 _ _ rfl [.int .i64 n1, .int .i64 e1] rfl rfl B6.out hszf.out rfl (one2 _ _) ?_; intro u8 hw6 ho6
          replace F0 : Hid (Below v3.heap.size v3 u8) := F0.out.trans (ho6.below hg6.out)
          replace B7 := Lib.hid (B7.out.only ho6 hne67.out.symm)
          replace B6 := Lib.hid hw6.out
          refine wpList_end (postH_normal (hK _ _ _ F0.out ?_))
          clear hK K hw6 ho6
          refine wpAnyH_each (rs := [9]) (by kernel_rfl) (by decide) (fun K hK i hi => ?_)
          obtain rfl := List.mem_singleton.1 hi
          refine wpOp_listed rfl ?_
          refine wpList_row_store rfl 65 _ _ rfl [.int .i64 n2, .int .i64 e2] rfl rfl B7.out hszf.out rfl (one2 _ _) ?_; intro u9 hw6 ho6
          replace F0 : Hid (Below v3.heap.size v3 u9) := F0.out.trans (ho6.below hg7.out)
          replace B6 := Lib.hid (B6.out.only ho6 hne67.out)
          replace B7 := Lib.hid hw6.out
          refine wpList_end (postH_normal (hK _ _ _ F0.out ?_))
          clear hK K hw6 ho6
          refine wpAnyH_done (by kernel_rfl) ?_ _
          try go_wp2_with fail
          go_meet
          exact ⟨g6, g7, by first | rfl | (go_simp; done), by first | rfl | (go_simp; done), B6.out, B7.out, F0.out⟩
    case rest =>
      obtain ⟨g6, g7, rfl, rfl, B6, B7, hb⟩ := hcut.out
      clear hcut
      replace E : Hid (Below w.heap.size w wc) := E.out.trans (hb.mono E.out.size)
      clear hb
      replace B6 := Lib.hid B6
      replace B7 := Lib.hid B7
      generalize wc = v5 at *
      go_upto_region 6 with fail
      go_wp2_with fail
      refine (sanity_any14 _).mono ?_
      rintro e v6 ⟨rfl, hb⟩
      replace E : Hid (Below w.heap.size w v6) := E.out.trans (hb.mono E.out.size)
      replace B6 := Lib.hid (B6.out.below hb B6.out.lt)
      replace B7 := Lib.hid (B7.out.below hb B7.out.lt)
      clear hb C3 C4 H1 H2 X1 M
      have q0 := B6.out.cell (j := 0) rfl
      have q1 := B6.out.cell (j := 1) rfl
      have q2 := B7.out.cell (j := 0) rfl
      have q3 := B7.out.cell (j := 1) rfl
      go_wp2_with fail
      go_ret
      exact ⟨by first | rfl | (simp; done), E.out⟩
end Go.Proofs.Ytpdalebnodgcdaa
