/-
  Stage 14 (clock): the walk of ClockIsMonotone. (Written by tools/genuy.py.)
-/
import Derived.Test.YtpdalebnodgcdaaUx
import Derived.Lib.MinMax
namespace Go.Proofs.Ytpdalebnodgcdaa
set_option linter.unusedVariables false
set_option linter.unusedSimpArgs false
open Go.RowKit
attribute [local irreducible] wpPlanM

set_option maxRecDepth 100000 in
set_option maxHeartbeats 16000000 in
theorem monotone_walk (k : Clk) (x y z : Int) (r : Rdg) (w : World) (m : ClkM w w.heap.size k) :
    Calls Try.prog 9 #[.agg #[.int .i64 k.rate, .slice k.A k.n k.c], .agg #[.int .i64 x, .int .i64 y, .int .i64 z], .agg #[.int .i64 r.L, .int .i64 r.lo, .int .i64 r.hi]] w fun e w' => e = .returned (.bool true) ∧ Below w.heap.size w w' := by
  rcases k with ⟨rate, A, n, c, l⟩
  rcases r with ⟨L, lo, hi⟩
  have hlen := m.len
  dsimp only at *
  obtain ⟨w0, hw0⟩ : ∃ w0, w0 = ((w.alloc (.cells #[.int .i64 rate, .slice A n c] 24)).alloc (.cells #[.int .i64 x, .int .i64 y, .int .i64 z] 85)).alloc (.cells #[.int .i64 L, .int .i64 lo, .int .i64 hi] 29) := ⟨_, rfl⟩
  have E : Hid (Below w.heap.size w w0) := by show Below _ _ _; rw [hw0]; exact (((Below.refl _ _).alloc (Nat.le_refl _) _).alloc (by simp) _).alloc (by simp; omega) _
  have X1 : Hid (Blk w0 w.heap.size [.int .i64 rate, .slice A n c] 24) := by show Blk _ _ _ _; rw [hw0]; exact ((Blk.new w [_, _] _).alloc _).alloc _
  have X2 : Hid (Blk w0 (w.heap.size + 1) [.int .i64 x, .int .i64 y, .int .i64 z] 85) := by show Blk _ _ _ _; rw [hw0]; exact ((Blk.new _ [_, _, _] _).at (by simp)).alloc _
  have X3 : Hid (Blk w0 (w.heap.size + 2) [.int .i64 L, .int .i64 lo, .int .i64 hi] 29) := by show Blk _ _ _ _; rw [hw0]; exact (Blk.new _ [_, _, _] _).at (by simp)
  have M := Lib.hid (m.below E.out)
  have hw0' := Lib.hid hw0
  clear hw0 m
  have hszc := Lib.hid size_clk
  have hunc : Hid (Try.prog.underlying 24 = _) := Try.underlying24
  have hszr := Lib.hid size_rdg
  have hunr : Hid (Try.prog.underlying 29 = _) := Try.underlying29
  obtain ⟨a, ha⟩ : ∃ a, min x y = a := ⟨_, rfl⟩
  obtain ⟨b, hb⟩ : ∃ b, max x y = b := ⟨_, rfl⟩
  have hab : a ≤ b := by omega
  have haH := Lib.hid ha
  have hbH := Lib.hid hb
  obtain ⟨s0, hs0⟩ : ∃ s, w.heap.size = s := ⟨_, rfl⟩
  have CF := Lib.hid (fun W => few_any14 ⟨rate, A, n, c, l⟩ W)
  have CK := Lib.hid (fun W (h : ClkM W s0 ⟨rate, A, n, c, l⟩) => rCheck14_any _ W h)
  dsimp only at CF CK
  have C1 := Lib.hid (fun W (h : ClkM W s0 ⟨rate, A, n, c, l⟩) => now_any _ a W h)
  have C2 := Lib.hid (fun W (h : ClkM W s0 ⟨rate, A, n, c, l⟩) => now_any _ b W h)
  have C3 := Lib.hid (fun W (h : ClkM W s0 ⟨rate, A, n, c, l⟩) => latest_any _ z W h)
  have C4 := Lib.hid (fun W (h : ClkM W s0 ⟨rate, A, n, c, l⟩) => earliest_any _ z W h)
  have C5 := Lib.hid (fun W (h : ClkM W s0 ⟨rate, A, n, c, l⟩) => sync_any _ ⟨L, lo, hi⟩ W h)
  dsimp only at C1 C2 C3 C4 C5
  dsimp only [SyEnd] at C5
  have F1 := Lib.hid (fun h1 h2 => mo_now (rate := rate) (l := l) hab h1 h2)
  have F2 := Lib.hid (fun n' (h : LatR rate l z n' 0) (h2 : nwE rate l a = 0) => (mo_lat h h2).1)
  have F3 := Lib.hid (fun n' (h : LatR rate l z n' 0) (h2 : nwE rate l b = 0) => (mo_lat h h2).2)
  have F4 := Lib.hid (fun n' (h : EarR rate l z n' 0) (h2 : nwE rate l a = 0) => (mo_ear h h2).1)
  have F5 := Lib.hid (fun n' (h : EarR rate l z n' 0) (h2 : nwE rate l b = 0) => (mo_ear h h2).2)
  have F6 : Hid (∀ (R' : Int) (L' : List Rdg), R' = syR rate l ⟨L, lo, hi⟩ → L' = syL rate l ⟨L, lo, hi⟩ → syE rate l ⟨L, lo, hi⟩ = 0 → ¬ 16 ≤ n → nwE rate l a = 0 → nwE R' L' a = 0 → nwLo rate l a ≤ nwLo R' L' a ∧ nwHi R' L' a ≤ nwHi rate l a) := fun R' L' h1 h2 h3 h4 h5 h6 => by subst h1; subst h2; exact mo_syn h3 (by omega) h5 h6
  clear ha hb hab hlen
  generalize nwLo rate l a = al at *
  generalize nwHi rate l a = ah at *
  generalize nwE rate l a = ae at *
  generalize nwLo rate l b = bl at *
  generalize nwHi rate l b = bh at *
  generalize nwE rate l b = be at *
  generalize syE rate l ⟨L, lo, hi⟩ = se at *
  generalize chkK rate l = ck at *
  rw [hs0] at M X1 X2 X3
  obtain ⟨f0, hf0⟩ : ∃ f, decide (n ≤ 20) = f := ⟨_, rfl⟩
  rw [hf0] at CF
  clear hf0
  cases f0 with
  | false =>
    go_enter Try.func9, Try.ntmps9
    go_upto_region 1 with fail
    generalize hgg : ((w.alloc _).alloc _).alloc _ = Wg
    have hgW : w0 = Wg := by rw [← hgg, hw0'.out]
    clear hgg hw0'
    subst hgW
    try rw [hs0]
    go_wp2_with (refine wpList_blk_load rfl 24 _ rfl 0 rfl X1.out [_, _] rfl _ hunc.out rfl hszc.out ?_)
    refine (CF.out _).mono ?_
    rintro e v1 ⟨rfl, hb⟩
    replace E : Hid (Below w.heap.size w v1) := E.out.trans (hb.mono E.out.size)
    replace X1 := Lib.hid (X1.out.below hb X1.out.lt)
    replace X2 := Lib.hid (X2.out.below hb X2.out.lt)
    replace X3 := Lib.hid (X3.out.below hb X3.out.lt)
    replace M := Lib.hid (M.out.below hb)
    clear hb CF
    go_wp2_with fail
    refine (sanity_any14 _).mono ?_
    rintro e v2 ⟨rfl, hb⟩
    replace E : Hid (Below w.heap.size w v2) := E.out.trans (hb.mono E.out.size)
    replace X1 := Lib.hid (X1.out.below hb X1.out.lt)
    replace X2 := Lib.hid (X2.out.below hb X2.out.lt)
    replace X3 := Lib.hid (X3.out.below hb X3.out.lt)
    replace M := Lib.hid (M.out.below hb)
    clear hb 
    go_wp2_with fail
    go_ret
    exact ⟨rfl, E.out⟩
  | true =>
    go_enter Try.func9, Try.ntmps9
    go_upto_region 1 with fail
    generalize hgg : ((w.alloc _).alloc _).alloc _ = Wg
    have hgW : w0 = Wg := by rw [← hgg, hw0'.out]
    clear hgg hw0'
    subst hgW
    try rw [hs0]
    go_wp2_with (refine wpList_blk_load rfl 24 _ rfl 0 rfl X1.out [_, _] rfl _ hunc.out rfl hszc.out ?_)
    refine (CF.out _).mono ?_
    rintro e v1 ⟨rfl, hb⟩
    replace E : Hid (Below w.heap.size w v1) := E.out.trans (hb.mono E.out.size)
    replace X1 := Lib.hid (X1.out.below hb X1.out.lt)
    replace X2 := Lib.hid (X2.out.below hb X2.out.lt)
    replace X3 := Lib.hid (X3.out.below hb X3.out.lt)
    replace M := Lib.hid (M.out.below hb)
    clear hb CF
    go_wp2_with (first | (refine wpList_blk_load rfl 24 _ rfl 0 rfl X1.out [_, _] rfl _ hunc.out rfl hszc.out ?_) | (refine wpList_blk_loadW (by rfl) 24 _ rfl 0 rfl X1.out [_, _] rfl _ hunc.out rfl hszc.out ?_))
    refine (CK.out _ M.out).mono ?_
    rintro e v2 ⟨rfl, hb⟩
    replace E : Hid (Below w.heap.size w v2) := E.out.trans (hb.mono E.out.size)
    replace X1 := Lib.hid (X1.out.below hb X1.out.lt)
    replace X2 := Lib.hid (X2.out.below hb X2.out.lt)
    replace X3 := Lib.hid (X3.out.below hb X3.out.lt)
    replace M := Lib.hid (M.out.below hb)
    clear hb CK
    by_cases hck : ck = 0
    case neg =>
      have tz : (ck == 0) = false := by simpa using hck
      go_wp2_with fail
      refine (sanity_any14 _).mono ?_
      rintro e v3 ⟨rfl, hb⟩
      replace E : Hid (Below w.heap.size w v3) := E.out.trans (hb.mono E.out.size)
      replace X1 := Lib.hid (X1.out.below hb X1.out.lt)
      replace X2 := Lib.hid (X2.out.below hb X2.out.lt)
      replace X3 := Lib.hid (X3.out.below hb X3.out.lt)
      replace M := Lib.hid (M.out.below hb)
      clear hb 
      go_wp2_with fail
      go_ret
      exact ⟨rfl, E.out⟩
    subst hck
    go_upto_region 3 with fail
    go_cut [7, 8, 9] from 31 to 42 (fun va vb vc W => Hid (va = .int .i64 a ∧ vb = .int .i64 b ∧ vc = .int .i64 z ∧ Below v2.heap.size v2 W))
    case first J KK hJ hKK =>
      have B0 : Hid (Below v2.heap.size v2 v2) := Below.refl _ _
      refine wp_region_planM [] [(true, 0), (true, 1), (true, 2), (true, 3), (true, 4), (true, 5), (true, 6), (true, 7), (true, 8), (true, 9), (true, 10), (true, 11), (true, 12), (true, 13), (true, 14)] (by decide) (by kernel_rfl) (by kernel_rfl) (by decide) (by intro c a d v w h; cases d <;> exact h) ?_
      change wpPlanM _ _ _ _ _ _ v2.drew
      have hb : Below v2.heap.size v2 v2.drew := (Below.refl _ _).drew
      have hbB := Lib.hid hb
      generalize v2.drew = u1 at hb hbB ⊢
      replace X2 := Lib.hid (X2.out.below hb X2.out.lt)
      clear hb B0
      have P0 : ∀ q : ExtOf u1, q.world.cell? ⟨s0 + 1, 0, none⟩ = some (.int .i64 x) := fun q => (Blk.below X2.out q.ext X2.out.lt).cell (j := 0) rfl
      have P1 : ∀ q : ExtOf u1, q.world.cell? ⟨s0 + 1, 1, none⟩ = some (.int .i64 y) := fun q => (Blk.below X2.out q.ext X2.out.lt).cell (j := 1) rfl
      have P2 : ∀ q : ExtOf u1, q.world.cell? ⟨s0 + 1, 2, none⟩ = some (.int .i64 z) := fun q => (Blk.below X2.out q.ext X2.out.lt).cell (j := 2) rfl
      iterate 15 (refine wpPlanM_plain rfl (fun K hK => ?_); go_simp; refine hK _ ?_; clear hK K)
      refine wpPlanM_nil ?_
      go_wp2_with fail
      go_meet
      exact ⟨by rw [← haH.out], by rw [← hbH.out], rfl, hbB.out⟩
    case rest =>
      obtain ⟨rfl, rfl, rfl, hb⟩ := hcut.out
      clear hcut haH hbH X2
      replace E : Hid (Below w.heap.size w wc) := E.out.trans (hb.mono E.out.size)
      replace X1 := Lib.hid (X1.out.below hb X1.out.lt)
      replace X3 := Lib.hid (X3.out.below hb X3.out.lt)
      replace M := Lib.hid (M.out.below hb)
      clear hb
      generalize wc = v3 at *
      go_wp2_with (refine wpList_blk_load rfl 24 _ rfl 0 rfl X1.out [_, _] rfl _ hunc.out rfl hszc.out ?_)
      refine (C1.out _ M.out).mono ?_
      rintro e v4 ⟨rfl, hb⟩
      replace E : Hid (Below w.heap.size w v4) := E.out.trans (hb.mono E.out.size)
      replace X1 := Lib.hid (X1.out.below hb X1.out.lt)
      replace X3 := Lib.hid (X3.out.below hb X3.out.lt)
      replace M := Lib.hid (M.out.below hb)
      clear hb C1
      have Y1 : Hid (Blk (v4.alloc (.cells #[.int .i64 al, .int .i64 ah] 27)) v4.heap.size [.int .i64 al, .int .i64 ah] 27) := Blk.new v4 [_, _] _
      have hb : Below v4.heap.size v4 (v4.alloc (.cells #[.int .i64 al, .int .i64 ah] 27)) := (Below.refl _ _).alloc (Nat.le_refl _) _
      replace E : Hid (Below w.heap.size w (v4.alloc (.cells #[.int .i64 al, .int .i64 ah] 27))) := E.out.trans (hb.mono E.out.size)
      replace X1 := Lib.hid (X1.out.below hb X1.out.lt)
      replace X3 := Lib.hid (X3.out.below hb X3.out.lt)
      replace M := Lib.hid (M.out.below hb)
      clear hb
      go_wp2_with (refine wpList_blk_load rfl 24 _ rfl 0 rfl X1.out [_, _] rfl _ hunc.out rfl hszc.out ?_)
      refine (C2.out _ M.out).mono ?_
      rintro e v5 ⟨rfl, hb⟩
      replace E : Hid (Below w.heap.size w v5) := E.out.trans (hb.mono E.out.size)
      replace X1 := Lib.hid (X1.out.below hb X1.out.lt)
      replace X3 := Lib.hid (X3.out.below hb X3.out.lt)
      replace M := Lib.hid (M.out.below hb)
      replace Y1 := Lib.hid (Y1.out.below hb Y1.out.lt)
      clear hb C2
      have Y2 : Hid (Blk (v5.alloc (.cells #[.int .i64 bl, .int .i64 bh] 27)) v5.heap.size [.int .i64 bl, .int .i64 bh] 27) := Blk.new v5 [_, _] _
      have hb : Below v5.heap.size v5 (v5.alloc (.cells #[.int .i64 bl, .int .i64 bh] 27)) := (Below.refl _ _).alloc (Nat.le_refl _) _
      replace E : Hid (Below w.heap.size w (v5.alloc (.cells #[.int .i64 bl, .int .i64 bh] 27))) := E.out.trans (hb.mono E.out.size)
      replace X1 := Lib.hid (X1.out.below hb X1.out.lt)
      replace X3 := Lib.hid (X3.out.below hb X3.out.lt)
      replace M := Lib.hid (M.out.below hb)
      replace Y1 := Lib.hid (Y1.out.below hb Y1.out.lt)
      clear hb
      go_upto_region 6 with fail
      generalize hvv : (v5.alloc (.cells #[.int .i64 bl, .int .i64 bh] 27)) = v6 at *
      clear hvv
      go_cut [74] from 55 to 73 (fun va W => Hid (va = .bool false ∧ W = v6))
      case first J KK hJ hKK =>
        have q0 := Y1.out.cell (j := 0) rfl
        have q1 := Y1.out.cell (j := 1) rfl
        have q2 := Y2.out.cell (j := 0) rfl
        have q3 := Y2.out.cell (j := 1) rfl
        by_cases hx : ae = 0
        · skip
          have tha : (ae == 0) = true := by simpa using hx
          have ha := Lib.hid hx
          clear hx
          by_cases hx : be = 0
          · skip
            have thb : (be == 0) = true := by simpa using hx
            have hb := Lib.hid hx
            clear hx
            have hf := F1.out ha.out hb.out
            have n1 : ¬ bl < al := by omega
            have tn1 := decide_eq_false n1
            have n2 : ¬ bh < ah := by omega
            have tn2 := decide_eq_false n2
            clear hf
            go_wp2_with fail
            go_meet
            exact ⟨by first | rfl | (go_simp; done), rfl⟩
          · skip
            have thb : (be == 0) = false := by simpa using hx
            go_wp2_with fail
            go_meet
            exact ⟨by first | rfl | (go_simp; done), rfl⟩
        · skip
          have tha : (ae == 0) = false := by simpa using hx
          go_wp2_with fail
          go_meet
          exact ⟨by first | rfl | (go_simp; done), rfl⟩
      case rest =>
        obtain ⟨rfl, hwc⟩ := hcut.out
        clear hcut
        subst wc
        go_wp2_with (refine wpList_blk_load rfl 24 _ rfl 0 rfl X1.out [_, _] rfl _ hunc.out rfl hszc.out ?_)
        refine (C3.out _ M.out).mono ?_
        rintro e v7 ⟨last, ge, rfl, h3, hb⟩
        replace E : Hid (Below w.heap.size w v7) := E.out.trans (hb.mono E.out.size)
        replace X1 := Lib.hid (X1.out.below hb X1.out.lt)
        replace X3 := Lib.hid (X3.out.below hb X3.out.lt)
        replace M := Lib.hid (M.out.below hb)
        replace Y1 := Lib.hid (Y1.out.below hb Y1.out.lt)
        replace Y2 := Lib.hid (Y2.out.below hb Y2.out.lt)
        have H3 := Lib.hid h3
        clear hb C3 h3
        go_wp2_with (refine wpList_blk_load rfl 24 _ rfl 0 rfl X1.out [_, _] rfl _ hunc.out rfl hszc.out ?_)
        refine (C4.out _ M.out).mono ?_
        rintro e v8 ⟨frst, he, rfl, h4, hb⟩
        replace E : Hid (Below w.heap.size w v8) := E.out.trans (hb.mono E.out.size)
        replace X1 := Lib.hid (X1.out.below hb X1.out.lt)
        replace X3 := Lib.hid (X3.out.below hb X3.out.lt)
        replace M := Lib.hid (M.out.below hb)
        replace Y1 := Lib.hid (Y1.out.below hb Y1.out.lt)
        replace Y2 := Lib.hid (Y2.out.below hb Y2.out.lt)
        have H4 := Lib.hid h4
        clear hb C4 h4
        go_upto_region 10 with fail
        go_cut [118] from 87 to 117 (fun va W => Hid (va = .bool false ∧ W = v8))
        case first J KK hJ hKK =>
          have q0 := Y1.out.cell (j := 0) rfl
          have q1 := Y1.out.cell (j := 1) rfl
          have q2 := Y2.out.cell (j := 0) rfl
          have q3 := Y2.out.cell (j := 1) rfl
          by_cases hx : ge = 0
          · skip
            have thg : (ge == 0) = true := by simpa using hx
            have hg := Lib.hid hx
            clear hx
            have H3z : Hid (LatR rate l z last 0) := by have h := H3.out; rw [hg.out] at h; exact h
            by_cases hx : ae = 0
            · skip
              have tha : (ae == 0) = true := by simpa using hx
              have ha := Lib.hid hx
              clear hx
              by_cases h1 : a ≤ last
              · skip
                have th1 := decide_eq_true h1
                have hf := F2.out last H3z.out ha.out h1
                have n1 : ¬ z < ah := by omega
                have tn1 := decide_eq_false n1
                clear hf
                by_cases hx : be = 0
                · skip
                  have thb : (be == 0) = true := by simpa using hx
                  have hb := Lib.hid hx
                  clear hx
                  by_cases h2 : last < b
                  · skip
                    have th2 := decide_eq_true h2
                    have hf := F3.out last H3z.out hb.out h2
                    have n2 : ¬ bh ≤ z := by omega
                    have tn2 := decide_eq_false n2
                    clear hf
                    go_wp2_with fail
                    go_meet
                    exact ⟨by first | rfl | (go_simp; done), rfl⟩
                  · skip
                    have th2 := decide_eq_false h2
                    go_wp2_with fail
                    go_meet
                    exact ⟨by first | rfl | (go_simp; done), rfl⟩
                · skip
                  have thb : (be == 0) = false := by simpa using hx
                  go_wp2_with fail
                  go_meet
                  exact ⟨by first | rfl | (go_simp; done), rfl⟩
              · skip
                have th1 := decide_eq_false h1
                by_cases hx : be = 0
                · skip
                  have thb : (be == 0) = true := by simpa using hx
                  have hb := Lib.hid hx
                  clear hx
                  by_cases h2 : last < b
                  · skip
                    have th2 := decide_eq_true h2
                    have hf := F3.out last H3z.out hb.out h2
                    have n2 : ¬ bh ≤ z := by omega
                    have tn2 := decide_eq_false n2
                    clear hf
                    go_wp2_with fail
                    go_meet
                    exact ⟨by first | rfl | (go_simp; done), rfl⟩
                  · skip
                    have th2 := decide_eq_false h2
                    go_wp2_with fail
                    go_meet
                    exact ⟨by first | rfl | (go_simp; done), rfl⟩
                · skip
                  have thb : (be == 0) = false := by simpa using hx
                  go_wp2_with fail
                  go_meet
                  exact ⟨by first | rfl | (go_simp; done), rfl⟩
            · skip
              have tha : (ae == 0) = false := by simpa using hx
              by_cases hx : be = 0
              · skip
                have thb : (be == 0) = true := by simpa using hx
                have hb := Lib.hid hx
                clear hx
                by_cases h2 : last < b
                · skip
                  have th2 := decide_eq_true h2
                  have hf := F3.out last H3z.out hb.out h2
                  have n2 : ¬ bh ≤ z := by omega
                  have tn2 := decide_eq_false n2
                  clear hf
                  go_wp2_with fail
                  go_meet
                  exact ⟨by first | rfl | (go_simp; done), rfl⟩
                · skip
                  have th2 := decide_eq_false h2
                  go_wp2_with fail
                  go_meet
                  exact ⟨by first | rfl | (go_simp; done), rfl⟩
              · skip
                have thb : (be == 0) = false := by simpa using hx
                go_wp2_with fail
                go_meet
                exact ⟨by first | rfl | (go_simp; done), rfl⟩
          · skip
            have thg : (ge == 0) = false := by simpa using hx
            go_wp2_with fail
            go_meet
            exact ⟨by first | rfl | (go_simp; done), rfl⟩
        case rest =>
          obtain ⟨rfl, hwc⟩ := hcut.out
          clear hcut
          subst wc
          go_upto_region 12 with fail
          go_cut [150] from 119 to 149 (fun va W => Hid (va = .bool false ∧ W = v8))
          case first J KK hJ hKK =>
            have q0 := Y1.out.cell (j := 0) rfl
            have q1 := Y1.out.cell (j := 1) rfl
            have q2 := Y2.out.cell (j := 0) rfl
            have q3 := Y2.out.cell (j := 1) rfl
            by_cases hx : he = 0
            · skip
              have thg : (he == 0) = true := by simpa using hx
              have hg := Lib.hid hx
              clear hx
              have H4z : Hid (EarR rate l z frst 0) := by have h := H4.out; rw [hg.out] at h; exact h
              by_cases hx : ae = 0
              · skip
                have tha : (ae == 0) = true := by simpa using hx
                have ha := Lib.hid hx
                clear hx
                by_cases h1 : frst ≤ a
                · skip
                  have th1 := decide_eq_true h1
                  have hf := F4.out frst H4z.out ha.out h1
                  have n1 : ¬ al < z := by omega
                  have tn1 := decide_eq_false n1
                  clear hf
                  by_cases hx : be = 0
                  · skip
                    have thb : (be == 0) = true := by simpa using hx
                    have hb := Lib.hid hx
                    clear hx
                    by_cases h2 : b < frst
                    · skip
                      have th2 := decide_eq_true h2
                      have hf := F5.out frst H4z.out hb.out h2
                      have n2 : ¬ z ≤ bl := by omega
                      have tn2 := decide_eq_false n2
                      clear hf
                      go_wp2_with fail
                      go_meet
                      exact ⟨by first | rfl | (go_simp; done), rfl⟩
                    · skip
                      have th2 := decide_eq_false h2
                      go_wp2_with fail
                      go_meet
                      exact ⟨by first | rfl | (go_simp; done), rfl⟩
                  · skip
                    have thb : (be == 0) = false := by simpa using hx
                    go_wp2_with fail
                    go_meet
                    exact ⟨by first | rfl | (go_simp; done), rfl⟩
                · skip
                  have th1 := decide_eq_false h1
                  by_cases hx : be = 0
                  · skip
                    have thb : (be == 0) = true := by simpa using hx
                    have hb := Lib.hid hx
                    clear hx
                    by_cases h2 : b < frst
                    · skip
                      have th2 := decide_eq_true h2
                      have hf := F5.out frst H4z.out hb.out h2
                      have n2 : ¬ z ≤ bl := by omega
                      have tn2 := decide_eq_false n2
                      clear hf
                      go_wp2_with fail
                      go_meet
                      exact ⟨by first | rfl | (go_simp; done), rfl⟩
                    · skip
                      have th2 := decide_eq_false h2
                      go_wp2_with fail
                      go_meet
                      exact ⟨by first | rfl | (go_simp; done), rfl⟩
                  · skip
                    have thb : (be == 0) = false := by simpa using hx
                    go_wp2_with fail
                    go_meet
                    exact ⟨by first | rfl | (go_simp; done), rfl⟩
              · skip
                have tha : (ae == 0) = false := by simpa using hx
                by_cases hx : be = 0
                · skip
                  have thb : (be == 0) = true := by simpa using hx
                  have hb := Lib.hid hx
                  clear hx
                  by_cases h2 : b < frst
                  · skip
                    have th2 := decide_eq_true h2
                    have hf := F5.out frst H4z.out hb.out h2
                    have n2 : ¬ z ≤ bl := by omega
                    have tn2 := decide_eq_false n2
                    clear hf
                    go_wp2_with fail
                    go_meet
                    exact ⟨by first | rfl | (go_simp; done), rfl⟩
                  · skip
                    have th2 := decide_eq_false h2
                    go_wp2_with fail
                    go_meet
                    exact ⟨by first | rfl | (go_simp; done), rfl⟩
                · skip
                  have thb : (be == 0) = false := by simpa using hx
                  go_wp2_with fail
                  go_meet
                  exact ⟨by first | rfl | (go_simp; done), rfl⟩
            · skip
              have thg : (he == 0) = false := by simpa using hx
              go_wp2_with fail
              go_meet
              exact ⟨by first | rfl | (go_simp; done), rfl⟩
          case rest =>
            obtain ⟨rfl, hwc⟩ := hcut.out
            clear hcut
            subst wc
            clear H3 H4 F1 F2 F3 F4 F5
            go_wp2_with (first | (refine wpList_blk_load rfl 24 _ rfl 0 rfl X1.out [_, _] rfl _ hunc.out rfl hszc.out ?_) | (refine wpList_blk_load rfl 29 _ rfl 0 rfl X3.out [_, _, _] rfl _ hunr.out rfl hszr.out ?_))
            refine (C5.out _ M.out).mono ?_
            rintro e v9 ⟨k1, e1, rfl, hk1, hk2, hk3, hk4, hk5, hb⟩
            replace E : Hid (Below w.heap.size w v9) := E.out.trans (hb.mono E.out.size)
            replace X1 := Lib.hid (X1.out.below hb X1.out.lt)
            replace X3 := Lib.hid (X3.out.below hb X3.out.lt)
            replace M := Lib.hid (M.out.below hb)
            replace Y1 := Lib.hid (Y1.out.below hb Y1.out.lt)
            replace Y2 := Lib.hid (Y2.out.below hb Y2.out.lt)
            subst e1
            have M1 := Lib.hid hk4
            have hr1 := Lib.hid hk1
            have hl1 := Lib.hid hk2
            clear hb C5 hk1 hk2 hk4 hk5
            have Y3 : Hid (Blk (v9.alloc (.cells #[.int .i64 k1.rate, .slice k1.A k1.n k1.c] 24)) v9.heap.size [.int .i64 k1.rate, .slice k1.A k1.n k1.c] 24) := Blk.new v9 [_, _] _
            have hb : Below v9.heap.size v9 (v9.alloc (.cells #[.int .i64 k1.rate, .slice k1.A k1.n k1.c] 24)) := (Below.refl _ _).alloc (Nat.le_refl _) _
            replace E : Hid (Below w.heap.size w (v9.alloc (.cells #[.int .i64 k1.rate, .slice k1.A k1.n k1.c] 24))) := E.out.trans (hb.mono E.out.size)
            replace X1 := Lib.hid (X1.out.below hb X1.out.lt)
            replace X3 := Lib.hid (X3.out.below hb X3.out.lt)
            replace M := Lib.hid (M.out.below hb)
            replace Y1 := Lib.hid (Y1.out.below hb Y1.out.lt)
            replace Y2 := Lib.hid (Y2.out.below hb Y2.out.lt)
            replace M1 := Lib.hid (M1.out.below hb)
            clear hb
            go_upto_region 15 with fail
            generalize hvv : (v9.alloc (.cells #[.int .i64 k1.rate, .slice k1.A k1.n k1.c] 24)) = v10 at *
            clear hvv
            have q0 := X1.out.cell (j := 1) rfl
            by_cases hse : se = 0
            case neg =>
              have tz : (se == 0) = false := by simpa using hse
              go_wp2_with fail
              refine (sanity_any14 _).mono ?_
              rintro e v11 ⟨rfl, hb⟩
              replace E : Hid (Below w.heap.size w v11) := E.out.trans (hb.mono E.out.size)
              replace X1 := Lib.hid (X1.out.below hb X1.out.lt)
              replace X3 := Lib.hid (X3.out.below hb X3.out.lt)
              replace M := Lib.hid (M.out.below hb)
              replace Y1 := Lib.hid (Y1.out.below hb Y1.out.lt)
              replace Y2 := Lib.hid (Y2.out.below hb Y2.out.lt)
              replace M1 := Lib.hid (M1.out.below hb)
              replace Y3 := Lib.hid (Y3.out.below hb Y3.out.lt)
              clear hb 
              go_wp2_with fail
              go_ret
              exact ⟨rfl, E.out⟩
            subst hse
            by_cases hn : 16 ≤ n
            · skip
              have t1 : (16 : Int) ≤ (n : Int) := by omega
              have t2 := decide_eq_true t1
              go_wp2_with fail
              refine (sanity_any14 _).mono ?_
              rintro e v11 ⟨rfl, hb⟩
              replace E : Hid (Below w.heap.size w v11) := E.out.trans (hb.mono E.out.size)
              replace X1 := Lib.hid (X1.out.below hb X1.out.lt)
              replace X3 := Lib.hid (X3.out.below hb X3.out.lt)
              replace M := Lib.hid (M.out.below hb)
              replace Y1 := Lib.hid (Y1.out.below hb Y1.out.lt)
              replace Y2 := Lib.hid (Y2.out.below hb Y2.out.lt)
              replace M1 := Lib.hid (M1.out.below hb)
              replace Y3 := Lib.hid (Y3.out.below hb Y3.out.lt)
              clear hb 
              go_wp2_with fail
              go_ret
              exact ⟨rfl, E.out⟩
            have t1 : ¬ (16 : Int) ≤ (n : Int) := by omega
            have t2 := decide_eq_false t1
            have C6 := Lib.hid (fun W {B : Nat} (h : ClkM W B k1) => now_any k1 a W h)
            replace F6 := Lib.hid (fun h1 h2 => F6.out _ _ hr1.out hl1.out rfl hn h1 h2)
            generalize nwLo k1.rate k1.l a = zl at *
            generalize nwHi k1.rate k1.l a = zh at *
            generalize nwE k1.rate k1.l a = ze at *
            go_upto_region 17 with fail
            clear t1 t2 q0
            go_wp2_with (refine wpList_blk_load rfl 24 _ rfl 0 rfl Y3.out [_, _] rfl _ hunc.out rfl hszc.out ?_)
            refine (C6.out _ M1.out).mono ?_
            rintro e v11 ⟨rfl, hb⟩
            replace E : Hid (Below w.heap.size w v11) := E.out.trans (hb.mono E.out.size)
            replace X1 := Lib.hid (X1.out.below hb X1.out.lt)
            replace X3 := Lib.hid (X3.out.below hb X3.out.lt)
            replace M := Lib.hid (M.out.below hb)
            replace Y1 := Lib.hid (Y1.out.below hb Y1.out.lt)
            replace Y2 := Lib.hid (Y2.out.below hb Y2.out.lt)
            replace M1 := Lib.hid (M1.out.below hb)
            replace Y3 := Lib.hid (Y3.out.below hb Y3.out.lt)
            clear hb C6
            have Y4 : Hid (Blk (v11.alloc (.cells #[.int .i64 zl, .int .i64 zh] 27)) v11.heap.size [.int .i64 zl, .int .i64 zh] 27) := Blk.new v11 [_, _] _
            have hb : Below v11.heap.size v11 (v11.alloc (.cells #[.int .i64 zl, .int .i64 zh] 27)) := (Below.refl _ _).alloc (Nat.le_refl _) _
            replace E : Hid (Below w.heap.size w (v11.alloc (.cells #[.int .i64 zl, .int .i64 zh] 27))) := E.out.trans (hb.mono E.out.size)
            replace X1 := Lib.hid (X1.out.below hb X1.out.lt)
            replace X3 := Lib.hid (X3.out.below hb X3.out.lt)
            replace M := Lib.hid (M.out.below hb)
            replace Y1 := Lib.hid (Y1.out.below hb Y1.out.lt)
            replace Y2 := Lib.hid (Y2.out.below hb Y2.out.lt)
            replace M1 := Lib.hid (M1.out.below hb)
            replace Y3 := Lib.hid (Y3.out.below hb Y3.out.lt)
            clear hb
            go_wp2_with fail
            refine (sanity_any14 _).mono ?_
            rintro e v12 ⟨rfl, hb⟩
            replace E : Hid (Below w.heap.size w v12) := E.out.trans (hb.mono E.out.size)
            replace X1 := Lib.hid (X1.out.below hb X1.out.lt)
            replace X3 := Lib.hid (X3.out.below hb X3.out.lt)
            replace M := Lib.hid (M.out.below hb)
            replace Y1 := Lib.hid (Y1.out.below hb Y1.out.lt)
            replace Y2 := Lib.hid (Y2.out.below hb Y2.out.lt)
            replace M1 := Lib.hid (M1.out.below hb)
            replace Y3 := Lib.hid (Y3.out.below hb Y3.out.lt)
            replace Y4 := Lib.hid (Y4.out.below hb Y4.out.lt)
            clear hb 
            have q0 := Y1.out.cell (j := 0) rfl
            have q1 := Y1.out.cell (j := 1) rfl
            have q2 := Y4.out.cell (j := 0) rfl
            have q3 := Y4.out.cell (j := 1) rfl
            by_cases hx : ae = 0
            · skip
              have tha : (ae == 0) = true := by simpa using hx
              have ha := Lib.hid hx
              clear hx
              by_cases hx : ze = 0
              · skip
                have thz : (ze == 0) = true := by simpa using hx
                have hz := Lib.hid hx
                clear hx
                have hf := F6.out ha.out hz.out
                have n1 : al ≤ zl := hf.1
                have tn1 := decide_eq_true n1
                have n2 : zh ≤ ah := hf.2
                have tn2 := decide_eq_true n2
                clear hf
                go_wp2_with fail
                go_ret
                exact ⟨by first | rfl | (go_simp; done), E.out⟩
              · skip
                have thz : (ze == 0) = false := by simpa using hx
                go_wp2_with fail
                go_ret
                exact ⟨by first | rfl | (go_simp; done), E.out⟩
            · skip
              have tha : (ae == 0) = false := by simpa using hx
              go_wp2_with fail
              go_ret
              exact ⟨by first | rfl | (go_simp; done), E.out⟩
end Go.Proofs.Ytpdalebnodgcdaa
