/-
  MerkleProofsBind: the walk. (Written by tools/genm5.py.)
-/
import Derived.Test.YtlgokfgiemaklaaDoorStq
import Derived.Test.YtlgokfgiemaklaaDoorOmk
import Derived.Test.YtlgokfgiemaklaaDoorSn3
namespace Go.Proofs.YtlgokfgiemaklaaDoor
set_option linter.unusedVariables false
set_option linter.unusedSimpArgs false
open Go.RowKit

theorem stAB_ne {T : List Bool} {p q : List (List UInt8)} {a b : List UInt8} {t : Nat} (h : stD T p a t ≠ stD T q b t) : ((stA T p a t == stA T q b t) && (stB T p a t == stB T q b t)) = false := by
  unfold stA stB
  cases hT : T.getD t false with
  | true => simp [h]
  | false => simp [h]
set_option maxRecDepth 100000 in
set_option maxHeartbeats 16000000 in
theorem walk_bind (a b : List UInt8) (i n : Int) (Ap : Option Addr) (cp : Nat) (P : List (List UInt8)) (Aq : Option Addr) (cq : Nat) (Q : List (List UInt8)) (d : List UInt8) (w : World) (ha16 : a.length = 16) (hb16 : b.length = 16) (hi : -9223372036854775808 ≤ i ∧ i ≤ 9223372036854775807) (hn : -9223372036854775808 ≤ n ∧ n ≤ 9223372036854775807) (Hp : SlA 16 w Ap P.length cp P) (Hq : SlA 16 w Aq Q.length cq Q) (hd16 : d.length = 16) (ht : Tbs w) :
    Calls Tryd.prog 8 #[av a, av b, .int .i64 i, .int .i64 n, .slice Ap P.length cp, .slice Aq Q.length cq, av d] w fun e w' => e = .returned (.bool true) ∧ Below w.heap.size w w' := by
  have Rp0 := Lib.hid (slA_dv Hp)
  have Rq0 := Lib.hid (slA_dv Hq)
  have hr1 := Hp.reach
  have hr2 := Hq.reach
  have SA := Lib.hid (fun W (h : Tbs W) => sanity_any3 W h)
  obtain ⟨np, hnp⟩ : ∃ n, n = P.length := ⟨_, rfl⟩
  obtain ⟨nq, hnq⟩ : ∃ n, n = Q.length := ⟨_, rfl⟩
  have hnP := Lib.hid hnp
  have hnQ := Lib.hid hnq
  rw [← hnp] at Rp0 hr1 ⊢
  rw [← hnq] at Rq0 hr2 ⊢
  clear hnp hnq Hp Hq
  have za : Hid (a.length = 16) := ha16
  have la : Hid ((a.map bv).length = 16) := by show _ = _; rw [List.length_map, za.out]
  have sa := Lib.hid (size_dig16 (a.map bv) la.out)
  have oa := av_one a
  have zb : Hid (b.length = 16) := hb16
  have lb : Hid ((b.map bv).length = 16) := by show _ = _; rw [List.length_map, zb.out]
  have sb := Lib.hid (size_dig16 (b.map bv) lb.out)
  have ob := av_one b
  have zd : Hid (d.length = 16) := hd16
  have ld : Hid ((d.map bv).length = 16) := by show _ = _; rw [List.length_map, zd.out]
  have sd := Lib.hid (size_dig16 (d.map bv) ld.out)
  have od := av_one d
  obtain ⟨W1, hW1⟩ : ∃ W1, W1 = ((w.alloc (.cells (a.map bv).toArray 31)).alloc (.cells (b.map bv).toArray 31)).alloc (.cells (d.map bv).toArray 31) := ⟨_, rfl⟩
  have E : Hid (Below w.heap.size w W1) := by show Below _ _ _; rw [hW1]; exact (((Below.refl _ _).alloc (Nat.le_refl _) _).alloc (by simp) _).alloc (by simp; omega) _
  have Ba : Hid (Blk W1 w.heap.size (a.map bv) 31) := by show Blk _ _ _ _; rw [hW1]; exact ((Blk.new _ _ _).alloc _).alloc _
  have Bb : Hid (Blk W1 (w.heap.size + 1) (b.map bv) 31) := by show Blk _ _ _ _; rw [hW1]; exact ((Blk.new _ _ _).at (by simp)).alloc _
  have Bd : Hid (Blk W1 (w.heap.size + 1 + 1) (d.map bv) 31) := by show Blk _ _ _ _; rw [hW1]; exact (Blk.new _ _ _).at (by simp)
  have Rp := Lib.hid (Rp0.out.keep E.out)
  have Rq := Lib.hid (Rq0.out.keep E.out)
  have T := Lib.hid (ht.keep E.out)
  have hW1' := Lib.hid hW1
  unfold av
  clear hW1 ht ha16 hb16 hd16 Rp0 Rq0
  go_enter Tryd.func8, Tryd.ntmps8
  go_upto_region 1 with fail
  generalize hg : ((w.alloc _).alloc _).alloc _ = Wg
  have hgW : W1 = Wg := by rw [← hg, hW1'.out]
  clear hg hW1'
  subst hgW
  obtain ⟨gBd, hgd⟩ : ∃ g, g = w.heap.size + 1 + 1 := ⟨_, rfl⟩
  rw [← hgd] at Bd ⊢
  obtain ⟨gBb, hgb⟩ : ∃ g, g = w.heap.size + 1 := ⟨_, rfl⟩
  rw [← hgb] at Bb ⊢
  obtain ⟨gBa, hga⟩ : ∃ g, g = w.heap.size := ⟨_, rfl⟩
  rw [← hga] at Ba ⊢
  clear hgd hgb hga
  obtain ⟨rab, hrab0⟩ : ∃ r, (a == b) = r := ⟨_, rfl⟩
  have hrab := Lib.hid hrab0
  clear hrab0
  by_cases hp1 : 60 < np
  · have t1 : (60 : Int) < (np : Int) := by omega
    clear hp1
    go_wp2_with fail
    refine (SA.out _ T.out).mono ?_
    rintro e v1 ⟨rfl, hb⟩
    replace Ba := Lib.hid (Ba.out.below hb Ba.out.lt)
    replace Bb := Lib.hid (Bb.out.below hb Bb.out.lt)
    replace Bd := Lib.hid (Bd.out.below hb Bd.out.lt)
    replace Rp := Lib.hid (Rp.out.keep hb)
    replace Rq := Lib.hid (Rq.out.keep hb)
    replace E := Lib.hid (E.out.trans (hb.mono E.out.size))
    replace T := Lib.hid (T.out.keep hb)
    clear hb
    go_wp2_with fail
    go_ret
    exact ⟨by first | rfl | (go_simp; done), E.out⟩
  have t1 : ¬ (60 : Int) < (np : Int) := by omega
  by_cases hq1 : 60 < nq
  · have t2 : (60 : Int) < (nq : Int) := by omega
    clear hp1 hq1
    go_wp2_with fail
    refine (SA.out _ T.out).mono ?_
    rintro e v1 ⟨rfl, hb⟩
    replace Ba := Lib.hid (Ba.out.below hb Ba.out.lt)
    replace Bb := Lib.hid (Bb.out.below hb Bb.out.lt)
    replace Bd := Lib.hid (Bd.out.below hb Bd.out.lt)
    replace Rp := Lib.hid (Rp.out.keep hb)
    replace Rq := Lib.hid (Rq.out.keep hb)
    replace E := Lib.hid (E.out.trans (hb.mono E.out.size))
    replace T := Lib.hid (T.out.keep hb)
    clear hb
    go_wp2_with fail
    go_ret
    exact ⟨by first | rfl | (go_simp; done), E.out⟩
  have t2 : ¬ (60 : Int) < (nq : Int) := by omega
  have hnp60 : np ≤ 60 := by omega
  have hnq60 : nq ≤ 60 := by omega
  clear hp1 hq1
  cases rab with
  | true =>
    go_wp2_with (first | (refine wpList_blk_loadW (by rfl) 31 _ rfl 0 rfl Ba.out (a.map bv) (take_all0 _) (.array 16 5) arr_dig rfl sa.out ?_) | (refine wpList_blk_loadW (by rfl) 31 _ rfl 0 rfl Bb.out (b.map bv) (take_all0 _) (.array 16 5) arr_dig rfl sb.out ?_) | (refine wpList_blk_loadW (by rfl) 31 _ rfl 0 rfl Bd.out (d.map bv) (take_all0 _) (.array 16 5) arr_dig rfl sd.out ?_) | (refine wpList_eql_bytes (by rfl) 31 _ _ _ rfl 16 arr_dig (by kernel_rfl) a b za.out zb.out rfl rfl _ hrab.out ?_))
    refine (SA.out _ T.out).mono ?_
    rintro e v1 ⟨rfl, hb⟩
    replace Ba := Lib.hid (Ba.out.below hb Ba.out.lt)
    replace Bb := Lib.hid (Bb.out.below hb Bb.out.lt)
    replace Bd := Lib.hid (Bd.out.below hb Bd.out.lt)
    replace Rp := Lib.hid (Rp.out.keep hb)
    replace Rq := Lib.hid (Rq.out.keep hb)
    replace E := Lib.hid (E.out.trans (hb.mono E.out.size))
    replace T := Lib.hid (T.out.keep hb)
    clear hb
    go_wp2_with fail
    go_ret
    exact ⟨by first | rfl | (go_simp; done), E.out⟩
  | false =>
    obtain ⟨r1, hr1⟩ : ∃ r, r = chI a i n P d := ⟨_, rfl⟩
    obtain ⟨r2, hr2⟩ : ∃ r, r = chI b i n Q d := ⟨_, rfl⟩
    have C1 := Lib.hid (fun W (h : DV W Ap np cp P) (ht : Tbs W) => chI_v a d za.out zd.out h ht i n r1 hr1)
    have C2 := Lib.hid (fun W (h : DV W Aq nq cq Q) (ht : Tbs W) => chI_v b d zb.out zd.out h ht i n r2 hr2)
    have hr1' := Lib.hid hr1
    have hr2' := Lib.hid hr2
    unfold av at C1 C2
    clear hr1 hr2
    go_wp2_with (first | (refine wpList_blk_loadW (by rfl) 31 _ rfl 0 rfl Ba.out (a.map bv) (take_all0 _) (.array 16 5) arr_dig rfl sa.out ?_) | (refine wpList_blk_loadW (by rfl) 31 _ rfl 0 rfl Bb.out (b.map bv) (take_all0 _) (.array 16 5) arr_dig rfl sb.out ?_) | (refine wpList_blk_loadW (by rfl) 31 _ rfl 0 rfl Bd.out (d.map bv) (take_all0 _) (.array 16 5) arr_dig rfl sd.out ?_) | (refine wpList_eql_bytes (by rfl) 31 _ _ _ rfl 16 arr_dig (by kernel_rfl) a b za.out zb.out rfl rfl _ hrab.out ?_))
    refine (C1.out _ Rp.out T.out).mono ?_
    rintro e v1 ⟨rfl, hb⟩
    replace Ba := Lib.hid (Ba.out.below hb Ba.out.lt)
    replace Bb := Lib.hid (Bb.out.below hb Bb.out.lt)
    replace Bd := Lib.hid (Bd.out.below hb Bd.out.lt)
    replace Rp := Lib.hid (Rp.out.keep hb)
    replace Rq := Lib.hid (Rq.out.keep hb)
    replace E := Lib.hid (E.out.trans (hb.mono E.out.size))
    replace T := Lib.hid (T.out.keep hb)
    clear hb
    cases r1 with
    | false =>
      go_wp2_with fail
      refine (SA.out _ T.out).mono ?_
      rintro e v2 ⟨rfl, hb⟩
      replace Ba := Lib.hid (Ba.out.below hb Ba.out.lt)
      replace Bb := Lib.hid (Bb.out.below hb Bb.out.lt)
      replace Bd := Lib.hid (Bd.out.below hb Bd.out.lt)
      replace Rp := Lib.hid (Rp.out.keep hb)
      replace Rq := Lib.hid (Rq.out.keep hb)
      replace E := Lib.hid (E.out.trans (hb.mono E.out.size))
      replace T := Lib.hid (T.out.keep hb)
      clear hb
      go_wp2_with fail
      go_ret
      exact ⟨by first | rfl | (go_simp; done), E.out⟩
    | true =>
      go_wp2_with (first | (refine wpList_blk_loadW (by rfl) 31 _ rfl 0 rfl Ba.out (a.map bv) (take_all0 _) (.array 16 5) arr_dig rfl sa.out ?_) | (refine wpList_blk_loadW (by rfl) 31 _ rfl 0 rfl Bb.out (b.map bv) (take_all0 _) (.array 16 5) arr_dig rfl sb.out ?_) | (refine wpList_blk_loadW (by rfl) 31 _ rfl 0 rfl Bd.out (d.map bv) (take_all0 _) (.array 16 5) arr_dig rfl sd.out ?_))
      refine (C2.out _ Rq.out T.out).mono ?_
      rintro e v2 ⟨rfl, hb⟩
      replace Ba := Lib.hid (Ba.out.below hb Ba.out.lt)
      replace Bb := Lib.hid (Bb.out.below hb Bb.out.lt)
      replace Bd := Lib.hid (Bd.out.below hb Bd.out.lt)
      replace Rp := Lib.hid (Rp.out.keep hb)
      replace Rq := Lib.hid (Rq.out.keep hb)
      replace E := Lib.hid (E.out.trans (hb.mono E.out.size))
      replace T := Lib.hid (T.out.keep hb)
      clear hb
      cases r2 with
      | false =>
        go_wp2_with fail
        refine (SA.out _ T.out).mono ?_
        rintro e v3 ⟨rfl, hb⟩
        replace Ba := Lib.hid (Ba.out.below hb Ba.out.lt)
        replace Bb := Lib.hid (Bb.out.below hb Bb.out.lt)
        replace Bd := Lib.hid (Bd.out.below hb Bd.out.lt)
        replace Rp := Lib.hid (Rp.out.keep hb)
        replace Rq := Lib.hid (Rq.out.keep hb)
        replace E := Lib.hid (E.out.trans (hb.mono E.out.size))
        replace T := Lib.hid (T.out.keep hb)
        clear hb
        go_wp2_with fail
        go_ret
        exact ⟨by first | rfl | (go_simp; done), E.out⟩
      | true =>
        obtain ⟨k, mm, hik, hnm, hkm, h40, hD1, hL1⟩ := chI_true hr1'.out.symm
        obtain ⟨k2, mm2, hik2, hnm2, _, _, hD2, hL2⟩ := chI_true hr2'.out.symm
        obtain rfl : k2 = k := by omega
        obtain rfl : mm2 = mm := by omega
        subst hik hnm
        obtain ⟨TT, hTT⟩ : ∃ T, T = trn k2 mm2 := ⟨_, rfl⟩
        rw [← hTT] at hD1 hL1 hD2 hL2
        have hl1 : TT.length = np := by rw [hL1, hnP.out]
        have hl2 : TT.length = nq := by rw [hL2, hnQ.out]
        obtain rfl : np = nq := by omega
        rw [hl1] at hD1 hD2
        have e1 := Lib.hid hD1
        have e2 := Lib.hid hD2
        have S1 := Lib.hid (fun W (h : DV W Ap np cp P) (ht : Tbs W) => steps_any a k2 mm2 np cp P Ap W za.out hkm h40 h (by rw [← hTT, hl1]) hnp60 ht)
        have S2 := Lib.hid (fun W (h : DV W Aq np cq Q) (ht : Tbs W) => steps_any b k2 mm2 np cq Q Aq W zb.out hkm h40 h (by rw [← hTT, hl1]) hnp60 ht)
        rw [← hTT] at S1 S2
        have hab : Hid (stD TT P a 0 ≠ stD TT Q b 0) := fun h => by
          have h1 : (a == b) = false := hrab.out
          rw [show a = b from h] at h1
          simp at h1
        unfold av at S1 S2
        clear hTT hl1 hl2 hL1 hL2 hD1 hD2 hik2 hnm2 hr1' hr2' C1 C2 hnq60
        go_wp2_with (first | (refine wpList_blk_loadW (by rfl) 31 _ rfl 0 rfl Ba.out (a.map bv) (take_all0 _) (.array 16 5) arr_dig rfl sa.out ?_) | (refine wpList_blk_loadW (by rfl) 31 _ rfl 0 rfl Bb.out (b.map bv) (take_all0 _) (.array 16 5) arr_dig rfl sb.out ?_) | (refine wpList_blk_loadW (by rfl) 31 _ rfl 0 rfl Bd.out (d.map bv) (take_all0 _) (.array 16 5) arr_dig rfl sd.out ?_))
        refine (S1.out _ Rp.out T.out).mono ?_
        rintro e v3 ⟨A1, c1, rfl, h0, hb⟩
        have X1 := Lib.hid h0
        clear h0
        replace Ba := Lib.hid (Ba.out.below hb Ba.out.lt)
        replace Bb := Lib.hid (Bb.out.below hb Bb.out.lt)
        replace Bd := Lib.hid (Bd.out.below hb Bd.out.lt)
        replace Rp := Lib.hid (Rp.out.keep hb)
        replace Rq := Lib.hid (Rq.out.keep hb)
        replace E := Lib.hid (E.out.trans (hb.mono E.out.size))
        replace T := Lib.hid (T.out.keep hb)
        clear hb
        go_wp2_with (first | (refine wpList_blk_loadW (by rfl) 31 _ rfl 0 rfl Ba.out (a.map bv) (take_all0 _) (.array 16 5) arr_dig rfl sa.out ?_) | (refine wpList_blk_loadW (by rfl) 31 _ rfl 0 rfl Bb.out (b.map bv) (take_all0 _) (.array 16 5) arr_dig rfl sb.out ?_) | (refine wpList_blk_loadW (by rfl) 31 _ rfl 0 rfl Bd.out (d.map bv) (take_all0 _) (.array 16 5) arr_dig rfl sd.out ?_))
        refine (S2.out _ Rq.out T.out).mono ?_
        rintro e v4 ⟨A2, c2, rfl, h0, hb⟩
        have X2 := Lib.hid h0
        clear h0
        replace Ba := Lib.hid (Ba.out.below hb Ba.out.lt)
        replace Bb := Lib.hid (Bb.out.below hb Bb.out.lt)
        replace Bd := Lib.hid (Bd.out.below hb Bd.out.lt)
        replace Rp := Lib.hid (Rp.out.keep hb)
        replace Rq := Lib.hid (Rq.out.keep hb)
        replace X1 := Lib.hid (X1.out.keep hb)
        replace E := Lib.hid (E.out.trans (hb.mono E.out.size))
        replace T := Lib.hid (T.out.keep hb)
        clear hb
        have hb0 : Hid (Below v4.heap.size v4 v4) := Below.refl _ _
        have hP16 := Lib.hid Rp.out.d16
        have hQ16 := Lib.hid Rq.out.d16
        clear S1 S2
        go_wp2_with fail
        go_loopw [17] (fun v wr => ∃ t : Nat, v = .int .i64 t ∧ t ≤ np ∧ Hid (stD TT P a t ≠ stD TT Q b t) ∧ Hid (Below v4.heap.size v4 wr)) (fun v _ => np - (intOf v).toNat)
        case atStart => exact ⟨0, rfl, by omega, hab, hb0⟩
        case round =>
          obtain ⟨t, rfl, ht6, hne0, hbw⟩ := hrel
          clear hab hb0
          by_cases hlt : t < np
          · have tk : (t : Int) < (np : Int) := by omega
            have hb := hbw.out
            replace X1 := Lib.hid (X1.out.keep hb)
            replace X2 := Lib.hid (X2.out.keep hb)
            replace E := Lib.hid (E.out.trans (hb.mono E.out.size))
            replace T := Lib.hid (T.out.keep hb)
            have hg1 := prs_at TT P a np hlt
            have hg2 := prs_at TT Q b np hlt
            have hnab := stAB_ne hne0.out
            have hsx := stD_succ TT P a t
            have hsy := stD_succ TT Q b t
            have q1 := stA_len (T := TT) hP16.out za.out t
            have q2 := stB_len (T := TT) hP16.out za.out t
            have q3 := stA_len (T := TT) hQ16.out zb.out t
            have q4 := stB_len (T := TT) hQ16.out zb.out t
            generalize stA TT P a t = xA at hg1 hnab hsx q1
            generalize stB TT P a t = xB at hg1 hnab hsx q2
            generalize stA TT Q b t = yA at hg2 hnab hsy q3
            generalize stB TT Q b t = yB at hg2 hnab hsy q4
            obtain ⟨adx, hAx, _⟩ := X1.out.at hg1.1 hg1.2
            obtain ⟨ady, hAy, _⟩ := X2.out.at hg2.1 hg2.2
            subst hAx hAy
            have KX : Hid (∀ W, Below wr.heap.size wr W → (∀ j v, (xA.map bv)[j]? = some v → W.cell? (((adx.add (t * 32)).add 0).add j) = some v) ∧ (∀ j v, (xB.map bv)[j]? = some v → W.cell? (((adx.add (t * 32)).add 16).add j) = some v) ∧ (∀ j v, ((xA ++ xB).map bv)[j]? = some v → W.cell? ((adx.add (t * 32)).add j) = some v)) := fun W hb => by
              obtain ⟨ad', he, hcc⟩ := (X1.out.keep hb).at hg1.1 hg1.2
              injection he with he
              subst he
              exact hcc
            have KY : Hid (∀ W, Below wr.heap.size wr W → (∀ j v, (yA.map bv)[j]? = some v → W.cell? (((ady.add (t * 32)).add 0).add j) = some v) ∧ (∀ j v, (yB.map bv)[j]? = some v → W.cell? (((ady.add (t * 32)).add 16).add j) = some v) ∧ (∀ j v, ((yA ++ yB).map bv)[j]? = some v → W.cell? ((ady.add (t * 32)).add j) = some v)) := fun W hb => by
              obtain ⟨ad', he, hcc⟩ := (X2.out.keep hb).at hg2.1 hg2.2
              injection he with he
              subst he
              exact hcc
            obtain ⟨px, hpx0⟩ : ∃ p, p = xA ++ xB := ⟨_, rfl⟩
            obtain ⟨py, hpy0⟩ : ∃ p, p = yA ++ yB := ⟨_, rfl⟩
            rw [← hpx0] at KX
            rw [← hpy0] at KY
            have hpx := Lib.hid hpx0
            have hpy := Lib.hid hpy0
            have spx := Lib.hid (size_pr (px.map bv) (by rw [List.length_map, hpx0, List.length_append, q1, q2]))
            have spy := Lib.hid (size_pr (py.map bv) (by rw [List.length_map, hpy0, List.length_append, q3, q4]))
            obtain ⟨N1, hN1⟩ : ∃ N, N = nd xA xB := ⟨_, rfl⟩
            obtain ⟨N2, hN2⟩ : ∃ N, N = nd yA yB := ⟨_, rfl⟩
            obtain ⟨rN, hrN0⟩ : ∃ r, (N1 == N2) = r := ⟨_, rfl⟩
            have hrN := Lib.hid hrN0
            have hnabH := Lib.hid hnab
            have hnx : Hid (stD TT P a (t + 1) = N1) := by show _ = _; rw [hsx, hN1]
            have hny : Hid (stD TT Q b (t + 1) = N2) := by show _ = _; rw [hsy, hN2]
            have zxA : Hid (xA.length = 16) := q1
            have lxA : Hid ((xA.map bv).length = 16) := by show _ = _; rw [List.length_map, zxA.out]
            have sxA := Lib.hid (size_dig16 (xA.map bv) lxA.out)
            have oxA := av_one xA
            have zxB : Hid (xB.length = 16) := q2
            have lxB : Hid ((xB.map bv).length = 16) := by show _ = _; rw [List.length_map, zxB.out]
            have sxB := Lib.hid (size_dig16 (xB.map bv) lxB.out)
            have oxB := av_one xB
            have zyA : Hid (yA.length = 16) := q3
            have lyA : Hid ((yA.map bv).length = 16) := by show _ = _; rw [List.length_map, zyA.out]
            have syA := Lib.hid (size_dig16 (yA.map bv) lyA.out)
            have oyA := av_one yA
            have zyB : Hid (yB.length = 16) := q4
            have lyB : Hid ((yB.map bv).length = 16) := by show _ = _; rw [List.length_map, zyB.out]
            have syB := Lib.hid (size_dig16 (yB.map bv) lyB.out)
            have oyB := av_one yB
            have zN1 : Hid (N1.length = 16) := (by show _ = _; rw [hN1]; exact nd_len _ _)
            have lN1 : Hid ((N1.map bv).length = 16) := by show _ = _; rw [List.length_map, zN1.out]
            have sN1 := Lib.hid (size_dig16 (N1.map bv) lN1.out)
            have oN1 := av_one N1
            have zN2 : Hid (N2.length = 16) := (by show _ = _; rw [hN2]; exact nd_len _ _)
            have lN2 : Hid ((N2.map bv).length = 16) := by show _ = _; rw [List.length_map, zN2.out]
            have sN2 := Lib.hid (size_dig16 (N2.map bv) lN2.out)
            have oN2 := av_one N2
            have HN1 := Lib.hid (fun W (ht : Tbs W) => node_v (W := W) xA xB zxA.out zxB.out ht N1 hN1)
            have HN2 := Lib.hid (fun W (ht : Tbs W) => node_v (W := W) yA yB zyA.out zyB.out ht N2 hN2)
            unfold av at HN1 HN2
            clear hg1 hg2 hnab hsx hsy q1 q2 q3 q4 hpx0 hpy0 hN1 hN2 hrN0 hb hlt
            go_wp2_with fail
            have hS0 : Below wr.heap.size wr wr.drew := (Below.refl _ _).drew
            have hne : Nonempty (SOf (fun W => Below wr.heap.size wr W)) := ⟨⟨_, hS0⟩⟩
            refine wp_region_planH (fun W => Below wr.heap.size wr W) [] 34 (by kernel_rfl) (by kernel_rfl) (by kernel_rfl) (by kernel_rfl) (by intro c a d v w h; cases d <;> exact h) hS0 ?_
            change wpPlanH _ _ _ _ _ _ _ _ _ wr.drew
            have hS := Lib.hid hS0
            clear hS0
            generalize wr.drew = x0 at hS ⊢
            refine wpAnyH_of_plan (by kernel_rfl) (by intro c a d v w h; cases d <;> exact h) [0, 1, 2, 3, 4, 5, 6, 7, 8, 9, 10, 11, 12, 13, 14, 15, 16, 17, 18, 19, 21, 22, 23, 24, 25, 26, 27, 28, 29, 30] 4 _ _ _ hS.out (by kernel_rfl) ?_
            refine wpPlanH_plain rfl (fun K hK => ?_); go_simp; refine hK _ ?_; clear hK K
            refine wpPlanH_plain rfl (fun K hK => ?_); go_simp; refine hK _ ?_; clear hK K
            refine wpPlanH_plain rfl (fun K hK => ?_); go_simp; refine hK _ ?_; clear hK K
            refine wpPlanH_runW rfl (by rfl) _ (fun x1 => load_arr_run 62 _ rfl (adx.add (t * 32)) rfl (px.map bv) 2 31 x1.world ((KX.out _ (show Below wr.heap.size wr x1.world from x1.meets)).2.2) arr_pr spx.out) ?_
            refine wpPlanH_plain rfl (fun K hK => ?_); go_simp; refine hK _ ?_; clear hK K
            refine wpPlanH_plain rfl (fun K hK => ?_); go_simp; refine hK _ ?_; clear hK K
            refine wpPlanH_plain rfl (fun K hK => ?_); go_simp; refine hK _ ?_; clear hK K
            refine wpPlanH_runW rfl (by rfl) _ (fun x1 => load_arr_run 62 _ rfl (ady.add (t * 32)) rfl (py.map bv) 2 31 x1.world ((KY.out _ (show Below wr.heap.size wr x1.world from x1.meets)).2.2) arr_pr spy.out) ?_
            refine wpPlanH_runW rfl (by rfl) _ (fun x1 => neq_pair_run _ _ _ rfl xA xB yA yB zxA.out zxB.out zyA.out zyB.out px py hpx.out hpy.out rfl rfl false hnabH.out x1.world) ?_
            refine wpPlanH_plain rfl (fun K hK => ?_); go_simp; refine hK _ ?_; clear hK K
            refine wpPlanH_plain rfl (fun K hK => ?_); go_simp; refine hK _ ?_; clear hK K
            refine wpPlanH_plain rfl (fun K hK => ?_); go_simp; refine hK _ ?_; clear hK K
            refine wpPlanH_plain rfl (fun K hK => ?_); go_simp; refine hK _ ?_; clear hK K
            refine wpPlanH_plain rfl (fun K hK => ?_); go_simp; refine hK _ ?_; clear hK K
            refine wpPlanH_runW rfl (by rfl) _ (fun x1 => load_arr_run 31 _ rfl ((adx.add (t * 32)).add 0) rfl (xA.map bv) 16 5 x1.world ((KX.out _ (show Below wr.heap.size wr x1.world from x1.meets)).1) arr_dig sxA.out) ?_
            refine wpPlanH_plain rfl (fun K hK => ?_); go_simp; refine hK _ ?_; clear hK K
            refine wpPlanH_plain rfl (fun K hK => ?_); go_simp; refine hK _ ?_; clear hK K
            refine wpPlanH_plain rfl (fun K hK => ?_); go_simp; refine hK _ ?_; clear hK K
            refine wpPlanH_plain rfl (fun K hK => ?_); go_simp; refine hK _ ?_; clear hK K
            refine wpPlanH_runW rfl (by rfl) _ (fun x1 => load_arr_run 31 _ rfl ((adx.add (t * 32)).add 16) rfl (xB.map bv) 16 5 x1.world ((KX.out _ (show Below wr.heap.size wr x1.world from x1.meets)).2.1) arr_dig sxB.out) ?_
            refine wpPlanH_plain rfl (fun K hK => ?_); go_simp; refine hK _ ?_; clear hK K
            refine wpPlanH_plain rfl (fun K hK => ?_); go_simp; refine hK _ ?_; clear hK K
            refine wpPlanH_plain rfl (fun K hK => ?_); go_simp; refine hK _ ?_; clear hK K
            refine wpPlanH_plain rfl (fun K hK => ?_); go_simp; refine hK _ ?_; clear hK K
            refine wpPlanH_runW rfl (by rfl) _ (fun x1 => load_arr_run 31 _ rfl ((ady.add (t * 32)).add 0) rfl (yA.map bv) 16 5 x1.world ((KY.out _ (show Below wr.heap.size wr x1.world from x1.meets)).1) arr_dig syA.out) ?_
            refine wpPlanH_plain rfl (fun K hK => ?_); go_simp; refine hK _ ?_; clear hK K
            refine wpPlanH_plain rfl (fun K hK => ?_); go_simp; refine hK _ ?_; clear hK K
            refine wpPlanH_plain rfl (fun K hK => ?_); go_simp; refine hK _ ?_; clear hK K
            refine wpPlanH_plain rfl (fun K hK => ?_); go_simp; refine hK _ ?_; clear hK K
            refine wpPlanH_runW rfl (by rfl) _ (fun x1 => load_arr_run 31 _ rfl ((ady.add (t * 32)).add 16) rfl (yB.map bv) 16 5 x1.world ((KY.out _ (show Below wr.heap.size wr x1.world from x1.meets)).2.1) arr_dig syB.out) ?_
            refine wpAnyH_each (rs := [20]) (by kernel_rfl) (by decide) (fun K hK q hq => ?_)
            obtain rfl := List.mem_singleton.1 hq
            refine wpOp_listed rfl ?_
            go_wp2_with fail
            refine (HN1.out _ (T.out.keep hS.out)).mono ?_
            rintro e x5 ⟨rfl, hbx⟩
            go_wp2_with fail
            have hbn := hS.out.trans (hbx.mono hS.out.size)
            refine postH_normal (hK _ _ _ hbn ?_)
            replace hS := Lib.hid hbn
            clear hK K hbx hbn
            refine wpAnyH_each (rs := [31]) (by kernel_rfl) (by decide) (fun K hK q hq => ?_)
            obtain rfl := List.mem_singleton.1 hq
            refine wpOp_listed rfl ?_
            go_wp2_with fail
            refine (HN2.out _ (T.out.keep hS.out)).mono ?_
            rintro e x6 ⟨rfl, hbx⟩
            go_wp2_with fail
            have hbn := hS.out.trans (hbx.mono hS.out.size)
            refine postH_normal (hK _ _ _ hbn ?_)
            replace hS := Lib.hid hbn
            clear hK K hbx hbn
            refine wpAnyH_of_plan (by kernel_rfl) (by intro c a d v w h; cases d <;> exact h) [32, 33] 0 _ _ _ hS.out (by kernel_rfl) ?_
            refine wpPlanH_runW rfl (by rfl) _ (fun x => eql_run 31 _ _ _ rfl 16 arr_dig (by kernel_rfl) N1 N2 zN1.out zN2.out rfl rfl rN hrN.out x.world) ?_
            refine wpPlanH_plain rfl (fun K hK => ?_); go_simp; refine hK _ ?_; clear hK K
            refine wpAnyH_done (by kernel_rfl) ?_ _
            have hb := hS.out
            clear hS hne
            have hbn := Lib.hid (hbw.out.trans (hb.mono hbw.out.size))
            replace E := Lib.hid (E.out.trans (hb.mono E.out.size))
            replace T := Lib.hid (T.out.keep hb)
            clear hb
            cases rN with
            | true =>
              go_wp2_with fail
              refine (SA.out _ T.out).mono ?_
              rintro e v7 ⟨rfl, hb⟩
              replace E := Lib.hid (E.out.trans (hb.mono E.out.size))
              replace T := Lib.hid (T.out.keep hb)
              clear hb
              go_wp2_with fail
              go_ret
              exact ⟨by first | rfl | (go_simp; done), E.out⟩
            | false =>
              have f1 : Hid (stD TT P a (t + 1) ≠ stD TT Q b (t + 1)) := fun h => by
                have h1 : (N1 == N2) = false := hrN.out
                rw [hnx.out, hny.out] at h
                rw [h] at h1
                simp at h1
              go_wp2_with fail
              go_roundw
              case rel => exact ⟨t + 1, by go_num, by omega, f1, hbn⟩
              case measure => simp [intOf]; omega
          obtain rfl : t = np := by omega
          exact absurd (e1.out.trans e2.out.symm) hne0.out
end Go.Proofs.YtlgokfgiemaklaaDoor
