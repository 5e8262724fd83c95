/-
  Contract of steps. (Written by tools/gensp.py.)
-/
import Derived.Test.YtlgokfgiemaklaaDoorStp
namespace Go.Proofs.YtlgokfgiemaklaaDoor
set_option linter.unusedVariables false
set_option linter.unusedSimpArgs false
open Go.RowKit

theorem own_blk {w w' : World} {base n g : Nat} {v : Value} {M : List (List UInt8)} {L : List Value} {t : TypeId} (ho : OwnP w base v n M) (hb : Blk w g L t) (hg : w.grownBy w' v.ownBlock) (hne : v.ownBlock ≠ some g) : Blk w' g L t := (hg.block g hb.lt (fun e => hne e.symm)).trans hb
theorem own_before {w0 : World} {base n g : Nat} {v : Value} {M : List (List UInt8)} (h : OwnP w0 base v n M) (hg : w0.heap.size ≤ g) : v.ownBlock ≠ some g := fun e => by have := (h.lt g e).2; omega
set_option maxRecDepth 100000 in
set_option maxHeartbeats 16000000 in
theorem steps_any (leaf : List UInt8) (i n L c : Nat) (path : List (List UInt8)) (A : Option Addr) (w : World) (hl16 : leaf.length = 16) (hin : i < n) (h40 : n ≤ 1099511627776) (hp : DV w A L c path) (hT : (trn i n).length = L) (h60 : L ≤ 60) (ht : Tbs w) :
    Calls Tryd.prog 31 #[av leaf, .int .i64 i, .int .i64 n, .slice A L c] w fun e w' => ∃ A' c', e = .returned (.slice A' L c') ∧ PR w' A' L c' (prs (trn i n) path leaf L) ∧ Below w.heap.size w w' := by
  obtain ⟨TT, hTT⟩ : ∃ TT, TT = trn i n := ⟨_, rfl⟩
  rw [← hTT] at hT ⊢
  have hTT' := Lib.hid hTT
  have hTl := Lib.hid hT
  have HN := Lib.hid (fun W (ht : Tbs W) a b ha hb D hD => node_v (W := W) a b ha hb ht D hD)
  clear hTT hT
  have zleaf : Hid (leaf.length = 16) := hl16
  have lleaf : Hid ((leaf.map bv).length = 16) := by show _ = _; rw [List.length_map, zleaf.out]
  have sleaf := Lib.hid (size_dig16 (leaf.map bv) lleaf.out)
  have oleaf := av_one leaf
  obtain ⟨W1, hW1⟩ : ∃ W1, W1 = w.alloc (.cells (leaf.map bv).toArray 31) := ⟨_, rfl⟩
  have E : Hid (Below w.heap.size w W1) := by show Below _ _ _; rw [hW1]; exact (Below.refl _ _).alloc (Nat.le_refl _) _
  have Bo : Hid (Blk W1 w.heap.size (leaf.map bv) 31) := by show Blk _ _ _ _; rw [hW1]; exact Blk.new _ _ _
  have R0 := Lib.hid (hp.keep E.out)
  have T := Lib.hid (ht.keep E.out)
  have hW1' := Lib.hid hW1
  obtain ⟨gBo, hgBo⟩ : ∃ g, g = w.heap.size := ⟨_, rfl⟩
  have hgo := Lib.hid hgBo
  rw [← hgBo] at Bo
  unfold av at HN ⊢
  clear hW1 ht hp hl16 hgBo
  go_enter Tryd.func31, Tryd.ntmps31
  go_upto_region 1 with fail
  generalize hg : w.alloc _ = Wg
  have hgW : W1 = Wg := by rw [← hg, hW1'.out]
  clear hg hW1'
  subst hgW
  rw [← hgo.out]
  go_wp2_with fail
  go_loopw [9, 1, 2] (fun vt vi vn wr => ∃ (S : List Bool) (m i' n' : Nat) (A1 : Option Addr) (c1 : Nat), vt = .slice A1 m c1 ∧ vi = .int .i64 i' ∧ vn = .int .i64 n' ∧ i' < n' ∧ n' ≤ n ∧ Hid (TT = trn i' n' ++ S) ∧ Hid (TV wr A1 m c1 S) ∧ Hid (Below W1.heap.size W1 wr)) (fun _ _ vn _ => (intOf vn).toNat)
  case atStart => exact ⟨[], 0, i, n, none, 0, rfl, rfl, rfl, hin, Nat.le_refl _, (by show _ = _; rw [List.append_nil]; exact hTT'.out), tv_nil _, Below.refl _ _⟩
  case round =>
    obtain ⟨S, m, i', n', A1, c1, rfl, rfl, rfl, hi', hn', hTS, hV, hbw⟩ := hrel
    by_cases h2 : 2 ≤ n'
    · have tk : (1 : Int) < (n' : Int) := by omega
      go_wp2_with fail
      go_loopw [10] (fun v wr2 => ∃ k j : Nat, v = .int .i64 k ∧ Hid (k = 2 ^ j) ∧ k < n' ∧ 0 < k ∧ wr = wr2) (fun v _ => n' - (intOf v).toNat)
      case atStart => exact ⟨1, 0, rfl, rfl, by omega, by omega, rfl⟩
      case round =>
        obtain ⟨k, j, rfl, hk, hkn, hkp, rfl⟩ := hrel
        by_cases hlt : 2 * k < n'
        · have t : 2 * (k : Int) < n' := by omega
          have hk2 : Hid (2 * k = 2 ^ (j + 1)) := by show _ = _; rw [hk.out, Nat.pow_succ, Nat.mul_comm]
          go_wp2_with fail
          go_roundw
          case rel => exact ⟨2 * k, j + 1, by go_num, hk2, hlt, by omega, trivial⟩
          case measure => simp [intOf]; omega
        have t : ¬ 2 * (k : Int) < n' := by omega
        have e := Lib.hid (Mk.ksz_of hk.out hkn (by omega))
        have hm : m ≤ 60 := by
          have h1 := hV.out.len
          have h3 := congrArg List.length hTS.out
          rw [List.length_append, hTl.out] at h3
          omega
        have hm6 : m ≤ 1000000 := by omega
        by_cases hik : i' < k
        · have g1 : decide ((k : Int) ≤ (i' : Int)) = false := decide_eq_false (by omega)
          have g2 : ¬ (k : Int) ≤ (i' : Int) := by omega
          have hTn : Hid (TT = trn i' k ++ (false :: S)) := by
            show _ = _
            rw [hTS.out, trn_left h2 (by rw [e.out]; exact hik), e.out, List.append_assoc]; rfl
          go_wp2_with (at_builtin; go_must (refine push_turns rfl _ _ rfl false S A1 m c1 rfl rfl hV.out hm6 ?_); intro A2 c2 w2 hv2 hb2)
          have f1 := Lib.hid hv2
          have f2 := Lib.hid (hbw.out.trans (hb2.mono hbw.out.size))
          clear hv2 hb2
          go_roundw
          case rel => exact ⟨false :: S, m + 1, i', k, A2, c2, rfl, rfl, rfl, hik, by omega, hTn, f1, f2⟩
          case measure => simp [intOf]; omega
        · have g1 : decide ((k : Int) ≤ (i' : Int)) = true := decide_eq_true (by omega)
          have g2 : (k : Int) ≤ (i' : Int) := by omega
          have hTn : Hid (TT = trn (i' - k) (n' - k) ++ (true :: S)) := by
            show _ = _
            rw [hTS.out, trn_right h2 (by rw [e.out]; exact hik), e.out, List.append_assoc]; rfl
          have s1 : ((i' : Int) - (k : Int)) = ((i' - k : Nat) : Int) := by omega
          have s2 : ((n' : Int) - (k : Int)) = ((n' - k : Nat) : Int) := by omega
          go_wp2_with (at_builtin; go_must (refine push_turns rfl _ _ rfl true S A1 m c1 rfl rfl hV.out hm6 ?_); intro A2 c2 w2 hv2 hb2)
          have f1 := Lib.hid hv2
          have f2 := Lib.hid (hbw.out.trans (hb2.mono hbw.out.size))
          clear hv2 hb2
          go_roundw
          case rel => exact ⟨true :: S, m + 1, i' - k, n' - k, A2, c2, rfl, by first | rfl | rw [s1], by first | rfl | rw [s2], by omega, by omega, hTn, f1, f2⟩
          case measure => simp [intOf]; omega
    have tk : ¬ (1 : Int) < (n' : Int) := by omega
    have hST : TT = S := by rw [hTS.out, trn_one _ (by omega)]; rfl
    subst hST
    obtain rfl : m = L := by rw [hV.out.len]; exact hTl.out
    clear hTS h2
    have hb := hbw.out
    clear hbw
    have hgo2 : Hid (gBo < W1.heap.size) := Bo.out.lt
    replace Bo := Lib.hid (Bo.out.below hb Bo.out.lt)
    replace R0 := Lib.hid (R0.out.keep hb)
    replace E := Lib.hid (E.out.trans (hb.mono E.out.size))
    replace T := Lib.hid (T.out.keep hb)
    clear hb
    have hnew := Lib.hid (Blk.new wr (bz 16) 31)
    go_upto_region 14 with (first | (refine wpList_blk_load rfl 31 _ rfl 0 rfl Bo.out (leaf.map bv) (take_all0 _) (.array 16 5) arr_dig rfl sleaf.out ?_) | (refine wpList_row_store rfl 31 _ _ rfl (leaf.map bv) rfl rfl hnew.out sleaf.out (by rw [lleaf.out]; rfl) oleaf ?_; intro u1 hu1 ho1))
    have hb : Below wr.heap.size wr u1 := ((Below.refl _ _).alloc (Nat.le_refl _) _).trans (ho1.below (Nat.le_refl _))
    have hbu : Hid (Below wr.heap.size wr u1) := hb
    have BD : Hid (Blk u1 wr.heap.size (leaf.map bv) 31) := hu1
    have hs1 : u1.heap.size = wr.heap.size + 1 := by rw [ho1.size]; simp
    clear hu1 ho1 hnew
    obtain ⟨gD, hgD⟩ : ∃ g, g = wr.heap.size := ⟨_, rfl⟩
    obtain ⟨base, hbase⟩ : ∃ b, b = wr.heap.size + 1 := ⟨_, rfl⟩
    rw [← hgD] at BD ⊢
    have hgD' := Lib.hid hgD
    have hgb : gD < base := by omega
    have hbs : base ≤ u1.heap.size := by omega
    have R0w := R0
    have hVw := hV
    have Tw := T
    have Ew := E
    clear hb hs1 hgD hbase Bo R0 hV T E
    go_wp2_with fail
    obtain ⟨wS, rfl⟩ : ∃ x, x = wr := ⟨_, rfl⟩
    go_loopw [12, 14] (fun vo vk wr => ∃ k : Nat, k ≤ m ∧ vk = .int .i64 k ∧ Hid (OwnP wr base vo k (prs TT path leaf k)) ∧ Hid (Blk wr gD ((stD TT path leaf k).map bv) 31) ∧ Hid (Below wS.heap.size wS wr) ∧ base ≤ wr.heap.size) (fun _ vk _ => m - (intOf vk).toNat)
    case atStart => exact ⟨0, by omega, rfl, ownP_nil _ _, BD, hbu, hbs⟩
    case round =>
      obtain ⟨k, hk, rfl, hO, BD', hbq, hbq2⟩ := hrel
      clear BD hbu hbs
      by_cases hlt : k < m
      · have tk1 : (k : Int) < (m : Int) := by omega
        obtain ⟨x, hx⟩ : ∃ x, path[k]? = some x := ⟨_, List.getElem?_eq_getElem (by have := R0w.out.len; omega)⟩
        obtain ⟨b, hbk⟩ : ∃ b, TT[k]? = some b := ⟨_, List.getElem?_eq_getElem (by have := hTl.out; omega)⟩
        have hnx : Hid (nx path k = x) := by
          show _ = _
          unfold nx
          rw [List.getD_eq_getElem?_getD, hx]; rfl
        have hTb : Hid (TT.getD k false = b) := by
          show _ = _
          rw [List.getD_eq_getElem?_getD, hbk]; rfl
        obtain ⟨ad, hA, _⟩ := R0w.out.rd.at R0w.out.d16 hx
        subst hA
        obtain ⟨ad1, hA1, _⟩ := hVw.out.rd.look (k := k) (u := .bool b) (by rw [List.getElem?_map, hbk]; rfl)
        subst hA1
        have hLx : Hid (∀ W, Below wS.heap.size wS W → ∀ j v, (x.map bv)[j]? = some v → W.cell? ((ad.add (k * 16)).add j) = some v) := fun W hb => by
          obtain ⟨ad', he, _, _, hcc⟩ := (R0w.out.keep hb).rd.at R0w.out.d16 hx
          injection he with he
          subst he
          exact hcc
        have hLb : Hid (∀ W, Below wS.heap.size wS W → W.cell? (ad1.add k) = some (.bool b)) := fun W hb => by
          obtain ⟨ad', he, _, hcc⟩ := (hVw.out.keep hb).rd.look (k := k) (u := .bool b) (by rw [List.getElem?_map, hbk]; rfl)
          injection he with he
          subst he
          exact hcc
        obtain ⟨D, hD⟩ : ∃ D, D = stD TT path leaf k := ⟨_, rfl⟩
        have zD : Hid (D.length = 16) := (by show _ = _; rw [hD]; exact stD_len R0w.out.d16 zleaf.out k)
        have lD : Hid ((D.map bv).length = 16) := by show _ = _; rw [List.length_map, zD.out]
        have sD := Lib.hid (size_dig16 (D.map bv) lD.out)
        have oD := av_one D
        have zx : Hid (x.length = 16) := (R0w.out.d16 x (List.mem_of_getElem? hx))
        have lx : Hid ((x.map bv).length = 16) := by show _ = _; rw [List.length_map, zx.out]
        have sx := Lib.hid (size_dig16 (x.map bv) lx.out)
        have ox := av_one x
        rw [← hD] at BD'
        have hD' := Lib.hid hD
        clear hD hx hbk
        obtain ⟨p0, hp0⟩ : ∃ p, p = D ++ x := ⟨_, rfl⟩
        obtain ⟨p1, hp1⟩ : ∃ p, p = x ++ D := ⟨_, rfl⟩
        have y0 : Hid (p0.length = 32) := by show _ = _; rw [hp0, List.length_append, zD.out, zx.out]
        have y1 : Hid (p1.length = 32) := by show _ = _; rw [hp1, List.length_append, zD.out, zx.out]
        have hp0' := Lib.hid hp0
        have hp1' := Lib.hid hp1
        clear hp0 hp1
        go_wp2_with fail
        have hS0 : Below wr.heap.size wr wr.drew := (Below.refl _ _).drew
        have hne : Nonempty (SOf (fun W => Below wr.heap.size wr W)) := ⟨⟨_, hS0⟩⟩
        refine wp_region_planH (fun W => Below wr.heap.size wr W) [] 8 (by kernel_rfl) (by kernel_rfl) (by kernel_rfl) (by kernel_rfl) (by intro c a d v w h; cases d <;> exact h) hS0 ?_
        change wpPlanH _ _ _ _ _ _ _ _ _ wr.drew
        have hS := Lib.hid hS0
        clear hS0
        generalize wr.drew = x0 at hS ⊢
        refine wpAnyH_of_plan (by kernel_rfl) (by intro c a d v w h; cases d <;> exact h) [0, 1, 2, 3, 4, 5] 2 _ _ _ hS.out (by kernel_rfl) ?_
        refine wpPlanH_runW rfl (by rfl) _ (fun x1 => load_run 31 _ rfl gD 0 rfl (D.map bv) (.array 16 5) arr_dig rfl sD.out x1.world ((BD'.out.below (show Below wr.heap.size wr x1.world from x1.meets) BD'.out.lt).range 0 _ (take_all0 _))) ?_
        refine wpPlanH_plain rfl (fun K hK => ?_); go_simp; refine hK _ ?_; clear hK K
        refine wpPlanH_plain rfl (fun K hK => ?_); go_simp; refine hK _ ?_; clear hK K
        refine wpPlanH_plain rfl (fun K hK => ?_); go_simp; refine hK _ ?_; clear hK K
        refine wpPlanH_runW rfl (by rfl) _ (fun x1 => load_arr_run 31 _ rfl (ad.add (k * 16)) rfl (x.map bv) 16 5 x1.world (hLx.out _ (hbq.out.trans ((show Below wr.heap.size wr x1.world from x1.meets).mono hbq.out.size))) arr_dig sx.out) ?_
        refine wpPlanH_runW rfl (by rfl) _ (fun x1 => build_pair_run _ _ rfl D x zD.out zx.out p0 hp0'.out rfl rfl x1.world) ?_
        have hsq : Hid (wr.heap.size ≤ x0.heap.size) := hS.out.size
        have hbn := Lib.hid (hS.out.alloc hS.out.size (.cells (bz 32).toArray 62))
        have hN := Lib.hid (Blk.new x0 (bz 32) 62)
        refine wpAnyH_each (rs := [6]) (by kernel_rfl) (by decide) (fun K hK q hq => ?_)
        obtain rfl := List.mem_singleton.1 hq
        refine wpOp_listed rfl ?_
        go_wp2_with fail
        refine postH_normal (hK _ _ _ hbn.out ?_)
        clear hK K
        refine wpAnyH_each (rs := [7]) (by kernel_rfl) (by decide) (fun K hK q hq => ?_)
        obtain rfl := List.mem_singleton.1 hq
        refine wpOp_listed rfl ?_
        refine wpList_row_store rfl 62 _ _ rfl (p0.map bv) rfl rfl hN.out (size_pr _ (by rw [List.length_map, y0.out])) (by rw [List.length_map, y0.out]; rfl) (av_one _) ?_
        intro w2 hW2 ho2
        have hb2 := hbn.out.trans (ho2.below hsq.out)
        refine wpList_end (postH_normal (hK _ _ _ hb2 ?_))
        clear hK K
        refine wpAnyH_done (by kernel_rfl) ?_ _
        obtain ⟨gP, hgP⟩ : ∃ g, g = x0.heap.size := ⟨_, rfl⟩
        rw [← hgP] at hW2 hsq ⊢
        have BP : Hid (Blk w2 gP (p0.map bv) 62) := hW2.out
        have hB2 : Hid (Below wr.heap.size wr w2) := hb2
        clear hS hne hbn hN hW2 ho2 hb2 hgP
        have BD2 := Lib.hid (BD'.out.below hB2.out BD'.out.lt)
        have hO2 := Lib.hid (hO.out.below hB2.out (Nat.le_refl _))
        have hbq3 := Lib.hid (hbq.out.trans (hB2.out.mono hbq.out.size))
        have hcb := hLb.out w2 hbq3.out
        cases b with
        | false =>
          have BPx := BP
          have BDV := BD2
          have hOV := hO2
          have hbqV := hbq3
          have hBV := hB2
          clear BP BD2 hO2 hbq3 hB2
          go_upto_region 20 with fail
          obtain ⟨pp, rfl⟩ : ∃ p, p = p0 := ⟨_, rfl⟩
          have zp := y0
          have hpp := hp0'.out
          have hpp' := hp0'
          have hsp := Lib.hid (size_pr (pp.map bv) (by rw [List.length_map, zp.out]))
          have hr0 : ((pp.map bv).drop 0).take ((D.map bv)).length = D.map bv := by rw [hpp, List.map_append, List.drop_zero, List.take_left']; rfl
          have hr1 : ((pp.map bv).drop 16).take ((x.map bv)).length = x.map bv := by rw [hpp, List.map_append, List.drop_left' (by rw [List.length_map, zD.out]), List.take_of_length_le (Nat.le_refl _)]
          clear hpp
          have hn6 : k ≤ 1000000 := by omega
          have hbV : base ≤ w2.heap.size := by have := hBV.out.size; omega
          have hne2 := Lib.hid (own_before hO.out hsq.out)
          go_upto_region 21 with (first | (refine wpList_blk_load rfl 62 _ rfl 0 rfl BPx.out (pp.map bv) (take_all0 _) (.array 2 31) arr_pr rfl hsp.out ?_) | (refine step_build_pr rfl _ rfl pp zp.out rfl ?_) | (at_builtin; refine push_pr rfl _ _ rfl base u12 k (prs TT path leaf k) D x pp hpp'.out zp.out rfl rfl hOV.out hn6 hbV ?_; intro vo w5 ho5 hb5 hg5))
          have BP5 := Lib.hid (own_blk hOV.out BPx.out hg5 hne2.out)
          have BD5 := Lib.hid (BDV.out.below hb5 hgb)
          have hb5' := Lib.hid (hbqV.out.trans (hb5.mono (by have h1 := hgD'.out; omega)))
          have T5 := Lib.hid (Tw.out.keep hb5'.out)
          have O5 := Lib.hid ho5
          have hbs5 : base ≤ w5.heap.size := Nat.le_trans hbV hb5.size
          clear hg5 ho5 hb5
          obtain ⟨N, hN⟩ : ∃ N, N = nd D x := ⟨_, rfl⟩
          have zN : Hid (N.length = 16) := (by show _ = _; rw [hN]; exact nd_len _ _)
          have lN : Hid ((N.map bv).length = 16) := by show _ = _; rw [List.length_map, zN.out]
          have sN := Lib.hid (size_dig16 (N.map bv) lN.out)
          have oN := av_one N
          have hN' := Lib.hid hN
          have HC := Lib.hid (HN.out w5 T5.out D x zD.out zx.out N hN)
          clear hN
          go_wp2_with (first | (refine wpList_blk_load rfl 31 _ rfl 0 rfl BP5.out (D.map bv) hr0 (.array 16 5) arr_dig rfl sD.out ?_) | (refine wpList_blk_load rfl 31 _ rfl 16 rfl BP5.out (x.map bv) hr1 (.array 16 5) arr_dig rfl sx.out ?_))
          refine HC.out.mono ?_
          rintro e w6 ⟨rfl, hb6⟩
          have BD6 := Lib.hid (BD5.out.below hb6 BD5.out.lt)
          have O6 := Lib.hid (O5.out.below hb6 (Nat.le_refl _))
          have hb6' := Lib.hid (hb5'.out.trans (hb6.mono hb5'.out.size))
          have hbs6 : base ≤ w6.heap.size := Nat.le_trans hbs5 hb6.size
          clear hb6
          go_wp2_with (refine wpList_row_store rfl 31 _ _ rfl (N.map bv) rfl rfl BD6.out sN.out (by rw [lN.out, lD.out]) oN ?_; intro w7 hW7 ho7)
          have f1 : Hid (OwnP w7 base vo (k + 1) (prs TT path leaf (k + 1))) := by
            have h := O6.out.only ho7 hgb
            show OwnP _ _ _ _ _
            have e1 : stA TT path leaf k = D := by unfold stA; simp only [hTb.out, hnx.out, ← hD'.out, Bool.false_eq_true, if_false, if_true]
            have e2 : stB TT path leaf k = x := by unfold stB; simp only [hTb.out, hnx.out, ← hD'.out, Bool.false_eq_true, if_false, if_true]
            rw [prs, e1, e2]
            exact h
          have f2 : Hid (Blk w7 gD ((stD TT path leaf (k + 1)).map bv) 31) := by
            show Blk _ _ _ _
            have e3 : stD TT path leaf (k + 1) = N := by rw [hN'.out, stD]; simp only [hTb.out, hnx.out, ← hD'.out, Bool.false_eq_true, if_false, if_true]
            rw [e3]
            exact hW7.out
          have f3 : Hid (Below wS.heap.size wS w7) := hb6'.out.trans (ho7.below (by have := hgD'.out; omega))
          have f4 : base ≤ w7.heap.size := by rw [ho7.size]; exact hbs6
          clear hW7 ho7
          go_roundw
          case rel => exact ⟨k + 1, by omega, by go_num, f1, f2, f3, f4⟩
          case measure => simp [intOf]; omega
        | true =>
          go_upto_region 19 with fail
          have hgq : Hid (base ≤ gP) := Nat.le_trans hbq2 hsq.out
          have hgr : Hid (wS.heap.size ≤ gP) := by have h1 := hgD'.out; have h2 := hgq.out; show _ ≤ _; omega
          have hgDP : Hid (gD < gP) := by have h2 := hgq.out; show _ < _; omega
          have hS0 : Below gP w2 w2.drew := (Below.refl _ _).drew
          have hne : Nonempty (SOf (fun W => Below gP w2 W)) := ⟨⟨_, hS0⟩⟩
          have BP0 : Hid (Blk w2.drew gP (p0.map bv) 62) := BP.out.drew
          refine wp_region_planH (fun W => Below gP w2 W) [] 7 (by kernel_rfl) (by kernel_rfl) (by kernel_rfl) (by kernel_rfl) (by intro c a d v w h; cases d <;> exact h) hS0 ?_
          change wpPlanH _ _ _ _ _ _ _ _ _ w2.drew
          have hS := Lib.hid hS0
          clear hS0
          generalize w2.drew = x0 at hS BP0 ⊢
          refine wpAnyH_of_plan (by kernel_rfl) (by intro c a d v w h; cases d <;> exact h) [0, 1, 2, 3, 4, 5] 1 _ _ _ hS.out (by kernel_rfl) ?_
          refine wpPlanH_plain rfl (fun K hK => ?_); go_simp; refine hK _ ?_; clear hK K
          refine wpPlanH_plain rfl (fun K hK => ?_); go_simp; refine hK _ ?_; clear hK K
          refine wpPlanH_plain rfl (fun K hK => ?_); go_simp; refine hK _ ?_; clear hK K
          refine wpPlanH_runW rfl (by rfl) _ (fun x1 => load_arr_run 31 _ rfl (ad.add (k * 16)) rfl (x.map bv) 16 5 x1.world (hLx.out _ (hbq3.out.trans ((show Below gP w2 x1.world from x1.meets).mono hgr.out))) arr_dig sx.out) ?_
          refine wpPlanH_runW rfl (by rfl) _ (fun x1 => load_run 31 _ rfl gD 0 rfl (D.map bv) (.array 16 5) arr_dig rfl sD.out x1.world ((BD2.out.below (show Below gP w2 x1.world from x1.meets) hgDP.out).range 0 _ (take_all0 _))) ?_
          refine wpPlanH_runW rfl (by rfl) _ (fun x1 => build_pair_run _ _ rfl x D zx.out zD.out p1 hp1'.out rfl rfl x1.world) ?_
          refine wpAnyH_each (rs := [6]) (by kernel_rfl) (by decide) (fun K hK q hq => ?_)
          obtain rfl := List.mem_singleton.1 hq
          refine wpOp_listed rfl ?_
          refine wpList_row_store rfl 62 _ _ rfl (p1.map bv) rfl rfl BP0.out (size_pr _ (by rw [List.length_map, y1.out])) (by rw [List.length_map, List.length_map, y0.out, y1.out]) (av_one _) ?_
          intro w3 hW3 ho3
          have hb3 : Below gP w2 w3 := hS.out.trans (ho3.below (Nat.le_refl _))
          refine wpList_end (postH_normal (hK _ _ _ hb3 ?_))
          clear hK K
          refine wpAnyH_done (by kernel_rfl) ?_ _
          have BPx : Hid (Blk w3 gP (p1.map bv) 62) := hW3.out
          have hBV : Hid (Below wr.heap.size wr w3) := hB2.out.trans (hb3.mono hsq.out)
          clear hS hne hW3 ho3 hb3 BP BP0 BD2 hO2 hbq3 hB2
          have BDV := Lib.hid (BD'.out.below hBV.out BD'.out.lt)
          have hOV := Lib.hid (hO.out.below hBV.out (Nat.le_refl _))
          have hbqV := Lib.hid (hbq.out.trans (hBV.out.mono hbq.out.size))
          go_upto_region 20 with fail
          obtain ⟨pp, rfl⟩ : ∃ p, p = p1 := ⟨_, rfl⟩
          have zp := y1
          have hpp := hp1'.out
          have hpp' := hp1'
          have hsp := Lib.hid (size_pr (pp.map bv) (by rw [List.length_map, zp.out]))
          have hr0 : ((pp.map bv).drop 0).take ((x.map bv)).length = x.map bv := by rw [hpp, List.map_append, List.drop_zero, List.take_left']; rfl
          have hr1 : ((pp.map bv).drop 16).take ((D.map bv)).length = D.map bv := by rw [hpp, List.map_append, List.drop_left' (by rw [List.length_map, zx.out]), List.take_of_length_le (Nat.le_refl _)]
          clear hpp
          have hn6 : k ≤ 1000000 := by omega
          have hbV : base ≤ w3.heap.size := by have := hBV.out.size; omega
          have hne2 := Lib.hid (own_before hO.out hsq.out)
          go_upto_region 21 with (first | (refine wpList_blk_load rfl 62 _ rfl 0 rfl BPx.out (pp.map bv) (take_all0 _) (.array 2 31) arr_pr rfl hsp.out ?_) | (refine step_build_pr rfl _ rfl pp zp.out rfl ?_) | (at_builtin; refine push_pr rfl _ _ rfl base u12 k (prs TT path leaf k) x D pp hpp'.out zp.out rfl rfl hOV.out hn6 hbV ?_; intro vo w5 ho5 hb5 hg5))
          have BP5 := Lib.hid (own_blk hOV.out BPx.out hg5 hne2.out)
          have BD5 := Lib.hid (BDV.out.below hb5 hgb)
          have hb5' := Lib.hid (hbqV.out.trans (hb5.mono (by have h1 := hgD'.out; omega)))
          have T5 := Lib.hid (Tw.out.keep hb5'.out)
          have O5 := Lib.hid ho5
          have hbs5 : base ≤ w5.heap.size := Nat.le_trans hbV hb5.size
          clear hg5 ho5 hb5
          obtain ⟨N, hN⟩ : ∃ N, N = nd x D := ⟨_, rfl⟩
          have zN : Hid (N.length = 16) := (by show _ = _; rw [hN]; exact nd_len _ _)
          have lN : Hid ((N.map bv).length = 16) := by show _ = _; rw [List.length_map, zN.out]
          have sN := Lib.hid (size_dig16 (N.map bv) lN.out)
          have oN := av_one N
          have hN' := Lib.hid hN
          have HC := Lib.hid (HN.out w5 T5.out x D zx.out zD.out N hN)
          clear hN
          go_wp2_with (first | (refine wpList_blk_load rfl 31 _ rfl 0 rfl BP5.out (x.map bv) hr0 (.array 16 5) arr_dig rfl sx.out ?_) | (refine wpList_blk_load rfl 31 _ rfl 16 rfl BP5.out (D.map bv) hr1 (.array 16 5) arr_dig rfl sD.out ?_))
          refine HC.out.mono ?_
          rintro e w6 ⟨rfl, hb6⟩
          have BD6 := Lib.hid (BD5.out.below hb6 BD5.out.lt)
          have O6 := Lib.hid (O5.out.below hb6 (Nat.le_refl _))
          have hb6' := Lib.hid (hb5'.out.trans (hb6.mono hb5'.out.size))
          have hbs6 : base ≤ w6.heap.size := Nat.le_trans hbs5 hb6.size
          clear hb6
          go_wp2_with (refine wpList_row_store rfl 31 _ _ rfl (N.map bv) rfl rfl BD6.out sN.out (by rw [lN.out, lD.out]) oN ?_; intro w7 hW7 ho7)
          have f1 : Hid (OwnP w7 base vo (k + 1) (prs TT path leaf (k + 1))) := by
            have h := O6.out.only ho7 hgb
            show OwnP _ _ _ _ _
            have e1 : stA TT path leaf k = x := by unfold stA; simp only [hTb.out, hnx.out, ← hD'.out, Bool.false_eq_true, if_false, if_true]
            have e2 : stB TT path leaf k = D := by unfold stB; simp only [hTb.out, hnx.out, ← hD'.out, Bool.false_eq_true, if_false, if_true]
            rw [prs, e1, e2]
            exact h
          have f2 : Hid (Blk w7 gD ((stD TT path leaf (k + 1)).map bv) 31) := by
            show Blk _ _ _ _
            have e3 : stD TT path leaf (k + 1) = N := by rw [hN'.out, stD]; simp only [hTb.out, hnx.out, ← hD'.out, Bool.false_eq_true, if_false, if_true]
            rw [e3]
            exact hW7.out
          have f3 : Hid (Below wS.heap.size wS w7) := hb6'.out.trans (ho7.below (by have := hgD'.out; omega))
          have f4 : base ≤ w7.heap.size := by rw [ho7.size]; exact hbs6
          clear hW7 ho7
          go_roundw
          case rel => exact ⟨k + 1, by omega, by go_num, f1, f2, f3, f4⟩
          case measure => simp [intOf]; omega
      have tk1 : ¬ (k : Int) < (m : Int) := by omega
      obtain rfl : k = m := by omega
      obtain ⟨A', c', rfl, hPR⟩ := hO.out.pr (prs_len _ _ _ _) (prs_d16 R0w.out.d16 zleaf.out _)
      have hPR' := Lib.hid hPR
      have hfin := Lib.hid (Ew.out.trans (hbq.out.mono Ew.out.size))
      clear hO hPR hlt
      go_wp2_with fail
      go_ret
      exact ⟨A', c', rfl, hPR'.out, hfin.out⟩
end Go.Proofs.YtlgokfgiemaklaaDoor
