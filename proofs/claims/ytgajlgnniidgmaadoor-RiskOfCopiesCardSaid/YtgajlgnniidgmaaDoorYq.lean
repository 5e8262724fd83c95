/-
  Stage 12: the walk of RiskOfCopies. (Written by tools/genyq.py.)
-/
import Derived.Test.YtgajlgnniidgmaaDoorYl
namespace Go.Proofs.YtgajlgnniidgmaaDoor
set_option linter.unusedVariables false
set_option linter.unusedSimpArgs false
open Go.RowKit Go.Maps

theorem three_one12 (D G : Int) (A : Option Addr) (n c : Nat) : ∀ u ∈ [Value.int .i64 D, .slice A n c, .int .i64 G], u.oneCell' = true := by
  intro u hu
  simp only [List.mem_cons, List.not_mem_nil, or_false] at hu
  rcases hu with rfl | rfl | rfl <;> rfl
set_option maxRecDepth 100000 in
set_option maxHeartbeats 3000000 in
theorem copies_walk12 (A0 : Option Addr) (c0 : Nat) (lC : List UInt8) (A1 : Option Addr) (c1 : Nat) (lK : List UInt8) (D : Int) (A : Option Addr) (n c : Nat) (G : Int) (Gs : List (List Int)) (o : Nat) (w : World)
    (H0 : SlB w A0 lC.length c0 lC) (H1 : SlB w A1 lK.length c1 lK) (hM : CodM w w.heap.size D A n c G Gs) (ho : o < 256) (ht : PTab 2 w) :
    Calls Tryd.prog 7 #[.slice A0 lC.length c0, .slice A1 lK.length c1, cdv D A n c G, .int .u8 o] w fun e w' => e = .returned (.bool true) ∧ Below w.heap.size w w' := by
  have hsz := Lib.hid size_prl
  have hun : Hid (Tryd.prog.underlying 27 = _) := Tryd.underlying27
  have hszc := Lib.hid size_cod
  have hunc : Hid (Tryd.prog.underlying 24 = _) := Tryd.underlying24
  have hints := Lib.hid size_ints12
  have hT := Lib.hid ht
  have hMH := Lib.hid hM
  have R0 : Hid (Rds w w.heap.size A0 (lC.map bv)) := H0.rds
  have R1 : Hid (Rds w w.heap.size A1 (lK.map bv)) := H1.rds
  obtain ⟨W1, hW1⟩ : ∃ x, x = w.alloc (.cells #[.int .i64 D, .slice A n c, .int .i64 G] 24) := ⟨_, rfl⟩
  have E : Hid (Below w.heap.size w W1) := by show Below _ _ _; rw [hW1]; exact (Below.refl _ _).alloc (Nat.le_refl _) _
  have Xc : Hid (Blk W1 w.heap.size [.int .i64 D, .slice A n c, .int .i64 G] 24) := by show Blk _ _ _ _; rw [hW1]; exact Blk.new _ [.int .i64 D, .slice A n c, .int .i64 G] _
  have hW' := Lib.hid hW1
  obtain ⟨nC, hnC⟩ : ∃ x, x = lC.length := ⟨_, rfl⟩
  obtain ⟨nK, hnK⟩ : ∃ x, x = lK.length := ⟨_, rfl⟩
  rw [← hnC, ← hnK]
  have hnCH := Lib.hid hnC
  have hnKH := Lib.hid hnK
  have hnG : Hid (n = Gs.length) := hM.len
  clear hW1 ht hM H0 H1 hnC hnK
  unfold cdv
  go_enter Tryd.func7, Tryd.ntmps7
  go_upto_region 1 with fail
  generalize hg : w.alloc _ = Wg
  have hgW : W1 = Wg := by rw [← hg, hW'.out]
  clear hg hW'
  subst hgW
  have T := Lib.hid (hT.out.on E.out)
  by_cases hz : nC = 0
  · subst hz
    go_wp2_with fail
    have C := sanity_any12 W1 T.out
    refine C.mono ?_
    rintro e v1 ⟨rfl, hb⟩
    clear C T
    replace E : Hid (Below w.heap.size w v1) := E.out.trans (hb.mono E.out.size)
    have T := Lib.hid (hT.out.on E.out)
    replace Xc := Lib.hid (Xc.out.below hb Xc.out.lt)
    clear hb
    go_wp2_with fail
    go_ret
    exact ⟨by first | rfl | (go_simp; done), E.out⟩
  by_cases hg : 9 < nC
  · have t1 : (nC : Int) > 9 := by omega
    have t0 : ((nC : Int) == 0) = false := by simp only [beq_eq_false_iff_ne, ne_eq]; omega
    go_wp2_with fail
    have C := sanity_any12 W1 T.out
    refine C.mono ?_
    rintro e v1 ⟨rfl, hb⟩
    clear C T
    replace E : Hid (Below w.heap.size w v1) := E.out.trans (hb.mono E.out.size)
    have T := Lib.hid (hT.out.on E.out)
    replace Xc := Lib.hid (Xc.out.below hb Xc.out.lt)
    clear hb
    go_wp2_with fail
    go_ret
    exact ⟨by first | rfl | (go_simp; done), E.out⟩
  by_cases hk : nK = 0
  · subst hk
    have t0 : ((nC : Int) == 0) = false := by simp only [beq_eq_false_iff_ne, ne_eq]; omega
    have t2 : ¬ (nC : Int) > 9 := by omega
    go_wp2_with fail
    have C := sanity_any12 W1 T.out
    refine C.mono ?_
    rintro e v1 ⟨rfl, hb⟩
    clear C T
    replace E : Hid (Below w.heap.size w v1) := E.out.trans (hb.mono E.out.size)
    have T := Lib.hid (hT.out.on E.out)
    replace Xc := Lib.hid (Xc.out.below hb Xc.out.lt)
    clear hb
    go_wp2_with fail
    go_ret
    exact ⟨by first | rfl | (go_simp; done), E.out⟩
  by_cases hl : 5 < nK
  · have t1 : (nK : Int) > 5 := by omega
    have t0 : ((nC : Int) == 0) = false := by simp only [beq_eq_false_iff_ne, ne_eq]; omega
    have t2 : ¬ (nC : Int) > 9 := by omega
    have t3 : ((nK : Int) == 0) = false := by simp only [beq_eq_false_iff_ne, ne_eq]; omega
    go_wp2_with fail
    have C := sanity_any12 W1 T.out
    refine C.mono ?_
    rintro e v1 ⟨rfl, hb⟩
    clear C T
    replace E : Hid (Below w.heap.size w v1) := E.out.trans (hb.mono E.out.size)
    have T := Lib.hid (hT.out.on E.out)
    replace Xc := Lib.hid (Xc.out.below hb Xc.out.lt)
    clear hb
    go_wp2_with fail
    go_ret
    exact ⟨by first | rfl | (go_simp; done), E.out⟩
  have t0 : ((nC : Int) == 0) = false := by simp only [beq_eq_false_iff_ne, ne_eq]; omega
  have t2 : ¬ (nC : Int) > 9 := by omega
  have t3 : ((nK : Int) == 0) = false := by simp only [beq_eq_false_iff_ne, ne_eq]; omega
  have t4 : ¬ (nK : Int) > 5 := by omega
  obtain ⟨g1, hg1⟩ : ∃ x, x = nK - 1 := ⟨_, rfl⟩
  have eK : (nK : Int) - 1 = (g1 : Int) := by omega
  have fK : IntKind.i64.wrap (g1 : Int) = (g1 : Int) := wrap_small12 (by omega)
  have hg1H := Lib.hid hg1
  have b1 : 1 ≤ nC ∧ nC ≤ 9 ∧ 1 ≤ nK ∧ nK ≤ 5 := by omega
  clear hg1 hz hg hk hl
  have Xn : Hid (Blk (W1.alloc (.cells #[.int .i64 0, .slice none 0 0, .int .i64 0, .slice none 0 0, .slice none 0 0] 27)) W1.heap.size [.int .i64 0, .slice none 0 0, .int .i64 0, .slice none 0 0, .slice none 0 0] 27) := Blk.new _ [_, _, _, _, _] _
  have hal : Hid (Below W1.heap.size W1 (W1.alloc (.cells #[.int .i64 0, .slice none 0 0, .int .i64 0, .slice none 0 0, .slice none 0 0] 27))) := (Below.refl _ _).alloc (Nat.le_refl _) _
  go_upto_region 4 with (refine wpList_row_store rfl 27 _ _ rfl [.int .i64 1, .slice none 0 0, .int .i64 g1, .slice none 0 0, .slice none 0 0] rfl rfl Xn.out hsz.out rfl (five_one12 _ _ _ _ _ _ _ _ _ _ _) ?_; intro v1 hw ho1)
  have hb : Below W1.heap.size W1 v1 := hal.out.trans (ho1.below (Nat.le_refl _))
  have lx0 := Lib.hid Xc.out.lt
  clear T
  replace E : Hid (Below w.heap.size w v1) := E.out.trans (hb.mono E.out.size)
  have T := Lib.hid (hT.out.on E.out)
  replace Xc := Lib.hid (Xc.out.below hb Xc.out.lt)
  obtain ⟨gp, hgp⟩ : ∃ g, g = W1.heap.size := ⟨_, rfl⟩
  have Xp : Hid (Blk v1 W1.heap.size [.int .i64 1, .slice none 0 0, .int .i64 g1, .slice none 0 0, .slice none 0 0] 27) := hw
  rw [← hgp] at Xp lx0 ⊢
  clear hb hw ho1 hal Xn hgp eK fK t0 t2 t3 t4
  have hgps : Hid (gp + 1 ≤ v1.heap.size) := Xp.out.lt
  go_wp2_with fail
  obtain ⟨LC, hLC⟩ : ∃ l : List Nat, l = lC.map (fun b => b.toNat % 17) := ⟨_, rfl⟩
  have hLCH := Lib.hid hLC
  have hLCl : Hid (LC.length = nC) := by show _ = _; rw [hLC, List.length_map]; exact hnCH.out.symm
  clear hLC
  go_loopw [11] (fun i wr => ∃ (k : Nat) (Av : Option Addr) (cv : Nat), k ≤ nC ∧ i = .int .i64 k ∧ Hid (Blk wr gp [.int .i64 1, .slice none 0 0, .int .i64 g1, .slice none 0 0, .slice Av k cv] 27) ∧ Hid (OwnP wr (gp + 1) (.slice Av k cv) (LC.take k)) ∧ Hid (Blk wr w.heap.size [.int .i64 D, .slice A n c, .int .i64 G] 24) ∧ Hid (Below w.heap.size w wr)) (fun i _ => nC - (intOf i).toNat)
  case atStart => exact ⟨0, none, 0, by omega, rfl, Xp, ownP_nil _ _, Xc, E⟩
  case round =>
    clear Xp Xc E hgps T
    obtain ⟨k, Av, cv, hk, rfl, Xp, OC, Xc, E⟩ := hrel
    have T := Lib.hid (hT.out.on E.out)
    by_cases hlt : k < nC
    · have t : (k : Int) < (nC : Int) := by omega
      have t0 : 0 ≤ (k : Int) := by omega
      obtain ⟨x, hx⟩ : ∃ x, lC[k]? = some x := ⟨_, List.getElem?_eq_getElem (by rw [← hnCH.out]; exact hlt)⟩
      obtain ⟨ad, rfl, hab, hcx⟩ := (R0.out.below E.out).look (k := k) (u := bv x) (by rw [List.getElem?_map, hx]; rfl)
      unfold bv at hcx
      have hx8 : x.toNat < 256 := x.toNat_lt
      have hLk : LC[k]? = some (x.toNat % 17) := by rw [hLCH.out, List.getElem?_map, hx]; rfl
      generalize x.toNat = xn at *
      obtain ⟨r, hre, hr17, hrem⟩ := rem17_12 xn
      rw [← hre] at hLk
      have hnx := Lib.hid (take_next12 hLk)
      have fr : IntKind.i64.wrap (r : Int) = (r : Int) := wrap_small12 (by omega)
      have hw8 := wrap_b8_12 hx8
      have hadl : Hid (ad.block < wr.heap.size) := Nat.lt_of_lt_of_le hab E.out.size
      clear hx hre hLk hab
      go_wp2_with fail
      refine wp_region_planM8 [9, 11] [(true, 0), (true, 1), (true, 2), (true, 3), (true, 4), (true, 5), (true, 6), (true, 7), (false, 8), (false, 9), (true, 10), (false, 11)] (by decide) (by kernel_rfl) (by kernel_rfl) (by decide) (by intro c a d v w h; cases d <;> exact h) ?_
      change wpPlanM _ _ _ _ _ _ wr.drew
      have hb : Below wr.heap.size wr wr.drew := (Below.refl _ _).drew
      have hcx0 : wr.drew.cell? (ad.add k) = some (.int .u8 xn) := hcx
      generalize hgd : wr.drew = wd at hb hcx0 ⊢
      clear hgd T hcx
      replace hadl : Hid (ad.block < wd.heap.size) := Nat.lt_of_lt_of_le hadl.out hb.size
      replace Xp := Lib.hid (Xp.out.below hb Xp.out.lt)
      replace Xc := Lib.hid (Xc.out.below hb Xc.out.lt)
      replace OC := Lib.hid (OC.out.keep12 hb)
      replace E : Hid (Below w.heap.size w wd) := E.out.trans (hb.mono E.out.size)
      clear hb
      have q1 : ∀ x : ExtOf wd, x.world.cell? ⟨gp, 4, none⟩ = some (.slice Av k cv) := fun x => (Blk.below Xp.out x.ext Xp.out.lt).cell (j := 4) rfl
      have q2 : ∀ x : ExtOf wd, x.world.cell? (ad.add k) = some (.int .u8 xn) := fun x => by rw [x.ext.cell (p := ad.add k) (by rw [add_block]; exact hadl.out)]; exact hcx0
      iterate 8 (refine wpPlanM_plain rfl (fun K hK => ?_); go_simp; refine hK _ ?_; clear hK K)
      clear q1 q2 hcx0 hrem
      refine wpPlanM_call rfl (fun K hK => ?_)
      go_wp2_with fail
      refine planPostL_normal ⟨.inr ((Below.refl _ _).alloc (Nat.le_refl _) _), hK _ _ ?_⟩
      clear hK K
      have hlp := Xp.out.lt
      have hll : (LC.take k).length ≤ 1000000 := by rw [List.length_take]; omega
      refine wpPlanM_call rfl (fun K hK => ?_)
      refine push_piv rfl _ _ rfl (gp + 1) (.slice Av k cv) (LC.take k) r _ rfl rfl rfl OC.out hll hlp ?_
      intro v' w6 ho6 hg6
      refine wpList_end (planPostL_normal ⟨.inl (by simp), hK _ _ ?_⟩)
      clear hK K
      obtain ⟨A6, c6, rfl, _⟩ := ho6.slice12
      have hl6 : (LC.take k ++ [r]).length = k + 1 := by rw [List.length_append, List.length_take, List.length_cons, List.length_nil]; have := hLCl.out; omega
      rw [hl6] at ho6 ⊢
      have hne : (Value.slice Av k cv).ownBlock ≠ some gp := fun h => by have := (OC.out.lt _ h).1; omega
      have hne0 : (Value.slice Av k cv).ownBlock ≠ some w.heap.size := fun h => by have := (OC.out.lt _ h).1; have := lx0.out; omega
      have Xp6 := Lib.hid (Xp.out.grown12 hg6 hne)
      have Xc6 := Lib.hid (Xc.out.grown12 hg6 hne0)
      have E6 : Hid (Below w.heap.size w w6) := E.out.grown hg6 E.out.size (fun g hg => by have := (OC.out.lt _ hg).1; have := lx0.out; omega)
      have O6 : Hid (OwnP w6 (gp + 1) (.slice A6 (k + 1) c6) (LC.take (k + 1))) := by show OwnP _ _ _ _; rw [hnx.out]; exact ho6
      clear ho6 hg6 Xp Xc E OC hne hne0 hl6 hll hlp
      iterate 1 (refine wpPlanM_plain rfl (fun K hK => ?_); go_simp; refine hK _ ?_; clear hK K)
      refine wpPlanM_call rfl (fun K hK => ?_)
      refine wpList_blk_store rfl 25 _ _ rfl 4 (.slice A6 (k + 1) c6) rfl rfl Xp6.out hints.out (by simp [Value.cells]) (slice_one12 _ _ _) ?_
      intro w7 hw7 ho7
      refine wpList_end (planPostL_normal ⟨.inl (by simp), hK _ _ ?_⟩)
      clear hK K
      have Xp7 : Hid (Blk w7 gp [.int .i64 1, .slice none 0 0, .int .i64 g1, .slice none 0 0, .slice A6 (k + 1) c6] 27) := hw7
      have Xc7 := Lib.hid (Xc6.out.only ho7 (Nat.ne_of_lt lx0.out))
      have E7 : Hid (Below w.heap.size w w7) := E6.out.trans (ho7.below (Nat.le_of_lt lx0.out))
      have O7 := Lib.hid (O6.out.only12 ho7 (Nat.lt_succ_self gp))
      clear hw7 ho7 Xp6 Xc6 E6 O6
      refine wpPlanM_nil ?_
      go_wp2_with fail
      go_roundw
      case rel => exact ⟨k + 1, A6, c6, by omega, by go_num, Xp7, O7, Xc7, E7⟩
      case measure => simp [intOf]; omega
    · have t : ¬ (k : Int) < (nC : Int) := by omega
      obtain rfl : k = nC := by omega
      rw [List.take_of_length_le (by rw [hLCl.out]; exact Nat.le_refl _)] at OC
      obtain ⟨wL, hwL⟩ : ∃ x, x = wr := ⟨_, rfl⟩
      subst hwL
      clear hk hlt t
      have hs2 : Hid (gp + 1 ≤ wL.heap.size) := Xp.out.lt
      have hsg : Hid (gp < wL.heap.size) := Xp.out.lt
      have hOCl : Hid (∀ g, (Value.slice Av k cv).ownBlock = some g → gp < g ∧ g < wL.heap.size) := fun g hg => ⟨(OC.out.lt _ hg).1, (OC.out.lt _ hg).2⟩
      obtain ⟨LK, hLK⟩ : ∃ l : List Nat, l = lK.map (fun b => b.toNat % k) := ⟨_, rfl⟩
      have hLKH := Lib.hid hLK
      have hLKl : Hid (LK.length = nK) := by show _ = _; rw [hLK, List.length_map]; exact hnKH.out.symm
      clear hLK
      go_wp2_with fail
      go_loopw [10, 12] (fun a i wr => ∃ (j h : Nat) (Aw : Option Addr) (cw : Nat), j ≤ nK ∧ i = .int .i64 j ∧ a = .int .i64 h ∧ h < 512 ∧ Hid (HasS h (LK.take j)) ∧ Hid (Blk wr gp [.int .i64 1, .slice none 0 0, .int .i64 g1, .slice Aw j cw, .slice Av k cv] 27) ∧ Hid (OwnP wr wL.heap.size (.slice Aw j cw) (LK.take j)) ∧ Hid (OwnP wr (gp + 1) (.slice Av k cv) LC) ∧ Hid (Blk wr w.heap.size [.int .i64 D, .slice A n c, .int .i64 G] 24) ∧ Hid (Below w.heap.size w wr) ∧ Hid (wL.heap.size ≤ wr.heap.size)) (fun _ i _ => nK - (intOf i).toNat)
      case atStart => exact ⟨0, 0, none, 0, by omega, rfl, rfl, by omega, HasS.nil, Xp, ownP_nil _ _, OC, Xc, E, Nat.le_refl _⟩
      case round =>
        clear Xp Xc E T OC hs2
        obtain ⟨j, h, Aw, cw, hj, rfl, rfl, hh5, hHS, Xp, OK2, OC, Xc, E, hsl⟩ := hrel
        have T := Lib.hid (hT.out.on E.out)
        by_cases hlt : j < nK
        · have t : (j : Int) < (nK : Int) := by omega
          have t0 : 0 ≤ (j : Int) := by omega
          obtain ⟨x, hx⟩ : ∃ x, lK[j]? = some x := ⟨_, List.getElem?_eq_getElem (by rw [← hnKH.out]; exact hlt)⟩
          obtain ⟨ad, rfl, hab, hcx⟩ := (R1.out.below E.out).look (k := j) (u := bv x) (by rw [List.getElem?_map, hx]; rfl)
          unfold bv at hcx
          have hx8 : x.toNat < 256 := x.toNat_lt
          have hLk : LK[j]? = some (x.toNat % k) := by rw [hLKH.out, List.getElem?_map, hx]; rfl
          generalize x.toNat = xn at *
          obtain ⟨d, hde, hdl, hrem, hnz, tz⟩ := rem12 xn k (by omega)
          rw [← hde] at hLk
          have hnx := Lib.hid (take_next12 hLk)
          have fd : IntKind.i64.wrap (d : Int) = (d : Int) := wrap_small12 (by omega)
          have hw8 := wrap_b8_12 hx8
          have hremH := Lib.hid hrem
          obtain ⟨P, h2, hP1, hP2, hor, h2l, h2e⟩ := or_set12 hh5 (d := d) (by omega)
          have hHS2 : Hid (HasS h2 (LK.take (j + 1))) := by show HasS _ _; rw [hnx.out, h2e]; exact hHS.out.next
          have hll : (LK.take j).length ≤ 1000000 := by rw [List.length_take]; omega
          have dn : ¬ (d : Int) < 0 := by omega
          have d0 : 0 ≤ (d : Int) := by omega
          have d64 : min d 64 = d := by omega
          clear hx hde hLk hab hrem h2e
          go_upto_region 13 with fail
          rw [hremH.out]
          clear hcx
          have p3 := Xp.out.cell (j := 3) rfl
          have p3a : ∀ o, (wr.alloc o).cell? ⟨gp, 3, none⟩ = some (.slice Aw j cw) := fun o => (Xp.out.alloc o).cell (j := 3) rfl
          have hlp := hsl.out
          have hl6 : Hid ((LK.take j ++ [d]).length = j + 1) := by show _ = _; rw [List.length_append, List.length_take, List.length_cons, List.length_nil]; have := hLKl.out; omega
          go_upto_region 14 with (first | (at_builtin; go_must (refine push_piv rfl _ _ rfl wL.heap.size (.slice Aw j cw) (LK.take j) d _ rfl rfl rfl OK2.out hll hlp ?_); intro v' w6 ho6 hg6; obtain ⟨A6, c6, rfl, _⟩ := ho6.slice12; rw [hl6.out] at ho6 ⊢; have hne : (Value.slice Aw j cw).ownBlock ≠ some gp := fun h => (by have := (OK2.out.lt _ h).1; have := hsg.out; omega); have Xp6 := Lib.hid (Xp.out.grown12 hg6 hne)) | (refine wpList_blk_store rfl 25 _ _ rfl 3 (.slice A6 (j + 1) c6) rfl rfl Xp6.out hints.out (by simp [Value.cells]) (slice_one12 _ _ _) ?_; intro w7 hw7 ho7))
          have Xp7 : Hid (Blk w7 gp [.int .i64 1, .slice none 0 0, .int .i64 g1, .slice A6 (j + 1) c6, .slice Av k cv] 27) := hw7
          have hne0 : (Value.slice Aw j cw).ownBlock ≠ some w.heap.size := fun h => by have := (OK2.out.lt _ h).1; have := hsg.out; have := lx0.out; omega
          have Xc7 := Lib.hid ((Xc.out.grown12 hg6 hne0).only ho7 (Nat.ne_of_lt lx0.out))
          have E7 : Hid (Below w.heap.size w w7) := (E.out.grown hg6 E.out.size (fun g hg => by have := (OK2.out.lt _ hg).1; have := hsg.out; have := lx0.out; omega)).trans (ho7.below (Nat.le_of_lt lx0.out))
          have O7 : Hid (OwnP w7 wL.heap.size (.slice A6 (j + 1) c6) (LK.take (j + 1))) := by
            show OwnP _ _ _ _
            rw [hnx.out]
            exact ho6.only12 ho7 (by have := hsg.out; omega)
          have OC7 : Hid (OwnP w7 (gp + 1) (.slice Av k cv) LC) := (OC.out.grown12 hg6 (fun g hg h => by have := (OK2.out.lt _ h).1; have := (hOCl.out g hg).2; omega)).only12 ho7 (Nat.lt_succ_self gp)
          have hs7 : Hid (wL.heap.size ≤ w7.heap.size) := by show _ ≤ _; rw [ho7.size]; exact Nat.le_trans hsl.out hg6.size
          clear ho6 hg6 hw7 ho7 Xp6 hne hne0 p3 p3a hlp hll Xp Xc E OC OK2 T hsl hHS
          go_wp2_with fail
          go_roundw
          case rel => exact ⟨j + 1, h2, A6, c6, by omega, by go_num, by first | rfl | (rw [hor]), h2l, hHS2, Xp7, O7, OC7, Xc7, E7, hs7⟩
          case measure => simp [intOf]; omega
        · have t : ¬ (j : Int) < (nK : Int) := by omega
          obtain rfl : j = nK := by omega
          rw [List.take_of_length_le (by rw [hLKl.out]; exact Nat.le_refl _)] at hHS OK2
          obtain ⟨wM, hwM⟩ : ∃ x, x = wr := ⟨_, rfl⟩
          subst hwM
          clear hj hlt t
          obtain ⟨LCi, hLCi⟩ : ∃ l : List Int, l = LC.map (fun x : Nat => (x : Int)) := ⟨_, rfl⟩
          obtain ⟨LKi, hLKi⟩ : ∃ l : List Int, l = LK.map (fun x : Nat => (x : Int)) := ⟨_, rfl⟩
          have hLCiH := Lib.hid hLCi
          have hlci : Hid (LCi.length = k) := by show _ = _; rw [hLCi, List.length_map]; exact hLCl.out
          have hlki : Hid (LKi.length = j) := by show _ = _; rw [hLKi, List.length_map]; exact hLKl.out
          obtain ⟨q, hq⟩ : ∃ q : Prl, q = ⟨1, none, 0, 0, (g1 : Int), [], Aw, j, cw, LKi, Av, k, cv, LCi⟩ := ⟨_, rfl⟩
          have hqD : Hid (q.al = LKi ∧ q.ch = LCi) := by show _ ∧ _; rw [hq]; exact ⟨rfl, rfl⟩
          have Vq : Hid (prv q = .agg #[.int .i64 1, .slice none 0 0, .int .i64 g1, .slice Aw j cw, .slice Av k cv]) := by show prv q = _; rw [hq]; rfl
          have RC : Hid (Rds wM wM.heap.size Av (LCi.map iv)) := by show Rds _ _ _ _; rw [hLCi]; exact own_rds12 OC.out
          have RK : Hid (Rds wM wM.heap.size Aw (LKi.map iv)) := by show Rds _ _ _ _; rw [hLKi]; exact own_rds12 OK2.out
          have MQ : Hid (PerM wM wM.heap.size q) := by
            show PerM _ _ q
            rw [hq]
            exact ⟨⟨⟨[], rfl, Rds.empty, fun i v g hv => by simp at hv⟩, Nat.le_refl _, rfl, (show 0 ≤ 140737488355328 by decide), fun g hg => by cases hg⟩, RK.out, hlki.out.symm, (show j ≤ 140737488355328 by omega), RC.out, hlci.out.symm, (show k ≤ 140737488355328 by omega)⟩
          have hLCr : Hid (∀ x ∈ LCi, 0 ≤ x ∧ x ≤ 16) := fun x hx => by
            rw [hLCi] at hx
            obtain ⟨y, hy, rfl⟩ := List.mem_map.1 hx
            rw [hLCH.out] at hy
            obtain ⟨z, _, rfl⟩ := List.mem_map.1 hy
            have := Nat.mod_lt z.toNat (show 0 < 17 by decide)
            first | omega | (dsimp only; omega)
          have hCop : Hid (CopP q j) := by
            show CopP q j
            have h1 := hLCr.out
            rw [hq]
            refine ⟨rfl, (by have := hg1H.out; dsimp only; omega), rfl, hlki.out, fun x hx => ?_, h1, by omega, by omega, (by dsimp only; rw [hlci.out]; omega)⟩
            rw [show (Prl.al ⟨1, none, 0, 0, (g1 : Int), [], Aw, j, cw, LKi, Av, k, cv, LCi⟩) = LKi from rfl, hLKi] at hx
            obtain ⟨y, hy, rfl⟩ := List.mem_map.1 hx
            rw [hLKH.out] at hy
            obtain ⟨z, _, rfl⟩ := List.mem_map.1 hy
            have := Nat.mod_lt z.toNat (show 0 < k by omega)
            rw [show (Prl.ch ⟨1, none, 0, 0, (g1 : Int), [], Aw, j, cw, LKi, Av, k, cv, LCi⟩) = LCi from rfl, hlci.out]
            omega
          obtain ⟨Rv, hRv⟩ : ∃ x : Int, x = cpy h LCi 0 1 := ⟨_, rfl⟩
          have hLoss : Hid (lsum q (2 ^ q.ch.length) = Rv) := by
            show lsum q _ = Rv
            rw [hCop.out.loss (h := h) (fun i => ?_), hRv, hqD.out.2]
            rw [hHS.out i, hqD.out.1, hLKi]
            constructor
            · rintro ⟨y, hy, rfl⟩
              exact ⟨(y : Int), List.mem_map.2 ⟨y, hy, rfl⟩, Int.toNat_natCast y⟩
            · rintro ⟨y, hy, rfl⟩
              obtain ⟨z, hz, rfl⟩ := List.mem_map.1 hy
              exact ⟨z, hz, (Int.toNat_natCast z).symm⟩
          obtain ⟨ad, rfl, _, _⟩ := RC.out.look (k := 0) (u := iv (LCi.headD 0)) (by
            cases hl : LCi with
            | nil => have := hlci.out; rw [hl] at this; simp at this; omega
            | cons a l => rfl)
          have RCl : Hid (∀ d x, LCi[d]? = some x → ∀ W, Below wM.heap.size wM W → W.cell? (ad.add d) = some (.int .i64 x)) := fun d x hx W hW => by
            obtain ⟨ad2, e, _, hc⟩ := (RC.out.below hW).look (k := d) (u := iv x) (by rw [List.getElem?_map, hx]; rfl)
            cases e
            exact hc
          have hRvH := Lib.hid hRv
          clear hRv hLCi hLKi hq RK OK2 hHS
          have p4 := Xp.out.cell (j := 4) rfl
          go_wp2_with fail
          go_loopw [14, 15] (fun a i wr => ∃ (d : Nat) (u : Int), d ≤ k ∧ i = .int .i64 d ∧ a = .int .i64 u ∧ 0 ≤ u ∧ Hid (u ≤ 16 ^ d) ∧ Hid (Rv = cpy h (LCi.drop d) d u) ∧ wM = wr) (fun _ i _ => k - (intOf i).toNat)
          case atStart => exact ⟨0, 1, by omega, rfl, rfl, by omega, (by decide : (1 : Int) ≤ 16 ^ 0), hRvH, rfl⟩
          case round =>
            obtain ⟨d, u, hd, rfl, rfl, hu0, hu1, hI, rfl⟩ := hrel
            by_cases hlt : d < k
            · have t : (d : Int) < (k : Int) := by omega
              have t0 : 0 ≤ (d : Int) := by omega
              have tn : ¬ (d : Int) < 0 := by omega
              have t64 : min d 64 = d := by omega
              obtain ⟨x, hx⟩ : ∃ x, LCi[d]? = some x := ⟨_, List.getElem?_eq_getElem (by rw [hlci.out]; exact hlt)⟩
              have hdrop : LCi.drop d = x :: LCi.drop (d + 1) := by rw [List.drop_eq_getElem_cons (List.getElem?_eq_some_iff.1 hx).1, (List.getElem?_eq_some_iff.1 hx).2]
              have hcx := RCl.out d x hx wM (Below.refl _ _)
              have hxr := hLCr.out x (List.mem_of_getElem? hx)
              have hI2 := hI.out
              rw [hdrop, cpy] at hI2
              have hbt := bit_int7 h d
              cases hbit : h.testBit d with
              | true =>
                rw [hbit] at hbt hI2
                rw [if_pos rfl] at hI2
                obtain ⟨m0, m1, m2⟩ := cpy_rng12 (k := d) (by omega) hu0 hu1.out hxr
                obtain ⟨y, hy⟩ : ∃ y, u * x = y := ⟨_, rfl⟩
                rw [hy] at hI2 m0 m1 m2
                have hI3 := Lib.hid hI2
                have m1' := Lib.hid m1
                clear hI2 hI m1 hu1 hdrop hx hbit hxr
                go_wp2_with fail
                go_roundw
                case rel => exact ⟨d + 1, y, by omega, by go_num, by first | rfl | (go_simp; done) | (rw [hy, m2]), m0, m1', hI3, by first | rfl | trivial⟩
                case measure => simp [intOf]; omega
              | false =>
                rw [hbit] at hbt hI2
                rw [if_neg (by simp)] at hI2
                obtain ⟨m0, m1, m2⟩ := cpy_rng12 (k := d) (by omega) hu0 hu1.out (show (0 : Int) ≤ 16 ∧ (16 : Int) ≤ 16 by decide)
                obtain ⟨y, hy⟩ : ∃ y, u * 16 = y := ⟨_, rfl⟩
                rw [hy] at hI2 m0 m1 m2
                have hI3 := Lib.hid hI2
                have m1' := Lib.hid m1
                clear hI2 hI m1 hu1 hdrop hx hbit hxr
                go_wp2_with fail
                go_roundw
                case rel => exact ⟨d + 1, y, by omega, by go_num, by first | rfl | (go_simp; done) | (rw [hy, m2]), m0, m1', hI3, by first | rfl | trivial⟩
                case measure => simp [intOf]; omega
            · have t : ¬ (d : Int) < (k : Int) := by omega
              obtain rfl : d = k := by omega
              have hz : Rv = u := by rw [hI.out, List.drop_eq_nil_of_le (by rw [hlci.out]; exact Nat.le_refl _)]; rfl
              clear hI hu0 hu1 hd hlt
              subst hz
              have CL : Hid (∀ W B, PerM W B q → PTab 2 W → Calls Tryd.prog 14 #[prv q] W fun e w' => e = .returned (.tuple #[.int .i64 Rv, .int .i64 0]) ∧ Below W.heap.size W w') := fun W B m t => by
                have := rLoss_any q W m t
                rw [chkP_ok.2 hCop.out.ok, if_pos rfl, hLoss.out] at this
                exact this
              go_wp2_with (first | (refine wpList_blk_load rfl 27 _ rfl 0 rfl Xp.out [_, _, _, _, _] rfl _ hun.out rfl hsz.out ?_) | fail)
              clear p4 t
              have C := CL.out wM _ MQ.out T.out
              rw [Vq.out] at C
              refine C.mono ?_
              rintro e v2 ⟨rfl, hb⟩
              have hbM : Hid (Below wM.heap.size wM v2) := hb
              clear C T
              replace E : Hid (Below w.heap.size w v2) := E.out.trans (hb.mono E.out.size)
              have T := Lib.hid (hT.out.on E.out)
              replace MQ := Lib.hid (MQ.out.keep hb)
              replace Xp := Lib.hid (Xp.out.below hb Xp.out.lt)
              replace Xc := Lib.hid (Xc.out.below hb Xc.out.lt)
              clear hb CL MQ
              have Xn : Hid (Blk (v2.alloc (.cells #[.int .i64 0, .slice none 0 0, .int .i64 0, .slice none 0 0, .slice none 0 0] 27)) v2.heap.size [.int .i64 0, .slice none 0 0, .int .i64 0, .slice none 0 0, .slice none 0 0] 27) := Blk.new _ [_, _, _, _, _] _
              have hal : Hid (Below v2.heap.size v2 (v2.alloc (.cells #[.int .i64 0, .slice none 0 0, .int .i64 0, .slice none 0 0, .slice none 0 0] 27))) := (Below.refl _ _).alloc (Nat.le_refl _) _
              have p4 := Xp.out.cell (j := 4) rfl
              have x0 := Xc.out.cell (j := 0) rfl
              have x1 := Xc.out.cell (j := 1) rfl
              have x2 := Xc.out.cell (j := 2) rfl
              go_upto_region 26 with (refine wpList_row_store rfl 27 _ _ rfl [.int .i64 D, .slice A n c, .int .i64 G, .slice none 0 0, .slice (some ad) d cv] rfl rfl Xn.out hsz.out rfl (five_one12 _ _ _ _ _ _ _ _ _ _ _) ?_; intro v3 hw ho2)
              clear p4 x0 x1 x2 T
              have hb : Below v2.heap.size v2 v3 := hal.out.trans (ho2.below (Nat.le_refl _))
              have lp0 := Lib.hid Xp.out.lt
              have hMga : Hid (wM.heap.size ≤ v2.heap.size) := hbM.out.size
              replace hbM : Hid (Below wM.heap.size wM v3) := hbM.out.trans (hb.mono hbM.out.size)
              replace E : Hid (Below w.heap.size w v3) := E.out.trans (hb.mono E.out.size)
              have T := Lib.hid (hT.out.on E.out)
              replace Xp := Lib.hid (Xp.out.below hb Xp.out.lt)
              replace Xc := Lib.hid (Xc.out.below hb Xc.out.lt)
              obtain ⟨ga, hga⟩ : ∃ g, g = v2.heap.size := ⟨_, rfl⟩
              have Xa : Hid (Blk v3 v2.heap.size [.int .i64 D, .slice A n c, .int .i64 G, .slice none 0 0, .slice (some ad) d cv] 27) := hw
              rw [← hga] at Xa lp0 hMga ⊢
              clear hb hw ho2 hal Xn hga
              have CF : Hid (∀ W, Below wM.heap.size wM W → Below w.heap.size w W → ∀ (Aq : Option Addr) (nq cq : Nat) (lq : List Int), Rds W W.heap.size Aq (lq.map iv) → nq = lq.length → nq ≤ 140737488355328 → PerM W W.heap.size ⟨D, A, n, c, G, Gs, Aq, nq, cq, lq, some ad, d, cv, LCi⟩) := fun W hW hE Aq nq cq lq hr hn hl => by
                have hc := hMH.out.keep hE
                obtain ⟨⟨vs, h1, h2, h3⟩, h4, h5, h6, h7⟩ := hc
                refine ⟨⟨⟨vs, h1, h2.more h4, fun i v g hv hg => ?_⟩, Nat.le_refl _, h5, h6, h7⟩, hr, hn, hl, (RC.out.below hW).more hW.size, hlci.out.symm, (show d ≤ 140737488355328 by omega)⟩
                obtain ⟨a, c, e1, e2, e3, e4, e5⟩ := h3 i v g hv hg
                exact ⟨a, c, e1, e2, e3, e4, e5.more h4⟩
              go_wp2_with (first | (refine wpList_blk_load rfl 27 _ rfl 0 rfl Xa.out [_, _, _, _, _] rfl _ hun.out rfl hsz.out ?_) | fail)
              obtain ⟨qa, hqa⟩ : ∃ q : Prl, q = ⟨D, A, n, c, G, Gs, none, 0, 0, [], some ad, d, cv, LCi⟩ := ⟨_, rfl⟩
              have MA : Hid (PerM v3 v3.heap.size qa) := by show PerM _ _ qa; rw [hqa]; exact CF.out _ hbM.out E.out none 0 0 [] Rds.empty rfl (by omega)
              have Va : Hid (prv qa = .agg #[.int .i64 D, .slice A n c, .int .i64 G, .slice none 0 0, .slice (some ad) d cv]) := by show prv qa = _; rw [hqa]; rfl
              have hqaG : Hid (qa.Gs = Gs) := by show qa.Gs = Gs; rw [hqa]
              have C := few12_any qa 9 v3 MA.out
              rw [Va.out] at C
              refine C.mono ?_
              rintro e v4 ⟨⟨b, rfl, hbf⟩, hb⟩
              have hbfH : Hid (b = true → Gs.length ≤ 30) := fun h => by have := (hbf.1 h).2.2.1; rw [hqaG.out] at this; exact this
              clear C T hbf MA Va hqa hqaG
              replace hbM : Hid (Below wM.heap.size wM v4) := hbM.out.trans (hb.mono hbM.out.size)
              replace E : Hid (Below w.heap.size w v4) := E.out.trans (hb.mono E.out.size)
              have T := Lib.hid (hT.out.on E.out)
              replace Xp := Lib.hid (Xp.out.below hb Xp.out.lt)
              replace Xc := Lib.hid (Xc.out.below hb Xc.out.lt)
              replace Xa := Lib.hid (Xa.out.below hb Xa.out.lt)
              clear hb
              obtain ⟨dd, hde, hdl, hrem, hnz, tz⟩ := rem12 o d (by omega)
              have hremH := Lib.hid hrem
              have hw8 := wrap_b8_12 ho
              clear hde hrem
              go_upto_region 28 with fail
              rw [hremH.out]
              clear hw8 hremH hnz tz
              have x0 := Xc.out.cell (j := 0) rfl
              have x2 := Xc.out.cell (j := 2) rfl
              cases b with
              | false =>
                go_wp2_with fail
                have C := sanity_any12 v4 T.out
                refine C.mono ?_
                rintro e v5 ⟨rfl, hb⟩
                clear C T
                replace E : Hid (Below w.heap.size w v5) := E.out.trans (hb.mono E.out.size)
                have T := Lib.hid (hT.out.on E.out)
                replace Xp := Lib.hid (Xp.out.below hb Xp.out.lt)
                replace Xc := Lib.hid (Xc.out.below hb Xc.out.lt)
                replace Xa := Lib.hid (Xa.out.below hb Xa.out.lt)
                clear hb
                go_wp2_with fail
                go_ret
                exact ⟨by first | rfl | (go_simp; done), E.out⟩
              | true =>
                have hG30 := hbfH.out rfl
                have hn30 : n ≤ 30 := by rw [hnG.out]; exact hG30
                clear hbfH hG30
                by_cases k1 : D < 0
                · have tt : D < 0 := k1
                  go_wp2_with fail
                  clear x0 x2
                  have C := sanity_any12 v4 T.out
                  refine C.mono ?_
                  rintro e v5 ⟨rfl, hb⟩
                  clear C T
                  replace E : Hid (Below w.heap.size w v5) := E.out.trans (hb.mono E.out.size)
                  have T := Lib.hid (hT.out.on E.out)
                  replace Xp := Lib.hid (Xp.out.below hb Xp.out.lt)
                  replace Xc := Lib.hid (Xc.out.below hb Xc.out.lt)
                  replace Xa := Lib.hid (Xa.out.below hb Xa.out.lt)
                  clear hb
                  go_wp2_with fail
                  go_ret
                  exact ⟨by first | rfl | (go_simp; done), E.out⟩
                by_cases k2 : 30 < D
                · have tt : D > 30 := k2
                  have tv : ¬ D < 0 := by omega
                  go_wp2_with fail
                  clear x0 x2
                  have C := sanity_any12 v4 T.out
                  refine C.mono ?_
                  rintro e v5 ⟨rfl, hb⟩
                  clear C T
                  replace E : Hid (Below w.heap.size w v5) := E.out.trans (hb.mono E.out.size)
                  have T := Lib.hid (hT.out.on E.out)
                  replace Xp := Lib.hid (Xp.out.below hb Xp.out.lt)
                  replace Xc := Lib.hid (Xc.out.below hb Xc.out.lt)
                  replace Xa := Lib.hid (Xa.out.below hb Xa.out.lt)
                  clear hb
                  go_wp2_with fail
                  go_ret
                  exact ⟨by first | rfl | (go_simp; done), E.out⟩
                by_cases k3 : G < 0
                · have tt : G < 0 := k3
                  have ty : ¬ D > 30 := k2
                  go_wp2_with fail
                  clear x0 x2
                  have C := sanity_any12 v4 T.out
                  refine C.mono ?_
                  rintro e v5 ⟨rfl, hb⟩
                  clear C T
                  replace E : Hid (Below w.heap.size w v5) := E.out.trans (hb.mono E.out.size)
                  have T := Lib.hid (hT.out.on E.out)
                  replace Xp := Lib.hid (Xp.out.below hb Xp.out.lt)
                  replace Xc := Lib.hid (Xc.out.below hb Xc.out.lt)
                  replace Xa := Lib.hid (Xa.out.below hb Xa.out.lt)
                  clear hb
                  go_wp2_with fail
                  go_ret
                  exact ⟨by first | rfl | (go_simp; done), E.out⟩
                by_cases k4 : 30 < G
                · have tt : G > 30 := k4
                  have tv : ¬ G < 0 := by omega
                  have ty : ¬ D > 30 := k2
                  go_wp2_with fail
                  clear x0 x2
                  have C := sanity_any12 v4 T.out
                  refine C.mono ?_
                  rintro e v5 ⟨rfl, hb⟩
                  clear C T
                  replace E : Hid (Below w.heap.size w v5) := E.out.trans (hb.mono E.out.size)
                  have T := Lib.hid (hT.out.on E.out)
                  replace Xp := Lib.hid (Xp.out.below hb Xp.out.lt)
                  replace Xc := Lib.hid (Xc.out.below hb Xc.out.lt)
                  replace Xa := Lib.hid (Xa.out.below hb Xa.out.lt)
                  clear hb
                  go_wp2_with fail
                  go_ret
                  exact ⟨by first | rfl | (go_simp; done), E.out⟩
                have ty : ¬ D > 30 := k2
                have tz : ¬ G > 30 := k4
                obtain ⟨nD, rfl⟩ : ∃ x : Nat, D = x := ⟨D.toNat, by omega⟩
                obtain ⟨nG, rfl⟩ : ∃ x : Nat, G = x := ⟨G.toNat, by omega⟩
                go_wp2_with fail
                clear x0 x2 ty tz
                obtain ⟨s1, hs1⟩ : ∃ x, x = nD + n := ⟨_, rfl⟩
                obtain ⟨s2, hs2⟩ : ∃ x, x = s1 + nG := ⟨_, rfl⟩
                have es1 : (nD : Int) + (n : Int) = (s1 : Int) := by omega
                have es2 : (s1 : Int) + (nG : Int) = (s2 : Int) := by omega
                have fs1 : IntKind.i64.wrap (s1 : Int) = (s1 : Int) := wrap_small12 (by omega)
                have fs2 : IntKind.i64.wrap (s2 : Int) = (s2 : Int) := wrap_small12 (by omega)
                have hs90 : s2 ≤ 90 := by omega
                clear hs1 hs2 k1 k2 k3 k4
                have hgas : Hid (ga < v4.heap.size) := Xa.out.lt
                have hpsa : Hid (gp < ga) := lp0.out
                go_loopw [21] (fun i wr => ∃ (t : Nat) (Au : Option Addr) (cu : Nat), t ≤ s2 ∧ i = .int .i64 t ∧ Hid (Blk wr ga [.int .i64 (nD : Int), .slice A n c, .int .i64 (nG : Int), .slice Au t cu, .slice (some ad) d cv] 27) ∧ Hid (OwnP wr (ga + 1) (.slice Au t cu) (List.replicate t dd)) ∧ Hid (Blk wr gp [.int .i64 1, .slice none 0 0, .int .i64 g1, .slice Aw j cw, .slice (some ad) d cv] 27) ∧ Hid (Blk wr w.heap.size [.int .i64 (nD : Int), .slice A n c, .int .i64 (nG : Int)] 24) ∧ Hid (Below w.heap.size w wr) ∧ Hid (Below wM.heap.size wM wr)) (fun i _ => s2 - (intOf i).toNat)
                case atStart => exact ⟨0, none, 0, by omega, rfl, Xa, ownP_nil _ _, Xp, Xc, E, hbM⟩
                case round =>
                  clear Xa Xp Xc E hbM T hgas
                  obtain ⟨t, Au, cu, htl, rfl, Xa, OA, Xp, Xc, E, hbM⟩ := hrel
                  have T := Lib.hid (hT.out.on E.out)
                  have x0 := Xc.out.cell (j := 0) rfl
                  have x1 := Xc.out.cell (j := 1) rfl
                  have x2 := Xc.out.cell (j := 2) rfl
                  by_cases hlt : t < s2
                  · have tt : (t : Int) < (s2 : Int) := by omega
                    have a3 := Xa.out.cell (j := 3) rfl
                    have hll : (List.replicate t dd).length ≤ 1000000 := by rw [List.length_replicate]; omega
                    have hlp : ga + 1 ≤ wr.heap.size := Xa.out.lt
                    have fdd : IntKind.i64.wrap (dd : Int) = (dd : Int) := wrap_small12 (by omega)
                    have hcM : Hid (wM.heap.size ≤ ga) := hMga.out
                    have hl6 : Hid ((List.replicate t dd ++ [dd]).length = t + 1) := by show _ = _; simp
                    go_upto_region 32 with (first | (at_builtin; go_must (refine push_piv rfl _ _ rfl (ga + 1) (.slice Au t cu) (List.replicate t dd) dd _ rfl rfl rfl OA.out hll hlp ?_); intro v' w6 ho6 hg6; obtain ⟨A6, c6, rfl, _⟩ := ho6.slice12; rw [hl6.out] at ho6 ⊢; have hne : (Value.slice Au t cu).ownBlock ≠ some ga := fun h => (by have := (OA.out.lt _ h).1; omega); have Xa6 := Lib.hid (Xa.out.grown12 hg6 hne)) | (refine wpList_blk_store rfl 25 _ _ rfl 3 (.slice A6 (t + 1) c6) rfl rfl Xa6.out hints.out (by simp [Value.cells]) (slice_one12 _ _ _) ?_; intro w7 hw7 ho7))
                    have hrep : List.replicate t dd ++ [dd] = List.replicate (t + 1) dd := (List.replicate_succ' ..).symm
                    have Xa7 : Hid (Blk w7 ga [.int .i64 (nD : Int), .slice A n c, .int .i64 (nG : Int), .slice A6 (t + 1) c6, .slice (some ad) d cv] 27) := hw7
                    have l1 := lx0.out
                    have l2 := hpsa.out
                    have l3 := hcM.out
                    have hneg : ∀ g, g ≤ ga → (Value.slice Au t cu).ownBlock ≠ some g := fun g hg h => by have := (OA.out.lt _ h).1; omega
                    have Xp7 := Lib.hid ((Xp.out.grown12 hg6 (hneg _ (by omega))).only ho7 (by omega))
                    have Xc7 := Lib.hid ((Xc.out.grown12 hg6 (hneg _ (by omega))).only ho7 (by omega))
                    have E7 : Hid (Below w.heap.size w w7) := (E.out.grown hg6 E.out.size (fun g hg => by have := (OA.out.lt _ hg).1; omega)).trans (ho7.below (by omega))
                    have B7 : Hid (Below wM.heap.size wM w7) := (hbM.out.grown hg6 hbM.out.size (fun g hg => by have := (OA.out.lt _ hg).1; omega)).trans (ho7.below (by omega))
                    have O7 : Hid (OwnP w7 (ga + 1) (.slice A6 (t + 1) c6) (List.replicate (t + 1) dd)) := by
                      show OwnP _ _ _ _
                      rw [hrep] at ho6
                      exact ho6.only12 ho7 (Nat.lt_succ_self ga)
                    clear ho6 hg6 hw7 ho7 Xa6 hne hneg a3 hlp hll Xa Xp Xc E OA T hbM l1 l2 l3 x0 x1 x2 hrep
                    go_wp2_with fail
                    go_roundw
                    case rel => exact ⟨t + 1, A6, c6, by omega, by go_num, Xa7, O7, Xp7, Xc7, E7, B7⟩
                    case measure => simp [intOf]; omega
                  · have tt : ¬ (t : Int) < (s2 : Int) := by omega
                    obtain ⟨wN, hwN⟩ : ∃ x, x = wr := ⟨_, rfl⟩
                    subst hwN
                    obtain ⟨qa, hqa⟩ : ∃ q : Prl, q = ⟨(nD : Int), A, n, c, (nG : Int), Gs, Au, t, cu, (List.replicate t dd).map (fun x : Nat => (x : Int)), some ad, d, cv, LCi⟩ := ⟨_, rfl⟩
                    have MA : Hid (PerM wN wN.heap.size qa) := by show PerM _ _ qa; rw [hqa]; exact CF.out _ hbM.out E.out Au t cu _ (own_rds12 OA.out) (by rw [List.length_map, List.length_replicate]) (by omega)
                    have Va : Hid (prv qa = .agg #[.int .i64 (nD : Int), .slice A n c, .int .i64 (nG : Int), .slice Au t cu, .slice (some ad) d cv]) := by show prv qa = _; rw [hqa]; rfl
                    have hqal : Hid (∀ x ∈ qa.al, x = (dd : Int)) := fun x hx => by
                      rw [hqa] at hx
                      obtain ⟨y, hy, rfl⟩ := List.mem_map.1 hx
                      rw [List.eq_of_mem_replicate hy]
                    have hqch : Hid (qa.ch = LCi) := by show qa.ch = _; rw [hqa]
                    obtain ⟨Z, hZ⟩ : ∃ z, z = chkP qa := ⟨_, rfl⟩
                    have CK := rcheck_any qa wN MA.out
                    rw [← hZ, Va.out] at CK
                    have hZH := Lib.hid hZ
                    clear hZ hqa OA htl hlt
                    go_wp2_with (first | (refine wpList_blk_load rfl 27 _ rfl 0 rfl Xa.out [_, _, _, _, _] rfl _ hun.out rfl hsz.out ?_) | fail)
                    clear x0 x1 x2 tt es1 es2 fs1 fs2
                    refine CK.mono ?_
                    rintro e v5 ⟨rfl, hb⟩
                    clear CK T
                    replace hbM : Hid (Below wM.heap.size wM v5) := hbM.out.trans (hb.mono hbM.out.size)
                    replace E : Hid (Below w.heap.size w v5) := E.out.trans (hb.mono E.out.size)
                    have T := Lib.hid (hT.out.on E.out)
                    replace Xp := Lib.hid (Xp.out.below hb Xp.out.lt)
                    replace Xc := Lib.hid (Xc.out.below hb Xc.out.lt)
                    replace Xa := Lib.hid (Xa.out.below hb Xa.out.lt)
                    replace MA := Lib.hid (MA.out.keep hb)
                    clear hb
                    by_cases h0 : Z = 0
                    rotate_left
                    · have tz0 : (Z == 0) = false := by simpa using h0
                      go_wp2_with fail
                      have C := sanity_any12 v5 T.out
                      refine C.mono ?_
                      rintro e v6 ⟨rfl, hb⟩
                      clear C T
                      replace E : Hid (Below w.heap.size w v6) := E.out.trans (hb.mono E.out.size)
                      have T := Lib.hid (hT.out.on E.out)
                      replace Xp := Lib.hid (Xp.out.below hb Xp.out.lt)
                      replace Xc := Lib.hid (Xc.out.below hb Xc.out.lt)
                      replace Xa := Lib.hid (Xa.out.below hb Xa.out.lt)
                      replace MA := Lib.hid (MA.out.keep hb)
                      clear hb
                      go_wp2_with fail
                      go_ret
                      exact ⟨by first | rfl | (go_simp; done), E.out⟩
                    have OK := Lib.hid (chkP_ok.1 (hZH.out.symm.trans h0))
                    have hz := Lib.hid (hZH.out.symm.trans h0)
                    subst h0
                    obtain ⟨x, hx⟩ : ∃ x, LCi[dd]? = some x := ⟨_, List.getElem?_eq_getElem (by rw [hlci.out]; exact hdl)⟩
                    have hxr := hLCr.out x (List.mem_of_getElem? hx)
                    have hone := one_loss OK.out hqal.out (by rw [hqch.out]; exact hx)
                    rw [hqch.out, hlci.out] at hone
                    obtain ⟨V, hV⟩ : ∃ v : Int, v = x * 16 ^ (d - 1) := ⟨_, rfl⟩
                    rw [← hV] at hone
                    have CL : Hid (∀ W B, PerM W B qa → PTab 2 W → Calls Tryd.prog 14 #[prv qa] W fun e w' => e = .returned (.tuple #[.int .i64 V, .int .i64 0]) ∧ Below W.heap.size W w') := fun W B m t => by
                      have := rLoss_any qa W m t
                      rw [hz.out, if_pos rfl, hqch.out, hlci.out, hone] at this
                      exact this
                    go_wp2_with (first | (refine wpList_blk_load rfl 27 _ rfl 0 rfl Xa.out [_, _, _, _, _] rfl _ hun.out rfl hsz.out ?_) | fail)
                    have C := CL.out v5 _ MA.out T.out
                    rw [Va.out] at C
                    refine C.mono ?_
                    rintro e v6 ⟨rfl, hb⟩
                    clear C T
                    replace hbM : Hid (Below wM.heap.size wM v6) := hbM.out.trans (hb.mono hbM.out.size)
                    replace E : Hid (Below w.heap.size w v6) := E.out.trans (hb.mono E.out.size)
                    have T := Lib.hid (hT.out.on E.out)
                    replace Xp := Lib.hid (Xp.out.below hb Xp.out.lt)
                    replace Xc := Lib.hid (Xc.out.below hb Xc.out.lt)
                    replace Xa := Lib.hid (Xa.out.below hb Xa.out.lt)
                    replace MA := Lib.hid (MA.out.keep hb)
                    clear hb CL MA Va hone
                    have p4 := Xp.out.cell (j := 4) rfl
                    have hcx := RCl.out dd x hx _ hbM.out
                    have td : (dd : Int) < (d : Int) := by omega
                    have td0 : 0 ≤ (dd : Int) := by omega
                    have hVH := Lib.hid hV
                    have hxrH := Lib.hid hxr
                    clear hV hx hxr
                    go_wp2_with fail
                    clear hcx td td0
                    go_loopw [14, 24] (fun a i wr => ∃ (t : Nat), 1 ≤ t ∧ t ≤ d ∧ i = .int .i64 t ∧ a = .int .i64 (x * 16 ^ (t - 1)) ∧ v6 = wr) (fun _ i _ => d - (intOf i).toNat)
                    case atStart => exact ⟨1, by omega, by omega, rfl, (by rw [show 1 - 1 = 0 from rfl, Int.pow_zero, Int.mul_one]), rfl⟩
                    case round =>
                      obtain ⟨t, ht1, htl, rfl, rfl, rfl⟩ := hrel
                      by_cases hlt : t < d
                      · have tt : (t : Int) < (d : Int) := by omega
                        obtain ⟨k1, k2⟩ := pow_next12 (c := x) (k := t - 1) hxrH.out (by omega)
                        rw [show t - 1 + 1 = t by omega] at k1 k2
                        have hfin : x * 16 ^ t = x * 16 ^ (t + 1 - 1) := by rw [Nat.add_sub_cancel]
                        have hfinH := Lib.hid hfin
                        clear hfin
                        generalize x * 16 ^ (t - 1) = y0 at *
                        generalize x * 16 ^ t = y1 at *
                        go_wp2_with fail
                        go_roundw
                        case rel => exact ⟨t + 1, by omega, by omega, by go_num, by first | (rw [← hfinH.out]; done) | (rw [← hfinH.out]; go_simp; done) | (rw [← hfinH.out, k1, k2]), by first | rfl | trivial⟩
                        case measure => simp [intOf]; omega
                      · have tt : ¬ (t : Int) < (d : Int) := by omega
                        obtain rfl : t = d := by omega
                        rw [← hVH.out]
                        go_wp2_with fail
                        clear p4
                        refine (sanity_any12 _ T.out).mono ?_
                        rintro e wS ⟨rfl, hb⟩
                        replace E : Hid (Below w.heap.size w wS) := E.out.trans (hb.mono E.out.size)
                        clear hb T
                        go_wp2_with fail
                        go_ret
                        exact ⟨by first | rfl | (go_simp; done), E.out⟩
end Go.Proofs.YtgajlgnniidgmaaDoor
