/-
  PolyCorrects: the walk. (Written by tools/genqv.py.)
-/
import Derived.Test.YtbilfhipmebmlaaDoorQo
import Derived.Test.YtbilfhipmebmlaaDoorOph
namespace Go.Proofs.YtbilfhipmebmlaaDoor
set_option linter.unusedVariables false
set_option linter.unusedSimpArgs false
open Go.RowKit


set_option maxRecDepth 100000 in
set_option maxHeartbeats 4000000 in
theorem values_own {W : World} {A A' : Option Addr} {n c n' c' : Nat} {l m : List UInt8} (h : RowV W A n c l) (h' : RowV W A' n' c' m) (hl : n ≤ 100000) (hl' : n' ≤ 100000) (ht : PTab 0 W) :
    Calls Tryd.prog 38 #[.slice A n c, .slice A' n' c'] W fun e w' => ∃ v, e = .returned v ∧ OwnB w' W.heap.size v (valsL l m n') ∧ Below W.heap.size W w' := by
  have H := Lib.hid h
  have H' := Lib.hid h'
  have T := Lib.hid ht
  clear h h' ht
  go_enter Tryd.func38, Tryd.ntmps38
  go_wp2_with fail
  go_loopw [5, 6] (fun v i wr => ∃ k : Nat, k ≤ n' ∧ i = .int .i64 k ∧ OwnB wr W.heap.size v (valsL l m k) ∧ Below W.heap.size W wr) (fun _ i _ => n' - (intOf i).toNat)
  case atStart => exact ⟨0, by omega, rfl, ownB_nil _ _, Below.refl _ _⟩
  case round =>
    obtain ⟨k, hk, rfl, ho, hbw⟩ := hrel
    by_cases hlt : k < n'
    · have t : (k : Int) < (n' : Int) := by omega
      have t0 : 0 ≤ (k : Int) := by omega
      have hx := at_co (p := m) (k := k) (by rw [← H'.out.len]; exact hlt)
      obtain ⟨ad, rfl, _, hca⟩ := (H'.out.rds.below hbw).look (k := k) (u := bv (co m k)) (by rw [List.getElem?_map, hx]; rfl)
      have hs := Lib.hid (valsL_succ l m k)
      have EV := Lib.hid (eval_v (H.out.keep hbw) (co m k) hl (T.out.below hbw T.out.1))
      have ho' := Lib.hid ho
      have hbw' := Lib.hid hbw
      have hlen : (valsL l m k).length ≤ 140737488355300 := by rw [valsL_len]; omega
      generalize ev l (co m k) = r at *
      generalize co m k = x at *
      generalize valsL l m k = V at *
      unfold bv at hca
      clear hx ho hbw
      go_wp2_with fail
      refine EV.out.mono ?_
      rintro e w3 ⟨rfl, hb3⟩
      have ho3 := ownB_kp ho'.out hb3
      have hb3' := hbw'.out.trans (hb3.mono hbw'.out.size)
      have hsz := hb3'.size
      clear hb3 EV
      go_wp2_with (at_builtin; go_must (refine push_byte rfl _ _ rfl W.heap.size u5 V r _ rfl rfl rfl ho3 hlen hsz ?_); intro v' w2 ho1 hon1)
      go_roundw
      case rel => exact ⟨k + 1, by omega, by go_num, by rw [hs.out]; exact ho1, hb3'.trans (hon1.below ho3 hsz)⟩
      case measure => simp [intOf]; omega
    · have t : ¬ (k : Int) < (n' : Int) := by omega
      obtain rfl : k = n' := by omega
      have ho' := Lib.hid ho
      have hbw' := Lib.hid hbw
      clear ho hbw
      go_wp2_with fail
      go_ret
      exact ⟨_, by first | rfl | (go_simp; done) | (go_simp; rfl), ho'.out, hbw'.out⟩


theorem missL_vals (p xs : List UInt8) (n : Nat) : missL p xs (valsL p xs n) n = [] := by
  unfold missL
  rw [List.filter_eq_nil_iff]
  intro i hi
  simp [co_valsL (List.mem_range.1 hi)]

set_option maxRecDepth 100000 in
set_option maxHeartbeats 16000000 in
theorem walk_corrects (A0 : Option Addr) (c0 : Nat) (l0 : List UInt8) (A1 : Option Addr) (c1 : Nat) (l1 : List UInt8) (A2 : Option Addr) (c2 : Nat) (l2 : List Nat) (w : World) (H0 : SlB w A0 l0.length c0 l0) (H1 : SlB w A1 l1.length c1 l1) (H2 : SlH w A2 l2.length c2 l2) (ht : PTab 0 w) :
    Calls Tryd.prog 8 #[.slice A0 l0.length c0, .slice A1 l1.length c1, .slice A2 l2.length c2] w (OkEnd true w) := by
  have R0 := Lib.hid (slB_row H0)
  have R1 := Lib.hid (slB_row H1)
  have Q0 := R0
  have Q1 := R1
  have hr0 := H0.reach
  have hr1 := H1.reach
  have hr2 := H2.reach
  have N2 := Lib.hid H2.rds
  have F2 := Lib.hid H2.fits
  have T0 := Lib.hid ht
  have T := T0
  have SA := Lib.hid (fun (W : World) (h : Fol w W) => sanity_any6 W (ht.below h ht.1))
  clear H0 H1 H2 ht
  obtain ⟨n0, hn0⟩ : ∃ n, n = l0.length := ⟨_, rfl⟩
  obtain ⟨n1, hn1⟩ : ∃ n, n = l1.length := ⟨_, rfl⟩
  obtain ⟨n2, hn2⟩ : ∃ n, n = l2.length := ⟨_, rfl⟩
  rw [← hn0] at R0 Q0 hr0 ⊢
  rw [← hn1] at R1 Q1 hr1 ⊢
  rw [← hn2] at hr2 ⊢
  have hn2' := Lib.hid hn2
  clear hn0 hn1 hn2
  have E : Hid (Fol w w) := Below.refl _ _
  by_cases hD : Dist l0 n0
  · have RT := Lib.hid (right_v (A' := A0) (c' := c0) (n' := n0) R0.out hr0 hr0 true ⟨fun _ => ⟨hD, rfl⟩, fun _ => rfl⟩)
    have hd := Lib.hid hD
    clear hD
    by_cases hbig : 40 < n0
    · have t0 : (n0 : Int) > 40 := by omega
      clear hbig
      go_enter Tryd.func8, Tryd.ntmps8
      go_wp2_with fail
      refine (RT.out).mono ?_
      rintro e v1 ⟨rfl, hb⟩
      replace R0 := Lib.hid (R0.out.keep hb)
      replace R1 := Lib.hid (R1.out.keep hb)
      replace E := Lib.hid (E.out.to hb)
      replace T := Lib.hid (T.out.below hb T.out.1)
      clear hb
      clear RT
      go_wp2_with fail
      refine (SA.out v1 E.out).mono ?_
      rintro e v2 ⟨rfl, hb⟩
      replace R0 := Lib.hid (R0.out.keep hb)
      replace R1 := Lib.hid (R1.out.keep hb)
      replace E := Lib.hid (E.out.to hb)
      replace T := Lib.hid (T.out.below hb T.out.1)
      clear hb
      go_wp2_with fail
      go_ret
      exact ⟨by first | rfl | (go_simp; done), E.out⟩
    have t0 : ¬ (n0 : Int) > 40 := by omega
    by_cases hz : n1 = 0
    · subst hz
      clear hbig
      go_enter Tryd.func8, Tryd.ntmps8
      go_wp2_with fail
      refine (RT.out).mono ?_
      rintro e v1 ⟨rfl, hb⟩
      replace R0 := Lib.hid (R0.out.keep hb)
      replace R1 := Lib.hid (R1.out.keep hb)
      replace E := Lib.hid (E.out.to hb)
      replace T := Lib.hid (T.out.below hb T.out.1)
      clear hb
      clear RT
      go_wp2_with fail
      refine (SA.out v1 E.out).mono ?_
      rintro e v2 ⟨rfl, hb⟩
      replace R0 := Lib.hid (R0.out.keep hb)
      replace R1 := Lib.hid (R1.out.keep hb)
      replace E := Lib.hid (E.out.to hb)
      replace T := Lib.hid (T.out.below hb T.out.1)
      clear hb
      go_wp2_with fail
      go_ret
      exact ⟨by first | rfl | (go_simp; done), E.out⟩
    have t1 : ((n1 : Int) == 0) = false := by simp only [beq_eq_false_iff_ne, ne_eq]; omega
    by_cases hot : n0 < n1
    · have t2 : (n1 : Int) > (n0 : Int) := by omega
      clear hot hbig hz
      go_enter Tryd.func8, Tryd.ntmps8
      go_wp2_with fail
      refine (RT.out).mono ?_
      rintro e v1 ⟨rfl, hb⟩
      replace R0 := Lib.hid (R0.out.keep hb)
      replace R1 := Lib.hid (R1.out.keep hb)
      replace E := Lib.hid (E.out.to hb)
      replace T := Lib.hid (T.out.below hb T.out.1)
      clear hb
      clear RT
      go_wp2_with fail
      refine (SA.out v1 E.out).mono ?_
      rintro e v2 ⟨rfl, hb⟩
      replace R0 := Lib.hid (R0.out.keep hb)
      replace R1 := Lib.hid (R1.out.keep hb)
      replace E := Lib.hid (E.out.to hb)
      replace T := Lib.hid (T.out.below hb T.out.1)
      clear hb
      go_wp2_with fail
      go_ret
      exact ⟨by first | rfl | (go_simp; done), E.out⟩
    have t2 : ¬ (n1 : Int) > (n0 : Int) := by omega
    obtain ⟨d, hd1⟩ : ∃ d, n1 = d + 1 := ⟨n1 - 1, by omega⟩
    obtain ⟨s, hs⟩ : ∃ s, n0 = n1 + s := ⟨n0 - n1, by omega⟩
    obtain ⟨f, hf⟩ : ∃ f, f = s / 2 := ⟨_, rfl⟩
    have g1 : (n0 : Int) - (n1 : Int) = (s : Int) := by omega
    have g1w : IntKind.i64.wrap ((n0 : Int) - (n1 : Int)) = (s : Int) := by rw [IntKind.wrap_i64]; omega
    have g2 : Int.tdiv (s : Int) 2 = (f : Int) := by rw [hf, Int.tdiv_eq_ediv_of_nonneg (by omega)]; omega
    have g2w : IntKind.i64.wrap (f : Int) = (f : Int) := by rw [IntKind.wrap_i64]; omega
    have g3 : (n1 : Int) - 1 = (d : Int) := by omega
    have g3w : IntKind.i64.wrap ((n1 : Int) - 1) = (d : Int) := by rw [IntKind.wrap_i64]; omega
    have hsn : Hid (d + 1 + 2 * f ≤ n0 ∧ n1 = d + 1) := by show _ ∧ _; omega
    have hle : n0 ≤ 40 := by omega
    have hle1 : n1 ≤ n0 := by omega
    by_cases hmany : f < n2
    · have t3 : (n2 : Int) > (f : Int) := by omega
      clear hmany hot hbig hz hd1 hs hf
      go_enter Tryd.func8, Tryd.ntmps8
      go_wp2_with fail
      refine (RT.out).mono ?_
      rintro e v1 ⟨rfl, hb⟩
      replace R0 := Lib.hid (R0.out.keep hb)
      replace R1 := Lib.hid (R1.out.keep hb)
      replace E := Lib.hid (E.out.to hb)
      replace T := Lib.hid (T.out.below hb T.out.1)
      clear hb
      clear RT
      go_wp2_with fail
      refine (SA.out v1 E.out).mono ?_
      rintro e v2 ⟨rfl, hb⟩
      replace R0 := Lib.hid (R0.out.keep hb)
      replace R1 := Lib.hid (R1.out.keep hb)
      replace E := Lib.hid (E.out.to hb)
      replace T := Lib.hid (T.out.below hb T.out.1)
      clear hb
      go_wp2_with fail
      go_ret
      exact ⟨by first | rfl | (go_simp; done), E.out⟩
    have t3 : ¬ (n2 : Int) > (f : Int) := by omega
    have hnf : n2 ≤ f := by omega
    have hn2l : n2 ≤ 40 := by omega
    have hpos : 0 < n0 := by omega
    have tpos : ((n0 : Int) == 0) = false := by simp only [beq_eq_false_iff_ne, ne_eq]; omega
    have tpos2 : ¬ (n0 : Int) = 0 := by omega
    have tpos3 : ¬ n0 = 0 := by omega
    clear hmany hot hbig hz hd1 hs hf hr0 hr1 hr2
    go_enter Tryd.func8, Tryd.ntmps8
    go_wp2_with fail
    refine (RT.out).mono ?_
    rintro e v1 ⟨rfl, hb⟩
    replace R0 := Lib.hid (R0.out.keep hb)
    replace R1 := Lib.hid (R1.out.keep hb)
    replace E := Lib.hid (E.out.to hb)
    replace T := Lib.hid (T.out.below hb T.out.1)
    clear hb
    clear RT
    go_wp2_with fail
    refine (values_own R1.out R0.out (by omega) (by omega) T.out).mono ?_
    rintro e v2 ⟨vy, rfl, ho, hb⟩
    have E2 := Lib.hid (E.out.to hb)
    obtain ⟨gY, capY, Z, hve, hgY, hkY, hlZ, hcY⟩ := own_open ho (by rw [valsL_len]; exact hpos)
    rw [valsL_len] at hve hlZ
    subst hve
    have hY2 : Hid (Blk v2 gY ((valsL l1 l0 n0).map bv ++ Z) 5) := hkY
    have hst : Hid ((valsL l1 l0 n0).length = n0 ∧ (missL l1 l0 (valsL l1 l0 n0) n0).length ≤ 0) := ⟨valsL_len _ _ _, by rw [missL_vals]; simp⟩
    have hgYw : Hid (w.heap.size ≤ gY) := Nat.le_trans E.out.size hgY
    have hZl := Lib.hid hlZ
    have hcYm := Lib.hid hcY
    clear ho hb hkY hgY hlZ hcY E R0 R1 T
    go_wp2_with fail
    go_loopw [10] (fun v wr => ∃ (k : Nat) (Y : List UInt8), k ≤ n2 ∧ v = .int .i64 k ∧ Hid (Y.length = n0 ∧ (missL l1 l0 Y n0).length ≤ k) ∧ Hid (Blk wr gY (Y.map bv ++ Z) 5) ∧ Hid (Fol w wr)) (fun v _ => n2 - (intOf v).toNat)
    case atStart => exact ⟨0, _, by omega, rfl, hst, hY2, E2⟩
    case round =>
      clear hst hY2 E2
      obtain ⟨k, Y, hk, rfl, hI, hY, E⟩ := hrel
      by_cases hlt : k < n2
      · have t : (k : Int) < (n2 : Int) := by omega
        have tk0 : 0 ≤ (k : Int) := by omega
        obtain ⟨h, hh⟩ : ∃ h, l2[k]? = some h := ⟨_, List.getElem?_eq_getElem (by rw [← hn2'.out]; exact hlt)⟩
        have hhf : h < 65536 := F2.out h (List.mem_of_getElem? hh)
        obtain ⟨ad, rfl, hab, hca⟩ := N2.out.look (k := k) (u := hv h) (by rw [List.getElem?_map, hh]; rfl)
        obtain ⟨q, hq⟩ : ∃ q, q = (h / 256) % n0 := ⟨_, rfl⟩
        have hqn : q < n0 := by rw [hq]; exact Nat.mod_lt _ hpos
        obtain ⟨y, hy⟩ : ∃ y, y = UInt8.ofNat (h % 256) := ⟨_, rfl⟩
        have hyn : y.toNat = h % 256 := by rw [hy]; simp
        unfold hv at hca
        have z1 : ∀ z : ExtOf wr.drew, z.world.cell? (ad.add k) = some (.int .u16 (h : Int)) := fun z => (Below.cell (p := ad.add k) (z.ext) (by rw [add_block]; exact Nat.lt_of_lt_of_le hab E.out.size)).trans ((E.out.cell (p := ad.add k) (by rw [add_block]; exact hab)).trans hca)
        obtain ⟨h8, hh8⟩ : ∃ h8, h8 = h / 256 := ⟨_, rfl⟩
        have s1 : (h : Int) >>> (8 : Nat) = (h8 : Int) := by rw [hh8, Int.shiftRight_eq_div_pow]; omega
        have s1b : (h : Int) / 256 = (h8 : Int) := by rw [hh8]; omega
        have s1w : IntKind.u16.wrap (h8 : Int) = (h8 : Int) := by rw [IntKind.wrap_u16]; omega
        have s2 : Int.tmod (h8 : Int) (n0 : Int) = (q : Int) := by rw [hq, hh8]; exact (Int.ofNat_tmod (h / 256) n0).symm
        have s3 : IntKind.i64.wrap (h8 : Int) = (h8 : Int) := by rw [IntKind.wrap_i64]; omega
        have s4 : IntKind.u8.wrap (h : Int) = (y.toNat : Int) := by rw [IntKind.wrap_u8, hyn]; omega
        have s5 : IntKind.i64.wrap (q : Int) = (q : Int) := by rw [IntKind.wrap_i64]; omega
        have tq : (q : Int) < (n0 : Int) := by omega
        have tq0 : 0 ≤ (q : Int) := by omega
        have hfit : Hid (q + 1 ≤ (Y.map bv ++ Z).length) := by show _ ≤ _; rw [List.length_append, List.length_map, hI.out.1]; omega
        have hkY : Hid (q < Y.length) := by show _ < _; rw [hI.out.1]; exact hqn
        have hnx : Hid ((Y.set q y).length = n0 ∧ (missL l1 l0 (Y.set q y) n0).length ≤ k + 1) := by
          refine ⟨by rw [List.length_set]; exact hI.out.1, ?_⟩
          have := missL_set l1 l0 Y q y n0
          rw [if_pos hqn] at this
          have := hI.out.2
          omega
        clear hca hh hq hy hyn hh8 hab
        go_wp2_with fail
        refine wp_region_planM [16] [(true, 0), (true, 1), (true, 2), (true, 3), (true, 4), (true, 5), (true, 6), (true, 7), (true, 8), (true, 9), (true, 10), (true, 11), (true, 12), (true, 13), (true, 14), (true, 15), (false, 16)] (by decide) (by kernel_rfl) (by kernel_rfl) (by decide) (by intro c a d v w h; cases d <;> exact h) ?_
        change wpPlanM _ _ _ _ _ _ wr.drew
        iterate 16 (refine wpPlanM_plain rfl (fun K hK => ?_); go_simp; refine hK _ ?_; clear hK K)
        clear z1
        refine wpPlanM_call rfl (fun K hK => ?_)
        refine wpList_blk_store rfl 5 _ _ rfl q (bv y) rfl rfl hY.out.drew size_u8 hfit.out (one_u8 y) ?_
        intro w7 hw7 ho7
        refine wpList_end (planPostL_normal ⟨.inl (by decide), hK _ _ ?_⟩)
        clear hK K
        refine wpPlanM_nil ?_
        have hY7 := Lib.hid (blk_setZ hw7 hkY.out)
        have ho7' : Only gY wr w7 := ⟨ho7.os, ho7.tape, ho7.output, ho7.size, ho7.block⟩
        have E7 : Hid (Fol w w7) := E.out.trans (ho7'.below hgYw.out)
        clear hw7 ho7 ho7'
        go_wp2_with fail
        go_roundw
        case rel => exact ⟨k + 1, Y.set q y, by omega, by go_num, hnx, hY7, E7⟩
        case measure => simp [intOf]; omega
      · have t : ¬ (k : Int) < (n2 : Int) := by omega
        obtain rfl : k = n2 := by omega
        have R0 := Lib.hid (Q0.out.keep E.out)
        have R1 := Lib.hid (Q1.out.keep E.out)
        have T := Lib.hid (T0.out.below E.out T0.out.1)
        have RY : Hid (RowV wr (some ⟨gY, 0, none⟩) n0 capY Y) := by
          refine ⟨hI.out.1.symm, by have := hZl.out; omega, hcYm.out, (fun h => by cases h), ?_⟩
          have hrd := hY.out.rds 0 n0
          rw [List.drop_zero, List.take_append_of_le_length (by rw [List.length_map, hI.out.1]; exact Nat.le_refl _), List.take_of_length_le (by rw [List.length_map, hI.out.1]; exact Nat.le_refl _)] at hrd
          exact hrd
        have hF0 : Hid (Found l0 Y n0 d f (trim l1)) := by
          refine ⟨?_, trim_trim _, ?_⟩
          · rw [dg_trim]
            have h1 := dg_le l1
            have h2 := Q1.out.len
            have h3 := hsn.out.2
            omega
          · rw [missL_congr (co_trim l1)]
            have := hI.out.2
            omega
        clear hI hY
        go_wp2_with fail
        refine (missed_v R1.out R0.out RY.out (Nat.le_refl _) (by omega) (by omega)).mono ?_
        rintro e v10 ⟨A3, n3, c3, rfl, hR3, hb⟩
        have R3 := Lib.hid hR3
        clear hR3
        replace R0 := Lib.hid (R0.out.keep hb)
        replace R1 := Lib.hid (R1.out.keep hb)
        replace RY := Lib.hid (RY.out.keep hb)
        replace E := Lib.hid (E.out.to hb)
        replace T := Lib.hid (T.out.below hb T.out.1)
        clear hb
        go_wp2_with fail
        refine (decode_v R0.out RY.out rfl (by omega) hd.out d f hsn.out.1 T.out).mono ?_
        rintro e v11 (⟨PP, A5, n5, c5, A6, n6, c6, hF, rfl, hR5, hR6, hb⟩ | ⟨hL, rfl, hb⟩)
        rotate_left
        · exact (hF0.out.not hL).elim
        have hPP := hF.one hF0.out hd.out hsn.out.1
        subst hPP
        have hms : missL (trim l1) l0 Y n0 = missL l1 l0 Y n0 := missL_congr (co_trim l1) _ _ _
        rw [hms] at hR6
        have R5 := Lib.hid hR5
        have R6 := Lib.hid hR6
        replace R0 := Lib.hid (R0.out.keep hb)
        replace R1 := Lib.hid (R1.out.keep hb)
        replace R3 := Lib.hid (R3.out.keep hb)
        replace E := Lib.hid (E.out.to hb)
        replace T := Lib.hid (T.out.below hb T.out.1)
        clear hb hR5 hR6 hF hms
        have h5 : n5 ≤ 40 := by
          have h1 := R5.out.len
          rw [trim_len] at h1
          have h2 := dg_le l1
          have h3 := R1.out.len
          omega
        have h6 : n6 ≤ 100000 := by
          have h1 := R6.out.len
          have h2 := missL_len l1 l0 Y n0
          omega
        go_wp2_with fail
        refine (SA.out v11 E.out).mono ?_
        rintro e v12 ⟨rfl, hb⟩
        replace R0 := Lib.hid (R0.out.keep hb)
        replace R1 := Lib.hid (R1.out.keep hb)
        replace R3 := Lib.hid (R3.out.keep hb)
        replace R5 := Lib.hid (R5.out.keep hb)
        replace R6 := Lib.hid (R6.out.keep hb)
        replace E := Lib.hid (E.out.to hb)
        replace T := Lib.hid (T.out.below hb T.out.1)
        clear hb
        go_wp2_with fail
        refine (trim_v R1.out (by omega)).mono ?_
        rintro e v13 ⟨A9, n9, c9, rfl, hR9, hb⟩
        have R9 := Lib.hid hR9
        clear hR9
        replace R0 := Lib.hid (R0.out.keep hb)
        replace R1 := Lib.hid (R1.out.keep hb)
        replace R3 := Lib.hid (R3.out.keep hb)
        replace R5 := Lib.hid (R5.out.keep hb)
        replace R6 := Lib.hid (R6.out.keep hb)
        replace E := Lib.hid (E.out.to hb)
        replace T := Lib.hid (T.out.below hb T.out.1)
        clear hb
        have SM := Lib.hid (same6_v R5.out R9.out (by omega))
        rw [sameB_refl6] at SM
        go_wp2_with fail
        refine (SM.out).mono ?_
        rintro e v14 ⟨rfl, hb⟩
        replace R0 := Lib.hid (R0.out.keep hb)
        replace R1 := Lib.hid (R1.out.keep hb)
        replace R3 := Lib.hid (R3.out.keep hb)
        replace R5 := Lib.hid (R5.out.keep hb)
        replace R6 := Lib.hid (R6.out.keep hb)
        replace R9 := Lib.hid (R9.out.keep hb)
        replace E := Lib.hid (E.out.to hb)
        replace T := Lib.hid (T.out.below hb T.out.1)
        clear hb
        clear SM
        have SM := Lib.hid (sameints_v (c := c6) (c' := c3) R6.out R3.out h6)
        rw [sameB_refl6] at SM
        go_wp2_with fail
        refine (SM.out).mono ?_
        rintro e v15 ⟨rfl, hb⟩
        replace R0 := Lib.hid (R0.out.keep hb)
        replace R1 := Lib.hid (R1.out.keep hb)
        replace R3 := Lib.hid (R3.out.keep hb)
        replace R5 := Lib.hid (R5.out.keep hb)
        replace R6 := Lib.hid (R6.out.keep hb)
        replace R9 := Lib.hid (R9.out.keep hb)
        replace E := Lib.hid (E.out.to hb)
        replace T := Lib.hid (T.out.below hb T.out.1)
        clear hb
        clear SM
        go_wp2_with fail
        go_ret
        exact ⟨by first | rfl | (go_simp; done), E.out⟩
  · have RT := Lib.hid (right_v (A' := A0) (c' := c0) (n' := n0) R0.out hr0 hr0 false ⟨fun h => (by cases h), fun h => absurd h.1 hD⟩)
    clear hD
    by_cases hbig : 40 < n0
    · have t0 : (n0 : Int) > 40 := by omega
      clear hbig
      go_enter Tryd.func8, Tryd.ntmps8
      go_wp2_with fail
      refine (RT.out).mono ?_
      rintro e v1 ⟨rfl, hb⟩
      replace R0 := Lib.hid (R0.out.keep hb)
      replace R1 := Lib.hid (R1.out.keep hb)
      replace E := Lib.hid (E.out.to hb)
      replace T := Lib.hid (T.out.below hb T.out.1)
      clear hb
      clear RT
      go_wp2_with fail
      refine (SA.out v1 E.out).mono ?_
      rintro e v2 ⟨rfl, hb⟩
      replace R0 := Lib.hid (R0.out.keep hb)
      replace R1 := Lib.hid (R1.out.keep hb)
      replace E := Lib.hid (E.out.to hb)
      replace T := Lib.hid (T.out.below hb T.out.1)
      clear hb
      go_wp2_with fail
      go_ret
      exact ⟨by first | rfl | (go_simp; done), E.out⟩
    · have t0 : ¬ (n0 : Int) > 40 := by omega
      clear hbig
      go_enter Tryd.func8, Tryd.ntmps8
      go_wp2_with fail
      refine (RT.out).mono ?_
      rintro e v1 ⟨rfl, hb⟩
      replace R0 := Lib.hid (R0.out.keep hb)
      replace R1 := Lib.hid (R1.out.keep hb)
      replace E := Lib.hid (E.out.to hb)
      replace T := Lib.hid (T.out.below hb T.out.1)
      clear hb
      clear RT
      go_wp2_with fail
      refine (SA.out v1 E.out).mono ?_
      rintro e v2 ⟨rfl, hb⟩
      replace R0 := Lib.hid (R0.out.keep hb)
      replace R1 := Lib.hid (R1.out.keep hb)
      replace E := Lib.hid (E.out.to hb)
      replace T := Lib.hid (T.out.below hb T.out.1)
      clear hb
      go_wp2_with fail
      go_ret
      exact ⟨by first | rfl | (go_simp; done), E.out⟩
end Go.Proofs.YtbilfhipmebmlaaDoor
