/-
  Contracts of stage 5: Solve, its walk.
-/
import Derived.Test.YtfbdhcpclccikaaDoorMv
namespace Go.Proofs.YtfbdhcpclccikaaDoor
set_option linter.unusedVariables false
set_option linter.unusedSimpArgs false
open Go.RowKit

set_option maxRecDepth 100000 in
set_option maxHeartbeats 8000000 in
theorem solve_any (M : List (List UInt8)) (b : List UInt8) (A Ab : Option Addr) (c cb : Nat) (w : World) (h : Mat w w.heap.size A M) (hb : Rds w w.heap.size Ab (b.map bv)) (hl : M.length ≤ 100000) (ht : PTab 0 w) (hg0 : 0 < w.heap.size) :
    Calls Tryd.prog 28 #[.slice A M.length c, .slice Ab b.length cb] w (SolveRet w (solveX M b) (solveK M b) (solveE M b)) := by
  obtain ⟨E, hE0⟩ : ∃ E, E = solveE M b := ⟨_, rfl⟩
  obtain ⟨X, hX0⟩ : ∃ E, E = solveX M b := ⟨_, rfl⟩
  obtain ⟨K, hK0⟩ : ∃ E, E = solveK M b := ⟨_, rfl⟩
  rw [← hE0, ← hX0, ← hK0]
  have CK := Lib.hid (check_any M A c w h (by omega))
  have hM := Lib.hid h
  have hb' := Lib.hid hb
  have hT := Lib.hid ht
  have hg := Lib.hid hg0
  obtain ⟨r, hr0⟩ : ∃ r, r = chk M := ⟨_, rfl⟩
  rw [← hr0] at CK
  have hr := Lib.hid hr0
  have hE := Lib.hid hE0
  have hX := Lib.hid hX0
  have hK := Lib.hid hK0
  have hnone : Hid (E ≠ 0 → X = [] ∧ K = []) := fun hne => by
    rw [hE0] at hne
    rw [hX0, hK0]
    unfold solveX solveK
    rw [if_neg hne, if_neg hne]
    exact ⟨rfl, rfl⟩
  clear h hb ht hg0 hr0 hE0 hX0 hK0
  go_enter Tryd.func28, Tryd.ntmps28
  go_wp2_with fail
  refine CK.out.mono ?_
  rintro e w2 ⟨rfl, hb2⟩
  have hB2 := Lib.hid hb2
  clear hb2
  by_cases h0 : r = 0
  rotate_left
  · have hE' : E = r := by rw [hE.out]; unfold solveE; rw [← hr.out, if_pos h0]
    obtain ⟨rfl, rfl⟩ := hnone.out (by rw [hE']; exact h0)
    subst hE'
    have t : (E == 0) = false := by simpa using h0
    have hfin := Lib.hid (SolveRet.nothing (E := E) hB2.out)
    go_wp2_with fail
    go_ret3
    exact hfin.out
  have hok := Lib.hid (ok_of (by rw [← hr.out]; exact h0))
  subst h0
  by_cases hbl : b.length = M.length
  rotate_left
  · have hE' : E = 1 := by rw [hE.out]; unfold solveE; rw [← hr.out, if_neg (by simp), if_pos hbl]
    obtain ⟨rfl, rfl⟩ := hnone.out (by rw [hE']; decide)
    subst hE'
    have t : ((b.length : Int) != (M.length : Int)) = true := by simp only [bne_iff_ne, ne_eq]; omega
    have hfin := Lib.hid (SolveRet.nothing (E := 1) hB2.out)
    clear hbl
    go_wp2_with fail
    go_ret3
    exact hfin.out
  have t : ((b.length : Int) != (M.length : Int)) = false := by simp only [bne_eq_false_iff_eq]; omega
  have hbl' := Lib.hid hbl
  obtain ⟨rows, hrows0⟩ : ∃ n, n = M.length := ⟨_, rfl⟩
  have hrows := Lib.hid hrows0
  have COL := Lib.hid (columns_any M A c w2 (hM.out.below hB2.out))
  have WID := Lib.hid (widened_any M A c 1 w2 (hM.out.below hB2.out) hB2.out.size (by omega) (fun m hm => by have := hok.out.cols48 m hm; omega) (by omega))
  obtain ⟨n, hn0⟩ : ∃ n, n = cols M := ⟨_, rfl⟩
  have hn := Lib.hid hn0
  have hn48 : n ≤ 48 := by rw [hn0]; exact hok.out.cols_le
  rw [← hn0] at COL
  rw [← hrows0] at COL WID t ⊢
  rw [show b.length = rows by omega] at t ⊢
  have hrl : rows ≤ 100000 := by omega
  clear hbl hn0 hrows0
  go_wp2_with fail
  refine COL.out.mono ?_
  rintro e w3 ⟨rfl, rfl⟩
  go_wp2_with fail
  refine WID.out.mono ?_
  rintro e w4 ⟨⟨g, bs, rfl, hO40⟩, hb4⟩
  have hN4 := Lib.hid (show Nu w3 w4 from hb4)
  have hO4 : Hid (Om w4 w3.heap.size g bs (sysK M b 0) []) := by show Om _ _ _ _ _ _; rw [sysK_zero]; exact hO40
  clear hO40 hb4
  go_wp2_with fail
  go_loopw [29] (fun v wr => ∃ k : Nat, k ≤ rows ∧ v = .int .i64 k ∧ Chg (g :: bs) w4 wr ∧ Om wr w3.heap.size g bs (sysK M b k) []) (fun v _ => rows - (intOf v).toNat)
  case atStart => exact ⟨0, by omega, rfl, Chg.refl _ _, hO4.out⟩
  case round =>
    obtain ⟨k, hk, rfl, hC0, hO0⟩ := hrel
    have hC := Lib.hid hC0
    have hO := Lib.hid hO0
    clear hC0 hO0
    have hgsb : Hid (∀ x ∈ g :: bs, w3.heap.size ≤ x) := fun x hx => by
      rcases List.mem_cons.1 hx with rfl | hx
      · exact hO.out.low
      · exact hO.out.lows x hx
    have hBr : Hid (Below w.heap.size w wr) := hB2.out.trans (Below.mono (Below.trans hN4.out (hC.out.below hgsb.out hN4.out.size)) hB2.out.size)
    by_cases hlk : k < rows
    · have tk : (k : Int) < (rows : Int) := by omega
      have tk0 : 0 ≤ (k : Int) := by omega
      have tn0 : 0 ≤ (n : Int) := by omega
      have tnn : (n : Int) < ((n + 1 : Nat) : Int) := by omega
      have tnn2 : (n : Int) < (n : Int) + 1 := by omega
      obtain ⟨m, hm0⟩ : ∃ m, M[k]? = some m := ⟨_, List.getElem?_eq_getElem (by have := hrows.out; omega)⟩
      have hml : Hid (m.length = n) := by show _ = _; rw [hn.out]; exact hok.out.same m (List.mem_of_getElem? hm0)
      have hmg := Lib.hid hm0
      obtain ⟨y, hy⟩ : ∃ y, b[k]? = some y := ⟨_, List.getElem?_eq_getElem (by have := hbl'.out; have := hrows.out; omega)⟩
      have hyD : Hid (b.getD k 0 = y) := by show _ = _; rw [List.getD_eq_getElem?_getD, hy]; rfl
      have hsg : Hid ((sysK M b k)[k]? = some (m ++ [0])) := by show _ = _; rw [sysK_get, hm0]; simp
      obtain ⟨bi, hbi0, _, _, hci, hki0⟩ := hO.out.at hsg.out
      have hbi := Lib.hid hbi0
      have hki := Lib.hid hki0
      rw [show (m ++ [(0 : UInt8)]).length = n + 1 by rw [List.length_append, hml.out]; rfl] at hci
      obtain ⟨ab, rfl, hab, hcy⟩ := (hb'.out.below hBr.out).look (k := k) (u := bv y) (by rw [List.getElem?_map, hy]; rfl)
      have zi : ∀ z : ExtOf wr.drew, z.world.cell? ⟨g, k, none⟩ = some (.slice (some ⟨bi, 0, none⟩) (n + 1) (n + 1)) := fun z => (Below.cell (p := ⟨g, k, none⟩) (z.ext) hO.out.out.lt).trans hci
      have zy : ∀ z : ExtOf wr.drew, z.world.cell? (ab.add k) = some (.int .u8 y.toNat) := fun z => (Below.cell (p := ab.add k) (z.ext) (by rw [add_block]; exact Nat.lt_of_lt_of_le hab hBr.out.size)).trans hcy
      have hfit : Hid (n + 1 ≤ ((m ++ [(0 : UInt8)]).map bv).length) := by show _ ≤ _; rw [List.length_map, List.length_append, hml.out]; exact Nat.le_refl _
      clear hm0 hy hbi0 hki0 hci hcy
      go_wp2_with fail
      refine wp_region_planL 10 [(true, 0), (true, 1), (true, 2), (true, 3), (true, 4), (true, 5), (true, 6), (true, 7), (true, 8), (true, 9), (false, 10)] (by kernel_rfl) (by decide) (by kernel_rfl) (by kernel_rfl) (by kernel_rfl) (by decide) (by intro c a d v w h; cases d <;> exact h) ?_
      change wpPlanL _ _ _ _ _ _ wr.drew
      iterate 10 (refine wpPlanL_plain rfl (fun K hK => ?_); go_simp; refine hK _ ?_; clear hK K)
      clear zi zy
      refine wpPlanL_call rfl (fun K hK => ?_)
      refine wpList_blk_store rfl 5 _ _ rfl n (bv y) rfl rfl hki.out.drew size_u8 hfit.out (one_u8b y) ?_
      intro w6 hw6 ho6
      refine wpList_end (planPostL_normal ⟨.inl rfl, hK _ _ ?_⟩)
      clear hK K
      refine wpPlanL_nil ?_
      have hkn : Hid (Blk w6 bi ((m ++ [y]).map bv) 5) := by
        show Blk _ _ _ _
        have hh := hw6.out
        rw [show (bv y).cells.toList = [bv y] from rfl, splice_set _ _ _ hfit.out, ← List.map_set, List.set_append_right _ _ (by rw [hml.out]; exact Nat.le_refl _), hml.out, Nat.sub_self] at hh
        exact hh
      have ho6' : Only bi wr w6 := ⟨ho6.os, ho6.tape, ho6.output, ho6.size, ho6.block⟩
      have hO6 : Hid (Om w6 w3.heap.size g bs (sysK M b (k + 1)) []) := by
        show Om _ _ _ _ _ _
        have hh := hO.out.setRow hbi.out hsg.out ho6' hkn.out (by simp)
        rw [← hyD.out, sysK_next M b k m hmg.out] at hh
        exact hh
      have hC6 : Hid (Chg (g :: bs) w4 w6) := hC.out.trans (Chg.only ho6' (List.mem_cons_of_mem _ (List.mem_of_getElem? hbi.out)))
      clear hw6 ho6 ho6'
      go_wp2_with fail
      go_roundw
      case rel => exact ⟨k + 1, by omega, by go_num, hC6.out, hO6.out⟩
      case measure => simp [intOf]; omega
    · have tk : ¬ (k : Int) < (rows : Int) := by omega
      have hOs : Hid (Om wr w3.heap.size g bs (sysM M b) []) := by
        show Om _ _ _ _ _ _
        unfold sysM
        rw [← hrows.out, show rows = k by omega]
        exact hO.out
      have hrs : Hid (Rect (sysM M b) (n + 1)) := by show Rect _ _; rw [hn.out]; exact sysK_rect hok.out.rect b _
      have hsl : Hid ((sysM M b).length = rows) := by show _ = _; unfold sysM; rw [sysK_len]; exact hrows.out.symm
      have SOL := Lib.hid (solution_any (sysM M b) bs g w3.heap.size n wr hOs.out hrs.out (by omega) (by rw [hsl.out]; exact hrl) (hT.out.on hBr.out) (Nat.lt_of_lt_of_le hg.out hB2.out.size))
      rw [hsl.out] at SOL
      obtain ⟨wo, hwo⟩ : ∃ wo, wo = wr := ⟨_, rfl⟩
      subst hwo
      go_wp2_with fail
      refine SOL.out.mono ?_
      rintro e w5 ⟨bs5, hp5, hO50, hC50, hcase⟩
      have hO5 := Lib.hid hO50
      have hB5 : Hid (Below w.heap.size w w5) := hBr.out.trans (hC50.below (fun x hx => Nat.le_trans hB2.out.size (hgsb.out x hx)) hBr.out.size)
      clear hO50 hC50 hp5
      rcases hcase with ⟨hbad, rfl⟩ | ⟨hbad, xb, vp, rfl, hv50, hxb0, hk50, _⟩
      · have hE' : E = 8 := by rw [hE.out]; unfold solveE; rw [← hr.out, if_neg (by simp), if_neg (by rw [hbl'.out]; simp), ← hn.out, if_pos hbad]
        obtain ⟨rfl, rfl⟩ := hnone.out (by rw [hE']; decide)
        subst hE'
        have hfin := Lib.hid (SolveRet.nothing (E := 8) hB5.out)
        clear hbad
        go_wp2_with fail
        go_ret3
        exact hfin.out
      · have hE' : Hid (E = 0) := by show _ = _; rw [hE.out]; unfold solveE; rw [← hr.out, if_neg (by simp), if_neg (by rw [hbl'.out]; simp), ← hn.out, if_neg (by rw [hbad]; simp)]
        have hX' : Hid (X = solX (sysM M b) n) := by show _ = _; rw [hX.out]; unfold solveX; rw [if_pos (by rw [← hE.out]; exact hE'.out), ← hn.out]
        have hK' : Hid (K = kers (red (sysM M b) n).1 (red (sysM M b) n).2 n n) := by show _ = _; rw [hK.out]; unfold solveK; rw [if_pos (by rw [← hE.out]; exact hE'.out), ← hn.out]
        obtain ⟨Ap, cp, hvp, _, _, hnp, hrp0⟩ := own_form hv50
        have hrp := Lib.hid hrp0
        have hkx := Lib.hid hk50
        have hplt := Lib.hid (red_piv_lt hrs.out n)
        have hple := Lib.hid (red_piv_le hrs.out n)
        have hrlen := Lib.hid (red_len hrs.out n)
        have hrrec := Lib.hid (red_rect hrs.out n)
        rw [hsl.out] at hple hrlen
        have hxl : Hid ((solX (sysM M b) n).length = n) := by show _ = _; unfold solX; rw [setP_len]; simp
        generalize (red (sysM M b) n).1 = Mr at hO5 hK' hrlen hrrec
        generalize (red (sysM M b) n).2 = piv at hvp hrp hplt hple hK'
        obtain ⟨pl, hpl0⟩ : ∃ k, k = piv.length := ⟨_, rfl⟩
        have hpl := Lib.hid hpl0
        rw [← hpl0] at hvp
        subst hvp
        clear hbad hv50 hrp0 hk50 hpl0
        go_wp2_with fail
        go_loopw [5, 54] (fun kv v wr => ∃ f : Nat, f ≤ n ∧ v = .int .i64 f ∧ Nu w5 wr ∧ OwnK wr w5.heap.size kv (kers Mr piv n f)) (fun _ v _ => n - (intOf v).toNat)
        case atStart => exact ⟨0, by omega, rfl, Nu.refl _, ownK_nil _ _⟩
        case round =>
          obtain ⟨f, hf, rfl, hN0, hKr0⟩ := hrel
          have hN := Lib.hid hN0
          have hKr := Lib.hid hKr0
          clear hN0 hKr0
          by_cases hlf : f < n
          · have tf : (f : Int) < (n : Int) := by omega
            have CON := Lib.hid (containsI_any piv f Ap cp wr (hrp.out.below hN.out) (by have := hple.out; omega))
            rw [← hpl.out] at CON
            obtain ⟨q, hq⟩ : ∃ q, q = hasB piv f := ⟨_, rfl⟩
            rw [← hq] at CON
            have hks := Lib.hid (kers_succ Mr piv n f)
            rw [← hq] at hks
            obtain ⟨Ak, ck, hkv, _, _, _, _⟩ := hKr.out.mat
            have hkl : Hid ((kers Mr piv n f).length ≤ 1000) := Nat.le_trans (kers_len _ _ _ _) (by omega)
            go_wp2_with fail
            refine CON.out.mono ?_
            rintro e w7 ⟨rfl, rfl⟩
            cases q with
            | true =>
              have hKn : Hid (OwnK w7 w5.heap.size u5 (kers Mr piv n (f + 1))) := by
                show OwnK _ _ _ _
                rw [hks.out, if_pos rfl, List.append_nil]
                exact hKr.out
              clear hkv hq
              go_wp2_with fail
              go_roundw
              case rel => exact ⟨f + 1, by omega, by go_num, hN.out, hKn.out⟩
              case measure => simp [intOf]; omega
            | false =>
              have KER := Lib.hid (kernelRow_any Mr piv (some ⟨g, 0, none⟩) Ap rows rows cp n f (n + 1) w7 ((hO5.out.mat).below hN.out) (hrp.out.below hN.out) hN.out.size hrlen.out.symm hrrec.out (Nat.le_succ _) (by omega) hlf hplt.out hple.out (by omega))
              rw [← hpl.out] at KER
              clear hkv hq
              go_wp2_with fail
              refine KER.out.mono ?_
              rintro e w8 ⟨xk, rfl, hxk, hkk0, hb8⟩
              have hN8 := Lib.hid (Nu.trans _ _ _ hN.out hb8)
              have hK8 := Lib.hid (hKr.out.keep hb8)
              have hkk := Lib.hid hkk0
              have hkn := Lib.hid (kerX_len Mr piv n f)
              have hne8 : Hid (u5.ownBlock ≠ some xk) := by
                obtain ⟨vs, _, h2, _⟩ := hKr.out
                intro hh
                have := (World.ownsRow.lt h2 _ hh).2
                omega
              have hnl : Hid (n = (kerX Mr piv n f).length ∧ (kerX Mr piv n f).length ≤ maxLen) := ⟨hkn.out.symm, by rw [hkn.out]; unfold maxLen; omega⟩
              clear hkk0 hb8 hxk
              go_wp2_with (refine push_ker rfl _ _ rfl w5.heap.size u5 (kers Mr piv n f) xk n (kerX Mr piv n f) _ rfl hnl.out.1 rfl rfl hK8.out hkk.out hne8.out hnl.out.2 (by have := hkl.out; omega) hN8.out.size ?_; intro v9 w9 hk9 hb9)
              have hN9 : Hid (Nu w5 w9) := Below.trans hN8.out hb9
              have hK9 : Hid (OwnK w9 w5.heap.size v9 (kers Mr piv n (f + 1))) := by
                show OwnK _ _ _ _
                rw [hks.out, if_neg (by simp)]
                exact hk9
              clear hk9 hb9
              go_wp2_with fail
              go_roundw
              case rel => exact ⟨f + 1, by omega, by go_num, hN9.out, hK9.out⟩
              case measure => simp [intOf]; omega
          · have tf : ¬ (f : Int) < (n : Int) := by omega
            obtain ⟨Ak, ck, hkv, q1, q2, q3, q4⟩ := hKr.out.mat
            have hfin : Hid (SolveRet w X K E (.returned (.tuple #[.slice (some ⟨xb, 0, none⟩) n n, u5, .int .i64 0])) wr) := by
              have hfn : f = n := by omega
              subst hfn
              refine ⟨⟨.slice (some ⟨xb, 0, none⟩) f f, Ak, ck, ?_, ?_, ?_, q2, q3, ?_⟩, hB5.out.trans (Below.mono hN.out hB5.out.size)⟩
              · rw [hkv, hK'.out, hE'.out]
              · rw [hX'.out]
                refine ⟨some ⟨xb, 0, none⟩, f, by rw [hxl.out], by rw [hxl.out]; exact Nat.le_refl _, by unfold maxLen; omega, (fun hh => by cases hh), ?_⟩
                have hh := (hkx.out.below hN.out hkx.out.lt).rds 0 f
                rw [List.drop_zero, List.take_of_length_le (by rw [List.length_map, hxl.out]; exact Nat.le_refl _)] at hh
                exact hh
              · rw [hK'.out]; exact q1
              · rw [hK'.out]; exact q4
            clear hkv q1 q2 q3 q4
            go_wp2_with fail
            go_ret3
            exact hfin.out
end Go.Proofs.YtfbdhcpclccikaaDoor
