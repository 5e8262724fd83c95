/-
  The contract of the specification's CheckMany. (Written by tools/genrc.py.)
-/
import Derived.Test.YtlgokfgiemaklaaDoorRwk
namespace Go.Proofs.YtlgokfgiemaklaaDoor
set_option linter.unusedVariables false
set_option linter.unusedSimpArgs false
open Go.RowKit

set_option maxRecDepth 100000 in
set_option maxHeartbeats 16000000 in
theorem rchM_v {W : World} {A A' Af : Option Addr} {n c n' c' nf cf : Nat} {path Fd : List (List UInt8)} {ps : List Int} (root : List UInt8) (hr : root.length = 16) (hp : IV W A' n' c' ps) (hf : DV W Af nf cf Fd) (h : DV W A n c path) (hl : n ≤ 1000) (hl' : n' ≤ 1000) (hlf : nf ≤ 1000) (ht : Tbs W) (m : Int) (r : Bool) (hrr : r = chM m ps Fd path root) :
    Calls Tryd.prog 24 #[.int .i64 m, .slice A' n' c', .slice Af nf cf, .slice A n c, av root] W fun e w' => e = .returned (.bool r) ∧ Below W.heap.size W w' := by
  have zroot : Hid (root.length = 16) := hr
  have lroot : Hid ((root.map bv).length = 16) := by show _ = _; rw [List.length_map, zroot.out]
  have sroot := Lib.hid (size_dig16 (root.map bv) lroot.out)
  have oroot := av_one root
  obtain ⟨W1, hW1⟩ : ∃ W1, W1 = W.alloc (.cells (root.map bv).toArray 31) := ⟨_, rfl⟩
  have E : Hid (Below W.heap.size W W1) := by show Below _ _ _; rw [hW1]; exact (Below.refl _ _).alloc (Nat.le_refl _) _
  have Bo : Hid (Blk W1 W.heap.size (root.map bv) 31) := by show Blk _ _ _ _; rw [hW1]; exact Blk.new _ _ _
  have RP := Lib.hid (hp.keep E.out)
  have RF := Lib.hid (hf.keep E.out)
  have R0 := Lib.hid (h.keep E.out)
  have T := Lib.hid (ht.keep E.out)
  have hW1' := Lib.hid hW1
  have hPl := Lib.hid hp.len
  have hFl := Lib.hid hf.len
  have hQl := Lib.hid h.len
  have hrH := Lib.hid hrr
  have hz16 : Hid (z16.length = 16) := rfl
  obtain ⟨ra, hra⟩ : ∃ r, r = ascGo m 0 ps := ⟨_, rfl⟩
  have hraH := Lib.hid hra
  have HA := Lib.hid (fun w (h : IV w A' n' c' ps) => rascend_v h (by omega) m ra hra)
  have HE := Lib.hid (fun w (ht : Tbs w) => refEmpty_any w ht.k)
  have HWk := Lib.hid (fun (k : Nat) (h1 : 1 ≤ k) (h2 : k ≤ 1099511627776) (ha : Asc ps) (hi : ∀ p ∈ ps, (0 : Int) ≤ p ∧ p < (k : Int)) (hnf : n' ≤ nf) w (hp : IV w A' n' c' ps) (hf : DV w Af nf cf Fd) (hq : DV w A n c path) (ht : Tbs w) => (show Calls Tryd.prog 50 #[.int .i64 0, .int .i64 k, .slice A' n' c', .slice Af nf cf, .slice A n c] w _ from refWalk_up k 0 k n' nf n c' cf c ps ps Fd path A' Af A w (Nat.le_refl _) h1 (by omega) hp hl' ha (wth_all (fun p hp => by have := hi p hp; omega)).symm hf hq hlf hl (by have := hp.len; omega) ht))
  obtain ⟨gBo, hgBo⟩ : ∃ g, g = W.heap.size := ⟨_, rfl⟩
  have hgo := Lib.hid hgBo
  rw [← hgBo] at Bo
  unfold av
  clear hW1 ht hp hf h hr hgBo hrr hra
  go_enter Tryd.func24, Tryd.ntmps24
  go_upto_region 1 with fail
  generalize hg : W.alloc _ = Wg
  have hgW : W1 = Wg := by rw [← hg, hW1'.out]
  clear hg hW1'
  subst hgW
  rw [← hgo.out]
  by_cases hm0 : m < 0
  · skip
    have hrF : r = false := by rw [hrH.out]; unfold chM; rw [if_pos (.inl hm0)]
    subst hrF
    go_wp2_with fail
    go_ret
    exact ⟨rfl, E.out⟩
  by_cases hm1 : 1099511627776 < m
  · skip
    have hrF : r = false := by rw [hrH.out]; unfold chM; rw [if_pos (.inr (.inl hm1))]
    subst hrF
    go_wp2_with fail
    go_ret
    exact ⟨rfl, E.out⟩
  cases ra with
  | false =>
    have hrF : r = false := by rw [hrH.out]; unfold chM; rw [if_pos (.inr (.inr (.inl hraH.out.symm)))]
    subst hrF
    go_wp2_with fail
    refine (HA.out _ RP.out).mono ?_
    rintro e v1 ⟨rfl, hb⟩
    replace Bo := Lib.hid (Bo.out.below hb Bo.out.lt)
    replace RP := Lib.hid (RP.out.keep hb)
    replace RF := Lib.hid (RF.out.keep hb)
    replace R0 := Lib.hid (R0.out.keep hb)
    replace E := Lib.hid (E.out.trans (hb.mono E.out.size))
    replace T := Lib.hid (T.out.keep hb)
    clear hb
    go_wp2_with fail
    go_ret
    exact ⟨rfl, E.out⟩
  | true =>
    by_cases hfl : nf = n'
    · have zf : ((nf : Int) != (n' : Int)) = false := by simp; omega
      have hcond : ¬ (m < 0 ∨ 1099511627776 < m ∨ ascGo m 0 ps = false ∨ Fd.length ≠ ps.length) := by
        have h1 := hPl.out; have h2 := hFl.out; have h3 := hraH.out
        rintro (h | h | h | h)
        · omega
        · omega
        · rw [← h3] at h; cases h
        · omega
      have hnfn : Hid (n' ≤ nf) := by show _ ≤ _; omega
      have hFpl : Hid (Fd.length = ps.length) := by have h1 := hPl.out; have h2 := hFl.out; show _ = _; omega
      clear hfl
      by_cases hmz : m = 0
      · have hr0 : r = if path.length = 0 then root == emp else false := by rw [hrH.out]; unfold chM; rw [if_neg hcond, if_pos hmz]
        subst hmz
        by_cases hn0 : n = 0
        · have zn : ((n : Int) == 0) = true := by simp; omega
          rw [if_pos (by have := hQl.out; omega)] at hr0
          obtain ⟨em, hem⟩ : ∃ e, e = emp := ⟨_, rfl⟩
          rw [← hem] at hr0 HE
          have zem : Hid (em.length = 16) := (by show _ = _; rw [hem]; exact emp_len)
          have lem : Hid ((em.map bv).length = 16) := by show _ = _; rw [List.length_map, zem.out]
          have sem := Lib.hid (size_dig16 (em.map bv) lem.out)
          have oem := av_one em
          have hrr := Lib.hid hr0.symm
          unfold av at HE
          clear hr0 hem hcond hn0
          go_wp2_with fail
          refine (HA.out _ RP.out).mono ?_
          rintro e v1 ⟨rfl, hb⟩
          replace Bo := Lib.hid (Bo.out.below hb Bo.out.lt)
          replace RP := Lib.hid (RP.out.keep hb)
          replace RF := Lib.hid (RF.out.keep hb)
          replace R0 := Lib.hid (R0.out.keep hb)
          replace E := Lib.hid (E.out.trans (hb.mono E.out.size))
          replace T := Lib.hid (T.out.keep hb)
          clear hb
          go_wp2_with fail
          have hS0 : Below v1.heap.size v1 v1.drew := (Below.refl _ _).drew
          have hne : Nonempty (SOf (fun W => Below v1.heap.size v1 W)) := ⟨⟨_, hS0⟩⟩
          refine wp_region_planH (fun W => Below v1.heap.size v1 W) [] 9 (by kernel_rfl) (by kernel_rfl) (by kernel_rfl) (by kernel_rfl) (by intro c a d v w h; cases d <;> exact h) hS0 ?_
          change wpPlanH _ _ _ _ _ _ _ _ _ v1.drew
          have hS := Lib.hid hS0
          clear hS0
          generalize v1.drew = x0 at hS ⊢
          refine wpAnyH_of_plan (by kernel_rfl) (by intro c a d v w h; cases d <;> exact h) [0, 1, 2, 3, 4] 4 _ _ _ hS.out (by kernel_rfl) ?_
          refine wpPlanH_plain rfl (fun K hK => ?_); go_simp; refine hK _ ?_; clear hK K
          refine wpPlanH_plain rfl (fun K hK => ?_); go_simp; refine hK _ ?_; clear hK K
          refine wpPlanH_plain rfl (fun K hK => ?_); go_simp; refine hK _ ?_; clear hK K
          refine wpPlanH_plain rfl (fun K hK => ?_); go_simp; refine hK _ ?_; clear hK K
          refine wpPlanH_runW rfl (by rfl) _ (fun x => load_run 31 _ rfl gBo 0 rfl (root.map bv) (.array 16 5) arr_dig rfl sroot.out x.world ((Bo.out.below (show Below v1.heap.size v1 x.world from x.meets) Bo.out.lt).range 0 _ (take_all0 _))) ?_
          refine wpAnyH_each (rs := [5]) (by kernel_rfl) (by decide) (fun K hK q hq => ?_)
          obtain rfl := List.mem_singleton.1 hq
          refine wpOp_listed rfl ?_
          go_wp2_with fail
          refine (HE.out _ (T.out.keep hS.out)).mono ?_
          rintro e x2 ⟨rfl, hbx⟩
          go_wp2_with fail
          have hbn := hS.out.trans (hbx.mono hS.out.size)
          refine postH_normal (hK _ _ _ hbn ?_)
          replace hS := Lib.hid hbn
          clear hK K hbx hbn
          refine wpAnyH_of_plan (by kernel_rfl) (by intro c a d v w h; cases d <;> exact h) [6, 7, 8] 0 _ _ _ hS.out (by kernel_rfl) ?_
          refine wpPlanH_runW rfl (by rfl) _ (fun x => eql_run 31 _ _ _ rfl 16 arr_dig (by kernel_rfl) root em zroot.out zem.out rfl rfl r hrr.out x.world) ?_
          refine wpPlanH_plain rfl (fun K hK => ?_); go_simp; refine hK _ ?_; clear hK K
          refine wpPlanH_plain rfl (fun K hK => ?_); go_simp; refine hK _ ?_; clear hK K
          refine wpAnyH_done (by kernel_rfl) ?_ _
          have hb := hS.out
          clear hS hne
          replace Bo := Lib.hid (Bo.out.below hb Bo.out.lt)
          replace RP := Lib.hid (RP.out.keep hb)
          replace RF := Lib.hid (RF.out.keep hb)
          replace R0 := Lib.hid (R0.out.keep hb)
          replace E := Lib.hid (E.out.trans (hb.mono E.out.size))
          replace T := Lib.hid (T.out.keep hb)
          clear hb
          go_wp2_with fail
          go_ret
          exact ⟨by first | rfl | (go_simp; done), E.out⟩
        · have zn : ((n : Int) == 0) = false := by simp; omega
          rw [if_neg (by have := hQl.out; omega)] at hr0
          subst hr0
          clear hcond hn0
          go_wp2_with fail
          refine (HA.out _ RP.out).mono ?_
          rintro e v1 ⟨rfl, hb⟩
          replace Bo := Lib.hid (Bo.out.below hb Bo.out.lt)
          replace RP := Lib.hid (RP.out.keep hb)
          replace RF := Lib.hid (RF.out.keep hb)
          replace R0 := Lib.hid (R0.out.keep hb)
          replace E := Lib.hid (E.out.trans (hb.mono E.out.size))
          replace T := Lib.hid (T.out.keep hb)
          clear hb
          go_wp2_with fail
          go_quiet (fail)
          go_wp2_with fail
          go_ret
          exact ⟨rfl, below_drewN E.out _⟩
      · have zm : (m == 0) = false := by simpa using hmz
        obtain ⟨k, hk⟩ : ∃ k : Nat, m = k := ⟨m.toNat, by omega⟩
        subst hk
        have hag := ascGo_asc hraH.out.symm
        have hWk := Lib.hid (fun w => HWk.out k (by omega) (by omega) hag.1 (fun p hp => by have := hag.2 p hp; omega) hnfn.out w)
        obtain ⟨x, hx⟩ : ∃ x, x = wlk path 0 k ps (Fd.take ps.length) 0 := ⟨_, rfl⟩
        have hr0 : Hid (r = ((x.1 == root) && ((x.2 : Int) == (path.length : Int)))) := by
          show _ = _
          rw [hrH.out, hx, List.take_of_length_le (Nat.le_of_eq hFpl.out)]
          unfold chM
          rw [if_neg hcond, if_neg hmz]
          rfl
        rw [← hx] at hWk
        clear hag hx hcond HWk HE hmz
        go_wp2_with fail
        refine (HA.out _ RP.out).mono ?_
        rintro e v1 ⟨rfl, hb⟩
        replace Bo := Lib.hid (Bo.out.below hb Bo.out.lt)
        replace RP := Lib.hid (RP.out.keep hb)
        replace RF := Lib.hid (RF.out.keep hb)
        replace R0 := Lib.hid (R0.out.keep hb)
        replace E := Lib.hid (E.out.trans (hb.mono E.out.size))
        replace T := Lib.hid (T.out.keep hb)
        clear hb
        go_wp2_with fail
        refine (hWk.out _ RP.out RF.out R0.out T.out).mono ?_
        rintro e v2 ⟨⟨D, f, p, g, rfl, hw⟩, hb⟩
        replace Bo := Lib.hid (Bo.out.below hb Bo.out.lt)
        replace RP := Lib.hid (RP.out.keep hb)
        replace RF := Lib.hid (RF.out.keep hb)
        replace R0 := Lib.hid (R0.out.keep hb)
        replace E := Lib.hid (E.out.trans (hb.mono E.out.size))
        replace T := Lib.hid (T.out.keep hb)
        clear hb
        have hw' := Lib.hid hw
        have hfin : Hid (((g && (p : Int) == (n : Int)) && D == root) = r) := by
          show _ = _
          rw [hr0.out, ← hw'.out.chk, hQl.out]
        clear hw hWk HA
        have zD : Hid (D.length = 16) := hw'.out.len
        have lD : Hid ((D.map bv).length = 16) := by show _ = _; rw [List.length_map, zD.out]
        have sD := Lib.hid (size_dig16 (D.map bv) lD.out)
        have oD := av_one D
        have hnw := Lib.hid (Blk.new v2 (wkv z16 0 0 false) 85)
        go_upto_region 6 with (refine wpList_row_store rfl 85 _ _ rfl (wkv D f p g) rfl rfl hnw.out (size_wk zD.out _ _ _) ((wkv_len zD.out _ _ _).trans (wkv_len hz16.out _ _ _).symm) (wkv_one _ _ _ _) ?_; intro uw hu ho)
        have hb : Below v2.heap.size v2 uw := ((Below.refl _ _).alloc (Nat.le_refl _) _).trans (ho.below (Nat.le_refl _))
        have BW : Hid (Blk uw v2.heap.size (wkv D f p g) 85) := hu
        clear hu ho hnw
        replace Bo := Lib.hid (Bo.out.below hb Bo.out.lt)
        replace RP := Lib.hid (RP.out.keep hb)
        replace RF := Lib.hid (RF.out.keep hb)
        replace R0 := Lib.hid (R0.out.keep hb)
        replace E := Lib.hid (E.out.trans (hb.mono E.out.size))
        replace T := Lib.hid (T.out.keep hb)
        clear hb
        obtain ⟨gW, hgW⟩ : ∃ g, g = v2.heap.size := ⟨_, rfl⟩
        rw [← hgW] at BW ⊢
        clear hgW
        have c1 := BW.out.cell (wkv_g zD.out f p g)
        have c2 := BW.out.cell (wkv_p zD.out f p g)
        cases g with
        | false =>
          have hrF : r = false := by rw [← hfin.out]; simp
          subst hrF
          go_wp2_with fail
          go_ret
          exact ⟨rfl, E.out⟩
        | true =>
          by_cases hpn : p = n
          · have zp : ((p : Int) == (n : Int)) = true := by simp; omega
            have hq : Hid ((D == root) = r) := by show _ = _; rw [← hfin.out, zp]; simp
            clear hpn
            go_wp2_with (first | (refine wpList_blk_loadW (by rfl) 31 _ rfl 0 rfl BW.out (D.map bv) (wkv_dig zD.out _ _ _) (.array 16 5) arr_dig rfl sD.out ?_) | (refine wpList_blk_loadW (by rfl) 31 _ rfl 0 rfl Bo.out (root.map bv) (take_all0 _) (.array 16 5) arr_dig rfl sroot.out ?_) | (refine wpList_eql_bytes (by rfl) 31 _ _ _ rfl 16 arr_dig (by kernel_rfl) D root zD.out zroot.out rfl rfl r hq.out ?_))
            go_ret
            exact ⟨rfl, E.out⟩
          · have zp : ((p : Int) == (n : Int)) = false := by simp; omega
            have hrF : r = false := by rw [← hfin.out, zp]; simp
            subst hrF
            clear hpn
            go_wp2_with fail
            go_ret
            exact ⟨rfl, E.out⟩
    · have zf : ((nf : Int) != (n' : Int)) = true := by simp; omega
      have hrF : r = false := by rw [hrH.out]; unfold chM; rw [if_pos (.inr (.inr (.inr (by have := hPl.out; have := hFl.out; omega))))]
      subst hrF
      clear hfl
      go_wp2_with fail
      refine (HA.out _ RP.out).mono ?_
      rintro e v1 ⟨rfl, hb⟩
      replace Bo := Lib.hid (Bo.out.below hb Bo.out.lt)
      replace RP := Lib.hid (RP.out.keep hb)
      replace RF := Lib.hid (RF.out.keep hb)
      replace R0 := Lib.hid (R0.out.keep hb)
      replace E := Lib.hid (E.out.trans (hb.mono E.out.size))
      replace T := Lib.hid (T.out.keep hb)
      clear hb
      go_wp2_with fail
      go_ret
      exact ⟨rfl, E.out⟩
end Go.Proofs.YtlgokfgiemaklaaDoor
