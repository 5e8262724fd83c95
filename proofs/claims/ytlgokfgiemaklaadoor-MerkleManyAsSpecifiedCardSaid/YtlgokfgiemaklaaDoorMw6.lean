/-
  MerkleManyAsSpecified: the walk. (Written by tools/genm6.py.)
-/
import Derived.Test.YtlgokfgiemaklaaDoorRcm
import Derived.Test.YtlgokfgiemaklaaDoorOmk
import Derived.Test.YtlgokfgiemaklaaDoorSn3
namespace Go.Proofs.YtlgokfgiemaklaaDoor
set_option linter.unusedVariables false
set_option linter.unusedSimpArgs false
open Go.RowKit

set_option maxRecDepth 100000 in
set_option maxHeartbeats 16000000 in
theorem walk_many (Al : Option Addr) (cl : Nat) (L : List (List UInt8)) (Ap : Option Addr) (cp : Nat) (P : List Int) (n : Int) (Af : Option Addr) (cf : Nat) (Fd : List (List UInt8)) (Aq : Option Addr) (cq : Nat) (Q : List (List UInt8)) (d : List UInt8) (w : World) (Hl : SlA 16 w Al L.length cl L) (Hp : SlN w Ap P.length cp P) (hn : -9223372036854775808 ≤ n ∧ n ≤ 9223372036854775807) (Hf : SlA 16 w Af Fd.length cf Fd) (Hq : SlA 16 w Aq Q.length cq Q) (hd16 : d.length = 16) (ht : Tbs w) :
    Calls Tryd.prog 4 #[.slice Al L.length cl, .slice Ap P.length cp, .int .i64 n, .slice Af Fd.length cf, .slice Aq Q.length cq, av d] w fun e w' => e = .returned (.bool true) ∧ Below w.heap.size w w' := by
  have RL0 := Lib.hid (slA_dv Hl)
  have RP0 := Lib.hid (slN_iv Hp)
  have RF0 := Lib.hid (slA_dv Hf)
  have RQ0 := Lib.hid (slA_dv Hq)
  have SA := Lib.hid (fun W (h : Tbs W) => sanity_any3 W h)
  obtain ⟨nl, hnl⟩ : ∃ n, n = L.length := ⟨_, rfl⟩
  obtain ⟨np, hnp⟩ : ∃ n, n = P.length := ⟨_, rfl⟩
  obtain ⟨nf, hnf⟩ : ∃ n, n = Fd.length := ⟨_, rfl⟩
  obtain ⟨nq, hnq⟩ : ∃ n, n = Q.length := ⟨_, rfl⟩
  have r1 := Hl.reach
  have r2 := Hp.reach
  have r3 := Hf.reach
  have r4 := Hq.reach
  rw [← hnl] at RL0 r1 ⊢
  rw [← hnp] at RP0 r2 ⊢
  rw [← hnf] at RF0 r3 ⊢
  rw [← hnq] at RQ0 r4 ⊢
  clear hnl hnp hnf hnq Hl Hp Hf Hq
  have zd : Hid (d.length = 16) := hd16
  have ld : Hid ((d.map bv).length = 16) := by show _ = _; rw [List.length_map, zd.out]
  have sd := Lib.hid (size_dig16 (d.map bv) ld.out)
  have od := av_one d
  obtain ⟨W1, hW1⟩ : ∃ W1, W1 = w.alloc (.cells (d.map bv).toArray 31) := ⟨_, rfl⟩
  have E : Hid (Below w.heap.size w W1) := by show Below _ _ _; rw [hW1]; exact (Below.refl _ _).alloc (Nat.le_refl _) _
  have Bd : Hid (Blk W1 w.heap.size (d.map bv) 31) := by show Blk _ _ _ _; rw [hW1]; exact Blk.new _ _ _
  have RL := Lib.hid (RL0.out.keep E.out)
  have RP := Lib.hid (RP0.out.keep E.out)
  have RF := Lib.hid (RF0.out.keep E.out)
  have RQ := Lib.hid (RQ0.out.keep E.out)
  have T := Lib.hid (ht.keep E.out)
  have hW1' := Lib.hid hW1
  obtain ⟨gBd, hgBd⟩ : ∃ g, g = w.heap.size := ⟨_, rfl⟩
  have hgo := Lib.hid hgBd
  rw [← hgBd] at Bd
  unfold av
  clear hW1 ht hd16 RL0 RP0 RF0 RQ0 hgBd
  go_enter Tryd.func4, Tryd.ntmps4
  go_upto_region 1 with fail
  generalize hg : w.alloc _ = Wg
  have hgW : W1 = Wg := by rw [← hg, hW1'.out]
  clear hg hW1'
  subst hgW
  rw [← hgo.out]
  by_cases hb0 : 40 < nl
  · have t0 : (40 : Int) < (nl : Int) := by omega
    clear hb0
    go_wp2_with fail
    refine (SA.out _ T.out).mono ?_
    rintro e v1 ⟨rfl, hb⟩
    replace Bd := Lib.hid (Bd.out.below hb Bd.out.lt)
    replace RL := Lib.hid (RL.out.keep hb)
    replace RP := Lib.hid (RP.out.keep hb)
    replace RF := Lib.hid (RF.out.keep hb)
    replace RQ := Lib.hid (RQ.out.keep hb)
    replace E := Lib.hid (E.out.trans (hb.mono E.out.size))
    replace T := Lib.hid (T.out.keep hb)
    clear hb
    go_wp2_with fail
    go_ret
    exact ⟨by first | rfl | (go_simp; done), E.out⟩
  have t0 : ¬ (40 : Int) < (nl : Int) := by omega
  by_cases hb1 : 12 < np
  · have t1 : (12 : Int) < (np : Int) := by omega
    clear hb0 hb1
    go_wp2_with fail
    refine (SA.out _ T.out).mono ?_
    rintro e v1 ⟨rfl, hb⟩
    replace Bd := Lib.hid (Bd.out.below hb Bd.out.lt)
    replace RL := Lib.hid (RL.out.keep hb)
    replace RP := Lib.hid (RP.out.keep hb)
    replace RF := Lib.hid (RF.out.keep hb)
    replace RQ := Lib.hid (RQ.out.keep hb)
    replace E := Lib.hid (E.out.trans (hb.mono E.out.size))
    replace T := Lib.hid (T.out.keep hb)
    clear hb
    go_wp2_with fail
    go_ret
    exact ⟨by first | rfl | (go_simp; done), E.out⟩
  have t1 : ¬ (12 : Int) < (np : Int) := by omega
  by_cases hb2 : 12 < nf
  · have t2 : (12 : Int) < (nf : Int) := by omega
    clear hb0 hb1 hb2
    go_wp2_with fail
    refine (SA.out _ T.out).mono ?_
    rintro e v1 ⟨rfl, hb⟩
    replace Bd := Lib.hid (Bd.out.below hb Bd.out.lt)
    replace RL := Lib.hid (RL.out.keep hb)
    replace RP := Lib.hid (RP.out.keep hb)
    replace RF := Lib.hid (RF.out.keep hb)
    replace RQ := Lib.hid (RQ.out.keep hb)
    replace E := Lib.hid (E.out.trans (hb.mono E.out.size))
    replace T := Lib.hid (T.out.keep hb)
    clear hb
    go_wp2_with fail
    go_ret
    exact ⟨by first | rfl | (go_simp; done), E.out⟩
  have t2 : ¬ (12 : Int) < (nf : Int) := by omega
  by_cases hb3 : 60 < nq
  · have t3 : (60 : Int) < (nq : Int) := by omega
    clear hb0 hb1 hb2 hb3
    go_wp2_with fail
    refine (SA.out _ T.out).mono ?_
    rintro e v1 ⟨rfl, hb⟩
    replace Bd := Lib.hid (Bd.out.below hb Bd.out.lt)
    replace RL := Lib.hid (RL.out.keep hb)
    replace RP := Lib.hid (RP.out.keep hb)
    replace RF := Lib.hid (RF.out.keep hb)
    replace RQ := Lib.hid (RQ.out.keep hb)
    replace E := Lib.hid (E.out.trans (hb.mono E.out.size))
    replace T := Lib.hid (T.out.keep hb)
    clear hb
    go_wp2_with fail
    go_ret
    exact ⟨by first | rfl | (go_simp; done), E.out⟩
  have t3 : ¬ (60 : Int) < (nq : Int) := by omega
  obtain ⟨X, hX⟩ : ∃ X, X = mnQ L P := ⟨_, rfl⟩
  obtain ⟨xe, hx⟩ : ∃ x, x = mnE L P := ⟨_, rfl⟩
  obtain ⟨r, hr⟩ : ∃ r, r = chM n P Fd Q d := ⟨_, rfl⟩
  have hXl : Hid (X.length ≤ 1000000) := by
    show _ ≤ _
    rw [hX]; unfold mnQ; split
    · rename_i h
      have := mny_len _ 0 L P (Nat.le_refl _) h.2
      have := RL.out.len
      omega
    · simp
  have HM := Lib.hid (fun W (h : DV W Al nl cl L) (h' : IV W Ap np cp P) (ht : Tbs W) => many_v h h' (by omega) (by omega) ht X xe hX hx)
  have RM := Lib.hid (fun W (h : DV W Al nl cl L) (h' : IV W Ap np cp P) (ht : Tbs W) => rmany_v h h' (by omega) (by omega) ht X xe hX hx)
  have CM := Lib.hid (fun W (hp : IV W Ap np cp P) (hf : DV W Af nf cf Fd) (h : DV W Aq nq cq Q) (ht : Tbs W) => chM_v d zd.out hp hf h (by omega) ht n r hr)
  have CR := Lib.hid (fun W (hp : IV W Ap np cp P) (hf : DV W Af nf cf Fd) (h : DV W Aq nq cq Q) (ht : Tbs W) => rchM_v d zd.out hp hf h (by omega) (by omega) (by omega) ht n r hr)
  have SM := Lib.hid (fun W A n c' A' n' c'' (h : DV W A n c' X) (h' : DV W A' n' c'' X) (hl : n ≤ 1000000) => same_v h h' hl true (by simp))
  obtain ⟨dp, hdp, hdpr⟩ := row_path
  have e1 : (xe == xe) = true := by simp
  have e2 : (r == r) = true := by cases r <;> rfl
  unfold av at CM CR
  clear hX hx hr hb0 hb1 hb2 hb3
  go_wp2_with fail
  refine (HM.out _ RL.out RP.out T.out).mono ?_
  rintro e v1 ⟨Aa, na, ca, rfl, h0, hb⟩
  have Ra := Lib.hid h0
  clear h0
  replace Bd := Lib.hid (Bd.out.below hb Bd.out.lt)
  replace RL := Lib.hid (RL.out.keep hb)
  replace RP := Lib.hid (RP.out.keep hb)
  replace RF := Lib.hid (RF.out.keep hb)
  replace RQ := Lib.hid (RQ.out.keep hb)
  replace E := Lib.hid (E.out.trans (hb.mono E.out.size))
  replace T := Lib.hid (T.out.keep hb)
  clear hb
  go_wp2_with fail
  refine (RM.out _ RL.out RP.out T.out).mono ?_
  rintro e v2 ⟨Ax, nx0, cx, rfl, h0, hb⟩
  have Rx := Lib.hid h0
  clear h0
  replace Bd := Lib.hid (Bd.out.below hb Bd.out.lt)
  replace RL := Lib.hid (RL.out.keep hb)
  replace RP := Lib.hid (RP.out.keep hb)
  replace RF := Lib.hid (RF.out.keep hb)
  replace RQ := Lib.hid (RQ.out.keep hb)
  replace Ra := Lib.hid (Ra.out.keep hb)
  replace E := Lib.hid (E.out.trans (hb.mono E.out.size))
  replace T := Lib.hid (T.out.keep hb)
  clear hb
  go_wp2_with fail
  generalize hgu : v2.alloc _ = u2
  have hb : Below v2.heap.size v2 u2 := by rw [← hgu]; exact (Below.refl _ _).alloc (Nat.le_refl _) _
  have Bx : Hid (Blk u2 v2.heap.size [.slice Ax nx0 cx, .int .i64 xe] 28) := by rw [← hgu]; exact Blk.new _ [.slice Ax nx0 cx, .int .i64 xe] _
  clear hgu
  replace Bd := Lib.hid (Bd.out.below hb Bd.out.lt)
  replace RL := Lib.hid (RL.out.keep hb)
  replace RP := Lib.hid (RP.out.keep hb)
  replace RF := Lib.hid (RF.out.keep hb)
  replace RQ := Lib.hid (RQ.out.keep hb)
  replace Ra := Lib.hid (Ra.out.keep hb)
  replace Rx := Lib.hid (Rx.out.keep hb)
  replace E := Lib.hid (E.out.trans (hb.mono E.out.size))
  replace T := Lib.hid (T.out.keep hb)
  clear hb
  obtain ⟨gBx, hgBx⟩ : ∃ g, g = v2.heap.size := ⟨_, rfl⟩
  rw [← hgBx] at Bx ⊢
  clear hgBx
  have hS0 : Below u2.heap.size u2 u2.drew := (Below.refl _ _).drew
  have hne : Nonempty (SOf (fun W => Below u2.heap.size u2 W)) := ⟨⟨_, hS0⟩⟩
  have qx0 : ∀ x : SOf (fun W => Below u2.heap.size u2 W), x.world.cell? ⟨gBx, 0, none⟩ = some (.slice Ax nx0 cx) := fun x => by have hb : Below u2.heap.size u2 x.world := x.meets; exact (Bx.out.below hb Bx.out.lt).cell (j := 0) rfl
  have qx1 : ∀ x : SOf (fun W => Below u2.heap.size u2 W), x.world.cell? ⟨gBx, 1, none⟩ = some (.int .i64 xe) := fun x => by have hb : Below u2.heap.size u2 x.world := x.meets; exact (Bx.out.below hb Bx.out.lt).cell (j := 1) rfl
  refine wp_region_planH (fun W => Below u2.heap.size u2 W) [] 29 (by kernel_rfl) (by kernel_rfl) (by kernel_rfl) (by kernel_rfl) (by intro c a d v w h; cases d <;> exact h) hS0 ?_
  change wpPlanH _ _ _ _ _ _ _ _ _ u2.drew
  have hS := Lib.hid hS0
  clear hS0
  generalize u2.drew = x0 at hS ⊢
  refine wpAnyH_each (rs := [0]) (by kernel_rfl) (by decide) (fun K hK q hq => ?_)
  obtain rfl := List.mem_singleton.1 hq
  refine wpOp_listed rfl ?_
  go_wp2_with fail
  refine (SA.out _ (T.out.keep hS.out)).mono ?_
  rintro e x3 ⟨rfl, hbx⟩
  go_wp2_with fail
  have hbn := hS.out.trans (hbx.mono hS.out.size)
  refine postH_normal (hK _ _ _ hbn ?_)
  replace hS := Lib.hid hbn
  clear hK K hbx hbn
  refine wpAnyH_of_plan (by kernel_rfl) (by intro c a d v w h; cases d <;> exact h) [1, 2, 3, 4] 24 _ _ _ hS.out (by kernel_rfl) ?_
  refine wpPlanH_plain rfl (fun K hK => ?_); go_simp; refine hK _ ?_; clear hK K
  refine wpPlanH_plain rfl (fun K hK => ?_); go_simp; refine hK _ ?_; clear hK K
  refine wpPlanH_plain rfl (fun K hK => ?_); go_simp; refine hK _ ?_; clear hK K
  refine wpPlanH_plain rfl (fun K hK => ?_); go_simp; refine hK _ ?_; clear hK K
  refine wpAnyH_each (rs := [5]) (by kernel_rfl) (by decide) (fun K hK q hq => ?_)
  obtain rfl := List.mem_singleton.1 hq
  refine wpOp_listed rfl ?_
  go_wp2_with fail
  refine (SM.out _ _ _ _ _ _ _ (Ra.out.keep hS.out) (Rx.out.keep hS.out) (by rw [Ra.out.len]; exact hXl.out)).mono ?_
  rintro e x4 ⟨rfl, hbx⟩
  go_wp2_with fail
  have hbn := hS.out.trans (hbx.mono hS.out.size)
  refine postH_normal (hK _ _ _ hbn ?_)
  replace hS := Lib.hid hbn
  clear hK K hbx hbn
  refine wpAnyH_of_plan (by kernel_rfl) (by intro c a d v w h; cases d <;> exact h) [6, 7, 8, 9, 10, 11, 12, 13, 14, 15, 16, 17, 18, 20, 21, 22, 23, 24] 5 _ _ _ hS.out (by kernel_rfl) ?_
  refine wpPlanH_plain rfl (fun K hK => ?_); go_simp; refine hK _ ?_; clear hK K
  refine wpPlanH_plain rfl (fun K hK => ?_); go_simp; refine hK _ ?_; clear hK K
  refine wpPlanH_plain rfl (fun K hK => ?_); go_simp; refine hK _ ?_; clear hK K
  refine wpPlanH_plain rfl (fun K hK => ?_); go_simp; refine hK _ ?_; clear hK K
  refine wpPlanH_plain rfl (fun K hK => ?_); go_simp; refine hK _ ?_; clear hK K
  refine wpPlanH_plain rfl (fun K hK => ?_); go_simp; refine hK _ ?_; clear hK K
  refine wpPlanH_plain rfl (fun K hK => ?_); go_simp; refine hK _ ?_; clear hK K
  refine wpPlanH_plain rfl (fun K hK => ?_); go_simp; refine hK _ ?_; clear hK K
  refine wpPlanH_plain rfl (fun K hK => ?_); go_simp; refine hK _ ?_; clear hK K
  refine wpPlanH_plain rfl (fun K hK => ?_); go_simp; refine hK _ ?_; clear hK K
  refine wpPlanH_plain rfl (fun K hK => ?_); go_simp; refine hK _ ?_; clear hK K
  refine wpPlanH_plain rfl (fun K hK => ?_); go_simp; refine hK _ ?_; clear hK K
  refine wpPlanH_runW rfl (by rfl) _ (fun x => load_run 31 _ rfl gBd 0 rfl (d.map bv) (.array 16 5) arr_dig rfl sd.out x.world ((Bd.out.below (show Below u2.heap.size u2 x.world from x.meets) Bd.out.lt).range 0 _ (take_all0 _))) ?_
  refine wpPlanH_plain rfl (fun K hK => ?_); go_simp; refine hK _ ?_; clear hK K
  refine wpPlanH_plain rfl (fun K hK => ?_); go_simp; refine hK _ ?_; clear hK K
  refine wpPlanH_plain rfl (fun K hK => ?_); go_simp; refine hK _ ?_; clear hK K
  refine wpPlanH_plain rfl (fun K hK => ?_); go_simp; refine hK _ ?_; clear hK K
  refine wpPlanH_runW rfl (by rfl) _ (fun x => load_run 31 _ rfl gBd 0 rfl (d.map bv) (.array 16 5) arr_dig rfl sd.out x.world ((Bd.out.below (show Below u2.heap.size u2 x.world from x.meets) Bd.out.lt).range 0 _ (take_all0 _))) ?_
  refine wpAnyH_each (rs := [19]) (by kernel_rfl) (by decide) (fun K hK q hq => ?_)
  obtain rfl := List.mem_singleton.1 hq
  refine wpOp_listed rfl ?_
  go_wp2_with fail
  refine (CM.out _ (RP.out.keep hS.out) (RF.out.keep hS.out) (RQ.out.keep hS.out) (T.out.keep hS.out)).mono ?_
  rintro e x5 ⟨rfl, hbx⟩
  go_wp2_with fail
  have hbn := hS.out.trans (hbx.mono hS.out.size)
  refine postH_normal (hK _ _ _ hbn ?_)
  replace hS := Lib.hid hbn
  clear hK K hbx hbn
  refine wpAnyH_each (rs := [25]) (by kernel_rfl) (by decide) (fun K hK q hq => ?_)
  obtain rfl := List.mem_singleton.1 hq
  refine wpOp_listed rfl ?_
  go_wp2_with fail
  refine (CR.out _ (RP.out.keep hS.out) (RF.out.keep hS.out) (RQ.out.keep hS.out) (T.out.keep hS.out)).mono ?_
  rintro e x6 ⟨rfl, hbx⟩
  go_wp2_with fail
  have hbn := hS.out.trans (hbx.mono hS.out.size)
  refine postH_normal (hK _ _ _ hbn ?_)
  replace hS := Lib.hid hbn
  clear hK K hbx hbn
  refine wpAnyH_of_plan (by kernel_rfl) (by intro c a d v w h; cases d <;> exact h) [26, 27, 28] 0 _ _ _ hS.out (by kernel_rfl) ?_
  refine wpPlanH_plain rfl (fun K hK => ?_); go_simp; refine hK _ ?_; clear hK K
  refine wpPlanH_plain rfl (fun K hK => ?_); go_simp; refine hK _ ?_; clear hK K
  refine wpPlanH_plain rfl (fun K hK => ?_); go_simp; refine hK _ ?_; clear hK K
  clear qx0 qx1
  refine wpAnyH_done (by kernel_rfl) ?_ _
  have hb := hS.out
  clear hS hne
  replace Bd := Lib.hid (Bd.out.below hb Bd.out.lt)
  replace Bx := Lib.hid (Bx.out.below hb Bx.out.lt)
  replace RL := Lib.hid (RL.out.keep hb)
  replace RP := Lib.hid (RP.out.keep hb)
  replace RF := Lib.hid (RF.out.keep hb)
  replace RQ := Lib.hid (RQ.out.keep hb)
  replace Ra := Lib.hid (Ra.out.keep hb)
  replace Rx := Lib.hid (Rx.out.keep hb)
  replace E := Lib.hid (E.out.trans (hb.mono E.out.size))
  replace T := Lib.hid (T.out.keep hb)
  clear hb
  go_wp2_with fail
  go_ret
  exact ⟨by first | rfl | (go_simp; done), E.out⟩
end Go.Proofs.YtlgokfgiemaklaaDoor
