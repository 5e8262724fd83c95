/-
  Stage 10 (domain): the walk of DomainNamesAsSpecified. (Written by tools/gendmz.py.)
-/
import Derived.Test.YtoonpgedioocgaaDmy
import Derived.Test.YtoonpgedioocgaaDmj
namespace Go.Proofs.Ytoonpgedioocgaa
set_option linter.unusedVariables false
set_option linter.unusedSimpArgs false
open Go.RowKit

theorem memI_le (d : Dm) (lv b : Int) : (d.memI lv b).length ≤ d.D.length := by
  unfold Dm.memI Dm.memT
  rw [List.length_map]
  refine Nat.le_trans (List.length_filter_le _ _) ?_
  simp
section
variable {B : Nat} {w : World} {h : Hd} {d : Dm} {A A' : Option Addr} {n n' c c' : Nat} {l : List Int}
theorem memZ (hsm : d.D.length ≤ 100000) (lv b : Int) (m : DomM w B h d) : Calls Try.prog 14 #[h.val, .int .i64 lv, .int .i64 b] w fun e w' => ∃ A n c, e = .returned (.slice A n c) ∧ n = (d.memI lv b).length ∧ n ≤ 100000 ∧ Rds w' w'.heap.size A ((d.memI lv b).map iv) ∧ Below w.heap.size w w' := by
  refine (dmem_any h d lv b w m hsm).mono ?_
  rintro e w' ⟨v, rfl, o, hb⟩
  obtain ⟨A, c, rfl, _, _, _, r⟩ := o.slice
  exact ⟨A, _, c, rfl, rfl, Nat.le_trans (memI_le d lv b) hsm, r, hb⟩
theorem rmemZ (hsm : d.D.length ≤ 100000) (lv b : Int) (m : DomM w B h d) : Calls Try.prog 15 #[h.val, .int .i64 lv, .int .i64 b] w fun e w' => ∃ A n c, e = .returned (.slice A n c) ∧ n = (d.memI lv b).length ∧ n ≤ 100000 ∧ Rds w' w'.heap.size A ((d.memI lv b).map iv) ∧ Below w.heap.size w w' := by
  refine (rmem_any h d lv b w m hsm).mono ?_
  rintro e w' ⟨v, rfl, o, hb⟩
  obtain ⟨A, c, rfl, _, _, _, r⟩ := o.slice
  exact ⟨A, _, c, rfl, rfl, Nat.le_trans (memI_le d lv b) hsm, r, hb⟩
theorem sameT {B' : Nat} (hn : n = l.length) (hn' : n' = l.length) (hs : n ≤ 100000) (r : Rds w B A (l.map iv)) (r' : Rds w B' A' (l.map iv)) : Calls Try.prog 13 #[.slice A n c, .slice A' n' c'] w fun e w' => e = .returned (.bool true) ∧ Below w.heap.size w w' := by
  refine (sameZ_any l l A A' n n' c c' w r r' hn hn' (by omega)).mono ?_
  rintro e w' ⟨rfl, k, rfl⟩
  have : sameZ l l = true := by unfold sameZ; simp
  rw [this]
  exact ⟨rfl, below_drewN (Below.refl _ _) k⟩
end

set_option maxRecDepth 100000 in
set_option maxHeartbeats 8000000 in
theorem names_walk (h : Hd) (d : Dm) (lv a b : Int) (w : World) (m : DomM w w.heap.size h d) :
    Calls Try.prog 3 #[h.val, .agg #[.int .i64 lv, .int .i64 a, .int .i64 b]] w fun e w' => e = .returned (.bool true) ∧ Below w.heap.size w w' := by
  have hdd := Lib.hid size_dom
  have hun : Hid (Try.prog.underlying 25 = _) := Try.underlying25
  obtain ⟨Ck, hCk⟩ : ∃ x, x = d.chk := ⟨_, rfl⟩
  obtain ⟨Sz, hSz⟩ : ∃ x, x = d.size lv := ⟨_, rfl⟩
  obtain ⟨Of, hOf⟩ : ∃ x, x = d.of lv a := ⟨_, rfl⟩
  obtain ⟨Rl, hRl⟩ : ∃ x, x = d.rel a b := ⟨_, rfl⟩
  have C1 : Hid (∀ W, DomM W w.heap.size h d → Calls Try.prog 16 #[h.val] W fun e w' => e = .returned (.int .i64 Ck) ∧ Below W.heap.size W w') := fun W m => by rw [hCk]; exact dcheck_any h d W m
  have C2 : Hid (∀ W, DomM W w.heap.size h d → Calls Try.prog 17 #[h.val] W fun e w' => e = .returned (.int .i64 Ck) ∧ Below W.heap.size W w') := fun W m => by rw [hCk]; exact rcheck_any h d W m
  have S1 : Hid (∀ W, DomM W w.heap.size h d → Calls Try.prog 9 #[h.val, .int .i64 lv] W fun e w' => e = .returned (.int .i64 Sz) ∧ Below W.heap.size W w') := fun W m => by rw [hSz]; exact dsize_any h d lv W m
  have S2 : Hid (∀ W, DomM W w.heap.size h d → Calls Try.prog 10 #[h.val, .int .i64 lv] W fun e w' => e = .returned (.int .i64 Sz) ∧ Below W.heap.size W w') := fun W m => by rw [hSz]; exact rsize_any h d lv W m
  have O1 : Hid (∀ W, DomM W w.heap.size h d → Calls Try.prog 11 #[h.val, .int .i64 lv, .int .i64 a] W fun e w' => e = .returned (.int .i64 Of) ∧ Below W.heap.size W w') := fun W m => by rw [hOf]; exact dof_any h d lv a W m
  have O2 : Hid (∀ W, DomM W w.heap.size h d → Calls Try.prog 12 #[h.val, .int .i64 lv, .int .i64 a] W fun e w' => e = .returned (.int .i64 Of) ∧ Below W.heap.size W w') := fun W m => by rw [hOf]; exact rof_any h d lv a W m
  have R1 : Hid (∀ W, DomM W w.heap.size h d → Calls Try.prog 18 #[h.val, .int .i64 a, .int .i64 b] W fun e w' => e = .returned (.int .i64 Rl) ∧ Below W.heap.size W w') := fun W m => by rw [hRl]; exact drel_any h d a b W m
  have R2 : Hid (∀ W, DomM W w.heap.size h d → Calls Try.prog 19 #[h.val, .int .i64 a, .int .i64 b] W fun e w' => e = .returned (.int .i64 Rl) ∧ Below W.heap.size W w') := fun W m => by rw [hRl]; exact rrel_any h d a b W m
  have hfew := Lib.hid (fun W => few10_any h 80 W (by decide) m.s1 m.s2 m.s3)
  obtain ⟨W0, hW⟩ : ∃ W, W = (w.alloc (.cells h.cells.toArray 25)).alloc (.cells #[.int .i64 lv, .int .i64 a, .int .i64 b] 26) := ⟨_, rfl⟩
  have hb : Below w.heap.size w W0 := by rw [hW]; exact ((Below.refl _ _).alloc (Nat.le_refl _) _).alloc (by simp) _
  have E := Lib.hid hb
  have M1 := Lib.hid (m.below hb)
  have X1 : Hid (Blk W0 w.heap.size h.cells 25) := by show Blk _ _ _ _; rw [hW]; exact (Blk.new _ _ _).alloc _
  have X2 : Hid (Blk W0 (w.heap.size + 1) [.int .i64 lv, .int .i64 a, .int .i64 b] 26) := by show Blk _ _ _ _; rw [hW]; exact (Blk.new _ _ _).at (by simp)
  have hW' := Lib.hid hW
  have hln : Hid (h.n1 = d.D.length) := m.l1
  clear hW hb m hCk hSz hOf hRl
  have tS : (Sz == Sz) = true := by simp
  have tO : (Of == Of) = true := by simp
  have tC : (Ck == Ck) = true := by simp
  have tR : (Rl == Rl) = true := by simp
  unfold Hd.cells at hW' X1
  have hMV := Lib.hid (fun hsm W (m : DomM W w.heap.size h d) => memZ hsm lv b m)
  have hMW := Lib.hid (fun hsm W (m : DomM W w.heap.size h d) => rmemZ hsm lv b m)
  unfold Hd.val at *
  obtain ⟨fw, hfw0⟩ : ∃ x, x = decide (h.n1 ≤ 80 ∧ h.n2 ≤ 80 ∧ h.n3 ≤ 80) := ⟨_, rfl⟩
  rw [← hfw0] at hfew
  have hfw := Lib.hid hfw0
  clear hfw0
  cases fw with
  | false =>
    go_enter Try.func3, Try.ntmps3
    go_wp2_with fail
    generalize hg : (w.alloc _).alloc _ = Wg
    have hgW : W0 = Wg := by rw [← hg, hW'.out]
    clear hg hW'
    subst hgW
    go_wp2_with (refine wpList_blk_load rfl 25 _ rfl 0 rfl X1.out _ (take_all0 _) _ hun.out rfl hdd.out ?_)
    refine (hfew.out W0).mono ?_
    rintro e w2 ⟨rfl, hb⟩
    have hbp := Lib.hid hb
    replace E : Hid (Below w.heap.size w w2) := E.out.trans (hb.mono E.out.size)
    replace M1 := Lib.hid (M1.out.below hb)
    replace X1 := Lib.hid (X1.out.below hb X1.out.lt)
    replace X2 := Lib.hid (X2.out.below hb X2.out.lt)
    clear hb
    clear hbp
    go_wp2_with fail
    refine (sanity_any10 _).mono ?_
    rintro e w3 ⟨rfl, hb⟩
    have hbp := Lib.hid hb
    replace E : Hid (Below w.heap.size w w3) := E.out.trans (hb.mono E.out.size)
    replace M1 := Lib.hid (M1.out.below hb)
    replace X1 := Lib.hid (X1.out.below hb X1.out.lt)
    replace X2 := Lib.hid (X2.out.below hb X2.out.lt)
    clear hb
    clear hbp
    go_wp2_with fail
    go_ret
    exact ⟨rfl, E.out⟩
  | true =>
  have hsm : Hid (d.D.length ≤ 100000) := by have := of_decide_eq_true hfw.out.symm; have := hln.out; show _ ≤ _; omega
  go_enter Try.func3, Try.ntmps3
  go_wp2_with fail
  generalize hg : (w.alloc _).alloc _ = Wg
  have hgW : W0 = Wg := by rw [← hg, hW'.out]
  clear hg hW'
  subst hgW
  go_wp2_with (refine wpList_blk_load rfl 25 _ rfl 0 rfl X1.out _ (take_all0 _) _ hun.out rfl hdd.out ?_)
  refine (hfew.out W0).mono ?_
  rintro e w2 ⟨rfl, hb⟩
  have hbp := Lib.hid hb
  replace E : Hid (Below w.heap.size w w2) := E.out.trans (hb.mono E.out.size)
  replace M1 := Lib.hid (M1.out.below hb)
  replace X1 := Lib.hid (X1.out.below hb X1.out.lt)
  replace X2 := Lib.hid (X2.out.below hb X2.out.lt)
  clear hb
  clear hbp
  have p0 := X2.out.cell (j := 0) rfl
  have p1 := X2.out.cell (j := 1) rfl
  have p2 := X2.out.cell (j := 2) rfl
  go_wp2_with fail
  replace p0 : ∀ x : ExtOf w2.drew, x.world.cell? ⟨w.heap.size + 1, 0, none⟩ = some (.int .i64 lv) := fun x => (X2.out.drew.below x.ext X2.out.lt).cell (j := 0) rfl
  replace p1 : ∀ x : ExtOf w2.drew, x.world.cell? ⟨w.heap.size + 1, 1, none⟩ = some (.int .i64 a) := fun x => (X2.out.drew.below x.ext X2.out.lt).cell (j := 1) rfl
  replace p2 : ∀ x : ExtOf w2.drew, x.world.cell? ⟨w.heap.size + 1, 2, none⟩ = some (.int .i64 b) := fun x => (X2.out.drew.below x.ext X2.out.lt).cell (j := 2) rfl
  refine wp_region_planM [] [(true, 0), (true, 1), (true, 2), (true, 3), (true, 4), (true, 5), (true, 6), (true, 7), (true, 8)] (by decide) (by kernel_rfl) (by kernel_rfl) (by decide) (by intro c a d v w h; cases d <;> exact h) ?_
  change wpPlanM _ _ _ _ _ _ w2.drew
  iterate 9 (refine wpPlanM_plain rfl (fun K hK => ?_); go_simp; refine hK _ ?_; clear hK K)
  refine wpPlanM_nil ?_
  clear p0 p1 p2
  have hb : Below w2.heap.size w2 w2.drew := (Below.refl _ _).drew
  generalize hgd : w2.drew = w3 at hb ⊢
  replace E : Hid (Below w.heap.size w w3) := E.out.trans (hb.mono E.out.size)
  replace M1 := Lib.hid (M1.out.below hb)
  replace X1 := Lib.hid (X1.out.below hb X1.out.lt)
  replace X2 := Lib.hid (X2.out.below hb X2.out.lt)
  clear hb hgd
  go_wp2_with fail
  refine wp_region_planM [] [(true, 0), (true, 1), (true, 3), (true, 4), (false, 2), (false, 5), (true, 6), (true, 7), (true, 8), (true, 9), (true, 10), (true, 12), (true, 13), (true, 14), (false, 11), (false, 15), (true, 16), (true, 17), (true, 18), (true, 19), (true, 20), (true, 21), (true, 23), (true, 24), (true, 25), (false, 22), (false, 26), (false, 27), (true, 28), (true, 29)] (by decide) (by kernel_rfl) (by kernel_rfl) (by decide) (by intro c a d v w h; cases d <;> exact h) ?_
  change wpPlanM _ _ _ _ _ _ w3.drew
  have hb : Below w3.heap.size w3 w3.drew := (Below.refl _ _).drew
  generalize hgd : w3.drew = w4 at hb ⊢
  replace E : Hid (Below w.heap.size w w4) := E.out.trans (hb.mono E.out.size)
  replace M1 := Lib.hid (M1.out.below hb)
  replace X1 := Lib.hid (X1.out.below hb X1.out.lt)
  replace X2 := Lib.hid (X2.out.below hb X2.out.lt)
  clear hb hgd
  refine wpPlanM_runW rfl (by rfl) _ (fun q => load_run 25 _ rfl w.heap.size 0 rfl [.slice h.a1 h.n1 h.c1, .slice h.a2 h.n2 h.c2, .slice h.a3 h.n3 h.c3, .int .i64 h.o] _ hun.out rfl hdd.out q.world ((Blk.below X1.out q.ext X1.out.lt).range 0 _ (take_all0 _))) ?_
  iterate 1 (refine wpPlanM_plain rfl (fun K hK => ?_); go_simp; refine hK _ ?_; clear hK K)
  refine wpPlanM_runW rfl (by rfl) _ (fun q => load_run 25 _ rfl w.heap.size 0 rfl [.slice h.a1 h.n1 h.c1, .slice h.a2 h.n2 h.c2, .slice h.a3 h.n3 h.c3, .int .i64 h.o] _ hun.out rfl hdd.out q.world ((Blk.below X1.out q.ext X1.out.lt).range 0 _ (take_all0 _))) ?_
  iterate 1 (refine wpPlanM_plain rfl (fun K hK => ?_); go_simp; refine hK _ ?_; clear hK K)
  refine wpPlanM_call rfl (fun K hK => ?_)
  go_wp2_with fail
  refine (S1.out _ M1.out).mono ?_
  rintro e w5 ⟨rfl, hb⟩
  have hbp := Lib.hid hb
  replace E : Hid (Below w.heap.size w w5) := E.out.trans (hb.mono E.out.size)
  replace M1 := Lib.hid (M1.out.below hb)
  replace X1 := Lib.hid (X1.out.below hb X1.out.lt)
  replace X2 := Lib.hid (X2.out.below hb X2.out.lt)
  clear hb
  go_wp2_with fail
  refine planPostL_normal ⟨.inr hbp.out, hK _ _ ?_⟩
  clear hK K hbp
  refine wpPlanM_call rfl (fun K hK => ?_)
  go_wp2_with fail
  refine (S2.out _ M1.out).mono ?_
  rintro e w6 ⟨rfl, hb⟩
  have hbp := Lib.hid hb
  replace E : Hid (Below w.heap.size w w6) := E.out.trans (hb.mono E.out.size)
  replace M1 := Lib.hid (M1.out.below hb)
  replace X1 := Lib.hid (X1.out.below hb X1.out.lt)
  replace X2 := Lib.hid (X2.out.below hb X2.out.lt)
  clear hb
  go_wp2_with fail
  refine planPostL_normal ⟨.inr hbp.out, hK _ _ ?_⟩
  clear hK K hbp
  iterate 2 (refine wpPlanM_plain rfl (fun K hK => ?_); go_simp; refine hK _ ?_; clear hK K)
  refine wpPlanM_runW rfl (by rfl) _ (fun q => load_run 25 _ rfl w.heap.size 0 rfl [.slice h.a1 h.n1 h.c1, .slice h.a2 h.n2 h.c2, .slice h.a3 h.n3 h.c3, .int .i64 h.o] _ hun.out rfl hdd.out q.world ((Blk.below X1.out q.ext X1.out.lt).range 0 _ (take_all0 _))) ?_
  iterate 2 (refine wpPlanM_plain rfl (fun K hK => ?_); go_simp; refine hK _ ?_; clear hK K)
  refine wpPlanM_runW rfl (by rfl) _ (fun q => load_run 25 _ rfl w.heap.size 0 rfl [.slice h.a1 h.n1 h.c1, .slice h.a2 h.n2 h.c2, .slice h.a3 h.n3 h.c3, .int .i64 h.o] _ hun.out rfl hdd.out q.world ((Blk.below X1.out q.ext X1.out.lt).range 0 _ (take_all0 _))) ?_
  iterate 2 (refine wpPlanM_plain rfl (fun K hK => ?_); go_simp; refine hK _ ?_; clear hK K)
  refine wpPlanM_call rfl (fun K hK => ?_)
  go_wp2_with fail
  refine (O1.out _ M1.out).mono ?_
  rintro e w7 ⟨rfl, hb⟩
  have hbp := Lib.hid hb
  replace E : Hid (Below w.heap.size w w7) := E.out.trans (hb.mono E.out.size)
  replace M1 := Lib.hid (M1.out.below hb)
  replace X1 := Lib.hid (X1.out.below hb X1.out.lt)
  replace X2 := Lib.hid (X2.out.below hb X2.out.lt)
  clear hb
  go_wp2_with fail
  refine planPostL_normal ⟨.inr hbp.out, hK _ _ ?_⟩
  clear hK K hbp
  refine wpPlanM_call rfl (fun K hK => ?_)
  go_wp2_with fail
  refine (O2.out _ M1.out).mono ?_
  rintro e w8 ⟨rfl, hb⟩
  have hbp := Lib.hid hb
  replace E : Hid (Below w.heap.size w w8) := E.out.trans (hb.mono E.out.size)
  replace M1 := Lib.hid (M1.out.below hb)
  replace X1 := Lib.hid (X1.out.below hb X1.out.lt)
  replace X2 := Lib.hid (X2.out.below hb X2.out.lt)
  clear hb
  go_wp2_with fail
  refine planPostL_normal ⟨.inr hbp.out, hK _ _ ?_⟩
  clear hK K hbp
  iterate 3 (refine wpPlanM_plain rfl (fun K hK => ?_); go_simp; refine hK _ ?_; clear hK K)
  refine wpPlanM_runW rfl (by rfl) _ (fun q => load_run 25 _ rfl w.heap.size 0 rfl [.slice h.a1 h.n1 h.c1, .slice h.a2 h.n2 h.c2, .slice h.a3 h.n3 h.c3, .int .i64 h.o] _ hun.out rfl hdd.out q.world ((Blk.below X1.out q.ext X1.out.lt).range 0 _ (take_all0 _))) ?_
  iterate 2 (refine wpPlanM_plain rfl (fun K hK => ?_); go_simp; refine hK _ ?_; clear hK K)
  refine wpPlanM_runW rfl (by rfl) _ (fun q => load_run 25 _ rfl w.heap.size 0 rfl [.slice h.a1 h.n1 h.c1, .slice h.a2 h.n2 h.c2, .slice h.a3 h.n3 h.c3, .int .i64 h.o] _ hun.out rfl hdd.out q.world ((Blk.below X1.out q.ext X1.out.lt).range 0 _ (take_all0 _))) ?_
  iterate 2 (refine wpPlanM_plain rfl (fun K hK => ?_); go_simp; refine hK _ ?_; clear hK K)
  refine wpPlanM_call rfl (fun K hK => ?_)
  go_wp2_with fail
  refine (hMV.out hsm.out _ M1.out).mono ?_
  rintro e w9 ⟨A1, n1, c1, rfl, hn1, hs1, r1, hb⟩
  have hbp := Lib.hid hb
  replace E : Hid (Below w.heap.size w w9) := E.out.trans (hb.mono E.out.size)
  replace M1 := Lib.hid (M1.out.below hb)
  replace X1 := Lib.hid (X1.out.below hb X1.out.lt)
  replace X2 := Lib.hid (X2.out.below hb X2.out.lt)
  clear hb
  have hn1' := Lib.hid hn1
  clear hn1
  have hs1' := Lib.hid hs1
  clear hs1
  have r1' := Lib.hid r1
  clear r1
  go_wp2_with fail
  refine planPostL_normal ⟨.inr hbp.out, hK _ _ ?_⟩
  clear hK K hbp
  refine wpPlanM_call rfl (fun K hK => ?_)
  go_wp2_with fail
  refine (hMW.out hsm.out _ M1.out).mono ?_
  rintro e w10 ⟨A2, n2, c2, rfl, hn2, hs2, r2, hb⟩
  have hbq := Lib.hid hb
  have hbp := Lib.hid hb
  replace E : Hid (Below w.heap.size w w10) := E.out.trans (hb.mono E.out.size)
  replace M1 := Lib.hid (M1.out.below hb)
  replace X1 := Lib.hid (X1.out.below hb X1.out.lt)
  replace X2 := Lib.hid (X2.out.below hb X2.out.lt)
  clear hb
  have hn2' := Lib.hid hn2
  clear hn2
  have r2' := Lib.hid r2
  clear r2
  go_wp2_with fail
  refine planPostL_normal ⟨.inr hbp.out, hK _ _ ?_⟩
  clear hK K hbp
  refine wpPlanM_call rfl (fun K hK => ?_)
  go_wp2_with fail
  refine (sameT hn1'.out hn2'.out hs1'.out (r1'.out.below hbq.out) r2'.out).mono ?_
  rintro e w11 ⟨rfl, hb⟩
  have hbp := Lib.hid hb
  replace E : Hid (Below w.heap.size w w11) := E.out.trans (hb.mono E.out.size)
  replace M1 := Lib.hid (M1.out.below hb)
  replace X1 := Lib.hid (X1.out.below hb X1.out.lt)
  replace X2 := Lib.hid (X2.out.below hb X2.out.lt)
  clear hb
  go_wp2_with fail
  refine planPostL_normal ⟨.inr hbp.out, hK _ _ ?_⟩
  clear hK K hbp
  iterate 2 (refine wpPlanM_plain rfl (fun K hK => ?_); go_simp; refine hK _ ?_; clear hK K)
  refine wpPlanM_nil ?_
  go_wp2_with fail
  refine wp_region_planM [] [(false, 0), (true, 1), (true, 2), (true, 4), (false, 3), (false, 5), (true, 6), (true, 7), (true, 8), (true, 9), (true, 10), (true, 11), (true, 12), (true, 13), (true, 14), (true, 16), (true, 17), (true, 18), (false, 15), (false, 19), (true, 20), (true, 21), (true, 22)] (by decide) (by kernel_rfl) (by kernel_rfl) (by decide) (by intro c a d v w h; cases d <;> exact h) ?_
  change wpPlanM _ _ _ _ _ _ w11.drew
  have hb : Below w11.heap.size w11 w11.drew := (Below.refl _ _).drew
  generalize hgd : w11.drew = w12 at hb ⊢
  replace E : Hid (Below w.heap.size w w12) := E.out.trans (hb.mono E.out.size)
  replace M1 := Lib.hid (M1.out.below hb)
  replace X1 := Lib.hid (X1.out.below hb X1.out.lt)
  replace X2 := Lib.hid (X2.out.below hb X2.out.lt)
  clear hb hgd
  refine wpPlanM_call rfl (fun K hK => ?_)
  go_wp2_with fail
  refine (sanity_any10 _).mono ?_
  rintro e w13 ⟨rfl, hb⟩
  have hbp := Lib.hid hb
  replace E : Hid (Below w.heap.size w w13) := E.out.trans (hb.mono E.out.size)
  replace M1 := Lib.hid (M1.out.below hb)
  replace X1 := Lib.hid (X1.out.below hb X1.out.lt)
  replace X2 := Lib.hid (X2.out.below hb X2.out.lt)
  clear hb
  go_wp2_with fail
  refine planPostL_normal ⟨.inr hbp.out, hK _ _ ?_⟩
  clear hK K hbp
  iterate 1 (refine wpPlanM_plain rfl (fun K hK => ?_); go_simp; refine hK _ ?_; clear hK K)
  refine wpPlanM_runW rfl (by rfl) _ (fun q => load_run 25 _ rfl w.heap.size 0 rfl [.slice h.a1 h.n1 h.c1, .slice h.a2 h.n2 h.c2, .slice h.a3 h.n3 h.c3, .int .i64 h.o] _ hun.out rfl hdd.out q.world ((Blk.below X1.out q.ext X1.out.lt).range 0 _ (take_all0 _))) ?_
  refine wpPlanM_runW rfl (by rfl) _ (fun q => load_run 25 _ rfl w.heap.size 0 rfl [.slice h.a1 h.n1 h.c1, .slice h.a2 h.n2 h.c2, .slice h.a3 h.n3 h.c3, .int .i64 h.o] _ hun.out rfl hdd.out q.world ((Blk.below X1.out q.ext X1.out.lt).range 0 _ (take_all0 _))) ?_
  refine wpPlanM_call rfl (fun K hK => ?_)
  go_wp2_with fail
  refine (C1.out _ M1.out).mono ?_
  rintro e w14 ⟨rfl, hb⟩
  have hbp := Lib.hid hb
  replace E : Hid (Below w.heap.size w w14) := E.out.trans (hb.mono E.out.size)
  replace M1 := Lib.hid (M1.out.below hb)
  replace X1 := Lib.hid (X1.out.below hb X1.out.lt)
  replace X2 := Lib.hid (X2.out.below hb X2.out.lt)
  clear hb
  go_wp2_with fail
  refine planPostL_normal ⟨.inr hbp.out, hK _ _ ?_⟩
  clear hK K hbp
  refine wpPlanM_call rfl (fun K hK => ?_)
  go_wp2_with fail
  refine (C2.out _ M1.out).mono ?_
  rintro e w15 ⟨rfl, hb⟩
  have hbp := Lib.hid hb
  replace E : Hid (Below w.heap.size w w15) := E.out.trans (hb.mono E.out.size)
  replace M1 := Lib.hid (M1.out.below hb)
  replace X1 := Lib.hid (X1.out.below hb X1.out.lt)
  replace X2 := Lib.hid (X2.out.below hb X2.out.lt)
  clear hb
  go_wp2_with fail
  refine planPostL_normal ⟨.inr hbp.out, hK _ _ ?_⟩
  clear hK K hbp
  iterate 6 (refine wpPlanM_plain rfl (fun K hK => ?_); go_simp; refine hK _ ?_; clear hK K)
  refine wpPlanM_runW rfl (by rfl) _ (fun q => load_run 25 _ rfl w.heap.size 0 rfl [.slice h.a1 h.n1 h.c1, .slice h.a2 h.n2 h.c2, .slice h.a3 h.n3 h.c3, .int .i64 h.o] _ hun.out rfl hdd.out q.world ((Blk.below X1.out q.ext X1.out.lt).range 0 _ (take_all0 _))) ?_
  iterate 2 (refine wpPlanM_plain rfl (fun K hK => ?_); go_simp; refine hK _ ?_; clear hK K)
  refine wpPlanM_runW rfl (by rfl) _ (fun q => load_run 25 _ rfl w.heap.size 0 rfl [.slice h.a1 h.n1 h.c1, .slice h.a2 h.n2 h.c2, .slice h.a3 h.n3 h.c3, .int .i64 h.o] _ hun.out rfl hdd.out q.world ((Blk.below X1.out q.ext X1.out.lt).range 0 _ (take_all0 _))) ?_
  iterate 2 (refine wpPlanM_plain rfl (fun K hK => ?_); go_simp; refine hK _ ?_; clear hK K)
  refine wpPlanM_call rfl (fun K hK => ?_)
  go_wp2_with fail
  refine (R1.out _ M1.out).mono ?_
  rintro e w16 ⟨rfl, hb⟩
  have hbp := Lib.hid hb
  replace E : Hid (Below w.heap.size w w16) := E.out.trans (hb.mono E.out.size)
  replace M1 := Lib.hid (M1.out.below hb)
  replace X1 := Lib.hid (X1.out.below hb X1.out.lt)
  replace X2 := Lib.hid (X2.out.below hb X2.out.lt)
  clear hb
  go_wp2_with fail
  refine planPostL_normal ⟨.inr hbp.out, hK _ _ ?_⟩
  clear hK K hbp
  refine wpPlanM_call rfl (fun K hK => ?_)
  go_wp2_with fail
  refine (R2.out _ M1.out).mono ?_
  rintro e w17 ⟨rfl, hb⟩
  have hbp := Lib.hid hb
  replace E : Hid (Below w.heap.size w w17) := E.out.trans (hb.mono E.out.size)
  replace M1 := Lib.hid (M1.out.below hb)
  replace X1 := Lib.hid (X1.out.below hb X1.out.lt)
  replace X2 := Lib.hid (X2.out.below hb X2.out.lt)
  clear hb
  go_wp2_with fail
  refine planPostL_normal ⟨.inr hbp.out, hK _ _ ?_⟩
  clear hK K hbp
  iterate 3 (refine wpPlanM_plain rfl (fun K hK => ?_); go_simp; refine hK _ ?_; clear hK K)
  refine wpPlanM_nil ?_
  go_wp2_with fail
  go_ret
  exact ⟨rfl, E.out⟩
end Go.Proofs.Ytoonpgedioocgaa
