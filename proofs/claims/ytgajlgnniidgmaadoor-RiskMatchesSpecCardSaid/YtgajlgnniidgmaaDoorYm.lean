/-
  Stage 12 (risk), the specification: Compare.
-/
import Derived.Test.YtgajlgnniidgmaaDoorVs
namespace Go.Proofs.YtgajlgnniidgmaaDoor
set_option linter.unusedVariables false
set_option linter.unusedSimpArgs false
open Go.RowKit Go.Maps

set_option maxRecDepth 100000 in
set_option maxHeartbeats 400000 in
theorem refCompare12_any {B : Nat} (p q : Prl) (w : World) (hM : PerM w B p) (hMq : PerM w B q) (hsp : ∀ g ∈ p.Gs, g.length ≤ 1000000) (hsq : ∀ g ∈ q.Gs, g.length ≤ 1000000) :
    Calls Tryd.prog 20 #[prv p, prv q] w fun e w' => e = .returned (.agg #[.int .i64 (if cmpE p q = 0 then cmpI (scl p) (scl q) else 0), .int .i64 (cmpE p q)]) ∧ Below w.heap.size w w' := by
  have hp : Hid (prv p = .agg #[.int .i64 p.D, .slice p.A p.n p.c, .int .i64 p.G, .slice p.A1 p.n1 p.c1, .slice p.A2 p.n2 p.c2]) := (rfl : prv p = prv p)
  have hq : Hid (prv q = .agg #[.int .i64 q.D, .slice q.A q.n q.c, .int .i64 q.G, .slice q.A1 q.n1 q.c1, .slice q.A2 q.n2 q.c2]) := (rfl : prv q = prv q)
  have hnp : Hid (p.n2 = p.ch.length) := hM.n2
  have hnq : Hid (q.n2 = q.ch.length) := hMq.n2
  obtain ⟨W1, hW1⟩ : ∃ W1, W1 = w.alloc (.cells #[.int .i64 p.D, .slice p.A p.n p.c, .int .i64 p.G, .slice p.A1 p.n1 p.c1, .slice p.A2 p.n2 p.c2] 27) := ⟨_, rfl⟩
  obtain ⟨W2, hW2⟩ : ∃ W2, W2 = W1.alloc (.cells #[.int .i64 q.D, .slice q.A q.n q.c, .int .i64 q.G, .slice q.A1 q.n1 q.c1, .slice q.A2 q.n2 q.c2] 27) := ⟨_, rfl⟩
  obtain ⟨W3, hW3⟩ : ∃ W3, W3 = W2.alloc (.cells #[.int .i64 0, .int .i64 0] 38) := ⟨_, rfl⟩
  have z1 : Hid (W1.heap.size = w.heap.size + 1) := by show W1.heap.size = w.heap.size + 1; rw [hW1, World.alloc]; simp
  have z2 : Hid (W2.heap.size = w.heap.size + 1 + 1) := by show W2.heap.size = w.heap.size + 1 + 1; rw [← z1.out, hW2, World.alloc]; simp
  have E1 : Hid (Below w.heap.size w W1) := by show Below _ _ _; rw [hW1]; exact (Below.refl _ _).alloc (Nat.le_refl _) _
  have ha : Below W1.heap.size W1 W2 := by rw [hW2]; exact (Below.refl _ _).alloc (Nat.le_refl _) _
  have hc : Below W2.heap.size W2 W3 := by rw [hW3]; exact (Below.refl _ _).alloc (Nat.le_refl _) _
  have X1 : Hid (Blk W1 w.heap.size [.int .i64 p.D, .slice p.A p.n p.c, .int .i64 p.G, .slice p.A1 p.n1 p.c1, .slice p.A2 p.n2 p.c2] 27) := by show Blk _ _ _ _; rw [hW1]; exact Blk.new _ [_, _, _, _, _] _
  have X2 : Hid (Blk W2 (w.heap.size + 1) [.int .i64 q.D, .slice q.A q.n q.c, .int .i64 q.G, .slice q.A1 q.n1 q.c1, .slice q.A2 q.n2 q.c2] 27) := by show Blk _ _ _ _; rw [hW2, ← z1.out]; exact Blk.new _ [_, _, _, _, _] _
  have Y : Hid (Blk W3 (w.heap.size + 1 + 1) [.int .i64 0, .int .i64 0] 38) := by show Blk _ _ _ _; rw [hW3, ← z2.out]; exact Blk.new _ [_, _] _
  replace X1 := Lib.hid (X1.out.below ha X1.out.lt)
  replace X1 := Lib.hid (X1.out.below hc X1.out.lt)
  replace X2 := Lib.hid (X2.out.below hc X2.out.lt)
  have E2 : Hid (Below w.heap.size w W2) := E1.out.trans (ha.mono E1.out.size)
  have E : Hid (Below w.heap.size w W3) := E2.out.trans (hc.mono E2.out.size)
  have M1 := Lib.hid (hM.keep E.out)
  have M2 := Lib.hid (hMq.keep E.out)
  have hW1' := Lib.hid hW1
  have hW2' := Lib.hid hW2
  have hW3' := Lib.hid hW3
  have hsz := Lib.hid size_prl
  have hun : Hid (Tryd.prog.underlying 27 = _) := Tryd.underlying27
  have huc : Hid (Tryd.prog.underlying 38 = _) := Tryd.underlying38
  obtain ⟨a, hae⟩ : ∃ a, a = chkP p := ⟨_, rfl⟩
  obtain ⟨b, hbe⟩ : ∃ a, a = chkP q := ⟨_, rfl⟩
  obtain ⟨Na, hNa⟩ : ∃ n0 : Int, n0 = (if a = 0 then lsum p (2 ^ p.ch.length) else 0) := ⟨_, rfl⟩
  obtain ⟨Nb, hNb⟩ : ∃ n0 : Int, n0 = (if b = 0 then lsum q (2 ^ q.ch.length) else 0) := ⟨_, rfl⟩
  have CA : Hid (∀ W, PerM W B p → Calls Tryd.prog 18 #[prv p] W fun e w' => e = .returned (.agg #[.int .i64 Na, .int .i64 a]) ∧ Below W.heap.size W w') := fun W m => by rw [hNa, hae]; exact refLoss12_any p W m hsp
  have CB : Hid (∀ W, PerM W B q → Calls Tryd.prog 18 #[prv q] W fun e w' => e = .returned (.agg #[.int .i64 Nb, .int .i64 b]) ∧ Below W.heap.size W w') := fun W m => by rw [hNb, hbe]; exact refLoss12_any q W m hsq
  obtain ⟨F, hF⟩ : ∃ F, F = cmpE p q := ⟨_, rfl⟩
  have hFa : Hid (F = if a = 0 then b else a) := by show F = if a = 0 then b else a; rw [hF, hae, hbe]; rfl
  obtain ⟨V, hV⟩ : ∃ V, V = (if F = 0 then cmpI (scl p) (scl q) else 0) := ⟨_, rfl⟩
  rw [← hF, ← hV]
  have haeH := Lib.hid hae
  have hbeH := Lib.hid hbe
  have hVH := Lib.hid hV
  have hNaH := Lib.hid hNa
  have hNbH := Lib.hid hNb
  clear ha hc E1 E2 hM hMq hW1 hW2 hW3 hae hbe hF hV hNa hNb z1 z2 hsp hsq
  rw [hp.out, hq.out]
  go_enter Tryd.func20, Tryd.ntmps20
  go_wp2_with fail
  generalize hg : ((w.alloc _).alloc _).alloc _ = Wg
  have hgW : W3 = Wg := by rw [← hg, hW3'.out, hW2'.out, hW1'.out]
  clear hg hW3' hW2' hW1' W1 W2
  subst hgW
  have CT := CA.out W3 M1.out
  rw [hp.out] at CT
  go_wp2_with (first | (refine wpList_blk_load rfl 27 _ rfl 0 rfl X1.out [_, _, _, _, _] rfl _ hun.out rfl hsz.out ?_) | fail)
  refine CT.mono ?_
  rintro e w4 ⟨rfl, hb⟩
  clear CT
  replace X1 := Lib.hid (X1.out.below hb X1.out.lt)
  replace X2 := Lib.hid (X2.out.below hb X2.out.lt)
  replace Y := Lib.hid (Y.out.below hb Y.out.lt)
  replace M1 := Lib.hid (M1.out.keep hb)
  replace M2 := Lib.hid (M2.out.keep hb)
  replace E : Hid (Below w.heap.size w w4) := E.out.trans (hb.mono E.out.size)
  clear hb
  have Nx : Hid (Blk (w4.alloc (.cells #[.int .i64 Na, .int .i64 a] 38)) w4.heap.size [.int .i64 Na, .int .i64 a] 38) := Blk.new _ [_, _] _
  have hb : Below w4.heap.size w4 (w4.alloc (.cells #[.int .i64 Na, .int .i64 a] 38)) := (Below.refl _ _).alloc (Nat.le_refl _) _
  replace X1 := Lib.hid (X1.out.below hb X1.out.lt)
  replace X2 := Lib.hid (X2.out.below hb X2.out.lt)
  replace Y := Lib.hid (Y.out.below hb Y.out.lt)
  replace M1 := Lib.hid (M1.out.keep hb)
  replace M2 := Lib.hid (M2.out.keep hb)
  replace E : Hid (Below w.heap.size w (w4.alloc (.cells #[.int .i64 Na, .int .i64 a] 38))) := E.out.trans (hb.mono E.out.size)
  clear hb
  by_cases a0 : a = 0
  rotate_left
  · have t0 : (a == 0) = false := by simpa using a0
    have hF0 : Hid (F = a) := by show F = a; rw [hFa.out, if_neg a0]
    have hV0 : Hid (V = 0) := by show V = 0; rw [hVH.out, if_neg (by rw [hF0.out]; exact a0)]
    have hN0 : Hid (Na = 0) := by show Na = 0; rw [hNaH.out, if_neg a0]
    go_wp2_with (refine wpList_row_store rfl 38 _ _ rfl [.int .i64 Na, .int .i64 a] rfl rfl (Y.out) size_cnt12 rfl (two_one12 _ _) ?_; intro w9 hw9 ho9)
    exact bodyPost_ret (ret_blk rfl _ w9 (g := w.heap.size + 1 + 1) rfl hw9.out _ huc.out rfl size_cnt12) rfl ⟨(by rw [hV0.out, hF0.out, hN0.out]), E.out.trans (ho9.below (by omega))⟩
  have hF1 : Hid (F = b) := by show F = b; rw [hFa.out, if_pos a0]
  have hNa1 : Hid (Na = lsum p (2 ^ p.ch.length)) := by show Na = _; rw [hNaH.out, if_pos a0]
  have O1 := Lib.hid (chkP_ok.1 (haeH.out.symm.trans a0))
  clear hFa hNaH haeH
  subst a0
  have CT := CB.out _ M2.out
  rw [hq.out] at CT
  go_wp2_with (first | (refine wpList_blk_load rfl 27 _ rfl 0 rfl X2.out [_, _, _, _, _] rfl _ hun.out rfl hsz.out ?_) | fail)
  generalize w4.alloc (.cells #[.int .i64 Na, .int .i64 0] 38) = w5 at *
  generalize w4.heap.size = gx at *
  refine CT.mono ?_
  rintro e w6 ⟨rfl, hb⟩
  clear CT
  replace X1 := Lib.hid (X1.out.below hb X1.out.lt)
  replace X2 := Lib.hid (X2.out.below hb X2.out.lt)
  replace Y := Lib.hid (Y.out.below hb Y.out.lt)
  replace M1 := Lib.hid (M1.out.keep hb)
  replace M2 := Lib.hid (M2.out.keep hb)
  replace Nx := Lib.hid (Nx.out.below hb Nx.out.lt)
  replace E : Hid (Below w.heap.size w w6) := E.out.trans (hb.mono E.out.size)
  clear hb
  have Ny : Hid (Blk (w6.alloc (.cells #[.int .i64 Nb, .int .i64 b] 38)) w6.heap.size [.int .i64 Nb, .int .i64 b] 38) := Blk.new _ [_, _] _
  have hb : Below w6.heap.size w6 (w6.alloc (.cells #[.int .i64 Nb, .int .i64 b] 38)) := (Below.refl _ _).alloc (Nat.le_refl _) _
  replace X1 := Lib.hid (X1.out.below hb X1.out.lt)
  replace X2 := Lib.hid (X2.out.below hb X2.out.lt)
  replace Y := Lib.hid (Y.out.below hb Y.out.lt)
  replace M1 := Lib.hid (M1.out.keep hb)
  replace M2 := Lib.hid (M2.out.keep hb)
  replace Nx := Lib.hid (Nx.out.below hb Nx.out.lt)
  replace E : Hid (Below w.heap.size w (w6.alloc (.cells #[.int .i64 Nb, .int .i64 b] 38))) := E.out.trans (hb.mono E.out.size)
  clear hb
  by_cases b0 : b = 0
  rotate_left
  · have t0 : (b == 0) = false := by simpa using b0
    have hV0 : Hid (V = 0) := by show V = 0; rw [hVH.out, if_neg (by rw [hF1.out]; exact b0)]
    have hN0 : Hid (Nb = 0) := by show Nb = 0; rw [hNbH.out, if_neg b0]
    go_wp2_with (refine wpList_row_store rfl 38 _ _ rfl [.int .i64 Nb, .int .i64 b] rfl rfl (Y.out) size_cnt12 rfl (two_one12 _ _) ?_; intro w9 hw9 ho9)
    exact bodyPost_ret (ret_blk rfl _ w9 (g := w.heap.size + 1 + 1) rfl hw9.out _ huc.out rfl size_cnt12) rfl ⟨(by rw [hV0.out, hF1.out, hN0.out]), E.out.trans (ho9.below (by omega))⟩
  have hF0 : Hid (F = 0) := by show F = 0; rw [hF1.out, b0]
  have hNb1 : Hid (Nb = lsum q (2 ^ q.ch.length)) := by show Nb = _; rw [hNbH.out, if_pos b0]
  have O2 := Lib.hid (chkP_ok.1 (hbeH.out.symm.trans b0))
  have hV1 : Hid (V = cmpI (scl p) (scl q)) := by show V = _; rw [hVH.out, if_pos hF0.out]
  clear hF1 hNbH hbeH hVH CA CB
  subst b0
  obtain ⟨m, hm⟩ : ∃ m, m = max p.n2 q.n2 := ⟨_, rfl⟩
  have l1 : p.n2 ≤ m := by omega
  have l2 : q.n2 ≤ m := by omega
  have l3 : m ≤ 12 := by have := O1.out.l12; have := O2.out.l12; have := hnp.out; have := hnq.out; omega
  have hmx := Lib.hid hm
  clear hm
  have hsa' := hnp.out
  have hsb' := hnq.out
  obtain ⟨k1, hk1⟩ : ∃ k, k = m - p.n2 := ⟨_, rfl⟩
  obtain ⟨P1, hP1⟩ : ∃ x : Nat, x = 16 ^ k1 := ⟨_, rfl⟩
  have ek1 : (m : Int) - (p.n2 : Int) = (k1 : Int) := by omega
  have fk1 := wrapN12 (v := k1) (by omega)
  have cP1 := refPower_any k1
  rw [← hP1] at cP1
  have hsa : Hid (Na * (P1 : Int) = scm p m) := by
    show Na * (P1 : Int) = scm p m
    unfold scm
    rw [hNa1.out, hP1, hk1, hnp.out, Int.natCast_pow]; rfl
  have rsa := scm_rng (p := p) O1.out (m := m) (by rw [← hnp.out]; exact l1) l3
  obtain ⟨k2, hk2⟩ : ∃ k, k = m - q.n2 := ⟨_, rfl⟩
  obtain ⟨P2, hP2⟩ : ∃ x : Nat, x = 16 ^ k2 := ⟨_, rfl⟩
  have ek2 : (m : Int) - (q.n2 : Int) = (k2 : Int) := by omega
  have fk2 := wrapN12 (v := k2) (by omega)
  have cP2 := refPower_any k2
  rw [← hP2] at cP2
  have hsb : Hid (Nb * (P2 : Int) = scm q m) := by
    show Nb * (P2 : Int) = scm q m
    unfold scm
    rw [hNb1.out, hP2, hk2, hnq.out, Int.natCast_pow]; rfl
  have rsb := scm_rng (p := q) O2.out (m := m) (by rw [← hnq.out]; exact l2) l3
  have hVs : Hid (V = cmpI (scm p m) (scm q m)) := by show V = _; rw [hV1.out, scm_cmp (by rw [← hnp.out]; exact l1) (by rw [← hnq.out]; exact l2) l3]
  generalize scm p m = sa at *
  generalize scm q m = sb at *
  have esa := hsa.out
  have esb := hsb.out
  have fsa : IntKind.i64.wrap sa = sa := by rw [IntKind.wrap_i64]; omega
  have fsb : IntKind.i64.wrap sb = sb := by rw [IntKind.wrap_i64]; omega
  clear hsa hsb rsa rsb hNa1 hNb1 hP1 hP2 hV1 hk1 hk2 hsa' hsb' l1 l2
  have hm12 := Lib.hid l3
  go_upto_region 7 with fail
  generalize w6.alloc (.cells #[.int .i64 Nb, .int .i64 0] 38) = w7 at *
  generalize w6.heap.size = gy at *
  go_cut [7] from 22 to 28 (fun v W => v = .int .i64 m ∧ W = w7)
  case first =>
    have p4 := X1.out.cell (j := 4) rfl
    have q4 := X2.out.cell (j := 4) rfl
    clear ek1 ek2 fk1 fk2 esa esb fsa fsb
    go_wp2_with fail
    all_goals (have hmx1 := hmx.out; first | (exfalso; omega) | (go_meet; exact ⟨congrArg (Value.int IntKind.i64) (by omega), rfl⟩))
  case rest =>
  obtain ⟨rfl, hwc⟩ := hcut
  rw [hwc]
  clear hwc
  go_upto_region 8 with fail
  refine wp_region_planM [] [(true, 0), (true, 1), (true, 2), (true, 3), (true, 4), (true, 5), (true, 6), (false, 7), (true, 8), (true, 9)] (by decide) (by kernel_rfl) (by kernel_rfl) (by decide) (by intro c a d v w h; cases d <;> exact h) ?_
  change wpPlanM _ _ _ _ _ _ w7.drew
  have hb : Below w7.heap.size w7 w7.drew := (Below.refl _ _).drew
  generalize hgd : w7.drew = w8 at hb ⊢
  clear hgd
  replace X1 := Lib.hid (X1.out.below hb X1.out.lt)
  replace X2 := Lib.hid (X2.out.below hb X2.out.lt)
  replace Y := Lib.hid (Y.out.below hb Y.out.lt)
  replace Nx := Lib.hid (Nx.out.below hb Nx.out.lt)
  replace Ny := Lib.hid (Ny.out.below hb Ny.out.lt)
  replace E : Hid (Below w.heap.size w w8) := E.out.trans (hb.mono E.out.size)
  clear hb
  have x1 : ∀ x : ExtOf w8, x.world.cell? ⟨gx, 0, none⟩ = some (.int .i64 Na) := fun x => (Blk.below Nx.out x.ext Nx.out.lt).cell (j := 0) rfl
  have x2 : ∀ x : ExtOf w8, x.world.cell? ⟨w.heap.size, 4, none⟩ = some (.slice p.A2 p.n2 p.c2) := fun x => (Blk.below X1.out x.ext X1.out.lt).cell (j := 4) rfl
  iterate 7 (refine wpPlanM_plain rfl (fun K hK => ?_); go_simp; refine hK _ ?_; clear hK K)
  clear x1 x2
  refine wpPlanM_call rfl (fun K hK => ?_)
  have CT := cP1 w8 (by omega)
  go_wp2_with fail
  refine CT.mono ?_
  rintro e wz ⟨rfl, rfl⟩
  clear CT
  go_wp2_with fail
  refine planPostL_normal ⟨.inr (Below.refl _ _), hK _ _ ?_⟩
  clear hK K
  iterate 2 (refine wpPlanM_plain rfl (fun K hK => ?_); go_simp; refine hK _ ?_; clear hK K)
  refine wpPlanM_nil ?_
  go_wp2_with fail
  refine wp_region_planM [] [(true, 0), (true, 1), (true, 2), (true, 3), (true, 4), (true, 5), (true, 6), (false, 7), (true, 8), (true, 9)] (by decide) (by kernel_rfl) (by kernel_rfl) (by decide) (by intro c a d v w h; cases d <;> exact h) ?_
  change wpPlanM _ _ _ _ _ _ wz.drew
  have hb : Below wz.heap.size wz wz.drew := (Below.refl _ _).drew
  generalize hgd : wz.drew = w10 at hb ⊢
  clear hgd
  replace X1 := Lib.hid (X1.out.below hb X1.out.lt)
  replace X2 := Lib.hid (X2.out.below hb X2.out.lt)
  replace Y := Lib.hid (Y.out.below hb Y.out.lt)
  replace Nx := Lib.hid (Nx.out.below hb Nx.out.lt)
  replace Ny := Lib.hid (Ny.out.below hb Ny.out.lt)
  replace E : Hid (Below w.heap.size w w10) := E.out.trans (hb.mono E.out.size)
  clear hb
  have x1 : ∀ x : ExtOf w10, x.world.cell? ⟨gy, 0, none⟩ = some (.int .i64 Nb) := fun x => (Blk.below Ny.out x.ext Ny.out.lt).cell (j := 0) rfl
  have x2 : ∀ x : ExtOf w10, x.world.cell? ⟨(w.heap.size + 1), 4, none⟩ = some (.slice q.A2 q.n2 q.c2) := fun x => (Blk.below X2.out x.ext X2.out.lt).cell (j := 4) rfl
  iterate 7 (refine wpPlanM_plain rfl (fun K hK => ?_); go_simp; refine hK _ ?_; clear hK K)
  clear x1 x2
  refine wpPlanM_call rfl (fun K hK => ?_)
  have CT := cP2 w10 (by omega)
  go_wp2_with fail
  refine CT.mono ?_
  rintro e wz ⟨rfl, rfl⟩
  clear CT
  go_wp2_with fail
  refine planPostL_normal ⟨.inr (Below.refl _ _), hK _ _ ?_⟩
  clear hK K
  iterate 2 (refine wpPlanM_plain rfl (fun K hK => ?_); go_simp; refine hK _ ?_; clear hK K)
  refine wpPlanM_nil ?_
  by_cases h1 : sa < sb
  · have hz : Hid (V = -1) := by show V = -1; rw [hVs.out]; unfold cmpI; rw [if_pos h1]
    go_wp2_with (refine wpList_row_store rfl 38 _ _ rfl [.int .i64 (-1), .int .i64 0] rfl rfl Y.out size_cnt12 rfl (two_one12 _ _) ?_; intro w9 hw9 ho9)
    exact bodyPost_ret (ret_blk rfl _ w9 (g := w.heap.size + 1 + 1) rfl hw9.out _ huc.out rfl size_cnt12) rfl ⟨(by rw [hz.out, hF0.out]), E.out.trans (ho9.below (by omega))⟩
  by_cases h2 : sb < sa
  · have hz : Hid (V = 1) := by show V = 1; rw [hVs.out]; unfold cmpI; rw [if_neg h1, if_pos h2]
    have h2' : sa > sb := h2
    go_wp2_with (refine wpList_row_store rfl 38 _ _ rfl [.int .i64 (1), .int .i64 0] rfl rfl Y.out size_cnt12 rfl (two_one12 _ _) ?_; intro w9 hw9 ho9)
    exact bodyPost_ret (ret_blk rfl _ w9 (g := w.heap.size + 1 + 1) rfl hw9.out _ huc.out rfl size_cnt12) rfl ⟨(by rw [hz.out, hF0.out]), E.out.trans (ho9.below (by omega))⟩
  have hz : Hid (V = 0) := by show V = 0; rw [hVs.out]; unfold cmpI; rw [if_neg h1, if_neg h2]
  have h2' : ¬ sa > sb := h2
  go_wp2_with (refine wpList_row_store rfl 38 _ _ rfl [.int .i64 (0), .int .i64 0] rfl rfl Y.out size_cnt12 rfl (two_one12 _ _) ?_; intro w9 hw9 ho9)
  exact bodyPost_ret (ret_blk rfl _ w9 (g := w.heap.size + 1 + 1) rfl hw9.out _ huc.out rfl size_cnt12) rfl ⟨(by rw [hz.out, hF0.out]), E.out.trans (ho9.below (by omega))⟩
end Go.Proofs.YtgajlgnniidgmaaDoor
