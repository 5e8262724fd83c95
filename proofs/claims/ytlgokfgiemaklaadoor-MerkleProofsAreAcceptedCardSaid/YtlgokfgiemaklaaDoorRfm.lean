/-
  Contracts of stage 3: the reference's Root. Contracts of stage 3: the reference's with. Contracts of stage 3: the reference's inclusion. Contracts of stage 3: the reference's consistency. Contracts of stage 3: the reference's Inclusion and Consistency.
-/
import Derived.Test.YtlgokfgiemaklaaDoorMka
import Derived.Test.YtlgokfgiemaklaaDoorInco
import Derived.Test.YtlgokfgiemaklaaDoorRws
namespace Go.Proofs.YtlgokfgiemaklaaDoor
set_option linter.unusedVariables false
set_option linter.unusedSimpArgs false
open Go.RowKit

set_option maxRecDepth 100000 in
set_option maxHeartbeats 1000000 in
theorem refRoot_nil (c : Nat) (A : Option Addr) (w : World) (ht : Tab 3 w) :
    Calls Tryd.prog 16 #[.slice A 0 c] w fun e w' => e = .returned (av emp) ∧ Below w.heap.size w w' := by
  have hel : (emp.map bv).length = 16 := by rw [List.length_map]; exact emp_len
  have hDs := Lib.hid (size_dig16 _ hel)
  have hDo := av_one emp
  obtain ⟨W1, hW1⟩ : ∃ W1, W1 = w.alloc (.cells (bz 16).toArray 31) := ⟨_, rfl⟩
  have hB1 : Hid (Below w.heap.size w W1) := by show Below _ _ _; rw [hW1]; exact (Below.refl _ _).alloc (Nat.le_refl _) _
  have hR1 : Hid (Blk W1 w.heap.size (bz 16) 31) := by show Blk _ _ _ _; rw [hW1]; exact Blk.new _ _ _
  have hW1' := Lib.hid hW1
  have HE := Lib.hid (refEmpty_any W1 (ht.on hB1.out))
  generalize emp = D at hel hDs hDo HE ⊢
  unfold av at HE ⊢
  clear hW1 ht
  go_enter Tryd.func16, Tryd.ntmps16
  go_wp2_with fail
  generalize hg : w.alloc _ = Wg
  have hgW : W1 = Wg := by rw [← hg, hW1'.out]; rfl
  clear hg hW1'
  subst hgW
  refine HE.out.mono ?_
  rintro e w5 ⟨rfl, hb5⟩
  have hR5 := hR1.out.below hb5 hR1.out.lt
  have hB5 : Below w.heap.size w w5 := hB1.out.trans (hb5.mono hB1.out.size)
  go_wp2_with (refine wpList_row_store rfl 31 _ _ rfl (D.map bv) rfl rfl hR5 hDs.out (by rw [hel]; rfl) hDo ?_; intro w6 hW6 ho6)
  exact bodyPost_ret (ret_blk rfl _ w6 (g := w.heap.size) rfl hW6.out (.array 16 5) arr_dig rfl hDs.out) rfl ⟨rfl, hB5.trans (ho6.below (Nat.le_refl _))⟩

set_option maxRecDepth 100000 in
set_option maxHeartbeats 1000000 in
theorem refRoot_one (d : List UInt8) (hd : d.length = 16) (c : Nat) (A : Option Addr) (w : World) (hA : Dg w A [d]) :
    Calls Tryd.prog 16 #[.slice A 1 c] w fun e w' => e = .returned (av d) ∧ Below w.heap.size w w' := by
  have hdl : (d.map bv).length = 16 := by rw [List.length_map, hd]
  have hDs := Lib.hid (size_dig16 _ hdl)
  have hDo := av_one d
  obtain ⟨ad, rfl, hab, _, hcell0⟩ := hA.at (k := 0) (d := d) (by intro x hx; rw [List.mem_singleton.1 hx]; exact hd) rfl
  have hcell : Hid (∀ (o : Obj) (j : Nat) (v : Value), (d.map bv)[j]? = some v → (w.alloc o).cell? (ad.add j) = some v) := fun o j v hv => by
    have h := hcell0 j v hv
    rw [show ad.add (0 * 16) = ad from by unfold Addr.add; simp] at h
    exact (World.cell?_alloc_lt w o _ (by rw [add_block]; exact hab)).trans h
  have hB1 : Hid (∀ o, Below w.heap.size w (w.alloc o)) := fun o => (Below.refl _ _).alloc (Nat.le_refl _) _
  have hR1 : Hid (Blk (w.alloc (.cells (bz 16).toArray 31)) w.heap.size (bz 16) 31) := Blk.new _ _ _
  unfold av
  clear hA hcell0 hd
  go_enter Tryd.func16, Tryd.ntmps16
  go_wp2_with (first | (refine wpList_load_arr rfl 31 _ rfl ad rfl (d.map bv) 16 5 (hcell.out _) arr_dig hDs.out ?_) | (refine wpList_row_store rfl 31 _ _ rfl (d.map bv) rfl rfl hR1.out hDs.out (by rw [hdl]; rfl) hDo ?_; intro w4 hW4 ho4))
  exact bodyPost_ret (ret_blk rfl _ w4 (g := w.heap.size) rfl hW4.out (.array 16 5) arr_dig rfl hDs.out) rfl ⟨rfl, (hB1.out _).trans (ho4.below (Nat.le_refl _))⟩

set_option maxRecDepth 100000 in
set_option maxHeartbeats 2000000 in
theorem refRoot_up (N : Nat) : ∀ (L : List (List UInt8)) (A : Option Addr) (c : Nat) (w : World), L.length ≤ N → D16 L → L.length ≤ c → c ≤ maxLen → L.length ≤ 140737488355328 → Dg w A L → Tab 3 w →
    Calls Tryd.prog 16 #[.slice A L.length c] w fun e w' => e = .returned (av (rt L)) ∧ Below w.heap.size w w' := by
  induction N with
  | zero =>
    intro L A c w hl _ _ _ _ _ ht
    obtain rfl : L = [] := List.eq_nil_of_length_eq_zero (by omega)
    rw [rt_nil]
    exact refRoot_nil c A w ht
  | succ N ih =>
    intro L A c w hl hd hc hcm h47 hA ht
    match L, hl, hd, hc, h47, hA with
    | [], _, _, _, _, _ =>
      rw [rt_nil]
      exact refRoot_nil c A w ht
    | [d], _, hd, _, _, hA =>
      rw [rt_one]
      exact refRoot_one d (hd d (by simp)) c A w hA
    | a :: b :: L', hl, hd, hc, h47, hA =>
      obtain ⟨L, hL⟩ : ∃ L, L = a :: b :: L' := ⟨_, rfl⟩
      have h2 : 2 ≤ L.length := by rw [hL]; simp
      rw [← hL] at hl hd hc h47 hA ⊢
      clear hL
      obtain ⟨ad, rfl, hab, _⟩ := hA.look (k := 0) (u := bv ((flat L).getD 0 0)) (by
        have := flat_len L hd
        rw [List.getElem?_map, List.getElem?_eq_getElem (by omega), List.getD_eq_getElem?_getD, List.getElem?_eq_getElem (by omega)]
        rfl)
      rw [rt_two h2]
      obtain ⟨k, hk⟩ : ∃ k, k = Mk.ksz L.length := ⟨_, rfl⟩
      have hkn : k < L.length := by rw [hk]; exact Mk.ksz_lt h2
      have hkp : 0 < k := by rw [hk]; exact Mk.ksz_pos _
      have HP := Lib.hid (fun W => split_any L.length W h2 h47)
      rw [← hk] at HP ⊢
      have l1 : (L.take k).length = k := by rw [List.length_take]; omega
      have l2 : (L.drop k).length = L.length - k := List.length_drop ..
      have I1 := Lib.hid (fun W hA hT => ih (L.take k) (some ad) c W (by omega) (hd.take k) (by omega) hcm (by omega) hA hT)
      have I2 := Lib.hid (fun W hA hT => ih (L.drop k) (some (ad.add (k * 16))) (c - k) W (by omega) (hd.drop k) (by omega) (by omega) (by omega) hA hT)
      have hA1 := Lib.hid (hA.take hd k)
      have hA2 := Lib.hid (hA.drop hd k)
      rw [Nat.mul_comm 16 k] at hA2
      rw [l1] at I1
      rw [l2] at I2
      have r1 := rt_len (hd.take k)
      have r2 := rt_len (hd.drop k)
      generalize rt (L.take k) = R1 at I1 r1 ⊢
      generalize rt (L.drop k) = R2 at I2 r2 ⊢
      generalize L.take k = La at I1 hA1
      generalize L.drop k = Lb at I2 hA2
      obtain ⟨n, hn⟩ : ∃ n, n = L.length := ⟨_, rfl⟩
      rw [← hn] at HP I2 h2 hkn hc ⊢
      have HN := Lib.hid (fun W hT => refNode_any R1 R2 W r1 r2 hT)
      have hnl := nd_len R1 R2
      generalize nd R1 R2 = D at HN hnl ⊢
      have hDl : (D.map bv).length = 16 := by rw [List.length_map, hnl]
      have hDs := Lib.hid (size_dig16 _ hDl)
      have hDo := av_one D
      have t0 : ((n : Int) == 0) = false := by simp; omega
      have t1 : ((n : Int) == 1) = false := by simp; omega
      have k1 : (k : Int) ≤ (n : Int) := by omega
      have k2 : (k : Int) ≤ (c : Int) := by omega
      have k3 : 0 ≤ (k : Int) := by omega
      have k4 : k ≤ c := by omega
      have k5 : k ≤ n := by omega
      have k6 : ¬ c = k := by omega
      unfold av at I1 I2 HN ⊢
      have hT := Lib.hid ht
      obtain ⟨W1, hW1⟩ : ∃ W1, W1 = w.alloc (.cells (bz 16).toArray 31) := ⟨_, rfl⟩
      have hB1 : Hid (Below w.heap.size w W1) := by show Below _ _ _; rw [hW1]; exact (Below.refl _ _).alloc (Nat.le_refl _) _
      have hR1 : Hid (Blk W1 w.heap.size (bz 16) 31) := by show Blk _ _ _ _; rw [hW1]; exact Blk.new _ _ _
      have hW1' := Lib.hid hW1
      clear hW1 hk hn l1 l2 hl hd h47 hA ht ih h2 r1 r2 hnl hcm
      go_enter Tryd.func16, Tryd.ntmps16
      go_wp2_with fail
      generalize hg : w.alloc _ = Wg
      have hgW : W1 = Wg := by rw [← hg, hW1'.out]; rfl
      clear hg hW1'
      subst hgW
      refine (HP.out _).mono ?_
      rintro e w2 ⟨rfl, rfl⟩
      go_wp2_with fail
      refine wp_region_planL 9 [(true, 0), (true, 1), (true, 2), (true, 4), (true, 5), (true, 6), (false, 3), (false, 7), (false, 8), (false, 9)] (by kernel_rfl) (by decide) (by kernel_rfl) (by kernel_rfl) (by kernel_rfl) (by decide) (by intro c a d v w h; cases d <;> exact h) ?_
      change wpPlanL _ _ _ _ _ _ (World.drew _)
      iterate 6 (refine wpPlanL_plain rfl (fun K hK => ?_); go_simp; refine hK _ ?_; clear hK K)
      have hT1 := Lib.hid (hT.out.on hB1.out.drew)
      refine wpPlanL_call rfl (fun K hK => ?_)
      go_wp2_with fail
      refine (I1.out _ (hA1.out.on hB1.out.drew) hT1.out).mono ?_
      rintro e w3 ⟨rfl, hb3⟩
      go_wp2_with fail
      refine planPostL_normal ⟨.inr hb3, hK _ _ ?_⟩
      clear hK K
      have hB3 := Lib.hid (hB1.out.drew.trans (hb3.mono hB1.out.size))
      have hR3 := Lib.hid (hR1.out.drew.below hb3 hR1.out.lt)
      clear hb3
      refine wpPlanL_call rfl (fun K hK => ?_)
      go_wp2_with fail
      refine (I2.out _ (hA2.out.on hB3.out) (hT.out.on hB3.out)).mono ?_
      rintro e w4 ⟨rfl, hb4⟩
      go_wp2_with fail
      refine planPostL_normal ⟨.inr hb4, hK _ _ ?_⟩
      clear hK K
      have hB4 := Lib.hid (hB3.out.trans (hb4.mono hB3.out.size))
      have hR4 := Lib.hid (hR3.out.below hb4 hR3.out.lt)
      clear hb4
      refine wpPlanL_call rfl (fun K hK => ?_)
      go_wp2_with fail
      refine (HN.out _ (hT.out.on hB4.out)).mono ?_
      rintro e w5 ⟨rfl, hb5⟩
      go_wp2_with fail
      refine planPostL_normal ⟨.inr hb5, hK _ _ ?_⟩
      clear hK K
      have hB5 := hB4.out.trans (hb5.mono hB4.out.size)
      have hR5 := hR4.out.below hb5 hR4.out.lt
      clear hb5
      refine wpPlanL_call rfl (fun K hK => ?_)
      refine wpList_row_store rfl 31 _ _ rfl (D.map bv) rfl rfl hR5 hDs.out (by rw [hDl]; rfl) hDo ?_
      intro w6 hW6 ho6
      refine wpList_end (planPostL_normal ⟨.inl rfl, hK _ _ ?_⟩)
      clear hK K
      refine wpPlanL_nil ?_
      go_wp2_with fail
      exact bodyPost_ret (ret_blk rfl _ w6 (g := w.heap.size) rfl hW6.out (.array 16 5) arr_dig rfl hDs.out) rfl ⟨rfl, hB5.trans (ho6.below (Nat.le_refl _))⟩
theorem refRoot_any (L : List (List UInt8)) (A : Option Addr) (c : Nat) (w : World) (hd : D16 L) (hc : L.length ≤ c) (hcm : c ≤ maxLen) (h47 : L.length ≤ 140737488355328) (hA : Dg w A L) (ht : Tab 3 w) :
    Calls Tryd.prog 16 #[.slice A L.length c] w fun e w' => e = .returned (av (rt L)) ∧ Below w.heap.size w w' := refRoot_up L.length L A c w (Nat.le_refl _) hd hc hcm h47 hA ht
end Go.Proofs.YtlgokfgiemaklaaDoor

namespace Go.Proofs.YtlgokfgiemaklaaDoor
set_option linter.unusedVariables false
set_option linter.unusedSimpArgs false
open Go.RowKit

set_option maxRecDepth 100000 in
/-- 'l = append(l, x...)', x some digests, l the call's own. -/
theorem push_digs {w : World} {ops : Array Oper} {rest : List Oper} {o : Oper} {a : Act} {Q : Exit → Act → World → Prop} (hgd : o.guard = none) (sl x : Operand)
    (ho : o.op = .call { callee := .builtin .append, args := #[sl, x], argTypes := #[22, 22] })
    (base : Nat) (v : Value) (M L : List (List UInt8)) (hL : D16 L) (B : Nat) (A : Option Addr) (n c : Nat) (hn : n = L.length) (hA : A = none → c = 0) (hs : a.eval sl = v) (hx : a.eval x = .slice A n c)
    (hr : Rds w B A ((flat L).map bv)) (hown : OwnD w base v M) (hlen : M.length + L.length ≤ 1000000000000) (hbase : base ≤ w.heap.size)
    (h : ∀ v' w', OwnD w' base v' (M ++ L) → Below base w w' → w.grownBy w' v.ownBlock → wpList Tryd.prog ops Q rest (a.put o.dst v') w') :
    wpList Tryd.prog ops Q (o :: rest) a w := by
  subst hn
  obtain ⟨i0, hi, hz0, hz1, hz2⟩ := info_parts infoDg
  have hfl := flat_len L hL
  cases A with
  | none =>
    have hl : L = [] := by
      by_cases hl : L = []
      · exact hl
      · obtain ⟨ad, hh, _⟩ := hr (by
          intro h0
          have h1 := congrArg List.length h0
          rw [List.length_map, hfl] at h1
          have := List.length_pos_iff.2 hl
          simp at h1
          omega)
        cases hh
    subst hl
    rw [hA rfl] at hx
    refine wpList_plain hgd fun K hK => ?_
    have hrun := run_append_owned_none (P := Tryd.prog) w base 22 o.type 31 i0 16 Tryd.underlying22 hi v M.length _ hown
    unfold Oper.wp execOp
    simp only [ho, resolve, invoke, builtin, Sem.run_bind, Sem.run_pure, Result.andThen_ok, List.map_toArray, List.map_cons, List.map_nil, hs, hx, List.length_nil, hrun]
    exact hK _ _ (h v w (by simpa using hown) (Below.refl _ _) (World.grownBy.refl w _))
  | some ad =>
    have hcell : ∀ j u, ((flat L).map bv)[j]? = some u → w.cell? (ad.add j) = some u := by
      intro j u hu
      obtain ⟨ad', he, _, hc⟩ := hr.look hu
      injection he with he
      subst he
      exact hc
    refine wpList_append_own_at w hgd sl x 22 ho base 31 i0 _ 16 16 Tryd.underlying22 hi hz0 hz1 hz2 rfl (by decide) v M.length _ hs hown ad L.length c ((flat L).map bv) hx (by rw [List.length_map, hfl]; omega) hcell
      (by intro u hu; obtain ⟨b, _, rfl⟩ := List.mem_map.1 hu; rfl) (by unfold maxLen; omega) (by omega) hbase ?_
    intro v' w' h2 h3 _ _
    refine h v' w' ?_ ((Below.refl _ _).grown h3 hbase fun _ hk => (hown.lt _ hk).1) h3
    unfold OwnD
    rw [List.length_append, flat_append, List.map_append]
    exact h2
theorem d16_one {d : List UInt8} (h : d.length = 16) : D16 [d] := by intro x hx; rw [List.mem_singleton.1 hx]; exact h
theorem d16_app {L M : List (List UInt8)} (h : D16 L) (k : D16 M) : D16 (L ++ M) := by
  intro x hx
  rcases List.mem_append.1 hx with hx | hx
  · exact h x hx
  · exact k x hx
theorem ownD_made (w : World) (base : Nat) (hb : base ≤ w.heap.size) : OwnD (w.alloc (.cells #[] 31)) base (.slice (some ⟨w.heap.size, 0, none⟩) 0 0) [] :=
  World.ownsRow_made w #[] 0 hb (by unfold maxLen; omega) rfl
theorem OwnD.lower {w : World} {base base' : Nat} {v : Value} {L : List (List UInt8)} (h : OwnD w base v L) (hb : base' ≤ base) : OwnD w base' v L := by
  refine ⟨h.1, ?_⟩
  rcases h.2 with hn | ⟨g, cap, cur, hv, hg, rest⟩
  · exact .inl hn
  · exact .inr ⟨g, cap, cur, hv, Nat.le_trans hb hg, rest⟩

set_option maxRecDepth 100000 in
set_option maxHeartbeats 2000000 in
theorem with3_any (L : List (List UInt8)) (d : List UInt8) (A : Option Addr) (c : Nat) (w : World) (hd : D16 L) (hdl : d.length = 16) (hA : Dg w A L) (hAn : A = none → c = 0) (hl : L.length ≤ 1000000) :
    Calls Tryd.prog 60 #[.slice A L.length c, av d] w fun e w' => (∃ v, e = .returned v ∧ OwnD w' w.heap.size v (L ++ [d])) ∧ Below w.heap.size w w' := by
  have hd1 : (d.map bv).length = 16 := by rw [List.length_map, hdl]
  have hDs := Lib.hid (size_dig16 _ hd1)
  obtain ⟨W1, hW1⟩ : ∃ W1, W1 = w.alloc (.cells (d.map bv).toArray 31) := ⟨_, rfl⟩
  have hB1 : Hid (Below w.heap.size w W1) := by show Below _ _ _; rw [hW1]; exact (Below.refl _ _).alloc (Nat.le_refl _) _
  have hS1 : Hid (Blk W1 w.heap.size (d.map bv) 31) := by show Blk _ _ _ _; rw [hW1]; exact Blk.new _ _ _
  have hs1 : Hid (W1.heap.size = w.heap.size + 1) := by show _ = _; rw [hW1]; simp
  have hW1' := Lib.hid hW1
  have hA' := Lib.hid hA
  have hd' := Lib.hid hd
  have hAn' := Lib.hid hAn
  unfold av
  clear hW1 hA hd hAn
  go_enter Tryd.func60, Tryd.ntmps60
  go_wp2_with fail
  generalize hg : w.alloc _ = Wg
  have hgW : W1 = Wg := by rw [← hg, hW1'.out]
  clear hg hW1'
  subst hgW
  refine wp_region_planH (fun W => Blk W w.heap.size (d.map bv) 31) [1, 3] 5 (by kernel_rfl) (by kernel_rfl) (by kernel_rfl) (by kernel_rfl) (by intro c a d v w h; cases d <;> exact h) hS1.out.drew ?_
  change wpPlanH _ _ _ _ _ _ _ _ _ W1.drew
  have hne : Nonempty (SOf fun W => Blk W w.heap.size (d.map bv) 31) := ⟨⟨W1, hS1.out⟩⟩
  iterate 1 (refine wpPlanH_plain rfl (fun K hK => ?_); go_simp; refine hK _ ?_; clear hK K)
  refine wpPlanH_runW rfl (by rfl) _ (fun x => load_run 31 _ rfl w.heap.size 0 rfl (d.map bv) (.array 16 5) arr_dig rfl hDs.out x.world (x.meets.range 0 _ (take_all0 _))) ?_
  have hSd : Hid (Blk W1.drew w.heap.size (d.map bv) 31) := hS1.out.drew
  have hBd : Hid (Below w.heap.size w W1.drew) := hB1.out.drew
  have hsd : W1.drew.heap.size = w.heap.size + 1 := hs1.out
  have hsd' := Lib.hid hsd
  have hAd := Lib.hid (hA'.out.on hBd.out)
  clear hsd
  generalize W1.drew = w2 at hSd hBd hsd' hAd ⊢
  have hB0s : w.heap.size ≤ w2.heap.size := by rw [hsd'.out]; omega
  have hg0 : w.heap.size < w2.heap.size := by rw [hsd'.out]; omega
  have FIN : ∀ (W : World) (v : Value) (g : Nat), OwnD W w2.heap.size v L → Blk W g (d.map bv) 31 → Below w.heap.size w W → w2.heap.size ≤ W.heap.size → Hid (Dg W (some ⟨g, 0, none⟩) [d]) := fun W v g _ hb _ _ => by
    show Rds _ _ _ _
    have h := hb.rds 0 (d.map bv).length
    rw [List.drop_zero, List.take_of_length_le (Nat.le_refl _)] at h
    rw [flat_one]
    exact h
  refine wpAnyH_each (rs := [0, 4]) (by kernel_rfl) (by decide) (fun K hK i hi => ?_)
  simp only [List.mem_cons, List.not_mem_nil, or_false] at hi
  rcases hi with rfl | rfl
  · refine wpOp_listed rfl ?_
    go_wp2_with fail
    refine postH_normal (hK _ _ _ (hSd.out.alloc _) ?_)
    clear hK K
    have hO := ownD_made w2 w2.heap.size (Nat.le_refl _)
    have hSW := hSd.out.alloc (.cells #[] 31)
    have hBW := hBd.out.alloc hB0s (.cells #[] 31)
    have hAW := hAd.out.on ((Below.refl w2.heap.size w2).alloc (Nat.le_refl _) (.cells #[] 31))
    have hle : w2.heap.size ≤ (w2.alloc (.cells #[] 31)).heap.size := by simp
    have hsz3 : Hid ((w2.alloc (.cells #[] 31)).heap.size = w2.heap.size + 1) := by show _ = _; simp
    generalize w2.alloc (.cells #[] 31) = w3 at hO hSW hBW hAW hle hsz3 ⊢
    refine wpAnyH_each (rs := [2, 4]) (by kernel_rfl) (by decide) (fun K hK i hi => ?_)
    simp only [List.mem_cons, List.not_mem_nil, or_false] at hi
    rcases hi with rfl | rfl
    · refine wpOp_listed rfl ?_
      refine push_digs rfl _ _ rfl w2.heap.size _ [] L hd'.out _ A L.length c rfl hAn'.out rfl rfl hAW hO (by simp; omega) hle ?_
      intro v4 w4 ho4 hb4 hgr4
      refine wpList_end (postH_normal (hK _ _ _ (hSW.below hb4 hg0) ?_))
      clear hK K
      replace hBW := hBW.trans (hb4.mono hB0s)
      replace hSW := hSW.below hb4 hg0
      replace hle := Nat.le_trans hle hb4.size
      refine wpAnyH_each (rs := [4]) (by kernel_rfl) (by decide) (fun K hK i hi => ?_)
      obtain rfl := List.mem_singleton.1 hi
      refine wpOp_listed rfl ?_
      refine step_build_dg rfl _ rfl d hdl rfl ?_
      refine wpList_end (postH_normal (hK _ _ _ (hSW.alloc _) ?_))
      clear hK K
      have hK4 := Blk.new w4 (d.map bv) 31
      have hO : OwnD (w4.alloc (.cells (d.map bv).toArray 31)) w2.heap.size v4 L := World.ownsRow.alloc ho4 _
      replace hBW := hBW.alloc (Nat.le_trans hB0s hle) (.cells (d.map bv).toArray 31)
      replace hSW := hSW.alloc (.cells (d.map bv).toArray 31)
      replace hle : w2.heap.size ≤ (w4.alloc (.cells (d.map bv).toArray 31)).heap.size := by simp; omega
      refine wpAnyH_each (rs := [5]) (by kernel_rfl) (by decide) (fun K hK i hi => ?_)
      obtain rfl := List.mem_singleton.1 hi
      refine wpOp_listed rfl ?_
      refine push_digs rfl _ _ rfl w2.heap.size v4 L [d] (d16_one hdl) _ (some ⟨w4.heap.size, 0, none⟩) 1 1 rfl (fun h => by cases h) rfl rfl (FIN _ v4 _ hO hK4 hBW hle).out hO (by simp; omega) hle ?_
      intro v6 w6 ho6 hb6 _
      refine wpList_end (postH_normal (hK _ _ _ (hSW.below hb6 hg0) ?_))
      clear hK K
      refine wpAnyH_each (rs := [6]) (by kernel_rfl) (by decide) (fun K hK i hi => ?_)
      obtain rfl := List.mem_singleton.1 hi
      refine wpOp_listed rfl ?_
      go_wp2_with fail
      refine postH_normal (hK _ _ _ (hSW.below hb6 hg0) ?_)
      clear hK K
      refine wpAnyH_done (by kernel_rfl) ?_ _
      have hend := hBW.trans (hb6.mono hB0s)
      go_wp2_with fail
      go_ret
      exact ⟨⟨_, rfl, ho6.lower hB0s⟩, hend⟩
    · refine wpOp_listed rfl ?_
      refine step_build_dg rfl _ rfl d hdl rfl ?_
      refine wpList_end (postH_normal (hK _ _ _ (hSW.alloc _) ?_))
      clear hK K
      have hL4 := Blk.new w3 (d.map bv) 31
      replace hO := World.ownsRow.alloc hO (.cells (d.map bv).toArray 31)
      replace hAW := hAW.on ((Below.refl w3.heap.size w3).alloc (Nat.le_refl _) (.cells (d.map bv).toArray 31))
      replace hBW := hBW.alloc (Nat.le_trans hB0s hle) (.cells (d.map bv).toArray 31)
      replace hSW := hSW.alloc (.cells (d.map bv).toArray 31)
      replace hle : w2.heap.size ≤ (w3.alloc (.cells (d.map bv).toArray 31)).heap.size := by simp; omega
      refine wpAnyH_each (rs := [2]) (by kernel_rfl) (by decide) (fun K hK i hi => ?_)
      obtain rfl := List.mem_singleton.1 hi
      refine wpOp_listed rfl ?_
      refine push_digs rfl _ _ rfl w2.heap.size _ [] L hd'.out _ A L.length c rfl hAn'.out rfl rfl hAW hO (by simp; omega) hle ?_
      intro v4 w4 ho4 hb4 hgr4
      refine wpList_end (postH_normal (hK _ _ _ (hSW.below hb4 hg0) ?_))
      clear hK K
      have hK4 : Blk w4 w3.heap.size (d.map bv) 31 := (hgr4.block _ hL4.lt (by show some w3.heap.size ≠ some w2.heap.size; rw [hsz3.out]; simp)).trans hL4
      have hO : OwnD w4 w2.heap.size v4 L := ho4
      replace hBW := hBW.trans (hb4.mono hB0s)
      replace hSW := hSW.below hb4 hg0
      replace hle := Nat.le_trans hle hb4.size
      refine wpAnyH_each (rs := [5]) (by kernel_rfl) (by decide) (fun K hK i hi => ?_)
      obtain rfl := List.mem_singleton.1 hi
      refine wpOp_listed rfl ?_
      refine push_digs rfl _ _ rfl w2.heap.size v4 L [d] (d16_one hdl) _ (some ⟨w3.heap.size, 0, none⟩) 1 1 rfl (fun h => by cases h) rfl rfl (FIN _ v4 _ hO hK4 hBW hle).out hO (by simp; omega) hle ?_
      intro v6 w6 ho6 hb6 _
      refine wpList_end (postH_normal (hK _ _ _ (hSW.below hb6 hg0) ?_))
      clear hK K
      refine wpAnyH_each (rs := [6]) (by kernel_rfl) (by decide) (fun K hK i hi => ?_)
      obtain rfl := List.mem_singleton.1 hi
      refine wpOp_listed rfl ?_
      go_wp2_with fail
      refine postH_normal (hK _ _ _ (hSW.below hb6 hg0) ?_)
      clear hK K
      refine wpAnyH_done (by kernel_rfl) ?_ _
      have hend := hBW.trans (hb6.mono hB0s)
      go_wp2_with fail
      go_ret
      exact ⟨⟨_, rfl, ho6.lower hB0s⟩, hend⟩
  · refine wpOp_listed rfl ?_
    refine step_build_dg rfl _ rfl d hdl rfl ?_
    refine wpList_end (postH_normal (hK _ _ _ (hSd.out.alloc _) ?_))
    clear hK K
    have hL3 := Blk.new w2 (d.map bv) 31
    have hSW := hSd.out.alloc (.cells (d.map bv).toArray 31)
    have hBW := hBd.out.alloc hB0s (.cells (d.map bv).toArray 31)
    have hAW := hAd.out.on ((Below.refl w2.heap.size w2).alloc (Nat.le_refl _) (.cells (d.map bv).toArray 31))
    have hle : w2.heap.size ≤ (w2.alloc (.cells (d.map bv).toArray 31)).heap.size := by simp
    have hsz3 : Hid ((w2.alloc (.cells (d.map bv).toArray 31)).heap.size = w2.heap.size + 1) := by show _ = _; simp
    generalize w2.alloc (.cells (d.map bv).toArray 31) = w3 at hL3 hSW hBW hAW hle hsz3 ⊢
    refine wpAnyH_each (rs := [0]) (by kernel_rfl) (by decide) (fun K hK i hi => ?_)
    obtain rfl := List.mem_singleton.1 hi
    refine wpOp_listed rfl ?_
    go_wp2_with fail
    refine postH_normal (hK _ _ _ (hSW.alloc _) ?_)
    clear hK K
    have hO := ownD_made w3 w2.heap.size hle
    have hL4 := hL3.alloc (.cells #[] 31)
    replace hAW := hAW.on ((Below.refl w3.heap.size w3).alloc (Nat.le_refl _) (.cells #[] 31))
    replace hBW := hBW.alloc (Nat.le_trans hB0s hle) (.cells #[] 31)
    replace hSW := hSW.alloc (.cells #[] 31)
    replace hle : w2.heap.size ≤ (w3.alloc (.cells #[] 31)).heap.size := by simp; omega
    refine wpAnyH_each (rs := [2]) (by kernel_rfl) (by decide) (fun K hK i hi => ?_)
    obtain rfl := List.mem_singleton.1 hi
    refine wpOp_listed rfl ?_
    refine push_digs rfl _ _ rfl w2.heap.size _ [] L hd'.out _ A L.length c rfl hAn'.out rfl rfl hAW hO (by simp; omega) hle ?_
    intro v4 w4 ho4 hb4 hgr4
    refine wpList_end (postH_normal (hK _ _ _ (hSW.below hb4 hg0) ?_))
    clear hK K
    have hK4 : Blk w4 w2.heap.size (d.map bv) 31 := (hgr4.block _ hL4.lt (by show some w2.heap.size ≠ some w3.heap.size; rw [hsz3.out]; simp)).trans hL4
    have hO : OwnD w4 w2.heap.size v4 L := ho4
    replace hBW := hBW.trans (hb4.mono hB0s)
    replace hSW := hSW.below hb4 hg0
    replace hle := Nat.le_trans hle hb4.size
    refine wpAnyH_each (rs := [5]) (by kernel_rfl) (by decide) (fun K hK i hi => ?_)
    obtain rfl := List.mem_singleton.1 hi
    refine wpOp_listed rfl ?_
    refine push_digs rfl _ _ rfl w2.heap.size v4 L [d] (d16_one hdl) _ (some ⟨w2.heap.size, 0, none⟩) 1 1 rfl (fun h => by cases h) rfl rfl (FIN _ v4 _ hO hK4 hBW hle).out hO (by simp; omega) hle ?_
    intro v6 w6 ho6 hb6 _
    refine wpList_end (postH_normal (hK _ _ _ (hSW.below hb6 hg0) ?_))
    clear hK K
    refine wpAnyH_each (rs := [6]) (by kernel_rfl) (by decide) (fun K hK i hi => ?_)
    obtain rfl := List.mem_singleton.1 hi
    refine wpOp_listed rfl ?_
    go_wp2_with fail
    refine postH_normal (hK _ _ _ (hSW.below hb6 hg0) ?_)
    clear hK K
    refine wpAnyH_done (by kernel_rfl) ?_ _
    have hend := hBW.trans (hb6.mono hB0s)
    go_wp2_with fail
    go_ret
    exact ⟨⟨_, rfl, ho6.lower hB0s⟩, hend⟩
end Go.Proofs.YtlgokfgiemaklaaDoor

namespace Go.Proofs.YtlgokfgiemaklaaDoor
set_option linter.unusedVariables false
set_option linter.unusedSimpArgs false
open Go.RowKit

theorem inc_d16 (N : Nat) : ∀ (L : List (List UInt8)) (i : Nat), L.length ≤ N → D16 L → D16 (inc L i) := by
  induction N with
  | zero => intro L i h _; unfold inc; rw [Mk.incl_one nd emp (by omega)]; intro x hx; cases hx
  | succ N ih =>
    intro L i h hd
    by_cases h2 : 2 ≤ L.length
    · have a := Mk.ksz_lt h2
      have b := Mk.ksz_pos L.length
      by_cases hi : i < Mk.ksz L.length
      · have h1 := ih (L.take (Mk.ksz L.length)) i (by rw [List.length_take]; omega) (hd.take _)
        unfold inc at h1 ⊢
        rw [Mk.incl_left nd emp h2 hi]
        exact d16_app h1 (d16_one (rt_len (hd.drop _)))
      · have h1 := ih (L.drop (Mk.ksz L.length)) (i - Mk.ksz L.length) (by rw [List.length_drop]; omega) (hd.drop _)
        unfold inc at h1 ⊢
        rw [Mk.incl_right nd emp h2 hi]
        exact d16_app h1 (d16_one (rt_len (hd.take _)))
    · unfold inc; rw [Mk.incl_one nd emp (by omega)]; intro x hx; cases hx

set_option maxRecDepth 100000 in
set_option maxHeartbeats 2000000 in
theorem refIncl_up (N : Nat) : ∀ (L : List (List UInt8)) (A : Option Addr) (c i : Nat) (w : World), L.length ≤ N → 1 ≤ L.length → i < L.length → D16 L → L.length ≤ c → c ≤ maxLen → L.length ≤ 1000000 → Dg w A L → Tab 3 w →
    Calls Tryd.prog 35 #[.slice A L.length c, .int .i64 i] w fun e w' => (∃ v, e = .returned v ∧ OwnD w' w.heap.size v (inc L i)) ∧ Below w.heap.size w w' := by
  induction N with
  | zero => intro L A c i w hl h1; omega
  | succ N ih =>
    intro L A c i w hl h1 hil hd hc hcm h6 hA ht
    by_cases h2 : 2 ≤ L.length
    · obtain ⟨ad, rfl, hab, _⟩ := hA.look (k := 0) (u := bv ((flat L).getD 0 0)) (by
        have := flat_len L hd
        rw [List.getElem?_map, List.getElem?_eq_getElem (by omega), List.getD_eq_getElem?_getD, List.getElem?_eq_getElem (by omega)]
        rfl)
      obtain ⟨k, hk⟩ : ∃ k, k = Mk.ksz L.length := ⟨_, rfl⟩
      have hkn : k < L.length := by rw [hk]; exact Mk.ksz_lt h2
      have hkp : 0 < k := by rw [hk]; exact Mk.ksz_pos _
      have HP := Lib.hid (fun W => split_any L.length W h2 (by omega))
      rw [← hk] at HP
      have l1 : (L.take k).length = k := by rw [List.length_take]; omega
      have l2 : (L.drop k).length = L.length - k := List.length_drop ..
      have hA1 := Lib.hid (hA.take hd k)
      have hA2 := Lib.hid (hA.drop hd k)
      rw [Nat.mul_comm 16 k] at hA2
      have R1 := Lib.hid (fun W hA hT => refRoot_any (L.take k) (some ad) c W (hd.take k) (by omega) hcm (by omega) hA hT)
      have R2 := Lib.hid (fun W hA hT => refRoot_any (L.drop k) (some (ad.add (k * 16))) (c - k) W (hd.drop k) (by omega) (by omega) (by omega) hA hT)
      rw [l1] at R1
      rw [l2] at R2
      have r1 := Lib.hid (rt_len (hd.take k))
      have r2 := Lib.hid (rt_len (hd.drop k))
      have n1 : ((L.length : Int) == 1) = false := by simp; omega
      have k1 : (k : Int) ≤ (L.length : Int) := by omega
      have k2 : (k : Int) ≤ (c : Int) := by omega
      have k3 : 0 ≤ (k : Int) := by omega
      have k4 : k ≤ c := by omega
      have k5 : k ≤ L.length := by omega
      have k6 : ¬ c = k := by omega
      have hT := Lib.hid ht
      by_cases hi : i < k
      · have hv : Hid (inc L i = inc (L.take k) i ++ [rt (L.drop k)]) := by
          show _ = _
          unfold inc
          rw [Mk.incl_left nd emp h2 (by rw [← hk]; exact hi), ← hk]
          rfl
        have I1 := Lib.hid (fun W hA hT => ih (L.take k) (some ad) c i W (by omega) (by omega) (by omega) (hd.take k) (by omega) hcm (by omega) hA hT)
        rw [l1] at I1
        have dI := inc_d16 L.length (L.take k) i (by omega) (hd.take k)
        have lI := inc_len L.length (L.take k) i (by omega)
        have HW := Lib.hid (fun A' c' W hA' hAn => with3_any (inc (L.take k) i) (rt (L.drop k)) A' c' W dI r2.out hA' hAn (by omega))
        have hik : (i : Int) < (k : Int) := by omega
        rw [hv.out]
        generalize inc (L.take k) i = Pf at I1 HW hv
        generalize rt (L.drop k) = D at R2 HW hv
        obtain ⟨n, hn⟩ : ∃ n, n = L.length := ⟨_, rfl⟩
        rw [← hn] at HP R2 n1 k1 k5 ⊢
        unfold av at R2 HW
        clear hk hn hl h1 hil hd hc hcm h6 hA ht ih h2 R1 r1 r2 l1 l2 dI lI hi hv hkn
        go_enter Tryd.func35, Tryd.ntmps35
        go_wp2_with fail
        refine (HP.out _).mono ?_
        rintro e w2 ⟨rfl, rfl⟩
        go_wp2_with fail
        refine wp_region_planL 99 [(true, 0), (true, 1), (true, 2), (true, 3), (true, 5), (true, 6), (true, 7), (false, 4), (false, 8), (false, 9), (true, 10)] (by kernel_rfl) (by decide) (by kernel_rfl) (by kernel_rfl) (by kernel_rfl) (by decide) (by intro c a d v w h; cases d <;> exact h) ?_
        change wpPlanL _ _ _ _ _ _ w2.drew
        iterate 7 (refine wpPlanL_plain rfl (fun K hK => ?_); go_simp; refine hK _ ?_; clear hK K)
        have hB0 : Hid (Below w2.heap.size w2 w2.drew) := (Below.refl _ _).drew
        refine wpPlanL_call rfl (fun K hK => ?_)
        go_wp2_with fail
        refine (I1.out w2.drew hA1.out hT.out).mono ?_
        rintro e w3 ⟨⟨v3, rfl, ho3⟩, hb3⟩
        obtain ⟨A3, c3, rfl, _, _, hn3, hd3⟩ := ho3.form
        go_wp2_with fail
        refine planPostL_normal ⟨.inr hb3, hK _ _ ?_⟩
        clear hK K
        have hB3 := Lib.hid (hB0.out.trans hb3)
        have hd3' := Lib.hid hd3
        have hn3' := Lib.hid hn3
        clear hb3 ho3 hd3 hn3
        refine wpPlanL_call rfl (fun K hK => ?_)
        go_wp2_with fail
        refine (R2.out _ (hA2.out.on hB3.out) (hT.out.on hB3.out)).mono ?_
        rintro e w4 ⟨rfl, hb4⟩
        go_wp2_with fail
        refine planPostL_normal ⟨.inr hb4, hK _ _ ?_⟩
        clear hK K
        have hB4 := Lib.hid (hB3.out.trans (hb4.mono hB3.out.size))
        have hd4 := Lib.hid (hd3'.out.on hb4)
        clear hb4
        refine wpPlanL_call rfl (fun K hK => ?_)
        go_wp2_with fail
        refine (HW.out _ _ _ hd4.out hn3'.out).mono ?_
        rintro e w5 ⟨⟨v5, rfl, ho5⟩, hb5⟩
        go_wp2_with fail
        refine planPostL_normal ⟨.inr hb5, hK _ _ ?_⟩
        clear hK K
        have hB5 := hB4.out.trans (hb5.mono hB4.out.size)
        have hs4 := hB4.out.size
        clear hb5
        iterate 1 (refine wpPlanL_plain rfl (fun K hK => ?_); go_simp; refine hK _ ?_; clear hK K)
        refine wpPlanL_nil ?_
        go_wp2_with fail
        go_ret
        exact ⟨⟨_, rfl, ho5.lower hs4⟩, hB5⟩
      · have hv : Hid (inc L i = inc (L.drop k) (i - k) ++ [rt (L.take k)]) := by
          show _ = _
          unfold inc
          rw [Mk.incl_right nd emp h2 (by rw [← hk]; exact hi), ← hk]
          rfl
        have I1 := Lib.hid (fun W hA hT => ih (L.drop k) (some (ad.add (k * 16))) (c - k) (i - k) W (by omega) (by omega) (by omega) (hd.drop k) (by omega) (by omega) (by omega) hA hT)
        rw [l2] at I1
        have dI := inc_d16 L.length (L.drop k) (i - k) (by omega) (hd.drop k)
        have lI := inc_len L.length (L.drop k) (i - k) (by omega)
        have HW := Lib.hid (fun A' c' W hA' hAn => with3_any (inc (L.drop k) (i - k)) (rt (L.take k)) A' c' W dI r1.out hA' hAn (by omega))
        have hik : ¬ (i : Int) < (k : Int) := by omega
        have e1 : (i : Int) - (k : Int) = ((i - k : Nat) : Int) := by omega
        have e2 : IntKind.i64.wrap ((i : Int) - (k : Int)) = ((i - k : Nat) : Int) := by rw [← e1, IntWalk.i64_left, IntWalk.wrap64_in _ (by omega)]
        rw [hv.out]
        generalize inc (L.drop k) (i - k) = Pf at I1 HW hv
        generalize rt (L.take k) = D at R1 HW hv
        obtain ⟨n, hn⟩ : ∃ n, n = L.length := ⟨_, rfl⟩
        rw [← hn] at HP R2 I1 n1 k1 k5 ⊢
        generalize i - k = ik at I1 e1 e2
        unfold av at R1 HW
        clear hk hn hl h1 hil hd hc hcm h6 hA ht ih h2 R2 r1 r2 l1 l2 dI lI hi hv hkn
        have E2 := Lib.hid e2
        clear e1 e2
        go_enter Tryd.func35, Tryd.ntmps35
        go_wp2_with fail
        refine (HP.out _).mono ?_
        rintro e w2 ⟨rfl, rfl⟩
        go_wp2_with fail
        refine wp_region_planL 99 [(true, 0), (true, 1), (true, 2), (true, 3), (true, 4), (true, 5), (true, 7), (true, 8), (true, 9), (false, 6), (false, 10), (false, 11), (true, 12)] (by kernel_rfl) (by decide) (by kernel_rfl) (by kernel_rfl) (by kernel_rfl) (by decide) (by intro c a d v w h; cases d <;> exact h) ?_
        change wpPlanL _ _ _ _ _ _ w2.drew
        iterate 9 (refine wpPlanL_plain rfl (fun K hK => ?_); go_simp; refine hK _ ?_; clear hK K)
        rw [E2.out]
        have hB0 : Hid (Below w2.heap.size w2 w2.drew) := (Below.refl _ _).drew
        refine wpPlanL_call rfl (fun K hK => ?_)
        go_wp2_with fail
        refine (I1.out w2.drew hA2.out hT.out).mono ?_
        rintro e w3 ⟨⟨v3, rfl, ho3⟩, hb3⟩
        obtain ⟨A3, c3, rfl, _, _, hn3, hd3⟩ := ho3.form
        go_wp2_with fail
        refine planPostL_normal ⟨.inr hb3, hK _ _ ?_⟩
        clear hK K
        have hB3 := Lib.hid (hB0.out.trans hb3)
        have hd3' := Lib.hid hd3
        have hn3' := Lib.hid hn3
        clear hb3 ho3 hd3 hn3
        refine wpPlanL_call rfl (fun K hK => ?_)
        go_wp2_with fail
        refine (R1.out _ (hA1.out.on hB3.out) (hT.out.on hB3.out)).mono ?_
        rintro e w4 ⟨rfl, hb4⟩
        go_wp2_with fail
        refine planPostL_normal ⟨.inr hb4, hK _ _ ?_⟩
        clear hK K
        have hB4 := Lib.hid (hB3.out.trans (hb4.mono hB3.out.size))
        have hd4 := Lib.hid (hd3'.out.on hb4)
        clear hb4
        refine wpPlanL_call rfl (fun K hK => ?_)
        go_wp2_with fail
        refine (HW.out _ _ _ hd4.out hn3'.out).mono ?_
        rintro e w5 ⟨⟨v5, rfl, ho5⟩, hb5⟩
        go_wp2_with fail
        refine planPostL_normal ⟨.inr hb5, hK _ _ ?_⟩
        clear hK K
        have hB5 := hB4.out.trans (hb5.mono hB4.out.size)
        have hs4 := hB4.out.size
        clear hb5
        iterate 1 (refine wpPlanL_plain rfl (fun K hK => ?_); go_simp; refine hK _ ?_; clear hK K)
        refine wpPlanL_nil ?_
        go_wp2_with fail
        go_ret
        exact ⟨⟨_, rfl, ho5.lower hs4⟩, hB5⟩
    · have hv : inc L i = [] := by unfold inc; rw [Mk.incl_one nd emp (by omega)]
      rw [hv]
      have n1 : (L.length : Int) = 1 := by omega
      obtain ⟨n, hn⟩ : ∃ n, n = L.length := ⟨_, rfl⟩
      rw [← hn] at n1 ⊢
      obtain rfl : n = 1 := by omega
      clear hn hA ht ih
      go_enter Tryd.func35, Tryd.ntmps35
      go_wp2_with fail
      go_ret
      exact ⟨⟨_, rfl, ownD_nil _ _⟩, Below.refl _ _⟩
end Go.Proofs.YtlgokfgiemaklaaDoor

namespace Go.Proofs.YtlgokfgiemaklaaDoor
set_option linter.unusedVariables false
set_option linter.unusedSimpArgs false
open Go.RowKit

theorem cs_d16 (N : Nat) : ∀ (L : List (List UInt8)) (m : Nat) (mark : Bool), L.length ≤ N → D16 L → D16 (cs L m mark) := by
  induction N with
  | zero =>
    intro L m mark h hd
    unfold cs
    rw [Mk.cons]
    split
    · split
      · intro x hx; cases hx
      · exact d16_one (rt_len hd)
    · rw [dif_pos (by omega)]; intro x hx; cases hx
  | succ N ih =>
    intro L m mark h hd
    by_cases hm : m = L.length
    · unfold cs; rw [Mk.cons_all nd emp hm]
      split
      · intro x hx; cases hx
      · exact d16_one (rt_len hd)
    · by_cases h2 : 2 ≤ L.length
      · have a := Mk.ksz_lt h2
        have b := Mk.ksz_pos L.length
        by_cases hi : m ≤ Mk.ksz L.length
        · have h1 := ih (L.take (Mk.ksz L.length)) m mark (by rw [List.length_take]; omega) (hd.take _)
          unfold cs at h1 ⊢
          rw [Mk.cons_left nd emp h2 hm hi]
          exact d16_app h1 (d16_one (rt_len (hd.drop _)))
        · have h1 := ih (L.drop (Mk.ksz L.length)) (m - Mk.ksz L.length) false (by rw [List.length_drop]; omega) (hd.drop _)
          unfold cs at h1 ⊢
          rw [Mk.cons_right nd emp h2 hm hi]
          exact d16_app h1 (d16_one (rt_len (hd.take _)))
      · unfold cs; rw [Mk.cons, if_neg hm, dif_pos (by omega)]; intro x hx; cases hx

set_option maxRecDepth 100000 in
set_option maxHeartbeats 2000000 in
theorem refCons_up (N : Nat) : ∀ (L : List (List UInt8)) (A : Option Addr) (c i : Nat) (mk : Bool) (w : World), L.length ≤ N → 1 ≤ L.length → 1 ≤ i → i ≤ L.length → D16 L → L.length ≤ c → c ≤ maxLen → L.length ≤ 1000000 → Dg w A L → Tab 3 w →
    Calls Tryd.prog 36 #[.slice A L.length c, .int .i64 i, .bool mk] w fun e w' => (∃ v, e = .returned v ∧ OwnD w' w.heap.size v (cs L i mk)) ∧ Below w.heap.size w w' := by
  induction N with
  | zero => intro L A c i mk w hl h1; omega
  | succ N ih =>
    intro L A c i mk w hl h1 hi1 hil hd hc hcm h6 hA ht
    by_cases him : i = L.length
    · have hv : cs L i mk = if mk then [] else [rt L] := by unfold cs; rw [Mk.cons_all nd emp him]; rfl
      rw [hv]
      have n1 : ((i : Int) == (L.length : Int)) = true := by simp; omega
      have HR := Lib.hid (refRoot_any L A c w hd hc hcm (by omega) hA ht)
      have hrl := rt_len hd
      generalize rt L = D at HR hrl ⊢
      unfold av at HR
      have hO := Lib.hid (fun (W : World) (hW : w.heap.size ≤ W.heap.size) => show OwnD (W.alloc (.cells (D.map bv).toArray 31)) w.heap.size (.slice (some ⟨W.heap.size, 0, none⟩) 1 1) [D] from
        ⟨by rw [flat_one, List.length_map, hrl]; rfl, .inr ⟨W.heap.size, 1, (D.map bv).toArray, rfl, hW, heap_alloc_new W _, Nat.le_refl _, by unfold maxLen; omega, by rw [List.size_toArray, List.length_map, hrl], by rw [flat_one, List.length_singleton, List.take_of_length_le (by simp [hrl])]⟩⟩)
      clear him hv hl h1 hi1 hil hd hc hcm h6 hA ht ih
      cases mk with
      | true =>
        clear HR hO hrl
        go_enter Tryd.func36, Tryd.ntmps36
        go_wp2_with fail
        go_ret
        exact ⟨⟨_, rfl, ownD_nil _ _⟩, Below.refl _ _⟩
      | false =>
        go_enter Tryd.func36, Tryd.ntmps36
        go_wp2_with fail
        refine HR.out.mono ?_
        rintro e w2 ⟨rfl, hb2⟩
        have hs2 := hb2.size
        go_wp2_with (refine step_build_dg rfl _ rfl D hrl rfl ?_)
        go_ret
        exact ⟨⟨_, rfl, hO.out w2 hs2⟩, hb2.alloc hs2 _⟩
    have h2 : 2 ≤ L.length := by omega
    · obtain ⟨ad, rfl, hab, _⟩ := hA.look (k := 0) (u := bv ((flat L).getD 0 0)) (by
        have := flat_len L hd
        rw [List.getElem?_map, List.getElem?_eq_getElem (by omega), List.getD_eq_getElem?_getD, List.getElem?_eq_getElem (by omega)]
        rfl)
      obtain ⟨k, hk⟩ : ∃ k, k = Mk.ksz L.length := ⟨_, rfl⟩
      have hkn : k < L.length := by rw [hk]; exact Mk.ksz_lt h2
      have hkp : 0 < k := by rw [hk]; exact Mk.ksz_pos _
      have HP := Lib.hid (fun W => split_any L.length W h2 (by omega))
      rw [← hk] at HP
      have l1 : (L.take k).length = k := by rw [List.length_take]; omega
      have l2 : (L.drop k).length = L.length - k := List.length_drop ..
      have hA1 := Lib.hid (hA.take hd k)
      have hA2 := Lib.hid (hA.drop hd k)
      rw [Nat.mul_comm 16 k] at hA2
      have R1 := Lib.hid (fun W hA hT => refRoot_any (L.take k) (some ad) c W (hd.take k) (by omega) hcm (by omega) hA hT)
      have R2 := Lib.hid (fun W hA hT => refRoot_any (L.drop k) (some (ad.add (k * 16))) (c - k) W (hd.drop k) (by omega) (by omega) (by omega) hA hT)
      rw [l1] at R1
      rw [l2] at R2
      have r1 := Lib.hid (rt_len (hd.take k))
      have r2 := Lib.hid (rt_len (hd.drop k))
      have n1 : ((i : Int) == (L.length : Int)) = false := by simp; omega
      have k1 : (k : Int) ≤ (L.length : Int) := by omega
      have k2 : (k : Int) ≤ (c : Int) := by omega
      have k3 : 0 ≤ (k : Int) := by omega
      have k4 : k ≤ c := by omega
      have k5 : k ≤ L.length := by omega
      have k6 : ¬ c = k := by omega
      have hT := Lib.hid ht
      by_cases hi : i ≤ k
      · have hv : Hid (cs L i mk = cs (L.take k) i mk ++ [rt (L.drop k)]) := by
          show _ = _
          unfold cs
          rw [Mk.cons_left nd emp h2 him (by rw [← hk]; exact hi), ← hk]
          rfl
        have I1 := Lib.hid (fun W hA hT => ih (L.take k) (some ad) c i mk W (by omega) (by omega) (by omega) (by omega) (hd.take k) (by omega) hcm (by omega) hA hT)
        rw [l1] at I1
        have dI := cs_d16 L.length (L.take k) i mk (by omega) (hd.take k)
        have lI := cs_len k (L.take k) i mk (by omega)
        have HW := Lib.hid (fun A' c' W hA' hAn => with3_any (cs (L.take k) i mk) (rt (L.drop k)) A' c' W dI r2.out hA' hAn (by omega))
        have hik : (i : Int) ≤ (k : Int) := by omega
        rw [hv.out]
        generalize cs (L.take k) i mk = Pf at I1 HW hv
        generalize rt (L.drop k) = D at R2 HW hv
        obtain ⟨n, hn⟩ : ∃ n, n = L.length := ⟨_, rfl⟩
        rw [← hn] at HP R2 n1 k1 k5 ⊢
        unfold av at R2 HW
        clear hk hn hl h1 hi1 hil him hd hc hcm h6 hA ht ih h2 R1 r1 r2 l1 l2 dI lI hi hv hkn
        go_enter Tryd.func36, Tryd.ntmps36
        go_wp2_with fail
        refine (HP.out _).mono ?_
        rintro e w2 ⟨rfl, rfl⟩
        go_wp2_with fail
        refine wp_region_planL 99 [(true, 0), (true, 1), (true, 2), (true, 3), (true, 4), (true, 6), (true, 7), (true, 8), (false, 5), (false, 9), (false, 10), (true, 11)] (by kernel_rfl) (by decide) (by kernel_rfl) (by kernel_rfl) (by kernel_rfl) (by decide) (by intro c a d v w h; cases d <;> exact h) ?_
        change wpPlanL _ _ _ _ _ _ w2.drew
        iterate 8 (refine wpPlanL_plain rfl (fun K hK => ?_); go_simp; refine hK _ ?_; clear hK K)
        have hB0 : Hid (Below w2.heap.size w2 w2.drew) := (Below.refl _ _).drew
        refine wpPlanL_call rfl (fun K hK => ?_)
        go_wp2_with fail
        refine (I1.out w2.drew hA1.out hT.out).mono ?_
        rintro e w3 ⟨⟨v3, rfl, ho3⟩, hb3⟩
        obtain ⟨A3, c3, rfl, _, _, hn3, hd3⟩ := ho3.form
        go_wp2_with fail
        refine planPostL_normal ⟨.inr hb3, hK _ _ ?_⟩
        clear hK K
        have hB3 := Lib.hid (hB0.out.trans hb3)
        have hd3' := Lib.hid hd3
        have hn3' := Lib.hid hn3
        clear hb3 ho3 hd3 hn3
        refine wpPlanL_call rfl (fun K hK => ?_)
        go_wp2_with fail
        refine (R2.out _ (hA2.out.on hB3.out) (hT.out.on hB3.out)).mono ?_
        rintro e w4 ⟨rfl, hb4⟩
        go_wp2_with fail
        refine planPostL_normal ⟨.inr hb4, hK _ _ ?_⟩
        clear hK K
        have hB4 := Lib.hid (hB3.out.trans (hb4.mono hB3.out.size))
        have hd4 := Lib.hid (hd3'.out.on hb4)
        clear hb4
        refine wpPlanL_call rfl (fun K hK => ?_)
        go_wp2_with fail
        refine (HW.out _ _ _ hd4.out hn3'.out).mono ?_
        rintro e w5 ⟨⟨v5, rfl, ho5⟩, hb5⟩
        go_wp2_with fail
        refine planPostL_normal ⟨.inr hb5, hK _ _ ?_⟩
        clear hK K
        have hB5 := hB4.out.trans (hb5.mono hB4.out.size)
        have hs4 := hB4.out.size
        clear hb5
        iterate 1 (refine wpPlanL_plain rfl (fun K hK => ?_); go_simp; refine hK _ ?_; clear hK K)
        refine wpPlanL_nil ?_
        go_wp2_with fail
        go_ret
        exact ⟨⟨_, rfl, ho5.lower hs4⟩, hB5⟩
      · have hv : Hid (cs L i mk = cs (L.drop k) (i - k) false ++ [rt (L.take k)]) := by
          show _ = _
          unfold cs
          rw [Mk.cons_right nd emp h2 him (by rw [← hk]; exact hi), ← hk]
          rfl
        have I1 := Lib.hid (fun W hA hT => ih (L.drop k) (some (ad.add (k * 16))) (c - k) (i - k) false W (by omega) (by omega) (by omega) (by omega) (hd.drop k) (by omega) (by omega) (by omega) hA hT)
        rw [l2] at I1
        have dI := cs_d16 L.length (L.drop k) (i - k) false (by omega) (hd.drop k)
        have lI := cs_len (L.length - k) (L.drop k) (i - k) false (by omega)
        have HW := Lib.hid (fun A' c' W hA' hAn => with3_any (cs (L.drop k) (i - k) false) (rt (L.take k)) A' c' W dI r1.out hA' hAn (by omega))
        have hik : ¬ (i : Int) ≤ (k : Int) := by omega
        have e1 : (i : Int) - (k : Int) = ((i - k : Nat) : Int) := by omega
        have e2 : IntKind.i64.wrap ((i : Int) - (k : Int)) = ((i - k : Nat) : Int) := by rw [← e1, IntWalk.i64_left, IntWalk.wrap64_in _ (by omega)]
        rw [hv.out]
        generalize cs (L.drop k) (i - k) false = Pf at I1 HW hv
        generalize rt (L.take k) = D at R1 HW hv
        obtain ⟨n, hn⟩ : ∃ n, n = L.length := ⟨_, rfl⟩
        rw [← hn] at HP R2 I1 n1 k1 k5 ⊢
        generalize i - k = ik at I1 e1 e2
        unfold av at R1 HW
        clear hk hn hl h1 hi1 hil him hd hc hcm h6 hA ht ih h2 R2 r1 r2 l1 l2 dI lI hi hv hkn
        have E2 := Lib.hid e2
        clear e1 e2
        go_enter Tryd.func36, Tryd.ntmps36
        go_wp2_with fail
        refine (HP.out _).mono ?_
        rintro e w2 ⟨rfl, rfl⟩
        go_wp2_with fail
        refine wp_region_planL 99 [(true, 0), (true, 1), (true, 2), (true, 3), (true, 4), (true, 5), (true, 7), (true, 8), (true, 9), (false, 6), (false, 10), (false, 11), (true, 12)] (by kernel_rfl) (by decide) (by kernel_rfl) (by kernel_rfl) (by kernel_rfl) (by decide) (by intro c a d v w h; cases d <;> exact h) ?_
        change wpPlanL _ _ _ _ _ _ w2.drew
        iterate 9 (refine wpPlanL_plain rfl (fun K hK => ?_); go_simp; refine hK _ ?_; clear hK K)
        rw [E2.out]
        have hB0 : Hid (Below w2.heap.size w2 w2.drew) := (Below.refl _ _).drew
        refine wpPlanL_call rfl (fun K hK => ?_)
        go_wp2_with fail
        refine (I1.out w2.drew hA2.out hT.out).mono ?_
        rintro e w3 ⟨⟨v3, rfl, ho3⟩, hb3⟩
        obtain ⟨A3, c3, rfl, _, _, hn3, hd3⟩ := ho3.form
        go_wp2_with fail
        refine planPostL_normal ⟨.inr hb3, hK _ _ ?_⟩
        clear hK K
        have hB3 := Lib.hid (hB0.out.trans hb3)
        have hd3' := Lib.hid hd3
        have hn3' := Lib.hid hn3
        clear hb3 ho3 hd3 hn3
        refine wpPlanL_call rfl (fun K hK => ?_)
        go_wp2_with fail
        refine (R1.out _ (hA1.out.on hB3.out) (hT.out.on hB3.out)).mono ?_
        rintro e w4 ⟨rfl, hb4⟩
        go_wp2_with fail
        refine planPostL_normal ⟨.inr hb4, hK _ _ ?_⟩
        clear hK K
        have hB4 := Lib.hid (hB3.out.trans (hb4.mono hB3.out.size))
        have hd4 := Lib.hid (hd3'.out.on hb4)
        clear hb4
        refine wpPlanL_call rfl (fun K hK => ?_)
        go_wp2_with fail
        refine (HW.out _ _ _ hd4.out hn3'.out).mono ?_
        rintro e w5 ⟨⟨v5, rfl, ho5⟩, hb5⟩
        go_wp2_with fail
        refine planPostL_normal ⟨.inr hb5, hK _ _ ?_⟩
        clear hK K
        have hB5 := hB4.out.trans (hb5.mono hB4.out.size)
        have hs4 := hB4.out.size
        clear hb5
        iterate 1 (refine wpPlanL_plain rfl (fun K hK => ?_); go_simp; refine hK _ ?_; clear hK K)
        refine wpPlanL_nil ?_
        go_wp2_with fail
        go_ret
        exact ⟨⟨_, rfl, ho5.lower hs4⟩, hB5⟩
end Go.Proofs.YtlgokfgiemaklaaDoor

namespace Go.Proofs.YtlgokfgiemaklaaDoor
set_option linter.unusedVariables false
set_option linter.unusedSimpArgs false
open Go.RowKit

theorem size_path : (Tryd.prog.info? 28).map (·.size) = some 2 := by kernel_rfl
theorem row_path : ∃ d, Tryd.prog.underlying 28 = some d ∧ d.isRow = true := ⟨_, Tryd.underlying28, rfl⟩
theorem path_one (A : Option Addr) (n c : Nat) (z : Int) : ∀ u ∈ [Value.slice A n c, Value.int .i64 z], u.oneCell' = true := by
  intro u hu
  simp only [List.mem_cons, List.not_mem_nil, or_false] at hu
  rcases hu with rfl | rfl <;> rfl
/-- A path, or an error. -/
def PathEnd (P : List (List UInt8)) (E : Int) (w : World) (e : Ending) (w' : World) : Prop := ∃ A c, e = .returned (.agg #[.slice A P.length c, .int .i64 E]) ∧ OwnD w' w.heap.size (.slice A P.length c) P ∧ Below w.heap.size w w'

set_option maxRecDepth 100000 in
set_option maxHeartbeats 2000000 in
theorem refInclusion_no (n c : Nat) (A : Option Addr) (i : Int) (w : World) (hi : i < 0 ∨ (n : Int) ≤ i) :
    Calls Tryd.prog 12 #[.slice A n c, .int .i64 i] w (PathEnd [] 1 w) := by
  obtain ⟨dd, hdu, hdr⟩ := row_path
  have hdu' := Lib.hid hdu
  have hB1 : Hid (∀ o, Below w.heap.size w (w.alloc o)) := fun o => (Below.refl _ _).alloc (Nat.le_refl _) _
  have hR1 := Lib.hid (Blk.new w [.slice none 0 0, .int .i64 0] 28)
  clear hdu
  by_cases h0 : i < 0
  · clear hi
    go_enter Tryd.func12, Tryd.ntmps12
    go_wp2_with (refine wpList_row_store rfl 28 _ _ rfl [.slice none 0 0, .int .i64 1] rfl rfl hR1.out size_path rfl (path_one _ _ _ _) ?_; intro w3 hw3 ho3)
    exact bodyPost_ret (ret_blk rfl _ w3 (g := w.heap.size) rfl hw3.out dd hdu'.out hdr size_path) rfl ⟨none, 0, rfl, ownD_nil _ _, (hB1.out _).trans (ho3.below (Nat.le_refl _))⟩
  · have h1 : (n : Int) ≤ i := by omega
    clear hi
    go_enter Tryd.func12, Tryd.ntmps12
    go_wp2_with (refine wpList_row_store rfl 28 _ _ rfl [.slice none 0 0, .int .i64 1] rfl rfl hR1.out size_path rfl (path_one _ _ _ _) ?_; intro w3 hw3 ho3)
    exact bodyPost_ret (ret_blk rfl _ w3 (g := w.heap.size) rfl hw3.out dd hdu'.out hdr size_path) rfl ⟨none, 0, rfl, ownD_nil _ _, (hB1.out _).trans (ho3.below (Nat.le_refl _))⟩

set_option maxRecDepth 100000 in
set_option maxHeartbeats 2000000 in
theorem refInclusion_ok (L : List (List UInt8)) (A : Option Addr) (c i : Nat) (w : World) (hi : i < L.length) (hd : D16 L) (hc : L.length ≤ c) (hcm : c ≤ maxLen) (h6 : L.length ≤ 1000000) (hA : Dg w A L) (ht : Tab 3 w) :
    Calls Tryd.prog 12 #[.slice A L.length c, .int .i64 i] w (PathEnd (inc L i) 0 w) := by
  obtain ⟨dd, hdu, hdr⟩ := row_path
  have hdu' := Lib.hid hdu
  obtain ⟨W1, hW1⟩ : ∃ W1, W1 = w.alloc (.cells #[.slice none 0 0, .int .i64 0] 28) := ⟨_, rfl⟩
  have hB1 : Hid (Below w.heap.size w W1) := by show Below _ _ _; rw [hW1]; exact (Below.refl _ _).alloc (Nat.le_refl _) _
  have hR1 : Hid (Blk W1 w.heap.size [.slice none 0 0, .int .i64 0] 28) := by show Blk _ _ _ _; rw [hW1]; exact Blk.new _ [_, _] _
  have hs1 : Hid (W1.heap.size = w.heap.size + 1) := by show _ = _; rw [hW1]; simp
  have hW1' := Lib.hid hW1
  have H := Lib.hid (refIncl_up L.length L A c i W1 (Nat.le_refl _) (by omega) hi hd hc hcm h6 (hA.on hB1.out) (ht.on hB1.out))
  have t0 : ¬ (i : Int) < 0 := by omega
  have t1 : ¬ (L.length : Int) ≤ (i : Int) := by omega
  generalize inc L i = Pf at H ⊢
  clear hdu hW1 hi hd hc hcm h6 hA ht
  go_enter Tryd.func12, Tryd.ntmps12
  go_wp2_with fail
  generalize hg : w.alloc _ = Wg
  have hgW : W1 = Wg := by rw [← hg, hW1'.out]
  clear hg hW1'
  subst hgW
  refine H.out.mono ?_
  rintro e w2 ⟨⟨v2, rfl, ho2⟩, hb2⟩
  obtain ⟨A2, c2, rfl, _, _, _, _⟩ := ho2.form
  have hR2 := Lib.hid (hR1.out.below hb2 hR1.out.lt)
  have hB2 := Lib.hid (hB1.out.trans (hb2.mono hB1.out.size))
  have ho2' := Lib.hid ho2
  clear hb2 ho2
  go_wp2_with (refine wpList_row_store rfl 28 _ _ rfl [.slice A2 Pf.length c2, .int .i64 0] rfl rfl hR2.out size_path rfl (path_one _ _ _ _) ?_; intro w3 hw3 ho3)
  refine bodyPost_ret (ret_blk rfl _ w3 (g := w.heap.size) rfl hw3.out dd hdu'.out hdr size_path) rfl ⟨A2, c2, rfl, ?_, hB2.out.trans (ho3.below (Nat.le_refl _))⟩
  exact (OwnD.only ho2'.out ho3 (by rw [hs1.out]; omega)).lower hB1.out.size

set_option maxRecDepth 100000 in
set_option maxHeartbeats 2000000 in
theorem refConsistency_no (n c : Nat) (A : Option Addr) (m : Int) (w : World) (hm : m < 0 ∨ (n : Int) < m) :
    Calls Tryd.prog 13 #[.slice A n c, .int .i64 m] w (PathEnd [] 1 w) := by
  obtain ⟨dd, hdu, hdr⟩ := row_path
  have hdu' := Lib.hid hdu
  have hB1 : Hid (∀ o, Below w.heap.size w (w.alloc o)) := fun o => (Below.refl _ _).alloc (Nat.le_refl _) _
  have hR1 := Lib.hid (Blk.new w [.slice none 0 0, .int .i64 0] 28)
  clear hdu
  by_cases h0 : m < 0
  · clear hm
    go_enter Tryd.func13, Tryd.ntmps13
    go_wp2_with (refine wpList_row_store rfl 28 _ _ rfl [.slice none 0 0, .int .i64 1] rfl rfl hR1.out size_path rfl (path_one _ _ _ _) ?_; intro w3 hw3 ho3)
    exact bodyPost_ret (ret_blk rfl _ w3 (g := w.heap.size) rfl hw3.out dd hdu'.out hdr size_path) rfl ⟨none, 0, rfl, ownD_nil _ _, (hB1.out _).trans (ho3.below (Nat.le_refl _))⟩
  · have h1 : (n : Int) < m := by omega
    clear hm
    go_enter Tryd.func13, Tryd.ntmps13
    go_wp2_with (refine wpList_row_store rfl 28 _ _ rfl [.slice none 0 0, .int .i64 1] rfl rfl hR1.out size_path rfl (path_one _ _ _ _) ?_; intro w3 hw3 ho3)
    exact bodyPost_ret (ret_blk rfl _ w3 (g := w.heap.size) rfl hw3.out dd hdu'.out hdr size_path) rfl ⟨none, 0, rfl, ownD_nil _ _, (hB1.out _).trans (ho3.below (Nat.le_refl _))⟩

set_option maxRecDepth 100000 in
set_option maxHeartbeats 2000000 in
theorem refConsistency_end (n c m : Nat) (A : Option Addr) (w : World) (hm : m = 0 ∨ m = n) :
    Calls Tryd.prog 13 #[.slice A n c, .int .i64 m] w (PathEnd [] 0 w) := by
  obtain ⟨dd, hdu, hdr⟩ := row_path
  have hdu' := Lib.hid hdu
  have hB1 : Hid (∀ o, Below w.heap.size w (w.alloc o)) := fun o => (Below.refl _ _).alloc (Nat.le_refl _) _
  have hR1 := Lib.hid (Blk.new w [.slice none 0 0, .int .i64 0] 28)
  have t0 : ¬ (m : Int) < 0 := by omega
  have t1 : ¬ (n : Int) < (m : Int) := by omega
  clear hdu
  by_cases h0 : m = 0
  · have h1 : ((m : Int) == 0) = true := by simp; omega
    clear hm h0
    go_enter Tryd.func13, Tryd.ntmps13
    go_wp2_with (refine wpList_row_store rfl 28 _ _ rfl [.slice none 0 0, .int .i64 0] rfl rfl hR1.out size_path rfl (path_one _ _ _ _) ?_; intro w3 hw3 ho3)
    exact bodyPost_ret (ret_blk rfl _ w3 (g := w.heap.size) rfl hw3.out dd hdu'.out hdr size_path) rfl ⟨none, 0, rfl, ownD_nil _ _, (hB1.out _).trans (ho3.below (Nat.le_refl _))⟩
  · have h1 : ((m : Int) == 0) = false := by simp; omega
    have h2 : ((m : Int) == (n : Int)) = true := by simp; omega
    clear hm h0
    go_enter Tryd.func13, Tryd.ntmps13
    go_wp2_with (refine wpList_row_store rfl 28 _ _ rfl [.slice none 0 0, .int .i64 0] rfl rfl hR1.out size_path rfl (path_one _ _ _ _) ?_; intro w3 hw3 ho3)
    exact bodyPost_ret (ret_blk rfl _ w3 (g := w.heap.size) rfl hw3.out dd hdu'.out hdr size_path) rfl ⟨none, 0, rfl, ownD_nil _ _, (hB1.out _).trans (ho3.below (Nat.le_refl _))⟩

set_option maxRecDepth 100000 in
set_option maxHeartbeats 2000000 in
theorem refConsistency_ok (L : List (List UInt8)) (A : Option Addr) (c m : Nat) (w : World) (h1 : 1 ≤ m) (hi : m < L.length) (hd : D16 L) (hc : L.length ≤ c) (hcm : c ≤ maxLen) (h6 : L.length ≤ 1000000) (hA : Dg w A L) (ht : Tab 3 w) :
    Calls Tryd.prog 13 #[.slice A L.length c, .int .i64 m] w (PathEnd (cs L m true) 0 w) := by
  obtain ⟨dd, hdu, hdr⟩ := row_path
  have hdu' := Lib.hid hdu
  obtain ⟨W1, hW1⟩ : ∃ W1, W1 = w.alloc (.cells #[.slice none 0 0, .int .i64 0] 28) := ⟨_, rfl⟩
  have hB1 : Hid (Below w.heap.size w W1) := by show Below _ _ _; rw [hW1]; exact (Below.refl _ _).alloc (Nat.le_refl _) _
  have hR1 : Hid (Blk W1 w.heap.size [.slice none 0 0, .int .i64 0] 28) := by show Blk _ _ _ _; rw [hW1]; exact Blk.new _ [_, _] _
  have hs1 : Hid (W1.heap.size = w.heap.size + 1) := by show _ = _; rw [hW1]; simp
  have hW1' := Lib.hid hW1
  have H := Lib.hid (refCons_up L.length L A c m true W1 (Nat.le_refl _) (by omega) h1 (by omega) hd hc hcm h6 (hA.on hB1.out) (ht.on hB1.out))
  have t0 : ¬ (m : Int) < 0 := by omega
  have t1 : ¬ (L.length : Int) < (m : Int) := by omega
  have t2 : ((m : Int) == 0) = false := by simp; omega
  have t3 : ((m : Int) == (L.length : Int)) = false := by simp; omega
  generalize cs L m true = Pf at H ⊢
  clear hdu hW1 hi hd hc hcm h6 hA ht h1
  go_enter Tryd.func13, Tryd.ntmps13
  go_wp2_with fail
  generalize hg : w.alloc _ = Wg
  have hgW : W1 = Wg := by rw [← hg, hW1'.out]
  clear hg hW1'
  subst hgW
  refine H.out.mono ?_
  rintro e w2 ⟨⟨v2, rfl, ho2⟩, hb2⟩
  obtain ⟨A2, c2, rfl, _, _, _, _⟩ := ho2.form
  have hR2 := Lib.hid (hR1.out.below hb2 hR1.out.lt)
  have hB2 := Lib.hid (hB1.out.trans (hb2.mono hB1.out.size))
  have ho2' := Lib.hid ho2
  clear hb2 ho2
  go_wp2_with (refine wpList_row_store rfl 28 _ _ rfl [.slice A2 Pf.length c2, .int .i64 0] rfl rfl hR2.out size_path rfl (path_one _ _ _ _) ?_; intro w3 hw3 ho3)
  refine bodyPost_ret (ret_blk rfl _ w3 (g := w.heap.size) rfl hw3.out dd hdu'.out hdr size_path) rfl ⟨A2, c2, rfl, ?_, hB2.out.trans (ho3.below (Nat.le_refl _))⟩
  exact (OwnD.only ho2'.out ho3 (by rw [hs1.out]; omega)).lower hB1.out.size
end Go.Proofs.YtlgokfgiemaklaaDoor
