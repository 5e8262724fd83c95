/-
  Contracts of stage 5: the reference's Product.
-/
import Derived.Test.YtfbdhcpclccikaaDoorMrcd
import Derived.Test.YtfbdhcpclccikaaDoorMe
import Derived.Test.YtfbdhcpclccikaaDoorRg
namespace Go.Proofs.YtfbdhcpclccikaaDoor
set_option linter.unusedVariables false
set_option linter.unusedSimpArgs false
open Go.RowKit

theorem comR_eq (coef : List UInt8) (rows : List (List UInt8)) (n : Nat) (hl : rows.length ≤ coef.length) : ∀ j, j ≤ rows.length → comR coef rows n j = rowF (fun k => Gf.combAt (coef.take j) rows k) n
  | 0, _ => by
    unfold comR rowF Gf.combAt
    apply List.ext_getElem?
    intro i
    rcases Nat.lt_or_ge i n with h | h
    · simp [h]
    · simp [h]
  | j + 1, hj => by
    obtain ⟨x, hx⟩ : ∃ x, coef[j]? = some x := ⟨_, List.getElem?_eq_getElem (by omega)⟩
    obtain ⟨p, hp⟩ : ∃ x, rows[j]? = some x := ⟨_, List.getElem?_eq_getElem (by omega)⟩
    rw [comR_next hx hp, comR_eq coef rows n hl j (by omega)]
    unfold addR
    rw [rowF_len]
    apply List.ext_getElem?
    intro i
    rcases Nat.lt_or_ge i n with h | h
    · rw [rowF_get _ h, rowF_get _ h, combAt_snoc coef rows i j x p hx hp, List.getD_eq_getElem?_getD, rowF_get _ h]
      rfl
    · rw [List.getElem?_eq_none (by rw [rowF_len]; exact h), List.getElem?_eq_none (by rw [rowF_len]; exact h)]
theorem prd_get {M1 M2 : List (List UInt8)} {k : Nat} {m : List UInt8} (hm : M1[k]? = some m) (hl : m.length = M2.length) : (prd M1 M2)[k]? = some (comR m M2 (cols M2) M2.length) := by
  have hk := (List.getElem?_eq_some_iff.1 hm).1
  unfold prd
  rw [matF_get _ hk, comR_eq m M2 (cols M2) (by omega) _ (Nat.le_refl _), List.take_of_length_le (by omega), List.getD_eq_getElem?_getD, hm]
  rfl

set_option maxRecDepth 100000 in
set_option maxHeartbeats 4000000 in
theorem refProduct_any {B1 B2 : Nat} (M1 M2 : List (List UInt8)) (A1 A2 : Option Addr) (c1 c2 : Nat) (w : World) (h1 : Mat w B1 A1 M1) (h2 : Mat w B2 A2 M2) (hB1 : B1 ≤ w.heap.size) (hB2 : B2 ≤ w.heap.size) (hl1 : M1.length ≤ 1000000) (hl2 : M2.length ≤ 1000000) :
    Calls Tryd.prog 36 #[.slice A1 M1.length c1, .slice A2 M2.length c2] w (MadeEnd w (if prdE M1 M2 = 0 then prd M1 M2 else []) (prdE M1 M2)) := by
  obtain ⟨dd, hdu, hdr⟩ := row_made
  have hdu' := Lib.hid hdu
  obtain ⟨W1, hW1⟩ : ∃ W1, W1 = w.alloc (.cells #[.slice none 0 0, .int .i64 0] 35) := ⟨_, rfl⟩
  have hb1 : Hid (Below w.heap.size w W1) := by show Below _ _ _; rw [hW1]; exact (Below.refl _ _).alloc (Nat.le_refl _) _
  have hR1 : Hid (Blk W1 w.heap.size [.slice none 0 0, .int .i64 0] 35) := by show Blk _ _ _ _; rw [hW1]; exact Blk.new _ [_, _] _
  have hs1 : Hid (W1.heap.size = w.heap.size + 1) := by show _ = _; rw [hW1]; simp
  have hW1' := Lib.hid hW1
  have hBs : Hid (B1 ≤ w.heap.size ∧ B2 ≤ w.heap.size ∧ M1.length ≤ 1000000 ∧ M2.length ≤ 1000000) := ⟨hB1, hB2, hl1, hl2⟩
  have hMa : Hid (Mat W1 B1 A1 M1) := h1.below (hb1.out.mono hB1)
  have hMb : Hid (Mat W1 B2 A2 M2) := h2.below (hb1.out.mono hB2)
  have CK1 := Lib.hid (refCheck_any M1 A1 c1 W1 hMa.out (by omega))
  have CK2 : Hid (∀ n, Calls Tryd.prog 19 #[.slice A2 M2.length c2] (W1.drewN n) fun e w' => e = .returned (.int .i64 (chk M2)) ∧ ∃ k, w' = (W1.drewN n).drewN k) := fun n => refCheck_any M2 A2 c2 (W1.drewN n) hMb.out (by omega)
  obtain ⟨E, hE0⟩ : ∃ E, E = prdE M1 M2 := ⟨_, rfl⟩
  have hE := Lib.hid hE0
  rw [← hE0]
  obtain ⟨R, hR0⟩ : ∃ R, R = if E = 0 then prd M1 M2 else [] := ⟨_, rfl⟩
  rw [← hR0]
  have hRh := Lib.hid hR0
  obtain ⟨r1, hr10⟩ : ∃ r, r = chk M1 := ⟨_, rfl⟩
  obtain ⟨r2, hr20⟩ : ∃ r, r = chk M2 := ⟨_, rfl⟩
  have hr1 := Lib.hid hr10
  have hr2 := Lib.hid hr20
  rw [← hr10] at CK1
  rw [← hr20] at CK2
  obtain ⟨N1, hN10⟩ : ∃ N, N = M1.length := ⟨_, rfl⟩
  obtain ⟨N2, hN20⟩ : ∃ N, N = M2.length := ⟨_, rfl⟩
  have hN : Hid (N1 = M1.length ∧ N2 = M2.length) := ⟨hN10, hN20⟩
  rw [← hN10] at CK1 ⊢
  rw [← hN20] at CK2 ⊢
  have tN1 : N1 ≤ 1000000 := by omega
  have tN2 : N2 ≤ 1000000 := by omega
  have HFAIL : Hid (∀ wx w4 : World, Below w.heap.size w wx → Only w.heap.size wx w4 → E ≠ 0 → ∃ A c, (Ending.returned (.agg #[.slice none 0 0, .int .i64 E]) = .returned (.agg #[.slice A R.length c, .int .i64 E]) ∧ R.length ≤ c ∧ c ≤ maxLen ∧ (A = none → c = 0) ∧ Mat w4 w4.heap.size A R)) := fun wx w4 h1 h2 h3 => by
    have : R = [] := hRh.out.trans (if_neg h3)
    subst this
    exact ⟨none, 0, rfl, by simp, by unfold maxLen; decide, fun _ => rfl, Mat.nil⟩
  clear hdu hW1 h1 h2 hB1 hB2 hl1 hl2 hE0 hR0 hr10 hr20 hN10 hN20
  go_enter Tryd.func36, Tryd.ntmps36
  go_wp2_with fail
  generalize hg : w.alloc _ = Wg
  have hgW : W1 = Wg := by rw [← hg, hW1'.out]
  clear hg hW1'
  subst hgW
  refine CK1.out.mono ?_
  rintro e w2 ⟨rfl, n2, rfl⟩
  by_cases h0 : r1 = 0
  rotate_left
  · have hEr : Hid (E = r1) := by
      show _ = _; rw [hE.out]; unfold prdE; rw [← hr1.out, if_pos h0]
    have t : (r1 == 0) = false := by simpa using h0
    have t' : (r1 != 0) = true := by simpa using h0
    have hRk : Hid (Blk (W1.drewN n2) w.heap.size [.slice none 0 0, .int .i64 0] 35) := hR1.out
    have hBk : Hid (Below w.heap.size w (W1.drewN n2)) := below_drewN hb1.out n2
    have hne : Hid (E ≠ 0) := by show _ ≠ _; rw [hEr.out]; exact h0
    clear h0 CK1 CK2
    go_wp2_with (refine wpList_row_store rfl 35 _ _ rfl [.slice none 0 0, .int .i64 r1] rfl rfl hRk.out size_made rfl (made_one _ _ _ _) ?_; intro w4 hw4 ho4)
    have hx := HFAIL.out _ _ hBk.out ho4 hne.out
    rw [hEr.out] at hx
    rw [hEr.out]
    exact bodyPost_ret (ret_blk rfl _ w4 (g := w.heap.size) rfl hw4.out dd hdu'.out hdr size_made) rfl ⟨hx, hBk.out.trans (ho4.below (Nat.le_refl _))⟩
  subst h0
  go_wp2_with fail
  refine (CK2.out n2).mono ?_
  rintro e w3 ⟨rfl, n3, rfl⟩
  have hRk : Hid (Blk ((W1.drewN n2).drewN n3) w.heap.size [.slice none 0 0, .int .i64 0] 35) := hR1.out
  have hBk : Hid (Below w.heap.size w ((W1.drewN n2).drewN n3)) := below_drewN (below_drewN hb1.out n2) n3
  have hMa3 : Hid (Mat ((W1.drewN n2).drewN n3) B1 A1 M1) := hMa.out
  have hMb3 : Hid (Mat ((W1.drewN n2).drewN n3) B2 A2 M2) := hMb.out
  have hs3 : Hid (((W1.drewN n2).drewN n3).heap.size = w.heap.size + 1) := hs1.out
  clear CK1 CK2 hb1 hR1 hs1 hMa hMb
  generalize (W1.drewN n2).drewN n3 = w2 at hRk hBk hMa3 hMb3 hs3 ⊢
  by_cases h0 : r2 = 0
  rotate_left
  · have hEr : Hid (E = r2) := by
      show _ = _; rw [hE.out]; unfold prdE; rw [← hr1.out, ← hr2.out, if_neg (by simp), if_pos h0]
    have t' : (r2 != 0) = true := by simpa using h0
    have hne : Hid (E ≠ 0) := by show _ ≠ _; rw [hEr.out]; exact h0
    clear h0
    go_wp2_with (refine wpList_row_store rfl 35 _ _ rfl [.slice none 0 0, .int .i64 r2] rfl rfl hRk.out size_made rfl (made_one _ _ _ _) ?_; intro w4 hw4 ho4)
    have hx := HFAIL.out _ _ hBk.out ho4 hne.out
    rw [hEr.out] at hx
    rw [hEr.out]
    exact bodyPost_ret (ret_blk rfl _ w4 (g := w.heap.size) rfl hw4.out dd hdu'.out hdr size_made) rfl ⟨hx, hBk.out.trans (ho4.below (Nat.le_refl _))⟩
  subst h0
  have hk1 := Lib.hid (ok_of hr1.out.symm)
  have hk2 := Lib.hid (ok_of hr2.out.symm)
  have CC1 : Hid (∀ W, Below w2.heap.size w2 W → Calls Tryd.prog 37 #[.slice A1 N1 c1] W fun e w' => e = .returned (.int .i64 (cols M1)) ∧ w' = W) := fun W hW => by
    rw [hN.out.1]
    exact refColumns_any M1 A1 c1 W (hMa3.out.below (hW.mono (by rw [hs3.out]; have := hBs.out; omega)))
  go_wp2_with fail
  refine (CC1.out _ (Below.refl _ _)).mono ?_
  rintro e w3 ⟨rfl, rfl⟩
  by_cases hcl : cols M1 = N2
  rotate_left
  · have hEr : Hid (E = 1) := by
      show _ = _; rw [hE.out]; unfold prdE; rw [← hr1.out, ← hr2.out, if_neg (by simp), if_neg (by simp), if_pos (by rw [← hN.out.2]; exact hcl)]
    have t' : (((cols M1 : Nat) : Int) != (N2 : Int)) = true := by simp only [bne_iff_ne, ne_eq]; omega
    have hne : Hid (E ≠ 0) := by show _ ≠ _; rw [hEr.out]; decide
    clear hcl
    generalize cols M1 = q1 at t' CC1
    go_wp2_with (refine wpList_row_store rfl 35 _ _ rfl [.slice none 0 0, .int .i64 1] rfl rfl hRk.out size_made rfl (made_one _ _ _ _) ?_; intro w4 hw4 ho4)
    have hx := HFAIL.out _ _ hBk.out ho4 hne.out
    rw [hEr.out] at hx
    rw [hEr.out]
    exact bodyPost_ret (ret_blk rfl _ w4 (g := w.heap.size) rfl hw4.out dd hdu'.out hdr size_made) rfl ⟨hx, hBk.out.trans (ho4.below (Nat.le_refl _))⟩
  have hE0 : E = 0 := by
    rw [hE.out]; unfold prdE; rw [← hr1.out, ← hr2.out, if_neg (by simp), if_neg (by simp), if_neg (by rw [← hN.out.2]; simp [hcl])]
  have hRT : R = prd M1 M2 := hRh.out.trans (if_pos hE0)
  subst hE0
  have hRl : Hid (R.length = N1) := by show _ = _; rw [hRT, hN.out.1]; exact matF_len _ _ _
  have hRg : Hid (∀ k m, M1[k]? = some m → R[k]? = some (comR m M2 (cols M2) M2.length)) := fun k m hm => by
    rw [hRT]; exact prd_get hm (by rw [hk1.out.same m (List.mem_of_getElem? hm), hcl, hN.out.2])
  have hkm : Hid (∀ m ∈ M1, m.length = N2) := fun m hm => (hk1.out.same m hm).trans hcl
  have CC2 : Hid (∀ W, Below w3.heap.size w3 W → Calls Tryd.prog 37 #[.slice A2 N2 c2] W fun e w' => e = .returned (.int .i64 (cols M2)) ∧ w' = W) := fun W hW => by
    rw [hN.out.2]
    exact refColumns_any M2 A2 c2 W (hMb3.out.below (hW.mono (by rw [hs3.out]; have := hBs.out; omega)))
  have COM : Hid (∀ W m ar cr, Below w3.heap.size w3 W → Rds W B1 ar (m.map bv) → m.length = N2 → Calls Tryd.prog 41 #[.slice ar m.length cr, .slice A2 N2 c2, .int .i64 (cols M2)] W fun e w' => ∃ v, e = .returned v ∧ NewRow W.heap.size w' v (comR m M2 (cols M2) M2.length) ∧ Below W.heap.size W w') := fun W m ar cr hW hr hm => by
    have hs := hW.size
    rw [hs3.out] at hs
    exact refCombine_any m M2 (cols M2) N2 ar A2 cr c2 m.length W hr (hMb3.out.below (hW.mono (by rw [hs3.out]; have := hBs.out; omega))) (by have := hBs.out; omega) (by have := hBs.out; omega) rfl hN.out.2 (by rw [hm, hN.out.2]; exact Nat.le_refl _) hk2.out.same (by have := hk2.out.cols_le; omega) (by have := hBs.out; omega)
  have t' : (((cols M1 : Nat) : Int) != (N2 : Int)) = false := by simp [hcl]
  clear hRT hcl HFAIL
  generalize cols M1 = q1 at t' CC1
  generalize cols M2 = q2 at CC2 COM hRg
  go_wp2_with fail
  go_loopw [6, 7] (fun v i wr => ∃ k : Nat, k ≤ N1 ∧ i = .int .i64 k ∧ OwnQ w.heap.size wr w3.heap.size v (R.take k) ∧ Below w3.heap.size w3 wr) (fun _ i _ => N1 - (intOf i).toNat)
  case atStart => exact ⟨0, by omega, rfl, ownQ_nil _ _ _, Below.refl _ _⟩
  case round =>
    obtain ⟨k, hk, rfl, ho, hbw⟩ := hrel
    by_cases hlt : k < N1
    · have t : (k : Int) < (N1 : Int) := by omega
      have t0 : 0 ≤ (k : Int) := by omega
      obtain ⟨m, hm⟩ : ∃ x, M1[k]? = some x := ⟨_, List.getElem?_eq_getElem (by have := hN.out; omega)⟩
      have hml := hkm.out m (List.mem_of_getElem? hm)
      have hBw : Hid (B1 ≤ w3.heap.size) := by show _ ≤ _; rw [hs3.out]; have := hBs.out; omega
      obtain ⟨ad, v1, rfl, hab, hca, ar, cr, rfl, b1, b2, b3, b4⟩ := (hMa3.out.below (hbw.mono hBw.out)).at hm
      have hd := Lib.hid hbw.drew
      have r1 : ∀ z : ExtOf wr.drew, z.world.cell? (ad.add k) = some (.slice ar m.length cr) := fun z => by
        rw [z.ext.cell (p := ad.add k) (by rw [add_block]; exact Nat.lt_of_lt_of_le hab (Nat.le_trans hBw.out hbw.size))]
        exact hca
      have CM := Lib.hid (COM.out wr.drew m ar cr hd.out b4 hml)
      have C2 := Lib.hid (CC2.out wr.drew hd.out)
      have htk := Lib.hid (take_snoc (hRg.out k m hm))
      have ho' := Lib.hid ho
      have hbw' := Lib.hid hbw
      clear b1 b2 b3 b4 hca hm hml hbw ho
      go_wp2_with fail
      refine wp_region_planM [10] [(true, 0), (true, 1), (true, 2), (true, 3), (true, 4), (true, 5), (true, 6), (false, 7), (false, 8), (false, 9), (false, 10), (true, 11)] (by decide) (by kernel_rfl) (by kernel_rfl) (by decide) (by intro c a d v w h; cases d <;> exact h) ?_
      change wpPlanM _ _ _ _ _ _ wr.drew
      iterate 7 (refine wpPlanM_plain rfl (fun K hK => ?_); go_simp; refine hK _ ?_; clear hK K)
      clear r1
      refine wpPlanM_call rfl (fun K hK => ?_)
      go_wp2_with fail
      refine C2.out.mono ?_
      rintro e w4 ⟨rfl, rfl⟩
      go_wp2_with fail
      refine planPostL_normal ⟨.inr (Ext.refl _), hK _ _ ?_⟩
      clear hK K
      refine wpPlanM_call rfl (fun K hK => ?_)
      go_wp2_with fail
      refine CM.out.mono ?_
      rintro e w4 ⟨u, rfl, hu, hb4⟩
      have hoff0 := Lib.hid (hu.off (x := w.heap.size) (show OwnQ w.heap.size wr.drew w3.heap.size _ _ from ho'.out.keep ((Below.refl _ _).drew)) (by have h1 := hbw'.out.size; rw [hs3.out] at h1; show _ < wr.heap.size; omega))
      have ho4 := Lib.hid ((show OwnQ w.heap.size wr.drew w3.heap.size _ _ from ho'.out.keep ((Below.refl _ _).drew)).keep hb4)
      have hB4 := Lib.hid (hd.out.trans (hb4.mono hd.out.size))
      obtain ⟨au, cu, rfl, _⟩ := hu
      go_wp2_with fail
      refine planPostL_normal ⟨.inr hb4, hK _ _ ?_⟩
      clear hK K hb4
      refine wpPlanM_call rfl (fun K hK => ?_)
      go_wp2_with fail
      refine planPostL_normal ⟨.inr ((Below.refl _ _).alloc (Nat.le_refl _) _), hK _ _ ?_⟩
      clear hK K
      have hln : (R.take k).length ≤ 1000000 := by rw [List.length_take]; have := hRl.out; omega
      have hsz4 : w3.heap.size ≤ w4.heap.size := hB4.out.size
      refine wpPlanM_call rfl (fun K hK => ?_)
      refine push_q rfl _ _ rfl w3.heap.size _ (R.take k) _ _ rfl rfl ho4.out hoff0.out hln hsz4 ?_
      intro v' w5 ho5 hb5 hg5
      have hO5 := Lib.hid ho5
      have hB5 := Lib.hid (hB4.out.trans hb5)
      clear ho5 hb5 hg5
      go_wp2_with fail
      refine planPostL_normal ⟨.inl (by simp), hK _ _ ?_⟩
      clear hK K
      iterate 1 (refine wpPlanM_plain rfl (fun K hK => ?_); go_simp; refine hK _ ?_; clear hK K)
      refine wpPlanM_nil ?_
      go_wp2_with fail
      go_roundw
      case rel => exact ⟨k + 1, by omega, by go_num, by rw [htk.out]; exact hO5.out, hB5.out⟩
      case measure => simp [intOf]; omega
    · have t : ¬ (k : Int) < (N1 : Int) := by omega
      have hkk : R.take k = R := List.take_of_length_le (by rw [hRl.out]; omega)
      rw [hkk] at ho
      obtain ⟨Ax, cx, rfl, g1, g2, g3, g4⟩ := ho.mat
      have hR3 : Hid (Blk wr w.heap.size [.slice none 0 0, .int .i64 0] 35) := hRk.out.below hbw hRk.out.lt
      have hbw' := Lib.hid hbw
      have hm : Hid (OwnQ w.heap.size wr w3.heap.size (.slice Ax R.length cx) R) := ho
      clear hbw g4 ho
      go_wp2_with (refine wpList_row_store rfl 35 _ _ rfl [.slice Ax R.length cx, .int .i64 0] rfl rfl hR3.out size_made rfl (made_one _ _ _ _) ?_; intro w4 hw4 ho4)
      refine bodyPost_ret (ret_blk rfl _ w4 (g := w.heap.size) rfl hw4.out dd hdu'.out hdr size_made) rfl ⟨⟨Ax, cx, rfl, g1, g2, g3, ?_⟩, (hBk.out.trans (hbw'.out.mono hBk.out.size)).trans (ho4.below (Nat.le_refl _))⟩
      obtain ⟨A3, c3, e3, _, _, _, g5⟩ := (hm.out.only ho4 (by rw [hs3.out]; omega)).mat
      cases e3
      exact g5
end Go.Proofs.YtfbdhcpclccikaaDoor
