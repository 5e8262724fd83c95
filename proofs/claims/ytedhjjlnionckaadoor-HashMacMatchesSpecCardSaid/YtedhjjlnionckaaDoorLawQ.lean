/-
  The law on codes of parts: its walk.
-/
import Derived.Test.YtedhjjlnionckaaDoorRfin
import Derived.Test.YtedhjjlnionckaaDoorOpn
namespace Go.Proofs.YtedhjjlnionckaaDoor
set_option linter.unusedVariables false
open Go.RowKit

theorem same_message {la lb : List (List UInt8)} (ha : FewS la) (hb : FewS lb) : ((bs (Sha.message la)).toList == (bs (Sha.message lb)).toList) = (la == lb) := by
  rw [bs_toList, bs_toList, Bool.eq_iff_iff, beq_iff_eq, beq_iff_eq]
  exact ⟨fun h => Sha.message_inj (fun s hs => by have := ha.2 s hs; omega) (fun s hs => by have := hb.2 s hs; omega) h, fun h => by rw [h]⟩

set_option maxRecDepth 100000 in
set_option maxHeartbeats 4000000 in
theorem walk_macspec (key : List UInt8) (A1 : Option Addr) (c1 : Nat) (la : List (List UInt8)) (A2 : Option Addr) (c2 : Nat) (lb : List (List UInt8)) (w : World) (hk : key.length ≤ 140737488351232) (H1 : SlS w A1 la.length c1 la) (H2 : SlS w A2 lb.length c2 lb) (ht : Tab 1 w) (hc : Tab 0 w) :
    Calls Tryd.prog 6 #[sv key, .slice A1 la.length c1, .slice A2 lb.length c2] w (OkEnd true w) := by
  have hT := Lib.hid ht
  have hC := Lib.hid hc
  have HSan := Lib.hid (fun W hT => sanity_any W hT)
  have hR1 := Lib.hid H1.rds
  have hR2 := Lib.hid H2.rds
  have hreach1 := H1.reach
  have hreach2 := H2.reach
  clear H1 H2
  have F1 := Lib.hid (fun W (hb : Below w.heap.size w W) => few02_any la A1 c1 W (hR1.out.below hb) hreach1)
  have F2 := Lib.hid (fun W (hb : Below w.heap.size w W) => few02_any lb A2 c2 W (hR2.out.below hb) hreach2)
  have K1 := Lib.hid (bs_size key)
  unfold sv
  by_cases hA : 400 < key.length
  · have t1 : (400 : Int) < (bs key).size := by rw [K1.out]; omega
    generalize bs key = S1 at t1 ⊢
    clear F1 F2
    go_enter Tryd.func6, Tryd.ntmps6
    go_wp2_with fail
    refine (HSan.out _ ht).mono ?_
    rintro e w1 ⟨rfl, hb1⟩
    go_wp2_with fail
    go_ret
    exact ⟨rfl, hb1⟩
  · have t1 : ¬ (400 : Int) < (bs key).size := by rw [K1.out]; omega
    by_cases hf1 : FewS la
    · rw [decide_eq_true hf1] at F1
      by_cases hf2 : FewS lb
      · rw [decide_eq_true hf2] at F2
        have hml1 := message_few hf1
        have hml2 := message_few hf2
        have hl1 := hf1.1
        have hl2 := hf2.1
        obtain ⟨r2, hr2⟩ : ∃ r2, (la == lb) = r2 := ⟨_, rfl⟩
        have hsm := Lib.hid ((same_message hf1 hf2).trans hr2)
        have HSm := Lib.hid (fun W (ha : Rds W W.heap.size A1 (la.map sv)) (hb : Rds W W.heap.size A2 (lb.map sv)) => same02_any la lb A1 A2 c1 c2 W ha hb (by omega))
        rw [hr2] at HSm
        have X1 := Lib.hid (fun W hr hT => mac_any key la A1 c1 W hr (by omega) (by omega) hT)
        have X2 := Lib.hid (fun W hr hT => mac_any key lb A2 c2 W hr (by omega) (by omega) hT)
        have Y1 := Lib.hid (fun W hr hC => refMac_of refSum refBlock key la A1 c1 W hr (by omega) (by omega) (by omega) hC)
        have G1 := Lib.hid (fun W hr => message_any la A1 c1 W hr (by omega) (by omega))
        have G2 := Lib.hid (fun W hr => message_any lb A2 c2 W hr (by omega) (by omega))
        have P1 := Lib.hid (fun W hT => hmac_any key (Sha.message la) W (by omega) hT)
        have P2 := Lib.hid (fun W hT => hmac_any key (Sha.message lb) W (by omega) hT)
        have z1 := Sha.hmac_len key (Sha.message la)
        have z2 := Sha.hmac_len key (Sha.message lb)
        have CL := Lib.hid (fun W => clash_any (Sha.hmac key (Sha.message la)) (Sha.hmac key (Sha.message lb)) W z1 z2)
        unfold Sha.mac at X1 X2 Y1
        generalize Sha.hmac key (Sha.message la) = Z1 at X1 Y1 P1 z1 CL
        generalize Sha.hmac key (Sha.message lb) = Z2 at X2 P2 z2 CL
        have d1 : (Z1.take 16).length = 16 := by rw [List.length_take, z1]; rfl
        have d2 : (Z2.take 16).length = 16 := by rw [List.length_take, z2]; rfl
        generalize Z1.take 16 = D1 at X1 Y1 CL d1
        generalize Z2.take 16 = D2 at X2 CL d2
        obtain ⟨r1, hr1⟩ : ∃ r1, (D1 == D2) = r1 := ⟨_, rfl⟩
        rw [hr1] at CL
        have hr1' := Lib.hid hr1
        unfold av at X1 X2 Y1 P1 P2 CL
        unfold sv at X1 X2 Y1 G1 G2 P1 P2
        generalize bs (Sha.message la) = M1 at G1 P1 hsm
        generalize bs (Sha.message lb) = M2 at G2 P2 hsm
        generalize bs key = S1 at t1 X1 X2 Y1 P1 P2 ⊢
        have hD1m : (D1.map bv).length = 16 := by rw [List.length_map, d1]
        have hD2m : (D2.map bv).length = 16 := by rw [List.length_map, d2]
        have hZ1m : (Z1.map bv).length = 32 := by rw [List.length_map, z1]
        have hZ2m : (Z2.map bv).length = 32 := by rw [List.length_map, z2]
        have hD1s := Lib.hid (size_dig16 _ hD1m)
        have hD2s := Lib.hid (size_dig16 _ hD2m)
        have hZ1s : Hid ((Tryd.prog.info? 24).map (·.size) = some (Z1.map bv).length) := by show _ = _; rw [hZ1m]; exact size_b32
        have hZ2s : Hid ((Tryd.prog.info? 24).map (·.size) = some (Z2.map bv).length) := by show _ = _; rw [hZ2m]; exact size_b32
        have hD1o := av_one D1
        have hD2o := av_one D2
        have hZ1o := av_one Z1
        have hZ2o := av_one Z2
        obtain ⟨n1, hn1⟩ : ∃ n1, n1 = la.length := ⟨_, rfl⟩
        obtain ⟨n2, hn2⟩ : ∃ n2, n2 = lb.length := ⟨_, rfl⟩
        rw [← hn1] at F1 HSm X1 Y1 G1 hl1 ⊢
        rw [← hn2] at F2 HSm X2 G2 hl2 ⊢
        have RB1 : Hid (∀ W, Below w.heap.size w W → Rds W W.heap.size A1 (la.map sv)) := fun W hb => (hR1.out.below hb).more hb.size
        have RB2 : Hid (∀ W, Below w.heap.size w W → Rds W W.heap.size A2 (lb.map sv)) := fun W hb => (hR2.out.below hb).more hb.size
        clear hn1 hn2 hr1 hr2 hf1 hf2 hml1 hml2 hreach1 hreach2 hR1 hR2 hA K1 hk
        go_enter Tryd.func6, Tryd.ntmps6
        go_wp2_with fail
        refine (HSan.out _ ht).mono ?_
        rintro e w1 ⟨rfl, hb1⟩
        go_wp2_with fail
        refine (F1.out _ hb1).mono ?_
        rintro e w1' ⟨rfl, rfl⟩
        go_wp2_with fail
        refine (F2.out _ hb1).mono ?_
        rintro e w1' ⟨rfl, rfl⟩
        go_wp2_with fail
        refine (X1.out _ (RB1.out _ hb1) (hT.out.on hb1)).mono ?_
        rintro e w2 ⟨rfl, hb2⟩
        have hB2 : Below w.heap.size w w2 := hb1.trans (hb2.mono hb1.size)
        clear hb1 hb2
        go_wp2_with (refine wpList_row_store rfl 30 _ _ rfl (D1.map bv) rfl rfl (Blk.new w2 (bz 16) 30) hD1s.out (by rw [hD1m]; rfl) hD1o ?_; intro w3 hW3 ho3)
        have hB3 : Below w.heap.size w w3 := (hB2.alloc hB2.size _).trans (ho3.below hB2.size)
        clear ho3 hB2
        refine (X2.out _ (RB2.out _ hB3) (hT.out.on hB3)).mono ?_
        rintro e w4 ⟨rfl, hb4⟩
        have hB4 : Below w.heap.size w w4 := hB3.trans (hb4.mono hB3.size)
        have hD4 := Lib.hid (hW3.out.below hb4 hW3.out.lt)
        clear hb4 hW3 hB3
        go_wp2_with (refine wpList_row_store rfl 30 _ _ rfl (D2.map bv) rfl rfl (Blk.new w4 (bz 16) 30) hD2s.out (by rw [hD2m]; rfl) hD2o ?_; intro w5 hW5 ho5)
        have hb5 : Below w4.heap.size w4 w5 := ((Below.refl _ _).alloc (Nat.le_refl _) _).trans (ho5.below (Nat.le_refl _))
        have hB5 : Below w.heap.size w w5 := hB4.trans (hb5.mono hB4.size)
        have hD5 := Lib.hid (hD4.out.below hb5 hD4.out.lt)
        clear ho5 hb5 hB4 hD4
        refine (G1.out _ (RB1.out _ hB5)).mono ?_
        rintro e w6 ⟨rfl, hb6⟩
        have hB6 : Below w.heap.size w w6 := hB5.trans (hb6.mono hB5.size)
        have hD6 := Lib.hid (hD5.out.below hb6 hD5.out.lt)
        have hE6 := Lib.hid (hW5.out.below hb6 hW5.out.lt)
        clear hb6 hB5 hD5 hW5
        go_wp2_with fail
        refine (P1.out _ (hT.out.on hB6)).mono ?_
        rintro e w7 ⟨rfl, hb7⟩
        have hB7 : Below w.heap.size w w7 := hB6.trans (hb7.mono hB6.size)
        have hD7 := Lib.hid (hD6.out.below hb7 hD6.out.lt)
        have hE7 := Lib.hid (hE6.out.below hb7 hE6.out.lt)
        clear hb7 hB6 hD6 hE6
        go_wp2_with (refine wpList_row_store rfl 24 _ _ rfl (Z1.map bv) rfl rfl (Blk.new w7 (bz 32) 24) hZ1s.out (by rw [hZ1m]; rfl) hZ1o ?_; intro w8 hW8 ho8)
        have hb8 : Below w7.heap.size w7 w8 := ((Below.refl _ _).alloc (Nat.le_refl _) _).trans (ho8.below (Nat.le_refl _))
        have hB8 : Below w.heap.size w w8 := hB7.trans (hb8.mono hB7.size)
        have hD8 := Lib.hid (hD7.out.below hb8 hD7.out.lt)
        have hE8 := Lib.hid (hE7.out.below hb8 hE7.out.lt)
        clear ho8 hb8 hB7 hD7 hE7
        refine (G2.out _ (RB2.out _ hB8)).mono ?_
        rintro e w9 ⟨rfl, hb9⟩
        have hB9 : Below w.heap.size w w9 := hB8.trans (hb9.mono hB8.size)
        have hD9 := Lib.hid (hD8.out.below hb9 hD8.out.lt)
        have hE9 := Lib.hid (hE8.out.below hb9 hE8.out.lt)
        have hI9 := Lib.hid (hW8.out.below hb9 hW8.out.lt)
        clear hb9 hB8 hD8 hE8 hW8
        go_wp2_with fail
        refine (P2.out _ (hT.out.on hB9)).mono ?_
        rintro e wa ⟨rfl, hba⟩
        have hBa : Below w.heap.size w wa := hB9.trans (hba.mono hB9.size)
        have hDa := Lib.hid (hD9.out.below hba hD9.out.lt)
        have hEa := Lib.hid (hE9.out.below hba hE9.out.lt)
        have hIa := Lib.hid (hI9.out.below hba hI9.out.lt)
        clear hba hB9 hD9 hE9 hI9
        go_wp2_with (refine wpList_row_store rfl 24 _ _ rfl (Z2.map bv) rfl rfl (Blk.new wa (bz 32) 24) hZ2s.out (by rw [hZ2m]; rfl) hZ2o ?_; intro wb hJb hob)
        have hbb : Below wa.heap.size wa wb := ((Below.refl _ _).alloc (Nat.le_refl _) _).trans (hob.below (Nat.le_refl _))
        have hBb : Below w.heap.size w wb := hBa.trans (hbb.mono hBa.size)
        have hDb := Lib.hid (hDa.out.below hbb hDa.out.lt)
        have hEb := Lib.hid (hEa.out.below hbb hEa.out.lt)
        have hIb := Lib.hid (hIa.out.below hbb hIa.out.lt)
        clear hob hbb hBa hDa hEa hIa
        refine (HSm.out wb (RB1.out _ hBb) (RB2.out _ hBb)).mono ?_
        intro e wc hcc
        obtain ⟨rfl, hbc⟩ := hcc.below
        have hBc : Below w.heap.size w wc := hBb.trans (hbc.mono hBb.size)
        have hDc := Lib.hid (hDb.out.below hbc hDb.out.lt)
        have hEc := Lib.hid (hEb.out.below hbc hEb.out.lt)
        have hIc := Lib.hid (hIb.out.below hbc hIb.out.lt)
        have hJc := Lib.hid (hJb.out.below hbc hJb.out.lt)
        clear hcc hbc hBb hDb hEb hIb hJb
        go_wp2_with fail
        refine wp_region_planL 99 [(true, 0), (true, 1), (true, 2), (true, 3), (true, 4), (false, 5), (true, 6), (true, 7), (true, 8), (true, 9), (true, 10), (true, 11), (true, 12), (true, 13), (false, 14), (true, 15), (true, 16), (true, 17), (true, 18), (true, 20), (true, 23), (false, 19), (false, 21), (true, 22), (true, 24), (true, 25), (true, 26)] (by kernel_rfl) (by decide) (by kernel_rfl) (by kernel_rfl) (by kernel_rfl) (by decide) (by intro c a d v w h; cases d <;> exact h) ?_
        change wpPlanL _ _ _ _ _ _ wc.drew
        iterate 2 (refine wpPlanL_plain rfl (fun K hK => ?_); go_simp; refine hK _ ?_; clear hK K)
        refine wpPlanL_runW rfl (by rfl) _ (fun x => load_run 30 _ rfl w2.heap.size 0 rfl (D1.map bv) (.array 16 5) Tryd.underlying30 rfl hD1s.out x.world ((hDc.out.below (x.below (Nat.le_refl _)) hDc.out.lt).range 0 _ (take_all0 _))) ?_
        iterate 2 (refine wpPlanL_plain rfl (fun K hK => ?_); go_simp; refine hK _ ?_; clear hK K)
        refine wpPlanL_call rfl (fun K hK => ?_)
        go_wp2_with fail
        refine (Y1.out _ (RB1.out _ hBc.drew) (hC.out.on hBc.drew)).mono ?_
        rintro e wd ⟨rfl, hbd⟩
        go_wp2_with fail
        refine planPostL_normal ⟨.inr hbd, hK _ _ ?_⟩
        clear hK K
        have hbd := drewBelow hbd
        have hBd : Below w.heap.size w wd := hBc.trans (hbd.mono hBc.size)
        have hDd := Lib.hid (hDc.out.below hbd hDc.out.lt)
        have hEd := Lib.hid (hEc.out.below hbd hEc.out.lt)
        have hId := Lib.hid (hIc.out.below hbd hIc.out.lt)
        have hJd := Lib.hid (hJc.out.below hbd hJc.out.lt)
        refine wpPlanL_runW rfl (by rfl) _ (fun x => eql_run 30 _ _ _ rfl 16 Tryd.underlying30 (by kernel_rfl) D1 D1 d1 d1 rfl rfl true (by simp) x.world) ?_
        iterate 2 (refine wpPlanL_plain rfl (fun K hK => ?_); go_simp; refine hK _ ?_; clear hK K)
        refine wpPlanL_runW rfl (by rfl) _ (fun x => load_run 30 _ rfl w2.heap.size 0 rfl (D1.map bv) (.array 16 5) Tryd.underlying30 rfl hD1s.out x.world ((hDd.out.below x.ext hDd.out.lt).range 0 _ (take_all0 _))) ?_
        refine wpPlanL_runW rfl (by rfl) _ (fun x => load_run 30 _ rfl w4.heap.size 0 rfl (D2.map bv) (.array 16 5) Tryd.underlying30 rfl hD2s.out x.world ((hEd.out.below x.ext hEd.out.lt).range 0 _ (take_all0 _))) ?_
        refine wpPlanL_runW rfl (by rfl) _ (fun x => eql_run 30 _ _ _ rfl 16 Tryd.underlying30 (by kernel_rfl) D1 D2 d1 d2 rfl rfl r1 hr1'.out x.world) ?_
        refine wpPlanL_runW rfl (by rfl) _ (fun x => load_run 24 _ rfl w7.heap.size 0 rfl (Z1.map bv) (.array 32 5) Tryd.underlying24 rfl hZ1s.out x.world ((hId.out.below x.ext hId.out.lt).range 0 _ (take_all0 _))) ?_
        refine wpPlanL_runW rfl (by rfl) _ (fun x => load_run 24 _ rfl wa.heap.size 0 rfl (Z2.map bv) (.array 32 5) Tryd.underlying24 rfl hZ2s.out x.world ((hJd.out.below x.ext hJd.out.lt).range 0 _ (take_all0 _))) ?_
        refine wpPlanL_call rfl (fun K hK => ?_)
        go_wp2_with fail
        refine (CL.out _).mono ?_
        rintro e we ⟨rfl, hbe⟩
        go_wp2_with fail
        refine planPostL_normal ⟨.inr hbe, hK _ _ ?_⟩
        clear hK K
        have hBe : Below w.heap.size w we := hBd.trans (hbe.mono hBd.size)
        iterate 6 (refine wpPlanL_plain rfl (fun K hK => ?_); go_simp; refine hK _ ?_; clear hK K)
        refine wpPlanL_call rfl (fun K hK => ?_)
        go_wp2_with fail
        refine (G1.out _ (RB1.out _ hBe)).mono ?_
        rintro e wf ⟨rfl, hbf⟩
        go_wp2_with fail
        refine planPostL_normal ⟨.inr hbf, hK _ _ ?_⟩
        clear hK K
        have hBf : Below w.heap.size w wf := hBe.trans (hbf.mono hBe.size)
        refine wpPlanL_call rfl (fun K hK => ?_)
        go_wp2_with fail
        refine (G2.out _ (RB2.out _ hBf)).mono ?_
        rintro e wg ⟨rfl, hbg⟩
        go_wp2_with fail
        refine planPostL_normal ⟨.inr hbg, hK _ _ ?_⟩
        clear hK K
        have hBg : Below w.heap.size w wg := hBf.trans (hbg.mono hBf.size)
        refine wpPlanL_runW rfl (by rfl) _ (fun x => eqs_run _ _ _ _ rfl Tryd.underlying9 _ _ r2 hsm.out rfl rfl x.world) ?_
        iterate 3 (refine wpPlanL_plain rfl (fun K hK => ?_); go_simp; refine hK _ ?_; clear hK K)
        refine wpPlanL_nil ?_
        go_wp2_with fail
        go_ret
        exact ⟨rfl, hBg⟩
      · rw [decide_eq_false hf2] at F2
        clear hf1 hf2
        generalize bs key = S1 at t1 ⊢
        go_enter Tryd.func6, Tryd.ntmps6
        go_wp2_with fail
        refine (HSan.out _ ht).mono ?_
        rintro e w1 ⟨rfl, hb1⟩
        go_wp2_with fail
        refine (F1.out _ hb1).mono ?_
        rintro e w1' ⟨rfl, rfl⟩
        go_wp2_with fail
        refine (F2.out _ hb1).mono ?_
        rintro e w1' ⟨rfl, rfl⟩
        go_wp2_with fail
        go_ret
        exact ⟨rfl, hb1⟩
    · rw [decide_eq_false hf1] at F1
      clear hf1
      generalize bs key = S1 at t1 ⊢
      go_enter Tryd.func6, Tryd.ntmps6
      go_wp2_with fail
      refine (HSan.out _ ht).mono ?_
      rintro e w1 ⟨rfl, hb1⟩
      go_wp2_with fail
      refine (F1.out _ hb1).mono ?_
      rintro e w1' ⟨rfl, rfl⟩
      go_wp2_with fail
      go_ret
      exact ⟨rfl, hb1⟩
end Go.Proofs.YtedhjjlnionckaaDoor
