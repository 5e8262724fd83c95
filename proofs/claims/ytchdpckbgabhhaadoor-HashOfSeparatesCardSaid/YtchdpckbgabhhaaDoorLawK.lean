/-
  The law on digests of different inputs: its walk.
-/
import Derived.Test.YtchdpckbgabhhaaDoorFewb
import Derived.Test.YtchdpckbgabhhaaDoorOpn
namespace Go.Proofs.YtchdpckbgabhhaaDoor
set_option linter.unusedVariables false
open Go.RowKit

theorem conv_run {o : Oper} {a : Act} (x : Operand) (hop : o.op = .convert 22 9 x) (l : List UInt8) (A : Option Addr) (c B : Nat) (hx : a.eval x = .slice A l.length c) (W : World) (hr : Rds W B A (l.map bv)) :
    (execOp a.eval o).run Tryd.prog W = .ok (.value (.string (bs l))) W := by
  have h := run_bytes_bs (P := Tryd.prog) W 22 9 5 Tryd.underlying22 Tryd.underlying5 Tryd.underlying9 c hr
  unfold execOp
  simp only [hop, hx, Sem.run_bind, Sem.run_pure, Result.andThen_ok, h]
theorem conv_at (l : List UInt8) (A : Option Addr) (c B : Nat) (W : World) (hr : Rds W B A (l.map bv)) :
    (convert 22 9 (.slice A l.length c)).run Tryd.prog W = .ok (.string (bs l)) W :=
  run_bytes_bs (P := Tryd.prog) W 22 9 5 Tryd.underlying22 Tryd.underlying5 Tryd.underlying9 c hr
theorem nes_run {P : Program} {o : Oper} {a : Act} (t : TypeId) (x y : Operand) (k : TypeId) (hop : o.op = .binOp .neq t x y k) (hu : P.underlying t = some .string) (S S2 : ByteArray) (hr : (S.toList == S2.toList) = false) (hx : a.eval x = .string S) (hy : a.eval y = .string S2) (W : World) :
    (execOp a.eval o).run P W = .ok (.value (.bool true)) W := by
  unfold execOp
  simp only [hop]
  generalize a.eval = ρ at *
  simp [go_sem, hx, hy, hr]
theorem message_few {xs : List (List UInt8)} (h : FewS xs) : (Sha.message xs).length ≤ 4920 := by
  obtain ⟨h1, h2⟩ := h
  unfold Sha.message
  have : ∀ (ys : List (List UInt8)), (∀ y ∈ ys, y.length ≤ 400) → (ys.flatMap Wm.encBytes).length ≤ 410 * ys.length := fun ys => by
    induction ys with
    | nil => intro _; simp
    | cons y ys ih =>
      intro h
      have i1 := ih fun z hz => h z (List.mem_cons_of_mem _ hz)
      have i2 := h y (List.mem_cons_self ..)
      have i3 := Wm.enc_len y.length
      have i4 : (Wm.encBytes y).length = (Wm.enc y.length).length + y.length := by simp [Wm.encBytes]
      rw [List.flatMap_cons, List.length_append, List.length_cons, i4]
      omega
  have := this xs h2
  omega

set_option maxRecDepth 100000 in
set_option maxHeartbeats 4000000 in
theorem walk_separates (p q : Nat) (A1 : Option Addr) (c1 : Nat) (la : List (List UInt8)) (A2 : Option Addr) (c2 : Nat) (lb : List (List UInt8)) (w : World) (hp : p < 256) (hq : q < 256) (H1 : SlS w A1 la.length c1 la) (H2 : SlS w A2 lb.length c2 lb) (ht : Tab 1 w) :
    Calls Tryd.prog 6 #[.agg #[.int .u8 p, .int .u8 q], .slice A1 la.length c1, .slice A2 lb.length c2] w (OkEnd true w) := by
  have hT := Lib.hid ht
  have HSan := Lib.hid (fun W hT => sanity_any W hT)
  have hl1 := H1.reach
  have hl2 := H2.reach
  obtain ⟨W1, hW1⟩ : ∃ W1, W1 = w.alloc (.cells #[.int .u8 p, .int .u8 q] 45) := ⟨_, rfl⟩
  have hB1 : Below w.heap.size w W1 := by rw [hW1]; exact (Below.refl _ _).alloc (Nat.le_refl _) _
  have hK : Hid (Blk W1 w.heap.size [.int .u8 p, .int .u8 q] 45) := by show Blk _ _ _ _; rw [hW1]; exact Blk.new _ _ _
  have hr1 := Lib.hid H1.rds
  have hr2 := Lib.hid H2.rds
  clear H1 H2
  have F1 := Lib.hid (fun W (hb : Below w.heap.size w W) => few02_any la A1 c1 W (hr1.out.below hb) hl1)
  have F2 := Lib.hid (fun W (hb : Below w.heap.size w W) => few02_any lb A2 c2 W (hr2.out.below hb) hl2)
  by_cases hf1 : FewS la
  · rw [decide_eq_true hf1] at F1
    by_cases hf2 : FewS lb
    · rw [decide_eq_true hf2] at F2
      have m1 := message_few hf1
      have m2 := message_few hf2
      have ep : IntKind.i64.wrap (p : Int) = p := by rw [IntKind.wrap_i64]; omega
      have eq : IntKind.i64.wrap (q : Int) = q := by rw [IntKind.wrap_i64]; omega
      have HS := Lib.hid (fun W (hb : Below w.heap.size w W) => same02_any la lb A1 A2 c1 c2 W (hr1.out.below hb) (hr2.out.below hb) (by have := hf1.1; omega))
      have I1 := Lib.hid (fun W (hb : Below w.heap.size w W) => input_any p la A1 c1 W ((hr1.out.below hb).more hb.size) (by have := hf1.1; omega) (by omega))
      have I2 := Lib.hid (fun W (hb : Below w.heap.size w W) => input_any q lb A2 c2 W ((hr2.out.below hb).more hb.size) (by have := hf2.1; omega) (by omega))
      have O1 := Lib.hid (fun W (hb : Below w.heap.size w W) hT => of_any p la A1 c1 W ((hr1.out.below hb).more hb.size) (by have := hf1.1; omega) (by omega) hT)
      have O2 := Lib.hid (fun W (hb : Below w.heap.size w W) hT => of_any q lb A2 c2 W ((hr2.out.below hb).more hb.size) (by have := hf2.1; omega) (by omega) hT)
      have hinj : Hid (Sha.input p la = Sha.input q lb → p = q ∧ la = lb) := fun h =>
        Sha.input_inj hp hq (fun s hs => by have := hf1.2 s hs; omega) (fun s hs => by have := hf2.2 s hs; omega) h
      have S1 := Lib.hid (fun W A c (hr : Rds W W.heap.size A ((Sha.input p la).map bv)) (hT : Tab 1 W) => hashSum_any (Sha.input p la) A c W hr (by simp only [Sha.input, List.length_cons]; omega) hT)
      have S2 := Lib.hid (fun W A c (hr : Rds W W.heap.size A ((Sha.input q lb).map bv)) (hT : Tab 1 W) => hashSum_any (Sha.input q lb) A c W hr (by simp only [Sha.input, List.length_cons]; omega) hT)
      have z1 := Sha.sum_len (Sha.input p la)
      have z2 := Sha.sum_len (Sha.input q lb)
      have C := Lib.hid (fun W => clash_any (Sha.sum (Sha.input p la)) (Sha.sum (Sha.input q lb)) W z1 z2)
      have hD1 : (Sha.hashOf p la).length = 16 := by unfold Sha.hashOf; rw [List.length_take, z1]; rfl
      have hD2 : (Sha.hashOf q lb).length = 16 := by unfold Sha.hashOf; rw [List.length_take, z2]; rfl
      have hr : Hid (((Sha.sum (Sha.input p la)).take 16 == (Sha.sum (Sha.input q lb)).take 16) = (Sha.hashOf p la == Sha.hashOf q lb)) := rfl
      rw [hr.out] at C
      have hsame : Hid (p = q → la = lb → Sha.input p la = Sha.input q lb) := fun h1 h2 => by rw [h1, h2]
      generalize Sha.hashOf p la = D1 at O1 C hD1 hr
      generalize Sha.hashOf q lb = D2 at O2 C hD2 hr
      generalize Sha.sum (Sha.input p la) = Z1 at S1 z1 C hr
      generalize Sha.sum (Sha.input q lb) = Z2 at S2 z2 C hr
      generalize Sha.input p la = i1 at I1 S1 hinj hsame
      generalize Sha.input q lb = i2 at I2 S2 hinj hsame
      have hDm1 : (D1.map bv).length = 16 := by rw [List.length_map, hD1]
      have hDm2 : (D2.map bv).length = 16 := by rw [List.length_map, hD2]
      have hDs1 := Lib.hid (size_dig16 _ hDm1)
      have hDs2 := Lib.hid (size_dig16 _ hDm2)
      have hDo1 := av_one D1
      have hDo2 := av_one D2
      unfold av at O1 O2 S1 S2 C
      clear m1 m2 hf1 hf2 hr z1 z2
      obtain ⟨r, hr0⟩ : ∃ r, r = (D1 == D2) := ⟨_, rfl⟩
      have hr := Lib.hid hr0.symm
      rw [← hr0] at C
      clear hr0
      by_cases hpq : p = q
      · have tq : ((p : Int) == (q : Int)) = true := by simp; omega
        by_cases hab : la = lb
        · have hse : Hid ((la == lb) = true) := by show _ = _; rw [beq_iff_eq]; exact hab
          rw [hse.out] at HS
          have hi : i1 = i2 := hsame.out hpq hab
          have tS : ((bs i1).toList == (bs i2).toList) = true := by rw [hi]; simp
          clear hpq hab hi hinj hsame hp hq
          go_enter Tryd.func6, Tryd.ntmps6
          go_wp2_with fail
          rw [← hW1]
          clear hW1
          refine (HSan.out _ (hT.out.on hB1)).mono ?_
          rintro e w1 ⟨rfl, hb1⟩
          have hB2 : Below w.heap.size w w1 := hB1.trans (hb1.mono hB1.size)
          have hK1 := Lib.hid (hK.out.below hb1 hK.out.lt)
          clear hb1 ht
          go_wp2_with fail
          refine (F1.out _ hB2).mono ?_
          rintro e w2 ⟨rfl, rfl⟩
          go_wp2_with fail
          refine (F2.out _ hB2).mono ?_
          rintro e w2 ⟨rfl, rfl⟩
          have hc0 := hK1.out.cell (j := 0) rfl
          have hc1 := hK1.out.cell (j := 1) rfl
          go_wp2_with fail
          refine (HS.out _ hB2).mono ?_
          rintro e w2 ⟨rfl, n, rfl⟩
          have hB3 : Below w.heap.size w (w1.drewN n) := below_drewN hB2 n
          have hK2 : Hid (Blk (w1.drewN n) w.heap.size [.int .u8 p, .int .u8 q] 45) := Lib.hid (hK1.out.below (below_drewN (Below.refl _ _) n) hK1.out.lt)
          generalize w1.drewN n = w2 at hB3 hK2
          clear hc0 hc1
          have hc0 := hK2.out.cell (j := 0) rfl
          have hc1 := hK2.out.cell (j := 1) rfl
          go_wp2_with fail
          refine (I1.out _ hB3).mono ?_
          intro e w3 h3
          obtain ⟨A3, c3, rfl, _, _, _, hr3, hb3⟩ := NewEnd.slice h3
          clear h3
          have hB4 : Below w.heap.size w w3 := hB3.trans (hb3.mono hB3.size)
          have hK3 := Lib.hid (hK2.out.below hb3 hK2.out.lt)
          have hc0 := hK3.out.cell (j := 0) rfl
          have hc1 := hK3.out.cell (j := 1) rfl
          clear hb3 hK2
          go_wp2_with fail
          refine (I2.out _ hB4).mono ?_
          intro e w4 h4
          obtain ⟨A4, c4, rfl, _, _, _, hr4, hb4⟩ := NewEnd.slice h4
          clear h4 hc0 hc1
          have hB5 : Below w.heap.size w w4 := hB4.trans (hb4.mono hB4.size)
          have hr3 := Lib.hid ((hr3.below hb4).more hb4.size)
          have hr4 := Lib.hid hr4
          have hK4 := Lib.hid (hK3.out.below hb4 hK3.out.lt)
          have k3 := conv_at i1 A3 c3 _ w4 hr3.out
          have k4 := conv_at i2 A4 c4 _ w4 hr4.out
          generalize bs i1 = X1 at tS k3
          generalize bs i2 = X2 at tS k4
          go_wp2_with fail
          go_ret
          exact ⟨rfl, hB5⟩
        · have hse : Hid ((la == lb) = false) := by show _ = _; rw [beq_eq_false_iff_ne]; exact hab
          rw [hse.out] at HS
          have tS : Hid (((bs i1).toList == (bs i2).toList) = false) := by
            show _ = _
            rw [bs_toList, bs_toList, beq_eq_false_iff_ne]
            exact fun h => hab (hinj.out h).2
          clear hpq hab hinj hsame hp hq
          go_enter Tryd.func6, Tryd.ntmps6
          go_wp2_with fail
          rw [← hW1]
          clear hW1
          refine (HSan.out _ (hT.out.on hB1)).mono ?_
          rintro e w1 ⟨rfl, hb1⟩
          have hB2 : Below w.heap.size w w1 := hB1.trans (hb1.mono hB1.size)
          have hK1 := Lib.hid (hK.out.below hb1 hK.out.lt)
          clear hb1 ht
          go_wp2_with fail
          refine (F1.out _ hB2).mono ?_
          rintro e w2 ⟨rfl, rfl⟩
          go_wp2_with fail
          refine (F2.out _ hB2).mono ?_
          rintro e w2 ⟨rfl, rfl⟩
          have hc0 := hK1.out.cell (j := 0) rfl
          have hc1 := hK1.out.cell (j := 1) rfl
          go_wp2_with fail
          refine (HS.out _ hB2).mono ?_
          rintro e w2 ⟨rfl, n, rfl⟩
          have hB3 : Below w.heap.size w (w1.drewN n) := below_drewN hB2 n
          have hK2 : Hid (Blk (w1.drewN n) w.heap.size [.int .u8 p, .int .u8 q] 45) := Lib.hid (hK1.out.below (below_drewN (Below.refl _ _) n) hK1.out.lt)
          generalize w1.drewN n = w2 at hB3 hK2
          clear hc0 hc1
          have hc0 := hK2.out.cell (j := 0) rfl
          have hc1 := hK2.out.cell (j := 1) rfl
          go_wp2_with fail
          refine (I1.out _ hB3).mono ?_
          intro e w3 h3
          obtain ⟨A3, c3, rfl, _, _, _, hr3, hb3⟩ := NewEnd.slice h3
          clear h3
          have hB4 : Below w.heap.size w w3 := hB3.trans (hb3.mono hB3.size)
          have hK3 := Lib.hid (hK2.out.below hb3 hK2.out.lt)
          have hc0 := hK3.out.cell (j := 0) rfl
          have hc1 := hK3.out.cell (j := 1) rfl
          clear hb3 hK2
          go_wp2_with fail
          refine (I2.out _ hB4).mono ?_
          intro e w4 h4
          obtain ⟨A4, c4, rfl, _, _, _, hr4, hb4⟩ := NewEnd.slice h4
          clear h4 hc0 hc1
          have hB5 : Below w.heap.size w w4 := hB4.trans (hb4.mono hB4.size)
          have hr3 := Lib.hid ((hr3.below hb4).more hb4.size)
          have hr4 := Lib.hid hr4
          have hK4 := Lib.hid (hK3.out.below hb4 hK3.out.lt)
          have hc0 := hK4.out.cell (j := 0) rfl
          have hc1 := hK4.out.cell (j := 1) rfl
          clear hb4 hK3
          go_wp2_with fail
          refine (O1.out _ hB5 (hT.out.on hB5)).mono ?_
          rintro e w5 ⟨rfl, hb5⟩
          have hB6 : Below w.heap.size w w5 := hB5.trans (hb5.mono hB5.size)
          have hr3 := Lib.hid ((hr3.out.below hb5).more hb5.size)
          have hr4 := Lib.hid ((hr4.out.below hb5).more hb5.size)
          have hK5 := Lib.hid (hK4.out.below hb5 hK4.out.lt)
          have hlt5 : w.heap.size < w5.heap.size := hK5.out.lt
          clear hc0 hc1 hb5 hK4
          go_wp2_with (refine wpList_row_store rfl 41 _ _ rfl (D1.map bv) rfl rfl (Blk.new w5 (bz 16) 41) hDs1.out (by rw [hDm1]; rfl) hDo1 ?_; intro w6 hW6 ho6; have hb56 : Below w5.heap.size w5 w6 := ((Below.refl _ _).alloc (Nat.le_refl _) _).trans (ho6.below (Nat.le_refl _)); have hB7 : Below w.heap.size w w6 := hB6.trans (hb56.mono hB6.size); have hr3 := Lib.hid ((hr3.out.below hb56).more hb56.size); have hr4 := Lib.hid ((hr4.out.below hb56).more hb56.size); have hK6 := hK5.out.below hb56 hK5.out.lt; have hc0 := hK6.cell (j := 0) rfl; have hc1 := hK6.cell (j := 1) rfl)
          refine (O2.out _ hB7 (hT.out.on hB7)).mono ?_
          rintro e w7 ⟨rfl, hb7⟩
          have hB8 : Below w.heap.size w w7 := hB7.trans (hb7.mono hB7.size)
          have hr3 := Lib.hid ((hr3.out.below hb7).more hb7.size)
          have hr4 := Lib.hid ((hr4.out.below hb7).more hb7.size)
          have hW7 := hW6.out.below hb7 hW6.out.lt
          have hlt7 : w5.heap.size < w7.heap.size := hW7.lt
          clear hc0 hc1 hb7 hK6 hb56 ho6 hW6 hK5
          go_wp2_with (refine wpList_row_store rfl 41 _ _ rfl (D2.map bv) rfl rfl (Blk.new w7 (bz 16) 41) hDs2.out (by rw [hDm2]; rfl) hDo2 ?_; intro w8 hW8 ho8)
          have hb78 : Below w7.heap.size w7 w8 := ((Below.refl _ _).alloc (Nat.le_refl _) _).trans (ho8.below (Nat.le_refl _))
          have hB9 : Below w.heap.size w w8 := hB8.trans (hb78.mono hB8.size)
          have hr3 := Lib.hid ((hr3.out.below hb78).more hb78.size)
          have hr4 := Lib.hid ((hr4.out.below hb78).more hb78.size)
          have hWa := Lib.hid (hW7.below hb78 hW7.lt)
          clear hb78 ho8 hW7
          refine wp_region_planL 99 [(true, 0), (true, 1), (true, 2), (true, 3), (true, 4), (true, 5), (true, 6), (true, 7), (true, 8), (true, 9), (true, 10), (true, 11), (true, 12), (true, 14), (false, 13), (false, 15), (false, 16), (true, 17), (true, 18), (true, 19)] (by kernel_rfl) (by decide) (by kernel_rfl) (by kernel_rfl) (by kernel_rfl) (by decide) (by intro c a d v w h; cases d <;> exact h) ?_
          change wpPlanL _ _ _ _ _ _ w8.drew
          iterate 3 (refine wpPlanL_plain rfl (fun K hK => ?_); go_simp; refine hK _ ?_; clear hK K)
          refine wpPlanL_runW rfl (by rfl) _ (fun x => conv_run _ rfl i1 A3 c3 _ rfl x.world (hr3.out.below (x.below (Nat.le_refl _)))) ?_
          iterate 1 (refine wpPlanL_plain rfl (fun K hK => ?_); go_simp; refine hK _ ?_; clear hK K)
          refine wpPlanL_runW rfl (by rfl) _ (fun x => conv_run _ rfl i2 A4 c4 _ rfl x.world (hr4.out.below (x.below (Nat.le_refl _)))) ?_
          refine wpPlanL_runW rfl (by rfl) _ (fun x => nes_run _ _ _ _ rfl Tryd.underlying9 _ _ tS.out rfl rfl x.world) ?_
          iterate 2 (refine wpPlanL_plain rfl (fun K hK => ?_); go_simp; refine hK _ ?_; clear hK K)
          refine wpPlanL_runW rfl (by rfl) _ (fun x => load_run 41 _ rfl w5.heap.size 0 rfl (D1.map bv) (.array 16 5) Tryd.underlying41 rfl hDs1.out x.world ((hWa.out.below (x.below (Nat.le_refl _)) hWa.out.lt).range 0 _ (take_all0 _))) ?_
          refine wpPlanL_runW rfl (by rfl) _ (fun x => load_run 41 _ rfl w7.heap.size 0 rfl (D2.map bv) (.array 16 5) Tryd.underlying41 rfl hDs2.out x.world ((hW8.out.below (x.below (Nat.le_refl _)) hW8.out.lt).range 0 _ (take_all0 _))) ?_
          refine wpPlanL_runW rfl (by rfl) _ (fun x => eql_run 41 _ _ _ rfl 16 Tryd.underlying41 (by kernel_rfl) D1 D2 hD1 hD2 rfl rfl r hr.out x.world) ?_
          iterate 2 (refine wpPlanL_plain rfl (fun K hK => ?_); go_simp; refine hK _ ?_; clear hK K)
          refine wpPlanL_call rfl (fun K hK => ?_)
          have hd : Below w8.heap.size w8 w8.drew := (Below.refl _ _).drew
          have hr3 := (hr3.out.below hd).more hd.size
          have hr4 := (hr4.out.below hd).more hd.size
          have hBd : Below w.heap.size w w8.drew := hB9.drew
          go_wp2_with fail
          refine (S1.out _ _ _ hr3 (hT.out.on hBd)).mono ?_
          rintro e w9 ⟨rfl, hb9⟩
          go_wp2_with fail
          refine planPostL_normal ⟨.inr hb9, hK _ _ ?_⟩
          clear hK K
          have hBe : Below w.heap.size w w9 := hBd.trans (hb9.mono hBd.size)
          have hr4 := (hr4.below hb9).more hb9.size
          refine wpPlanL_call rfl (fun K hK => ?_)
          go_wp2_with fail
          refine (S2.out _ _ _ hr4 (hT.out.on hBe)).mono ?_
          rintro e wa ⟨rfl, hba⟩
          go_wp2_with fail
          refine planPostL_normal ⟨.inr hba, hK _ _ ?_⟩
          clear hK K
          have hBf : Below w.heap.size w wa := hBe.trans (hba.mono hBe.size)
          refine wpPlanL_call rfl (fun K hK => ?_)
          go_wp2_with fail
          refine (C.out _).mono ?_
          rintro e wb ⟨rfl, hbb⟩
          go_wp2_with fail
          refine planPostL_normal ⟨.inr hbb, hK _ _ ?_⟩
          clear hK K
          have hBg : Below w.heap.size w wb := hBf.trans (hbb.mono hBf.size)
          iterate 3 (refine wpPlanL_plain rfl (fun K hK => ?_); go_simp; refine hK _ ?_; clear hK K)
          refine wpPlanL_nil ?_
          go_wp2_with fail
          go_ret
          exact ⟨rfl, hBg⟩
      · have tq : ((p : Int) == (q : Int)) = false := by simp; omega
        have tS : Hid (((bs i1).toList == (bs i2).toList) = false) := by
          show _ = _
          rw [bs_toList, bs_toList, beq_eq_false_iff_ne]
          exact fun h => hpq (hinj.out h).1
        clear hpq hinj hsame hp hq
        go_enter Tryd.func6, Tryd.ntmps6
        go_wp2_with fail
        rw [← hW1]
        clear hW1
        refine (HSan.out _ (hT.out.on hB1)).mono ?_
        rintro e w1 ⟨rfl, hb1⟩
        have hB2 : Below w.heap.size w w1 := hB1.trans (hb1.mono hB1.size)
        have hK1 := Lib.hid (hK.out.below hb1 hK.out.lt)
        clear hb1 ht
        go_wp2_with fail
        refine (F1.out _ hB2).mono ?_
        rintro e w2 ⟨rfl, rfl⟩
        go_wp2_with fail
        refine (F2.out _ hB2).mono ?_
        rintro e w2 ⟨rfl, rfl⟩
        have hB3 := hB2
        have hK2 := hK1
        have hc0 := hK2.out.cell (j := 0) rfl
        have hc1 := hK2.out.cell (j := 1) rfl
        go_wp2_with fail
        refine (I1.out _ hB3).mono ?_
        intro e w3 h3
        obtain ⟨A3, c3, rfl, _, _, _, hr3, hb3⟩ := NewEnd.slice h3
        clear h3
        have hB4 : Below w.heap.size w w3 := hB3.trans (hb3.mono hB3.size)
        have hK3 := Lib.hid (hK2.out.below hb3 hK2.out.lt)
        have hc0 := hK3.out.cell (j := 0) rfl
        have hc1 := hK3.out.cell (j := 1) rfl
        clear hb3 hK2
        go_wp2_with fail
        refine (I2.out _ hB4).mono ?_
        intro e w4 h4
        obtain ⟨A4, c4, rfl, _, _, _, hr4, hb4⟩ := NewEnd.slice h4
        clear h4 hc0 hc1
        have hB5 : Below w.heap.size w w4 := hB4.trans (hb4.mono hB4.size)
        have hr3 := Lib.hid ((hr3.below hb4).more hb4.size)
        have hr4 := Lib.hid hr4
        have hK4 := Lib.hid (hK3.out.below hb4 hK3.out.lt)
        have hc0 := hK4.out.cell (j := 0) rfl
        have hc1 := hK4.out.cell (j := 1) rfl
        clear hb4 hK3
        go_wp2_with fail
        refine (O1.out _ hB5 (hT.out.on hB5)).mono ?_
        rintro e w5 ⟨rfl, hb5⟩
        have hB6 : Below w.heap.size w w5 := hB5.trans (hb5.mono hB5.size)
        have hr3 := Lib.hid ((hr3.out.below hb5).more hb5.size)
        have hr4 := Lib.hid ((hr4.out.below hb5).more hb5.size)
        have hK5 := Lib.hid (hK4.out.below hb5 hK4.out.lt)
        have hlt5 : w.heap.size < w5.heap.size := hK5.out.lt
        clear hc0 hc1 hb5 hK4
        go_wp2_with (refine wpList_row_store rfl 41 _ _ rfl (D1.map bv) rfl rfl (Blk.new w5 (bz 16) 41) hDs1.out (by rw [hDm1]; rfl) hDo1 ?_; intro w6 hW6 ho6; have hb56 : Below w5.heap.size w5 w6 := ((Below.refl _ _).alloc (Nat.le_refl _) _).trans (ho6.below (Nat.le_refl _)); have hB7 : Below w.heap.size w w6 := hB6.trans (hb56.mono hB6.size); have hr3 := Lib.hid ((hr3.out.below hb56).more hb56.size); have hr4 := Lib.hid ((hr4.out.below hb56).more hb56.size); have hK6 := hK5.out.below hb56 hK5.out.lt; have hc0 := hK6.cell (j := 0) rfl; have hc1 := hK6.cell (j := 1) rfl)
        refine (O2.out _ hB7 (hT.out.on hB7)).mono ?_
        rintro e w7 ⟨rfl, hb7⟩
        have hB8 : Below w.heap.size w w7 := hB7.trans (hb7.mono hB7.size)
        have hr3 := Lib.hid ((hr3.out.below hb7).more hb7.size)
        have hr4 := Lib.hid ((hr4.out.below hb7).more hb7.size)
        have hW7 := hW6.out.below hb7 hW6.out.lt
        have hlt7 : w5.heap.size < w7.heap.size := hW7.lt
        clear hc0 hc1 hb7 hK6 hb56 ho6 hW6 hK5
        go_wp2_with (refine wpList_row_store rfl 41 _ _ rfl (D2.map bv) rfl rfl (Blk.new w7 (bz 16) 41) hDs2.out (by rw [hDm2]; rfl) hDo2 ?_; intro w8 hW8 ho8)
        have hb78 : Below w7.heap.size w7 w8 := ((Below.refl _ _).alloc (Nat.le_refl _) _).trans (ho8.below (Nat.le_refl _))
        have hB9 : Below w.heap.size w w8 := hB8.trans (hb78.mono hB8.size)
        have hr3 := Lib.hid ((hr3.out.below hb78).more hb78.size)
        have hr4 := Lib.hid ((hr4.out.below hb78).more hb78.size)
        have hWa := Lib.hid (hW7.below hb78 hW7.lt)
        clear hb78 ho8 hW7
        refine wp_region_planL 99 [(true, 0), (true, 1), (true, 2), (true, 3), (true, 4), (true, 5), (true, 6), (true, 7), (true, 8), (true, 9), (true, 10), (true, 11), (true, 12), (true, 14), (false, 13), (false, 15), (false, 16), (true, 17), (true, 18), (true, 19)] (by kernel_rfl) (by decide) (by kernel_rfl) (by kernel_rfl) (by kernel_rfl) (by decide) (by intro c a d v w h; cases d <;> exact h) ?_
        change wpPlanL _ _ _ _ _ _ w8.drew
        iterate 3 (refine wpPlanL_plain rfl (fun K hK => ?_); go_simp; refine hK _ ?_; clear hK K)
        refine wpPlanL_runW rfl (by rfl) _ (fun x => conv_run _ rfl i1 A3 c3 _ rfl x.world (hr3.out.below (x.below (Nat.le_refl _)))) ?_
        iterate 1 (refine wpPlanL_plain rfl (fun K hK => ?_); go_simp; refine hK _ ?_; clear hK K)
        refine wpPlanL_runW rfl (by rfl) _ (fun x => conv_run _ rfl i2 A4 c4 _ rfl x.world (hr4.out.below (x.below (Nat.le_refl _)))) ?_
        refine wpPlanL_runW rfl (by rfl) _ (fun x => nes_run _ _ _ _ rfl Tryd.underlying9 _ _ tS.out rfl rfl x.world) ?_
        iterate 2 (refine wpPlanL_plain rfl (fun K hK => ?_); go_simp; refine hK _ ?_; clear hK K)
        refine wpPlanL_runW rfl (by rfl) _ (fun x => load_run 41 _ rfl w5.heap.size 0 rfl (D1.map bv) (.array 16 5) Tryd.underlying41 rfl hDs1.out x.world ((hWa.out.below (x.below (Nat.le_refl _)) hWa.out.lt).range 0 _ (take_all0 _))) ?_
        refine wpPlanL_runW rfl (by rfl) _ (fun x => load_run 41 _ rfl w7.heap.size 0 rfl (D2.map bv) (.array 16 5) Tryd.underlying41 rfl hDs2.out x.world ((hW8.out.below (x.below (Nat.le_refl _)) hW8.out.lt).range 0 _ (take_all0 _))) ?_
        refine wpPlanL_runW rfl (by rfl) _ (fun x => eql_run 41 _ _ _ rfl 16 Tryd.underlying41 (by kernel_rfl) D1 D2 hD1 hD2 rfl rfl r hr.out x.world) ?_
        iterate 2 (refine wpPlanL_plain rfl (fun K hK => ?_); go_simp; refine hK _ ?_; clear hK K)
        refine wpPlanL_call rfl (fun K hK => ?_)
        have hd : Below w8.heap.size w8 w8.drew := (Below.refl _ _).drew
        have hr3 := (hr3.out.below hd).more hd.size
        have hr4 := (hr4.out.below hd).more hd.size
        have hBd : Below w.heap.size w w8.drew := hB9.drew
        go_wp2_with fail
        refine (S1.out _ _ _ hr3 (hT.out.on hBd)).mono ?_
        rintro e w9 ⟨rfl, hb9⟩
        go_wp2_with fail
        refine planPostL_normal ⟨.inr hb9, hK _ _ ?_⟩
        clear hK K
        have hBe : Below w.heap.size w w9 := hBd.trans (hb9.mono hBd.size)
        have hr4 := (hr4.below hb9).more hb9.size
        refine wpPlanL_call rfl (fun K hK => ?_)
        go_wp2_with fail
        refine (S2.out _ _ _ hr4 (hT.out.on hBe)).mono ?_
        rintro e wa ⟨rfl, hba⟩
        go_wp2_with fail
        refine planPostL_normal ⟨.inr hba, hK _ _ ?_⟩
        clear hK K
        have hBf : Below w.heap.size w wa := hBe.trans (hba.mono hBe.size)
        refine wpPlanL_call rfl (fun K hK => ?_)
        go_wp2_with fail
        refine (C.out _).mono ?_
        rintro e wb ⟨rfl, hbb⟩
        go_wp2_with fail
        refine planPostL_normal ⟨.inr hbb, hK _ _ ?_⟩
        clear hK K
        have hBg : Below w.heap.size w wb := hBf.trans (hbb.mono hBf.size)
        iterate 3 (refine wpPlanL_plain rfl (fun K hK => ?_); go_simp; refine hK _ ?_; clear hK K)
        refine wpPlanL_nil ?_
        go_wp2_with fail
        go_ret
        exact ⟨rfl, hBg⟩
    · rw [decide_eq_false hf2] at F2
      clear hf1 hf2
      go_enter Tryd.func6, Tryd.ntmps6
      go_wp2_with fail
      rw [← hW1]
      clear hW1
      refine (HSan.out _ (hT.out.on hB1)).mono ?_
      rintro e w1 ⟨rfl, hb1⟩
      have hB2 : Below w.heap.size w w1 := hB1.trans (hb1.mono hB1.size)
      have hK1 := Lib.hid (hK.out.below hb1 hK.out.lt)
      clear hb1 ht
      go_wp2_with fail
      refine (F1.out _ hB2).mono ?_
      rintro e w2 ⟨rfl, rfl⟩
      go_wp2_with fail
      refine (F2.out _ hB2).mono ?_
      rintro e w2 ⟨rfl, rfl⟩
      go_wp2_with fail
      go_ret
      exact ⟨rfl, hB2⟩
  · rw [decide_eq_false hf1] at F1
    clear hf1
    go_enter Tryd.func6, Tryd.ntmps6
    go_wp2_with fail
    rw [← hW1]
    clear hW1
    refine (HSan.out _ (hT.out.on hB1)).mono ?_
    rintro e w1 ⟨rfl, hb1⟩
    have hB2 : Below w.heap.size w w1 := hB1.trans (hb1.mono hB1.size)
    have hK1 := Lib.hid (hK.out.below hb1 hK.out.lt)
    clear hb1 ht
    go_wp2_with fail
    refine (F1.out _ hB2).mono ?_
    rintro e w2 ⟨rfl, rfl⟩
    go_wp2_with fail
    go_ret
    exact ⟨rfl, hB2⟩
end Go.Proofs.YtchdpckbgabhhaaDoor
