/-
  Contracts of stage 4: the reference's Combine.
-/
import Derived.Test.YtcnljemnkhmfcaaDoorGfx
namespace Go.Proofs.YtcnljemnkhmfcaaDoor
set_option linter.unusedVariables false
set_option linter.unusedSimpArgs false
open Go.RowKit

theorem size_comb : (Tryd.prog.info? 67).map (·.size) = some 2 := by kernel_rfl
theorem row_comb : ∃ d, Tryd.prog.underlying 67 = some d ∧ d.isRow = true := ⟨_, Tryd.underlying67, rfl⟩
/-- What Combine of the reference returns. -/
def cres (coef : List UInt8) (parts : List (List UInt8)) : List Value := if Gf.Fit coef parts then [sv (Gf.comb coef parts), .int .i64 0] else [sv [], .int .i64 1]
theorem two_one (S : ByteArray) (z : Int) : ∀ u ∈ [Value.string S, Value.int .i64 z], u.oneCell' = true := by
  intro u hu
  simp only [List.mem_cons, List.not_mem_nil, or_false] at hu
  rcases hu with rfl | rfl <;> rfl

set_option maxRecDepth 100000 in
set_option maxHeartbeats 2000000 in
theorem refCombine4_any (coef : List UInt8) (parts : List (List UInt8)) (A A' : Option Addr) (c c' : Nat) (w : World) (hl : parts.length ≤ 140737488351232) (hm : ∀ x ∈ parts, x.length ≤ 140737488355000)
    (hr : Rds w w.heap.size A (coef.map bv)) (hs : Rds w w.heap.size A' (parts.map sv)) :
    Calls Tryd.prog 37 #[.slice A coef.length c, .slice A' parts.length c'] w fun e w' => e = .returned (.agg (cres coef parts).toArray) ∧ Below w.heap.size w w' := by
  obtain ⟨dd, hdu, hdr⟩ := row_comb
  obtain ⟨W1, hW1⟩ : ∃ W1, W1 = w.alloc (.cells #[.string ⟨#[]⟩, .int .i64 0] 67) := ⟨_, rfl⟩
  have hB1 : Hid (Below w.heap.size w W1) := by show Below _ _ _; rw [hW1]; exact (Below.refl _ _).alloc (Nat.le_refl _) _
  have hK1 : Hid (Blk W1 w.heap.size [.string ⟨#[]⟩, .int .i64 0] 67) := by show Blk _ _ _ _; rw [hW1]; exact Blk.new _ [_, _] _
  have hs1 : W1.heap.size = w.heap.size + 1 := by rw [hW1]; simp
  have hW1' := Lib.hid hW1
  have hs1' := Lib.hid hs1
  have hm' := Lib.hid hm
  have hR := Lib.hid (rfl : cres coef parts = cres coef parts)
  have hdu' := Lib.hid hdu
  clear hm hW1 hs1 hdu
  by_cases hlen : coef.length = parts.length
  · have t : ((coef.length : Int) != (parts.length : Int)) = false := by simp; omega
    have hll : parts.length ≤ coef.length := by omega
    have hll2 : coef.length ≤ parts.length := by omega
    have hlen' := Lib.hid hlen
    clear hlen
    go_enter Tryd.func37, Tryd.ntmps37
    go_wp2_with fail
    generalize hg : w.alloc _ = Wg
    have hgW : W1 = Wg := by rw [← hg, hW1'.out]
    clear hg hW1'
    subst hgW
    go_loopw [5, 6] (fun v i wr => ∃ k : Nat, k ≤ parts.length ∧ i = .int .i64 k ∧ v = sv (Gf.acc coef parts k) ∧ Below W1.heap.size W1 wr ∧ ∀ x ∈ parts.take k, x.length = (parts.headD []).length) (fun _ i _ => parts.length - (intOf i).toNat)
    case atStart => exact ⟨0, by omega, rfl, rfl, Below.refl _ _, fun x hx => by cases hx⟩
    case round =>
      obtain ⟨k, hk, rfl, rfl, hbw, hall0⟩ := hrel
      have hall := Lib.hid hall0
      clear hall0
      have hsz := hbw.size
      have hbW : Below w.heap.size w wr := hB1.out.trans (hbw.mono hB1.out.size)
      have hbW' := Lib.hid hbW
      have hsw := hbW.size
      by_cases hlt : k < parts.length
      · have hlt2 : k < coef.length := by omega
        have hpos : 0 < parts.length := by omega
        obtain ⟨ad, hade, hadb, hca⟩ := (hr.below hbW).look (k := k) (u := bv coef[k]) (by simp [hlt2])
        obtain ⟨bd, hbde, hbdb, hcb⟩ := (hs.below hbW).look (k := k) (u := sv parts[k]) (by simp [hlt])
        obtain ⟨bd2, hbd2, _, hcb0⟩ := (hs.below hbW).look (k := 0) (u := sv parts[0]) (by simp [hpos])
        have hx : Hid (parts[k]? = some parts[k]) := List.getElem?_eq_getElem hlt
        have hy : Hid (coef[k]? = some coef[k]) := List.getElem?_eq_getElem hlt2
        have hh : Hid ((parts.headD []).length = parts[0].length) := by
          show _ = _
          rw [List.headD_eq_head?_getD, List.head?_eq_getElem?, List.getElem?_eq_getElem hpos]
          rfl
        have hacc := Lib.hid (Gf.acc_next coef parts k _ _ hy.out hx.out)
        have hal := Gf.acc_len coef parts k _ hall.out
        rw [hh.out] at hal
        have h0le := hm'.out parts[0] (List.getElem_mem hpos)
        have hkle := hm'.out parts[k] (List.getElem_mem hlt)
        generalize hc0 : coef[k] = xc at hca hacc hy
        generalize hpk : parts[k] = p at hcb hx hacc hkle
        generalize hp0 : parts[0] = p0 at hcb0 hh hal h0le
        have qb : ∀ W, Below wr.heap.size wr W → W.cell? (bd.add k) = some (sv p) := fun W hB => (hB.cell (by rw [add_block]; omega)).trans hcb
        have qb0 : ∀ W, Below wr.heap.size wr W → W.cell? bd = some (sv p0) := fun W hB => by
          have e0 : bd = bd2 := by rw [hbde] at hbd2; exact Option.some.inj hbd2
          have e1 : bd.add 0 = bd := by unfold Addr.add; simp
          rw [← e0, e1] at hcb0
          exact (hB.cell (by omega)).trans hcb0
        have qa : ∀ W, Below wr.heap.size wr W → W.cell? (ad.add k) = some (bv xc) := fun W hB => (hB.cell (by rw [add_block]; omega)).trans hca
        subst hade
        subst hbde
        clear hca hcb hcb0 hbd2 hc0 hpk hp0 hadb hbdb
        have sp := bs_size p
        have sp0 := bs_size p0
        have b1 : (k : Int) < (coef.length : Int) := by omega
        have b2 : (k : Int) < (parts.length : Int) := by omega
        have b3 : 0 < (parts.length : Int) := by omega
        have b4 : 0 ≤ (k : Int) := by omega
        by_cases he : p.length = p0.length
        · have t1 : (((bs p).size : Int) != ((bs p0).size : Int)) = false := by simp; omega
          have hn : Hid (∀ y ∈ parts.take (k + 1), y.length = (parts.headD []).length) := fun y hy => by
            rw [List.take_add_one, hx.out] at hy
            rcases List.mem_append.1 hy with h | h
            · exact hall.out y h
            · simp at h; subst h; rw [hh.out, he]
          have HSc := Lib.hid (fun W => refScale_any xc p W hkle)
          have hscl := Gf.scale_len xc p
          have HSu := Lib.hid (fun W => refSum_any (Gf.acc coef parts k) (Gf.scale xc p) W (by omega) (by omega))
          rw [← hacc.out] at HSu
          generalize Gf.scale xc p = X at HSc HSu
          generalize Gf.acc coef parts k = Y at HSu ⊢
          generalize hZ : Gf.acc coef parts (k + 1) = Z at HSu
          have hZ' := Lib.hid hZ
          unfold sv at HSc HSu qb qb0 ⊢
          generalize bs p = P at *
          generalize bs p0 = P0 at *
          clear hal h0le hkle he hscl hZ sp sp0 hacc
          have r1 : ∀ x : ExtOf wr.drew, x.world.cell? (bd.add k) = some (.string P) := fun x => qb _ (x.below (Nat.le_refl _))
          have r2 : ∀ x : ExtOf wr.drew, x.world.cell? bd = some (.string P0) := fun x => qb0 _ (x.below (Nat.le_refl _))
          go_wp2_with fail
          refine wp_region_planL 99 [(true, 0), (true, 1), (true, 2), (true, 3), (true, 4), (true, 5), (true, 6), (true, 7), (true, 8), (true, 9)] (by kernel_rfl) (by decide) (by kernel_rfl) (by kernel_rfl) (by kernel_rfl) (by decide) (by intro c a d v w h; cases d <;> exact h) ?_
          change wpPlanL _ _ _ _ _ _ wr.drew
          iterate 10 (refine wpPlanL_plain rfl (fun K hK => ?_); go_simp; refine hK _ ?_; clear hK K)
          refine wpPlanL_nil ?_
          clear r1 r2
          have r1 : ∀ x : ExtOf wr.drew.drew, x.world.cell? (bd.add k) = some (.string P) := fun x => qb _ (drewBelow (x.below (w1 := wr.drew) (Nat.le_refl _)))
          have r3 : ∀ x : ExtOf wr.drew.drew, x.world.cell? (ad.add k) = some (bv xc) := fun x => qa _ (drewBelow (x.below (w1 := wr.drew) (Nat.le_refl _)))
          go_wp2_with fail
          refine wp_region_planL 99 [(true, 0), (true, 1), (true, 2), (true, 3), (true, 4), (true, 5), (true, 6), (true, 7), (true, 8), (false, 9), (false, 10), (true, 11)] (by kernel_rfl) (by decide) (by kernel_rfl) (by kernel_rfl) (by kernel_rfl) (by decide) (by intro c a d v w h; cases d <;> exact h) ?_
          change wpPlanL _ _ _ _ _ _ wr.drew.drew
          iterate 9 (refine wpPlanL_plain rfl (fun K hK => ?_); go_simp; refine hK _ ?_; clear hK K)
          refine wpPlanL_call rfl (fun K hK => ?_)
          go_wp2_with fail
          refine (HSc.out _).mono ?_
          rintro e w2 ⟨rfl, hb2⟩
          go_wp2_with fail
          refine planPostL_normal ⟨.inr hb2, hK _ _ ?_⟩
          clear hK K
          refine wpPlanL_call rfl (fun K hK => ?_)
          go_wp2_with fail
          refine (HSu.out _).mono ?_
          rintro e w3 ⟨rfl, hb3⟩
          go_wp2_with fail
          refine planPostL_normal ⟨.inr hb3, hK _ _ ?_⟩
          clear hK K
          have hb23 : Below wr.heap.size wr w3 := (drewBelow (drewBelow hb2)).trans (hb3.mono (drewBelow (drewBelow hb2)).size)
          have hbn : Below W1.heap.size W1 w3 := hbw.trans (hb23.mono hsz)
          iterate 1 (refine wpPlanL_plain rfl (fun K hK => ?_); go_simp; refine hK _ ?_; clear hK K)
          refine wpPlanL_nil ?_
          go_wp2_with fail
          go_roundw
          case rel => exact ⟨k + 1, by omega, by go_num, by rw [hZ'.out], hbn, hn.out⟩
          case measure => simp [intOf]; omega
        · have t1 : (((bs p).size : Int) != ((bs p0).size : Int)) = true := by simp; omega
          have hres : Hid (cres coef parts = [sv [], .int .i64 1]) := by
            show _ = _
            unfold cres
            rw [if_neg fun h => he (by rw [h.2 p (List.mem_of_getElem? hx.out), hh.out])]
          unfold sv at qb qb0
          unfold sv
          generalize Gf.acc coef parts k = Y
          generalize bs p = P at *
          generalize bs p0 = P0 at *
          clear hal h0le hkle he sp sp0 hacc
          have r1 : ∀ x : ExtOf wr.drew, x.world.cell? (bd.add k) = some (.string P) := fun x => qb _ (x.below (Nat.le_refl _))
          have r2 : ∀ x : ExtOf wr.drew, x.world.cell? bd = some (.string P0) := fun x => qb0 _ (x.below (Nat.le_refl _))
          have hKr : Hid (Blk wr.drew w.heap.size [.string ⟨#[]⟩, .int .i64 0] 67) := hK1.out.below hbw.drew hK1.out.lt
          have hBr : Hid (Below w.heap.size w wr.drew) := hbW'.out.drew
          go_wp2_with fail
          refine wp_region_planL 99 [(true, 0), (true, 1), (true, 2), (true, 3), (true, 4), (true, 5), (true, 6), (true, 7), (true, 8), (true, 9)] (by kernel_rfl) (by decide) (by kernel_rfl) (by kernel_rfl) (by kernel_rfl) (by decide) (by intro c a d v w h; cases d <;> exact h) ?_
          change wpPlanL _ _ _ _ _ _ wr.drew
          iterate 10 (refine wpPlanL_plain rfl (fun K hK => ?_); go_simp; refine hK _ ?_; clear hK K)
          refine wpPlanL_nil ?_
          go_wp2_with (refine wpList_row_store rfl 67 _ _ rfl [.string ⟨#[]⟩, .int .i64 1] rfl rfl hKr.out size_comb rfl (two_one _ _) ?_; intro w3 hw3 ho3)
          exact bodyPost_ret (ret_blk rfl _ w3 (g := w.heap.size) rfl hw3.out dd hdu'.out hdr size_comb) rfl ⟨by rw [hres.out]; rfl, hBr.out.trans (ho3.below (Nat.le_refl _))⟩
      · have hkk : k = parts.length := by omega
        have t : ¬ (k : Int) < (parts.length : Int) := by omega
        have hfit : Gf.Fit coef parts := ⟨hlen'.out, by
          have := hall.out
          rw [List.take_of_length_le (by omega)] at this
          exact this⟩
        have hres : Hid (cres coef parts = [sv (Gf.acc coef parts k), .int .i64 0]) := by
          show _ = _
          unfold cres
          rw [if_pos hfit, hkk, Gf.acc_all coef parts hfit]
        generalize Gf.acc coef parts k = Y at hres ⊢
        have hKr : Hid (Blk wr w.heap.size [.string ⟨#[]⟩, .int .i64 0] 67) := hK1.out.below hbw hK1.out.lt
        clear hkk hfit hbW
        unfold sv at hres ⊢
        go_wp2_with (refine wpList_row_store rfl 67 _ _ rfl [.string (bs Y), .int .i64 0] rfl rfl hKr.out size_comb rfl (two_one _ _) ?_; intro w3 hw3 ho3)
        exact bodyPost_ret (ret_blk rfl _ w3 (g := w.heap.size) rfl hw3.out dd hdu'.out hdr size_comb) rfl ⟨by rw [hres.out], hbW'.out.trans (ho3.below (Nat.le_refl _))⟩
  · have t : ((coef.length : Int) != (parts.length : Int)) = true := by simp; omega
    have hres : Hid (cres coef parts = [sv [], .int .i64 1]) := by
      show _ = _
      unfold cres
      rw [if_neg fun h => hlen h.1]
    clear hlen hr hs
    have hKr := hK1
    go_enter Tryd.func37, Tryd.ntmps37
    have hKr2 := hKr.out
    rw [hW1'.out] at hKr2
    have hB1' := hB1.out
    rw [hW1'.out] at hB1'
    go_wp2_with (refine wpList_row_store rfl 67 _ _ rfl [.string ⟨#[]⟩, .int .i64 1] rfl rfl hKr2 size_comb rfl (two_one _ _) ?_; intro w3 hw3 ho3)
    exact bodyPost_ret (ret_blk rfl _ w3 (g := w.heap.size) rfl hw3.out dd hdu'.out hdr size_comb) rfl ⟨by rw [hres.out]; rfl, hB1'.trans (ho3.below (Nat.le_refl _))⟩
end Go.Proofs.YtcnljemnkhmfcaaDoor
