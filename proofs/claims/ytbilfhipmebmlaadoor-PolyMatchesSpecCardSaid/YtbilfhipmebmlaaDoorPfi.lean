/-
  Contracts of stage 6: products (the reference's). Contracts of stage 6: the program's product. Contracts of stage 6: the program's sum. Contracts of stage 6: the program's Trim, Add, Mul.
-/
import Derived.Test.YtbilfhipmebmlaaDoorPbd
namespace Go.Proofs.YtbilfhipmebmlaaDoor
set_option linter.unusedVariables false
set_option linter.unusedSimpArgs false
open Go.RowKit

/-- b times the i-th power, at j. -/
def sh (b : List UInt8) (i j : Nat) : UInt8 := if i ≤ j then co b (j - i) else 0
/-- The first i rows of a product, at j. -/
def pc (a b : List UInt8) : Nat → Nat → UInt8
  | 0, _ => 0
  | i + 1, j => pc a b i j ^^^ Gf.mul (co a i) (sh b i j)
/-- The product, not trimmed. -/
def pmul (a b : List UInt8) : List UInt8 := (List.range (a.length + b.length)).map (pc a b a.length)
theorem pmul_len (a b : List UInt8) : (pmul a b).length = a.length + b.length := by simp [pmul]
theorem pc_out (a b : List UInt8) : ∀ i j, i + b.length ≤ j + 1 → i ≤ a.length → b.length = 0 ∨ i + b.length ≤ j → pc a b i j = 0 := by
  intro i
  induction i with
  | zero => intro j _ _ _; rfl
  | succ i ih =>
    intro j h1 h2 h3
    rw [pc, ih j (by omega) (by omega) (by omega)]
    have : sh b i j = 0 := by
      unfold sh
      split
      · exact co_out (by omega)
      · rfl
    rw [this, Gf.mul_zero]
    rfl
theorem co_pmul (a b : List UInt8) (j : Nat) : co (pmul a b) j = pc a b a.length j := by
  rcases Nat.lt_or_ge j (a.length + b.length) with h | h
  · unfold co pmul
    rw [List.getD_eq_getElem?_getD, List.getElem?_map, List.getElem?_range h]
    rfl
  · rw [co_out (by rw [pmul_len]; exact h), pc_out a b _ _ (by omega) (Nat.le_refl _) (by omega)]
theorem mul_sh_low {a b : List UInt8} {i j : Nat} (h : j < i) : Gf.mul (co a i) (sh b i j) = 0 := by
  unfold sh; rw [if_neg (by omega), Gf.mul_zero]
theorem mul_sh_high {a b : List UInt8} {i j : Nat} (h : i + b.length ≤ j) : Gf.mul (co a i) (sh b i j) = 0 := by
  unfold sh; rw [if_pos (by omega), co_out (p := b) (by omega), Gf.mul_zero]
/-- The state in round (i, k). -/
def pst (a b : List UInt8) (i k j : Nat) : UInt8 := pc a b i j ^^^ (if j < i + k then Gf.mul (co a i) (sh b i j) else 0)
theorem pst_zero (a b : List UInt8) (i j : Nat) : pst a b i 0 j = pc a b i j := by
  unfold pst
  split
  · rw [mul_sh_low (by omega), UInt8.xor_zero]
  · rw [UInt8.xor_zero]
theorem pst_end (a b : List UInt8) (i j : Nat) : pst a b i b.length j = pc a b (i + 1) j := by
  unfold pst
  rw [pc]
  split
  · rfl
  · rw [mul_sh_high (by omega)]
theorem pst_at (a b : List UInt8) (i k : Nat) : pst a b i k (i + k) ^^^ Gf.mul (co a i) (co b k) = pst a b i (k + 1) (i + k) := by
  unfold pst
  rw [if_neg (by omega), if_pos (by omega), UInt8.xor_zero]
  congr 2
  unfold sh
  rw [if_pos (by omega), show i + k - i = k by omega]
theorem pst_other (a b : List UInt8) {i k j : Nat} (h : j ≠ i + k) : pst a b i (k + 1) j = pst a b i k j := by
  unfold pst
  by_cases hj : j < i + k
  · rw [if_pos hj, if_pos (by omega)]
  · rw [if_neg hj, if_neg (by omega)]

set_option maxRecDepth 100000 in
set_option maxHeartbeats 4000000 in
theorem refProduct6_any {B : Nat} (a b : List UInt8) (A A' : Option Addr) (c c' : Nat) (w : World) (h : Rds w B A (a.map bv)) (h' : Rds w B A' (b.map bv)) (hB : B ≤ w.heap.size) (hla : a.length ≤ 100000) (hlb : b.length ≤ 100000) :
    Calls Tryd.prog 28 #[.slice A a.length c, .slice A' b.length c'] w fun e w' => ∃ v, e = .returned v ∧ OwnB w' w.heap.size v (trim (pmul a b)) ∧ Below w.heap.size w w' := by
  obtain ⟨n, hn0⟩ : ∃ n, n = a.length + b.length := ⟨_, rfl⟩
  have hsum : (a.length : Int) + (b.length : Int) = (n : Int) := by omega
  obtain ⟨W1, hW1⟩ : ∃ W1, W1 = w.alloc (.cells (madeCells #[.int .u8 0] n) 5) := ⟨_, rfl⟩
  have hN1 : Hid (Below w.heap.size w W1) := by show Below _ _ _; rw [hW1]; exact (Below.refl _ _).alloc (Nat.le_refl _) _
  have hZ1 : Hid (Blk W1 w.heap.size ((List.replicate n (0 : UInt8)).map bv) 5) := by
    show Blk _ _ _ _
    rw [hW1, made_zeros, zeros_row]
    exact Blk.new _ _ _
  have hmk := run_make_row' (P := Tryd.prog) 22 5 (.int .u8 0) 1 Tryd.underlying22 infoByte rfl .i64 .i64 n (by omega) (by omega) w
  rw [← hW1] at hmk
  have ha := Lib.hid h
  have hb := Lib.hid h'
  have hBs := Lib.hid hB
  have HM := Lib.hid (fun x y W => refMul_any x y W)
  obtain ⟨na, hna0⟩ : ∃ k, k = a.length := ⟨_, rfl⟩
  obtain ⟨nb, hnb0⟩ : ∃ k, k = b.length := ⟨_, rfl⟩
  have hna := Lib.hid hna0
  have hnb := Lib.hid hnb0
  rw [← hna0, ← hnb0] at hsum ⊢
  have hnab : Hid (n = na + nb) := by show n = na + nb; omega
  have hnl : n ≤ 200000 := by omega
  have hwn : IntKind.i64.wrap (n : Int) = (n : Int) := by rw [IntKind.wrap_i64]; omega
  clear h h' hB hla hlb hn0 hna0 hnb0 hW1
  go_enter Tryd.func28, Tryd.ntmps28
  go_wp2_with fail
  clear hmk
  go_loopw [6] (fun v wr => ∃ (i : Nat) (X : List UInt8), i ≤ na ∧ v = .int .i64 i ∧ Hid (X.length = n ∧ ∀ j, co X j = pc a b i j) ∧ Hid (Blk wr w.heap.size (X.map bv) 5) ∧ Hid (Below w.heap.size w wr)) (fun v _ => na - (intOf v).toNat)
  case atStart => exact ⟨0, _, by omega, rfl, ⟨List.length_replicate, fun j => by rw [co_zeros]; rfl⟩, hZ1, hN1⟩
  case round =>
    obtain ⟨i, X, hi, rfl, hX, hK', hBw⟩ := hrel
    by_cases hlt : i < na
    · have ti : (i : Int) < (na : Int) := by omega
      have ti0 : 0 ≤ (i : Int) := by omega
      go_wp2_with fail
      go_loopw [7] (fun v wr => ∃ (k : Nat) (X : List UInt8), k ≤ nb ∧ v = .int .i64 k ∧ Hid (X.length = n ∧ ∀ j, co X j = pst a b i k j) ∧ Hid (Blk wr w.heap.size (X.map bv) 5) ∧ Hid (Below w.heap.size w wr)) (fun v _ => nb - (intOf v).toNat)
      case atStart => exact ⟨0, X, by omega, rfl, ⟨hX.out.1, fun j => by rw [pst_zero]; exact hX.out.2 j⟩, hK', hBw⟩
      case round =>
        clear hX hK' hBw
        obtain ⟨k, X, hk, rfl, hX, hK', hBw⟩ := hrel
        by_cases hltk : k < nb
        · have t : (k : Int) < (nb : Int) := by omega
          have t0 : 0 ≤ (k : Int) := by omega
          obtain ⟨q, hq0⟩ : ∃ q, q = i + k := ⟨_, rfl⟩
          have eq1 : (i : Int) + (k : Int) = (q : Int) := by omega
          have hqn : q < n := by have := hnab.out; omega
          have tq : (q : Int) < (n : Int) := by omega
          have tq0 : 0 ≤ (q : Int) := by omega
          have eqw : IntKind.i64.wrap (q : Int) = (q : Int) := by rw [IntKind.wrap_i64]; omega
          have hq := Lib.hid hq0
          have hxa := at_co (p := a) (k := i) (by rw [← hna.out]; exact hlt)
          have hxb := at_co (p := b) (k := k) (by rw [← hnb.out]; exact hltk)
          have hX1 := at_co (p := X) (k := q) (by rw [hX.out.1]; omega)
          obtain ⟨ad, rfl, hab, hca⟩ := (ha.out.below (hBw.out.mono hBs.out)).look (k := i) (u := bv (co a i)) (by rw [List.getElem?_map, hxa]; rfl)
          obtain ⟨bd, rfl, hbb, hcb⟩ := (hb.out.below (hBw.out.mono hBs.out)).look (k := k) (u := bv (co b k)) (by rw [List.getElem?_map, hxb]; rfl)
          have hcX := hK'.out.cell (j := q) (v := bv (co X q)) (by rw [List.getElem?_map, hX1]; rfl)
          have hnx : Hid ((X.set q (co X q ^^^ Gf.mul (co a i) (co b k))).length = n ∧ ∀ j, co (X.set q (co X q ^^^ Gf.mul (co a i) (co b k))) j = pst a b i (k + 1) j) := by
            refine ⟨by rw [List.length_set]; exact hX.out.1, fun j => ?_⟩
            rw [co_set (by rw [hX.out.1]; exact hqn), hX.out.2 q, hX.out.2 j]
            by_cases hj : j = q
            · rw [if_pos hj, hj, hq.out, pst_at]
            · rw [if_neg hj, pst_other _ _ (by rw [← hq.out]; exact hj)]
          have hkX : Hid (q < X.length) := by show _ < _; rw [hX.out.1]; omega
          have hfit : Hid (q + 1 ≤ (X.map bv).length) := by show _ ≤ _; rw [List.length_map, hX.out.1]; omega
          have hM := HM.out (co a i) (co b k) wr.drew
          obtain ⟨m, hm⟩ : ∃ m, m = Gf.mul (co a i) (co b k) := ⟨_, rfl⟩
          rw [← hm] at hM hnx
          have hxx := u8_xor_bv (co X q) m
          clear hm hxa hxb hX1 hq0
          generalize co a i = u at *
          generalize co b k = u' at *
          generalize co X q = v at *
          generalize v ^^^ m = y at *
          unfold bv at hca hcb hcX hM
          have za : ∀ z : ExtOf wr.drew, z.world.cell? (ad.add i) = some (.int .u8 (u.toNat : Int)) := fun z => (Below.cell (p := ad.add i) (z.ext) (by rw [add_block]; exact Nat.lt_of_lt_of_le hab (Nat.le_trans hBs.out hBw.out.size))).trans hca
          have zb : ∀ z : ExtOf wr.drew, z.world.cell? (bd.add k) = some (.int .u8 (u'.toNat : Int)) := fun z => (Below.cell (p := bd.add k) (z.ext) (by rw [add_block]; exact Nat.lt_of_lt_of_le hbb (Nat.le_trans hBs.out hBw.out.size))).trans hcb
          have zx : ∀ z : ExtOf wr.drew, z.world.cell? ⟨w.heap.size, q, none⟩ = some (.int .u8 (v.toNat : Int)) := fun z => (Below.cell (p := ⟨w.heap.size, q, none⟩) (z.ext) hK'.out.lt).trans hcX
          go_wp2_with fail
          refine wp_region_planM [21] [(true, 0), (true, 1), (true, 2), (true, 3), (true, 4), (true, 5), (true, 6), (true, 7), (true, 8), (true, 9), (true, 10), (true, 11), (true, 12), (true, 13), (true, 14), (true, 15), (true, 16), (true, 17), (false, 18), (true, 19), (true, 20), (false, 21)] (by decide) (by kernel_rfl) (by kernel_rfl) (by decide) (by intro c a d v w h; cases d <;> exact h) ?_
          change wpPlanM _ _ _ _ _ _ wr.drew
          iterate 18 (refine wpPlanM_plain rfl (fun K hK => ?_); go_simp; refine hK _ ?_; clear hK K)
          clear za zb zx
          refine wpPlanM_call rfl (fun K hK => ?_)
          go_wp2_with fail
          refine hM.mono ?_
          rintro e w4 ⟨rfl, rfl⟩
          go_wp2_with fail
          refine planPostL_normal ⟨.inr (Below.refl _ _), hK _ _ ?_⟩
          clear hK K hM
          iterate 2 (refine wpPlanM_plain rfl (fun K hK => ?_); go_simp; refine hK _ ?_; clear hK K)
          refine wpPlanM_call rfl (fun K hK => ?_)
          refine wpList_blk_store rfl 5 _ _ rfl q (bv y) rfl rfl hK'.out.drew size_u8 hfit.out (one_u8 y) ?_
          intro w7 hw7 ho7
          refine wpList_end (planPostL_normal ⟨.inl (by decide), hK _ _ ?_⟩)
          clear hK K
          refine wpPlanM_nil ?_
          have hK7 := Lib.hid (blk_set hw7 hkX.out)
          have ho7' : Only w.heap.size wr w7 := ⟨ho7.os, ho7.tape, ho7.output, ho7.size, ho7.block⟩
          have hB7 := Lib.hid (hBw.out.trans ((ho7'.below (Nat.le_refl _))))
          clear hw7 ho7 ho7'
          go_wp2_with fail
          go_roundw
          case rel => exact ⟨k + 1, X.set q y, by omega, by go_num, hnx, hK7, hB7⟩
          case measure => simp [intOf]; omega
        · have t : ¬ (k : Int) < (nb : Int) := by omega
          have hX' : Hid (X.length = n ∧ ∀ j, co X j = pc a b (i + 1) j) := ⟨hX.out.1, fun j => by rw [hX.out.2 j, show k = b.length by rw [← hnb.out]; omega, pst_end]⟩
          go_wp2_with fail
          go_roundw
          case rel => exact ⟨i + 1, X, by omega, by go_num, hX', hK', hBw⟩
          case measure => simp [intOf]; omega
    · have t : ¬ (i : Int) < (na : Int) := by omega
      have hXb : Hid (trim X = trim (pmul a b)) := by
        show _ = _
        exact trim_ext fun j => by rw [co_pmul, hX.out.2 j, show i = a.length by rw [← hna.out]; omega]
      have hrd : Hid (Rds wr wr.heap.size (some ⟨w.heap.size, 0, none⟩) (X.map bv)) := by
        have := hK'.out.rds 0 n
        rw [List.drop_zero, List.take_of_length_le (by rw [List.length_map, hX.out.1]; exact Nat.le_refl _)] at this
        exact this
      have hT := refTrim_any X (some ⟨w.heap.size, 0, none⟩) n wr hrd.out (Nat.le_refl _) (by rw [hX.out.1]; omega)
      rw [hX.out.1, hXb.out] at hT
      have hT' := Lib.hid hT
      clear hT
      go_wp2_with fail
      refine hT'.out.mono ?_
      rintro e w8 ⟨v8, rfl, ho8, hb8⟩
      have hfin := Lib.hid (And.intro (ownB_low ho8 hBw.out.size) (hBw.out.trans (hb8.mono hBw.out.size)))
      clear ho8 hb8
      go_wp2_with fail
      go_ret
      exact ⟨_, by first | rfl | (go_simp; done) | (go_simp; rfl), hfin.out.1, hfin.out.2⟩
end Go.Proofs.YtbilfhipmebmlaaDoor

namespace Go.Proofs.YtbilfhipmebmlaaDoor
set_option linter.unusedVariables false
set_option linter.unusedSimpArgs false
open Go.RowKit

theorem drewBelowB {B : Nat} {w W : World} (h : Below B w W) : Below B w W.drew := ⟨h.os, h.tape, h.output, h.size, h.block⟩
theorem drewNBelow (W : World) (n : Nat) : Below W.heap.size W (W.drewN n) :=
  have h := Below.refl W.heap.size W
  ⟨h.os, h.tape, h.output, h.size, h.block⟩
/-- The front of a block that is the call's own. -/
theorem own_cut {w : World} {g B : Nat} {X : List UInt8} (h : Blk w g (X.map bv) 5) (hB : B ≤ g) (hm : X.length ≤ maxLen) : OwnB w B (.slice (some ⟨g, 0, none⟩) (dg X) X.length) (trim X) := by
  refine ⟨by rw [List.length_map]; simp, .inr ⟨g, X.length, (X.map bv).toArray, by rw [trim_len], hB, h, by rw [trim_len]; exact dg_le X, hm, by simp, ?_⟩⟩
  simp only [Nat.mul_one, trim_len]
  rw [trim, List.map_take]

set_option maxRecDepth 100000 in
set_option maxHeartbeats 4000000 in
theorem product6_any {B : Nat} (a b : List UInt8) (A A' : Option Addr) (c c' : Nat) (w : World) (h : Rds w B A (a.map bv)) (h' : Rds w B A' (b.map bv)) (hB : B ≤ w.heap.size) (hla : a.length ≤ 100000) (hlb : b.length ≤ 100000) (ht : PTab 0 w) :
    Calls Tryd.prog 66 #[.slice A a.length c, .slice A' b.length c'] w fun e w' => ∃ v, e = .returned v ∧ OwnB w' w.heap.size v (trim (pmul a b)) ∧ Below w.heap.size w w' := by
  obtain ⟨n, hn0⟩ : ∃ n, n = a.length + b.length := ⟨_, rfl⟩
  have hsum : (a.length : Int) + (b.length : Int) = (n : Int) := by omega
  obtain ⟨W1, hW1⟩ : ∃ W1, W1 = w.alloc (.cells (madeCells #[.int .u8 0] n) 5) := ⟨_, rfl⟩
  have hN1 : Hid (Below w.heap.size w W1) := by show Below _ _ _; rw [hW1]; exact (Below.refl _ _).alloc (Nat.le_refl _) _
  have hZ1 : Hid (Blk W1 w.heap.size ((List.replicate n (0 : UInt8)).map bv) 5) := by
    show Blk _ _ _ _
    rw [hW1, made_zeros, zeros_row]
    exact Blk.new _ _ _
  have hmk := run_make_row' (P := Tryd.prog) 22 5 (.int .u8 0) 1 Tryd.underlying22 infoByte rfl .i64 .i64 n (by omega) (by omega) w
  rw [← hW1] at hmk
  have ha := Lib.hid h
  have hb := Lib.hid h'
  have hBs := Lib.hid hB
  have HM := Lib.hid (fun x y W (h : PTab 0 W) => mul_any x y W h)
  have ht' := Lib.hid ht
  clear ht
  obtain ⟨na, hna0⟩ : ∃ k, k = a.length := ⟨_, rfl⟩
  obtain ⟨nb, hnb0⟩ : ∃ k, k = b.length := ⟨_, rfl⟩
  have hna := Lib.hid hna0
  have hnb := Lib.hid hnb0
  rw [← hna0, ← hnb0] at hsum ⊢
  have hnab : Hid (n = na + nb) := by show n = na + nb; omega
  have hnl : n ≤ 200000 := by omega
  have hwn : IntKind.i64.wrap (n : Int) = (n : Int) := by rw [IntKind.wrap_i64]; omega
  clear h h' hB hla hlb hn0 hna0 hnb0 hW1
  go_enter Tryd.func66, Tryd.ntmps66
  go_wp2_with fail
  clear hmk
  go_loopw [18] (fun v wr => ∃ (i : Nat) (X : List UInt8), i ≤ na ∧ v = .int .i64 i ∧ Hid (X.length = n ∧ ∀ j, co X j = pc a b i j) ∧ Hid (Blk wr w.heap.size (X.map bv) 5) ∧ Hid (Below w.heap.size w wr)) (fun v _ => na - (intOf v).toNat)
  case atStart => exact ⟨0, _, by omega, rfl, ⟨List.length_replicate, fun j => by rw [co_zeros]; rfl⟩, hZ1, hN1⟩
  case round =>
    obtain ⟨i, X, hi, rfl, hX, hK', hBw⟩ := hrel
    by_cases hlt : i < na
    · have ti : (i : Int) < (na : Int) := by omega
      have ti0 : 0 ≤ (i : Int) := by omega
      have hxa := at_co (p := a) (k := i) (by rw [← hna.out]; exact hlt)
      obtain ⟨ad, rfl, hab, hca⟩ := (ha.out.below (hBw.out.mono hBs.out)).look (k := i) (u := bv (co a i)) (by rw [List.getElem?_map, hxa]; rfl)
      obtain ⟨u, hu0⟩ : ∃ u, u = co a i := ⟨_, rfl⟩
      rw [← hu0] at hca
      have hu := Lib.hid hu0
      unfold bv at hca
      clear hxa hu0
      go_wp2_with fail
      clear hca
      go_loopw [25] (fun v wr => ∃ (k : Nat) (X : List UInt8), k ≤ nb ∧ v = .int .i64 k ∧ Hid (X.length = n ∧ ∀ j, co X j = pst a b i k j) ∧ Hid (Blk wr w.heap.size (X.map bv) 5) ∧ Hid (Below w.heap.size w wr)) (fun v _ => nb - (intOf v).toNat)
      case atStart => exact ⟨0, X, by omega, rfl, ⟨hX.out.1, fun j => by rw [pst_zero]; exact hX.out.2 j⟩, hK', hBw⟩
      case round =>
        clear hX hK' hBw
        obtain ⟨k, X, hk, rfl, hX, hK', hBw⟩ := hrel
        by_cases hltk : k < nb
        · have t : (k : Int) < (nb : Int) := by omega
          have t0 : 0 ≤ (k : Int) := by omega
          obtain ⟨q, hq0⟩ : ∃ q, q = i + k := ⟨_, rfl⟩
          have eq1 : (i : Int) + (k : Int) = (q : Int) := by omega
          have hqn : q < n := by have := hnab.out; omega
          have tq : (q : Int) < (n : Int) := by omega
          have tq0 : 0 ≤ (q : Int) := by omega
          have eqw : IntKind.i64.wrap (q : Int) = (q : Int) := by rw [IntKind.wrap_i64]; omega
          have hq := Lib.hid hq0
          have hxb := at_co (p := b) (k := k) (by rw [← hnb.out]; exact hltk)
          have hX1 := at_co (p := X) (k := q) (by rw [hX.out.1]; omega)
          obtain ⟨bd, rfl, hbb, hcb⟩ := (hb.out.below (hBw.out.mono hBs.out)).look (k := k) (u := bv (co b k)) (by rw [List.getElem?_map, hxb]; rfl)
          have hcX := hK'.out.cell (j := q) (v := bv (co X q)) (by rw [List.getElem?_map, hX1]; rfl)
          have hnx : Hid ((X.set q (co X q ^^^ Gf.mul (co a i) (co b k))).length = n ∧ ∀ j, co (X.set q (co X q ^^^ Gf.mul (co a i) (co b k))) j = pst a b i (k + 1) j) := by
            refine ⟨by rw [List.length_set]; exact hX.out.1, fun j => ?_⟩
            rw [co_set (by rw [hX.out.1]; exact hqn), hX.out.2 q, hX.out.2 j]
            by_cases hj : j = q
            · rw [if_pos hj, hj, hq.out, pst_at]
            · rw [if_neg hj, pst_other _ _ (by rw [← hq.out]; exact hj)]
          have hkX : Hid (q < X.length) := by show _ < _; rw [hX.out.1]; omega
          have hfit : Hid (q + 1 ≤ (X.map bv).length) := by show _ ≤ _; rw [List.length_map, hX.out.1]; omega
          rw [← hu.out] at hnx
          have hM := HM.out u (co b k) wr.drew (ht'.out.below (drewBelowB hBw.out) ht'.out.1)
          obtain ⟨m, hm⟩ : ∃ m, m = Gf.mul u (co b k) := ⟨_, rfl⟩
          rw [← hm] at hM hnx
          have hxx := u8_xor_bv (co X q) m
          clear hm hxb hX1 hq0
          generalize co b k = u' at *
          generalize co X q = v at *
          generalize v ^^^ m = y at *
          unfold bv at hcb hcX hM
          have zx : ∀ z : ExtOf wr.drew, z.world.cell? ⟨w.heap.size, q, none⟩ = some (.int .u8 (v.toNat : Int)) := fun z => (Below.cell (p := ⟨w.heap.size, q, none⟩) (z.ext) hK'.out.lt).trans hcX
          go_wp2_with fail
          refine wp_region_planM [11] [(true, 0), (true, 1), (true, 2), (true, 3), (true, 4), (true, 5), (true, 6), (true, 7), (false, 8), (true, 9), (true, 10), (false, 11)] (by decide) (by kernel_rfl) (by kernel_rfl) (by decide) (by intro c a d v w h; cases d <;> exact h) ?_
          change wpPlanM _ _ _ _ _ _ wr.drew
          iterate 8 (refine wpPlanM_plain rfl (fun K hK => ?_); go_simp; refine hK _ ?_; clear hK K)
          clear zx
          refine wpPlanM_call rfl (fun K hK => ?_)
          go_wp2_with fail
          refine hM.mono ?_
          rintro e w4 ⟨rfl, m4, rfl⟩
          go_wp2_with fail
          have hE : Ext wr.drew (wr.drewN (1 + m4)) := by
            have h := Below.refl wr.heap.size wr
            exact ⟨h.os, h.tape, h.output, h.size, h.block⟩
          refine planPostL_normal ⟨.inr hE, hK _ _ ?_⟩
          clear hE
          clear hK K hM
          iterate 2 (refine wpPlanM_plain rfl (fun K hK => ?_); go_simp; refine hK _ ?_; clear hK K)
          refine wpPlanM_call rfl (fun K hK => ?_)
          refine wpList_blk_store rfl 5 _ _ rfl q (bv y) rfl rfl (show Blk (wr.drewN (1 + m4)) w.heap.size (X.map bv) 5 from hK'.out) size_u8 hfit.out (one_u8 y) ?_
          intro w7 hw7 ho7
          refine wpList_end (planPostL_normal ⟨.inl (by decide), hK _ _ ?_⟩)
          clear hK K
          refine wpPlanM_nil ?_
          have hK7 := Lib.hid (blk_set hw7 hkX.out)
          have ho7' : Only w.heap.size wr w7 := ⟨ho7.os, ho7.tape, ho7.output, ho7.size, ho7.block⟩
          have hB7 := Lib.hid (hBw.out.trans ((ho7'.below (Nat.le_refl _))))
          clear hw7 ho7 ho7'
          go_wp2_with fail
          go_roundw
          case rel => exact ⟨k + 1, X.set q y, by omega, by go_num, hnx, hK7, hB7⟩
          case measure => simp [intOf]; omega
        · have t : ¬ (k : Int) < (nb : Int) := by omega
          have hX' : Hid (X.length = n ∧ ∀ j, co X j = pc a b (i + 1) j) := ⟨hX.out.1, fun j => by rw [hX.out.2 j, show k = b.length by rw [← hnb.out]; omega, pst_end]⟩
          go_wp2_with fail
          go_roundw
          case rel => exact ⟨i + 1, X, by omega, by go_num, hX', hK', hBw⟩
          case measure => simp [intOf]; omega
    · have t : ¬ (i : Int) < (na : Int) := by omega
      have hXb : Hid (trim X = trim (pmul a b)) := by
        show _ = _
        exact trim_ext fun j => by rw [co_pmul, hX.out.2 j, show i = a.length by rw [← hna.out]; omega]
      have hrd : Hid (Rds wr wr.heap.size (some ⟨w.heap.size, 0, none⟩) (X.map bv)) := by
        have := hK'.out.rds 0 n
        rw [List.drop_zero, List.take_of_length_le (by rw [List.length_map, hX.out.1]; exact Nat.le_refl _)] at this
        exact this
      have hT := cut_any X (some ⟨w.heap.size, 0, none⟩) n wr hrd.out (by rw [hX.out.1]; exact Nat.le_refl _) (by rw [hX.out.1]; omega)
      rw [hX.out.1] at hT
      have hown := own_cut hK'.out (Nat.le_refl w.heap.size) (by rw [hX.out.1]; unfold maxLen; omega)
      rw [hXb.out, hX.out.1] at hown
      have hown' := Lib.hid hown
      have hT' := Lib.hid hT
      generalize dg X = d at *
      clear hT hown
      go_wp2_with fail
      refine hT'.out.mono ?_
      rintro e w8 ⟨rfl, rfl⟩
      go_wp2_with fail
      go_ret
      exact ⟨_, by first | rfl | (go_simp; done) | (go_simp; rfl), hown'.out, hBw.out⟩
end Go.Proofs.YtbilfhipmebmlaaDoor

namespace Go.Proofs.YtbilfhipmebmlaaDoor
set_option linter.unusedVariables false
set_option linter.unusedSimpArgs false
open Go.RowKit

/-- The greatest length of the first k lists. -/
def mx (M : List (List UInt8)) : Nat → Nat
  | 0 => 0
  | k + 1 => max (mx M k) (M.getD k []).length
/-- The sum of the first k lists, at j. -/
def cs (M : List (List UInt8)) : Nat → Nat → UInt8
  | 0, _ => 0
  | k + 1, j => cs M k j ^^^ co (M.getD k []) j
def sumL (M : List (List UInt8)) : List UInt8 := (List.range (mx M M.length)).map (cs M M.length)
theorem mx_le (M : List (List UInt8)) {i : Nat} : ∀ k, i < k → (M.getD i []).length ≤ mx M k := by
  intro k
  induction k with
  | zero => intro h; omega
  | succ k ih =>
    intro h
    simp only [mx]
    by_cases hk : i = k
    · subst hk; omega
    · have := ih (by omega); omega
theorem mx_few {M : List (List UInt8)} {b : Nat} (h : ∀ m ∈ M, m.length ≤ b) : ∀ k, mx M k ≤ b := by
  intro k
  induction k with
  | zero => simp [mx]
  | succ k ih =>
    simp only [mx]
    have : (M.getD k []).length ≤ b := by
      rw [List.getD_eq_getElem?_getD]
      rcases Nat.lt_or_ge k M.length with hk | hk
      · rw [List.getElem?_eq_getElem hk]; exact h _ (List.getElem_mem hk)
      · rw [List.getElem?_eq_none hk]; simp
    omega
theorem cs_out (M : List (List UInt8)) (j : Nat) : ∀ k, mx M k ≤ j → cs M k j = 0 := by
  intro k
  induction k with
  | zero => intro _; rfl
  | succ k ih =>
    intro h
    simp only [mx] at h
    rw [cs, ih (by omega), co_out (by omega)]
    rfl
theorem co_sumL (M : List (List UInt8)) (j : Nat) : co (sumL M) j = cs M M.length j := by
  rcases Nat.lt_or_ge j (mx M M.length) with h | h
  · unfold co sumL
    rw [List.getD_eq_getElem?_getD, List.getElem?_map, List.getElem?_range h]
    rfl
  · rw [co_out (by simp [sumL]; exact h), cs_out M j _ h]

set_option maxRecDepth 100000 in
set_option maxHeartbeats 4000000 in
theorem sum6_any {B : Nat} (M : List (List UInt8)) (A : Option Addr) (c : Nat) (w : World) (h : Mat w B A M) (hB : B ≤ w.heap.size) (hl : M.length ≤ 100000) (hrows : ∀ m ∈ M, m.length ≤ 100000) :
    Calls Tryd.prog 65 #[.slice A M.length c] w fun e w' => ∃ v, e = .returned v ∧ OwnB w' w.heap.size v (trim (sumL M)) ∧ Below w.heap.size w w' := by
  obtain ⟨n, hn0⟩ : ∃ n, n = mx M M.length := ⟨_, rfl⟩
  have hnl : n ≤ 100000 := by rw [hn0]; exact mx_few hrows _
  obtain ⟨W1, hW1⟩ : ∃ W1, W1 = w.alloc (.cells (madeCells #[.int .u8 0] n) 5) := ⟨_, rfl⟩
  have hN1 : Hid (Below w.heap.size w W1) := by show Below _ _ _; rw [hW1]; exact (Below.refl _ _).alloc (Nat.le_refl _) _
  have hZ1 : Hid (Blk W1 w.heap.size ((List.replicate n (0 : UInt8)).map bv) 5) := by
    show Blk _ _ _ _
    rw [hW1, made_zeros, zeros_row]
    exact Blk.new _ _ _
  have hmk := run_make_row' (P := Tryd.prog) 22 5 (.int .u8 0) 1 Tryd.underlying22 infoByte rfl .i64 .i64 n (by omega) (by omega) w
  rw [← hW1] at hmk
  have hmk' := Lib.hid hmk
  have hM := Lib.hid h
  have hBs := Lib.hid hB
  have hrw := Lib.hid hrows
  have hn := Lib.hid hn0
  obtain ⟨N, hN0⟩ : ∃ k, k = M.length := ⟨_, rfl⟩
  have hN := Lib.hid hN0
  rw [← hN0] at hl ⊢
  clear h hB hrows hn0 hN0 hW1 hmk
  go_enter Tryd.func65, Tryd.ntmps65
  go_wp2_with fail
  go_loopw [3, 13] (fun v i wr => ∃ (k q : Nat), k ≤ N ∧ i = .int .i64 k ∧ v = .int .i64 q ∧ Hid (q = mx M k) ∧ q ≤ 100000 ∧ w = wr) (fun _ i _ => N - (intOf i).toNat)
  case atStart => exact ⟨0, 0, by omega, rfl, rfl, rfl, by omega, rfl⟩
  case round =>
    obtain ⟨k, q, hk, rfl, rfl, hq, hql, rfl⟩ := hrel
    by_cases hlt : k < N
    · have t : (k : Int) < (N : Int) := by omega
      have t0 : 0 ≤ (k : Int) := by omega
      obtain ⟨m, hm⟩ : ∃ m, M[k]? = some m := ⟨_, List.getElem?_eq_getElem (by rw [← hN.out]; exact hlt)⟩
      obtain ⟨ad, v, rfl, hab, hca, a, c', rfl, _, _, _, _⟩ := hM.out.at hm
      have hml := hrw.out m (List.mem_of_getElem? hm)
      have hmD : M.getD k [] = m := by rw [List.getD_eq_getElem?_getD, hm]; rfl
      obtain ⟨p, hp⟩ : ∃ p, p = max q m.length := ⟨_, rfl⟩
      have hp1 : (if (q : Int) < (m.length : Int) then (m.length : Int) else (q : Int)) = (p : Int) := by split <;> omega
      have hp2 : (if q < m.length then (m.length : Int) else (q : Int)) = (p : Int) := by split <;> omega
      have hpm : Hid (p = mx M (k + 1)) := by show p = max (mx M k) (M.getD k []).length; rw [hmD, ← hq.out]; exact hp
      have hpl : p ≤ 100000 := by omega
      generalize m.length = ml at *
      clear hm hmD hp
      go_wp2_with fail
      go_roundw
      case rel => exact ⟨k + 1, p, by omega, by go_num, by first | rfl | go_num, hpm, hpl, by trivial⟩
      case measure => simp [intOf]; omega
    · have t : ¬ (k : Int) < (N : Int) := by omega
      have hqn : n = q := by rw [hq.out, hn.out, ← hN.out, show k = N by omega]
      subst hqn
      have hmk := hmk'.out
      clear hq
      go_wp2_with fail
      clear hmk
      go_loopw [26] (fun v wr => ∃ (i : Nat) (X : List UInt8), i ≤ N ∧ v = .int .i64 i ∧ Hid (X.length = n ∧ ∀ j, co X j = cs M i j) ∧ Hid (Blk wr w.heap.size (X.map bv) 5) ∧ Hid (Below w.heap.size w wr)) (fun v _ => N - (intOf v).toNat)
      case atStart => exact ⟨0, _, by omega, rfl, ⟨List.length_replicate, fun j => by rw [co_zeros]; rfl⟩, hZ1, hN1⟩
      case round =>
        clear hlt t
        obtain ⟨i, X, hi, rfl, hX, hK', hBw⟩ := hrel
        by_cases hlt : i < N
        · have ti : (i : Int) < (N : Int) := by omega
          have ti0 : 0 ≤ (i : Int) := by omega
          obtain ⟨m, hm⟩ : ∃ m, M[i]? = some m := ⟨_, List.getElem?_eq_getElem (by rw [← hN.out]; exact hlt)⟩
          obtain ⟨ad, v, rfl, hab, hca, a, c', rfl, _, _, _, hrm⟩ := (hM.out.below (hBw.out.mono hBs.out)).at hm
          have hmD : M.getD i [] = m := by rw [List.getD_eq_getElem?_getD, hm]; rfl
          have hmn : m.length ≤ n := by rw [hn.out, ← hmD]; exact mx_le M _ (by rw [← hN.out]; exact hlt)
          have hcs : Hid (∀ j, cs M (i + 1) j = cs M i j ^^^ co m j) := fun j => by rw [cs, hmD]
          have hrm' := Lib.hid (show Rds w B a (m.map bv) from by
            obtain ⟨ad2, v2, e2, _, hc2, a2, c2, e3, _, _, _, hr2⟩ := hM.out.at hm
            cases e2
            have hcc := ((hBw.out.mono hBs.out).cell (p := ad.add i) (by rw [add_block]; exact hab)).trans hc2
            rw [hca] at hcc
            cases hcc
            cases e3
            exact hr2)
          obtain ⟨ml, hml0⟩ : ∃ l, l = m.length := ⟨_, rfl⟩
          have hml := Lib.hid hml0
          rw [← hml0] at hca hmn
          clear hm hmD hml0 hrm
          go_wp2_with fail
          clear hca
          go_loopw [32] (fun v wr => ∃ (k : Nat) (X : List UInt8), k ≤ ml ∧ v = .int .i64 k ∧ Hid (X.length = n ∧ ∀ j, co X j = cs M i j ^^^ (if j < k then co m j else 0)) ∧ Hid (Blk wr w.heap.size (X.map bv) 5) ∧ Hid (Below w.heap.size w wr)) (fun v _ => ml - (intOf v).toNat)
          case atStart => exact ⟨0, X, by omega, rfl, ⟨hX.out.1, fun j => by rw [hX.out.2 j]; simp⟩, hK', hBw⟩
          case round =>
            clear hX hK' hBw
            obtain ⟨k, X, hk, rfl, hX, hK', hBw⟩ := hrel
            by_cases hltk : k < ml
            · have t : (k : Int) < (ml : Int) := by omega
              have t0 : 0 ≤ (k : Int) := by omega
              have t2 : (k : Int) < (n : Int) := by omega
              have hx := at_co (p := m) (k := k) (by rw [← hml.out]; exact hltk)
              have hX1 := at_co (p := X) (k := k) (by rw [hX.out.1]; omega)
              obtain ⟨bd, rfl, hbb, hcb⟩ := (hrm'.out.below (hBw.out.mono hBs.out)).look (k := k) (u := bv (co m k)) (by rw [List.getElem?_map, hx]; rfl)
              have hcX := hK'.out.cell (j := k) (v := bv (co X k)) (by rw [List.getElem?_map, hX1]; rfl)
              have hnx : Hid ((X.set k (co X k ^^^ co m k)).length = n ∧ ∀ j, co (X.set k (co X k ^^^ co m k)) j = cs M i j ^^^ (if j < k + 1 then co m j else 0)) := by
                refine ⟨by rw [List.length_set]; exact hX.out.1, fun j => ?_⟩
                rw [co_set (by rw [hX.out.1]; omega), hX.out.2 k, hX.out.2 j]
                by_cases hj : j = k
                · subst hj; simp
                · rw [if_neg hj]
                  by_cases hjk : j < k
                  · rw [if_pos hjk, if_pos (by omega)]
                  · rw [if_neg hjk, if_neg (by omega)]
              have hxx := u8_xor_bv (co X k) (co m k)
              have hkX : Hid (k < X.length) := by show _ < _; rw [hX.out.1]; omega
              have hfit : Hid (k + 1 ≤ (X.map bv).length) := by show _ ≤ _; rw [List.length_map, hX.out.1]; omega
              generalize co m k = u at *
              generalize co X k = v at *
              generalize v ^^^ u = y at *
              unfold bv at hcb hcX
              clear hx hX1
              go_wp2_with (refine wpList_blk_store rfl 5 _ _ rfl k (bv y) rfl rfl hK'.out size_u8 hfit.out (one_u8 y) ?_; intro w7 hw7 ho7)
              have hK7 := Lib.hid (blk_set hw7 hkX.out)
              have hB7 := Lib.hid (hBw.out.trans ((ho7.below (Nat.le_refl _))))
              clear hw7 ho7
              go_wp2_with fail
              go_roundw
              case rel => exact ⟨k + 1, X.set k y, by omega, by go_num, hnx, hK7, hB7⟩
              case measure => simp [intOf]; omega
            · have t : ¬ (k : Int) < (ml : Int) := by omega
              have hX' : Hid (X.length = n ∧ ∀ j, co X j = cs M (i + 1) j) := ⟨hX.out.1, fun j => by
                rw [hX.out.2 j, hcs.out j]
                by_cases hj : j < k
                · rw [if_pos hj]
                · rw [if_neg hj, co_out (p := m) (by rw [← hml.out]; omega)]⟩
              go_wp2_with fail
              go_roundw
              case rel => exact ⟨i + 1, X, by omega, by go_num, hX', hK', hBw⟩
              case measure => simp [intOf]; omega
        · have t : ¬ (i : Int) < (N : Int) := by omega
          have hXb : Hid (trim X = trim (sumL M)) := by
            show _ = _
            exact trim_ext fun j => by rw [co_sumL, hX.out.2 j, ← hN.out, show i = N by omega]
          have hrd : Hid (Rds wr wr.heap.size (some ⟨w.heap.size, 0, none⟩) (X.map bv)) := by
            have := hK'.out.rds 0 n
            rw [List.drop_zero, List.take_of_length_le (by rw [List.length_map, hX.out.1]; exact Nat.le_refl _)] at this
            exact this
          have hT := cut_any X (some ⟨w.heap.size, 0, none⟩) n wr hrd.out (by rw [hX.out.1]; exact Nat.le_refl _) (by rw [hX.out.1]; omega)
          rw [hX.out.1] at hT
          have hown := own_cut hK'.out (Nat.le_refl w.heap.size) (by rw [hX.out.1]; unfold maxLen; omega)
          rw [hXb.out, hX.out.1] at hown
          have hown' := Lib.hid hown
          have hT' := Lib.hid hT
          generalize dg X = d at *
          clear hT hown
          go_wp2_with fail
          refine hT'.out.mono ?_
          rintro e w8 ⟨rfl, rfl⟩
          go_wp2_with fail
          go_ret
          exact ⟨_, by first | rfl | (go_simp; done) | (go_simp; rfl), hown'.out, hBw.out⟩
end Go.Proofs.YtbilfhipmebmlaaDoor

namespace Go.Proofs.YtbilfhipmebmlaaDoor
set_option linter.unusedVariables false
set_option linter.unusedSimpArgs false
open Go.RowKit

theorem mat_of {W : World} {g B : Nat} {vs : List Value} {t : TypeId} {M : List (List UInt8)} (h : Blk W g vs t) (hl : vs.length = M.length) (hB : B ≤ W.heap.size) (hr : ∀ (i : Nat) (v : Value) (m : List UInt8), vs[i]? = some v → M[i]? = some m → RowAt W B v m) : Mat W W.heap.size (some ⟨g, 0, none⟩) M := by
  refine ⟨vs, hl, ?_, fun i v m hv hm => (hr i v m hv hm).more hB⟩
  have := h.rds 0 vs.length
  rw [List.drop_zero, List.take_of_length_le (Nat.le_refl _)] at this
  exact this
theorem trim_one (p : List UInt8) : trim (sumL [p]) = trim p := trim_ext fun j => by
  rw [co_sumL]
  show (0 : UInt8) ^^^ co p j = co p j
  rw [UInt8.zero_xor]
theorem trim_two (a b : List UInt8) : trim (sumL [a, b]) = trim (Gf.vsum a b) := trim_ext fun j => by
  rw [co_sumL, co_vsum]
  show ((0 : UInt8) ^^^ co a j) ^^^ co b j = co a j ^^^ co b j
  rw [UInt8.zero_xor]

set_option maxRecDepth 100000 in
set_option maxHeartbeats 1000000 in
theorem trim6_any {B : Nat} (p : List UInt8) (v : Value) (w : World) (h : RowAt w B v p) (hB : B ≤ w.heap.size) (hl : p.length ≤ 100000) :
    Calls Tryd.prog 21 #[v] w fun e w' => ∃ v', e = .returned v' ∧ OwnB w' w.heap.size v' (trim p) ∧ Below w.heap.size w w' := by
  obtain ⟨W1, hW1⟩ : ∃ W1, W1 = w.alloc (.cells #[v] 22) := ⟨_, rfl⟩
  have hN1 : Hid (Below w.heap.size w W1) := by show Below _ _ _; rw [hW1]; exact (Below.refl _ _).alloc (Nat.le_refl _) _
  have hZ1 : Blk W1 w.heap.size [v] 22 := by rw [hW1]; exact Blk.new w [v] _
  have hM := mat_of (M := [p]) hZ1 rfl (B := B) (Nat.le_trans hB hN1.out.size) (fun i u m hu hm => by
    cases i with
    | zero => simp only [List.getElem?_cons_zero, Option.some.injEq] at hu hm; subst hu; subst hm; exact h.below (hN1.out.mono hB)
    | succ i => simp at hu)
  have hS := Lib.hid (sum6_any [p] (some ⟨w.heap.size, 0, none⟩) 1 W1 hM (Nat.le_refl _) (by simp) (by simpa using hl))
  obtain ⟨a, c, rfl, _, _, _, _⟩ := h
  clear hM hZ1
  generalize p.length = n at *
  go_enter Tryd.func21, Tryd.ntmps21
  go_wp2_with fail
  rw [← hW1]
  clear hW1
  refine hS.out.mono ?_
  rintro e w2 ⟨v2, rfl, ho2, hb2⟩
  rw [trim_one] at ho2
  have hfin := Lib.hid (And.intro (ownB_low ho2 hN1.out.size) (hN1.out.trans (hb2.mono hN1.out.size)))
  clear ho2 hb2
  go_wp2_with fail
  go_ret
  exact ⟨_, by first | rfl | (go_simp; done) | (go_simp; rfl), hfin.out.1, hfin.out.2⟩

set_option maxRecDepth 100000 in
set_option maxHeartbeats 1000000 in
theorem add6_any {B : Nat} (p q : List UInt8) (v u : Value) (w : World) (h : RowAt w B v p) (h' : RowAt w B u q) (hB : B ≤ w.heap.size) (hl : p.length ≤ 100000) (hl' : q.length ≤ 100000) :
    Calls Tryd.prog 23 #[v, u] w fun e w' => ∃ v', e = .returned v' ∧ OwnB w' w.heap.size v' (trim (Gf.vsum p q)) ∧ Below w.heap.size w w' := by
  obtain ⟨W1, hW1⟩ : ∃ W1, W1 = w.alloc (.cells #[v, u] 22) := ⟨_, rfl⟩
  have hN1 : Hid (Below w.heap.size w W1) := by show Below _ _ _; rw [hW1]; exact (Below.refl _ _).alloc (Nat.le_refl _) _
  have hZ1 : Blk W1 w.heap.size [v, u] 22 := by rw [hW1]; exact Blk.new w [v, u] _
  have hM := mat_of (M := [p, q]) hZ1 rfl (B := B) (Nat.le_trans hB hN1.out.size) (fun i x m hu hm => by
    cases i with
    | zero => simp only [List.getElem?_cons_zero, Option.some.injEq] at hu hm; subst hu; subst hm; exact h.below (hN1.out.mono hB)
    | succ i =>
      cases i with
      | zero => simp only [List.getElem?_cons_succ, List.getElem?_cons_zero, Option.some.injEq] at hu hm; subst hu; subst hm; exact h'.below (hN1.out.mono hB)
      | succ i => simp at hu)
  have hS := Lib.hid (sum6_any [p, q] (some ⟨w.heap.size, 0, none⟩) 2 W1 hM (Nat.le_refl _) (by simp) (by
    intro m hm
    simp only [List.mem_cons, List.not_mem_nil, or_false] at hm
    rcases hm with rfl | rfl
    · exact hl
    · exact hl'))
  obtain ⟨a, c, rfl, _, _, _, _⟩ := h
  obtain ⟨a', c', rfl, _, _, _, _⟩ := h'
  clear hM hZ1
  generalize p.length = n at *
  generalize q.length = n' at *
  go_enter Tryd.func23, Tryd.ntmps23
  go_wp2_with fail
  rw [← hW1]
  clear hW1
  refine hS.out.mono ?_
  rintro e w2 ⟨v2, rfl, ho2, hb2⟩
  rw [trim_two] at ho2
  have hfin := Lib.hid (And.intro (ownB_low ho2 hN1.out.size) (hN1.out.trans (hb2.mono hN1.out.size)))
  clear ho2 hb2
  go_wp2_with fail
  go_ret
  exact ⟨_, by first | rfl | (go_simp; done) | (go_simp; rfl), hfin.out.1, hfin.out.2⟩

set_option maxRecDepth 100000 in
set_option maxHeartbeats 1000000 in
theorem mul6_any {B : Nat} (a b : List UInt8) (A A' : Option Addr) (c c' : Nat) (w : World) (h : Rds w B A (a.map bv)) (h' : Rds w B A' (b.map bv)) (hB : B ≤ w.heap.size) (hla : a.length ≤ 256) (hlb : b.length ≤ 256) (ht : PTab 0 w) :
    Calls Tryd.prog 25 #[.slice A a.length c, .slice A' b.length c'] w fun e w' => ∃ v, e = .returned (.tuple #[v, .int .i64 0]) ∧ OwnB w' w.heap.size v (trim (pmul a b)) ∧ Below w.heap.size w w' := by
  have hP := Lib.hid (product6_any a b A A' c c' w h h' hB (by omega) (by omega) ht)
  clear h h' ht
  have ta : ¬ (a.length : Int) > 256 := by omega
  have tb : ¬ (b.length : Int) > 256 := by omega
  generalize a.length = n at *
  generalize b.length = n' at *
  go_enter Tryd.func25, Tryd.ntmps25
  go_wp2_with fail
  refine hP.out.mono ?_
  rintro e w2 ⟨v2, rfl, ho2, hb2⟩
  have hfin := Lib.hid (And.intro ho2 hb2)
  clear ho2 hb2
  go_wp2_with fail
  go_ret2
  exact ⟨_, by first | rfl | (go_simp; done) | (go_simp; rfl), hfin.out.1, hfin.out.2⟩

set_option maxRecDepth 100000 in
set_option maxHeartbeats 1000000 in
theorem mul6_long (n n' c c' : Nat) (A A' : Option Addr) (w : World) (hl : 256 < n ∨ 256 < n') :
    Calls Tryd.prog 25 #[.slice A n c, .slice A' n' c'] w fun e w' => e = .returned (.tuple #[.slice none 0 0, .int .i64 2]) ∧ w' = w := by
  by_cases h1 : 256 < n
  · have ta : (n : Int) > 256 := by omega
    clear hl
    go_enter Tryd.func25, Tryd.ntmps25
    go_wp2_with fail
    go_ret2
    exact ⟨rfl, rfl⟩
  · have ta : ¬ (n : Int) > 256 := by omega
    have tb : (n' : Int) > 256 := by omega
    clear hl
    go_enter Tryd.func25, Tryd.ntmps25
    go_wp2_with fail
    go_ret2
    exact ⟨rfl, rfl⟩
end Go.Proofs.YtbilfhipmebmlaaDoor
