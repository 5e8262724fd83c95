/-
  Contracts of stage 5: the reference's Solve, Express. Contracts of stage 5: the reference's Express.
-/
import Derived.Test.YtfbdhcpclccikaaDoorMry
namespace Go.Proofs.YtfbdhcpclccikaaDoor
set_option linter.unusedVariables false
set_option linter.unusedSimpArgs false
open Go.RowKit

set_option maxRecDepth 100000 in
set_option maxHeartbeats 4000000 in
theorem refSolve_any (M : List (List UInt8)) (b : List UInt8) (A Ab : Option Addr) (c cb m nb : Nat) (w : World) (h : Mat w w.heap.size A M) (hb : Rds w w.heap.size Ab (b.map bv)) (hm : M.length = m) (hbl : b.length = nb) (hl : m ≤ 100000) :
    Calls Tryd.prog 29 #[.slice A m c, .slice Ab nb cb] w (SolvedEnd w (solveX M b) (solveK M b) (solveE M b)) := by
  obtain ⟨dd, hdu, hdr⟩ := row_sol
  have hdu' := Lib.hid hdu
  obtain ⟨W1, hW1⟩ : ∃ W1, W1 = w.alloc (.cells #[.slice none 0 0, .slice none 0 0, .int .i64 0] 47) := ⟨_, rfl⟩
  have hB1 : Hid (Below w.heap.size w W1) := by show Below _ _ _; rw [hW1]; exact (Below.refl _ _).alloc (Nat.le_refl _) _
  have hR1 : Hid (Blk W1 w.heap.size [.slice none 0 0, .slice none 0 0, .int .i64 0] 47) := by show Blk _ _ _ _; rw [hW1]; exact Blk.new _ [_, _, _] _
  have hW1' := Lib.hid hW1
  have hM1 : Hid (Mat W1 W1.heap.size A M) := (h.below hB1.out).more hB1.out.size
  have hV1 : Hid (Rds W1 W1.heap.size Ab (b.map bv)) := (hb.below hB1.out).more hB1.out.size
  obtain ⟨r, hr0⟩ : ∃ r, chk M = r := ⟨_, rfl⟩
  obtain ⟨q, hq0⟩ : ∃ q, cols M = q := ⟨_, rfl⟩
  have CK : Hid (Calls Tryd.prog 19 #[.slice A m c] W1 fun e w' => e = .returned (.int .i64 r) ∧ Below W1.heap.size W1 w') := check_v M m A c W1 hM1.out hm (by omega) hr0
  have G1 : Hid (r ≠ 0 → solveE M b = r ∧ solveX M b = [] ∧ solveK M b = []) := fun h => by
    have e : solveE M b = r := by unfold solveE; rw [if_pos (by rw [hr0]; exact h), hr0]
    exact ⟨e, by unfold solveX; rw [if_neg (by rw [e]; exact h)], by unfold solveK; rw [if_neg (by rw [e]; exact h)]⟩
  have G2 : Hid (r = 0 → nb ≠ m → solveE M b = 1 ∧ solveX M b = [] ∧ solveK M b = []) := fun h1 h2 => by
    have e : solveE M b = 1 := by unfold solveE; rw [if_neg (by rw [hr0, h1]; simp), if_pos (by omega)]
    exact ⟨e, by unfold solveX; rw [if_neg (by rw [e]; decide)], by unfold solveK; rw [if_neg (by rw [e]; decide)]⟩
  have G3 : Hid (r = 0 → nb = m → Rect M q ∧ q ≤ 48 ∧ solveE M b = rsE (sysM M b) q ∧ solveX M b = rsX (sysM M b) q ∧ solveK M b = rsK (sysM M b) q) := fun h1 h2 => by
    have o := ok_of (hr0.trans h1)
    have e := solveE_cases o (b := b) (by omega)
    rw [hq0] at e
    refine ⟨by have := o.rect; rw [hq0] at this; exact this, by rw [← hq0]; exact o.cols_le, e, ?_, ?_⟩
    · unfold solveX rsX
      rw [e, hq0]
      cases hb : badS (sysM M b) q <;> simp
    · unfold solveK rsK
      rw [e, hq0]
      cases hb : badS (sysM M b) q <;> simp
  have hm' := Lib.hid hm
  have hbl' := Lib.hid hbl
  have hq' := Lib.hid hq0
  clear hdu hW1 h hb hm hbl hr0 hq0
  go_enter Tryd.func29, Tryd.ntmps29
  go_wp2_with fail
  generalize hg : w.alloc _ = Wg
  have hgW : W1 = Wg := by rw [← hg, hW1'.out]
  clear hg hW1'
  subst hgW
  refine CK.out.mono ?_
  rintro e w2 ⟨rfl, hb2⟩
  have hB2 : Hid (Below w.heap.size w w2) := hB1.out.trans (hb2.mono hB1.out.size)
  have hR2 : Hid (Blk w2 w.heap.size [.slice none 0 0, .slice none 0 0, .int .i64 0] 47) := hR1.out.below hb2 hR1.out.lt
  have hM2 : Hid (Mat w2 w2.heap.size A M) := hM1.out.keep hb2
  have hV2 : Hid (Rds w2 w2.heap.size Ab (b.map bv)) := hV1.out.hold hb2
  clear CK hB1 hR1 hM1 hV1 hb2
  by_cases h0 : r = 0
  rotate_left
  · have t : (r != 0) = true := by simpa using h0
    have e1 := Lib.hid (G1.out h0)
    clear h0 G1 G2 G3
    go_wp2_with (refine wpList_row_store rfl 47 _ _ rfl [.slice none 0 0, .slice none 0 0, .int .i64 r] rfl rfl hR2.out size_sol rfl (sol_one _ _ _ _ _ _ _) ?_; intro w4 hw4 ho4)
    exact bodyPost_ret (ret_blk rfl _ w4 (g := w.heap.size) rfl hw4.out dd hdu'.out hdr size_sol) rfl (by rw [e1.out.1, e1.out.2.1, e1.out.2.2]; exact SolvedEnd.nothing (hB2.out.trans (ho4.below (Nat.le_refl _))))
  have G2a := Lib.hid (G2.out h0)
  have G3a := Lib.hid (G3.out h0)
  clear G1 G2 G3
  subst h0
  by_cases h1 : nb = m
  rotate_left
  · have t : ((nb : Int) != (m : Int)) = true := by simp only [bne_iff_ne, ne_eq]; omega
    have e1 := Lib.hid (G2a.out h1)
    clear h1 G2a G3a
    go_wp2_with (refine wpList_row_store rfl 47 _ _ rfl [.slice none 0 0, .slice none 0 0, .int .i64 1] rfl rfl hR2.out size_sol rfl (sol_one _ _ _ _ _ _ _) ?_; intro w4 hw4 ho4)
    exact bodyPost_ret (ret_blk rfl _ w4 (g := w.heap.size) rfl hw4.out dd hdu'.out hdr size_sol) rfl (by rw [e1.out.1, e1.out.2.1, e1.out.2.2]; exact SolvedEnd.nothing (hB2.out.trans (ho4.below (Nat.le_refl _))))
  obtain ⟨g1, g2, g3, g4, g5⟩ := G3a.out h1
  have hEq := Lib.hid (And.intro g3 (And.intro g4 g5))
  have hre := Lib.hid g1
  clear G2a G3a g1 g3 g4 g5
  subst h1
  have tnn : ((nb : Int) != (nb : Int)) = false := by simp
  have CC := Lib.hid (columns_v M nb q A c w2 hM2.out hm'.out hq'.out)
  have SO := Lib.hid (solutions_any M b A Ab c cb nb q w2 hM2.out hV2.out hm'.out hbl'.out hre.out hl (by omega))
  go_wp2_with fail
  refine CC.out.mono ?_
  rintro e w3 ⟨rfl, rfl⟩
  go_wp2_with fail
  refine SO.out.mono ?_
  rintro e w4 ⟨Ax, cx, Ak, ck, rfl, hx, hk, hb4, hap⟩
  have hX4 := Lib.hid hx
  have hK4 := Lib.hid hk
  have hB4 := Lib.hid hb4
  have hA4 := Lib.hid hap
  have hR4 : Hid (Blk w4 w.heap.size [.slice none 0 0, .slice none 0 0, .int .i64 0] 47) := hR2.out.below hb4 hR2.out.lt
  have hg2 : Hid (w.heap.size < w2.heap.size) := hR2.out.lt
  have hfin : Hid (∀ w10, Only w.heap.size w4 w10 → SolvedEnd w (solveX M b) (solveK M b) (solveE M b) (.returned (.agg #[.slice Ax (rsX (sysM M b) q).length cx, .slice Ak (rsK (sysM M b) q).length ck, .int .i64 (rsE (sysM M b) q)])) w10) := fun w10 ho10 => by
    show SolvedEnd _ _ _ _ _ _
    rw [hEq.out.1, hEq.out.2.1, hEq.out.2.2]
    have hg := only_grown ho10
    have hm0 := (hA4.out _ hg2.out).1
    have hkeep : ∀ y, y < w2.heap.size → MatX y w10 Ak (rsK (sysM M b) q) := fun y hy => (hA4.out y hy).1.both (fun b' hb' => by cases hb'; exact hm0) hg
    refine ⟨Ax, cx, Ak, ck, rfl, hX4.out.apart hg (fun ad ha hh => (hA4.out _ hg2.out).2 ad ha (Option.some.inj hh).symm), (hkeep _ hg2.out).mat, (hB2.out.trans (hB4.out.mono hB2.out.size)).trans (ho10.below (Nat.le_refl _)), fun y hy => ⟨hkeep y (Nat.lt_trans hy hg2.out), (hA4.out y (Nat.lt_trans hy hg2.out)).2⟩⟩
  generalize rsX (sysM M b) q = X0 at hX4 hfin ⊢
  generalize rsK (sysM M b) q = K0 at hK4 hA4 hfin ⊢
  generalize rsE (sysM M b) q = E0 at hfin ⊢
  generalize X0.length = xl at hfin ⊢
  generalize K0.length = kl at hfin ⊢
  clear hx hk hb4 hap CC SO
  go_wp2_with (refine wpList_row_store rfl 47 _ _ rfl [.slice Ax xl cx, .slice Ak kl ck, .int .i64 E0] rfl rfl hR4.out size_sol rfl (sol_one _ _ _ _ _ _ _) ?_; intro w10 hw10 ho10)
  exact bodyPost_ret (ret_blk rfl _ w10 (g := w.heap.size) rfl hw10.out dd hdu'.out hdr size_sol) rfl (hfin.out w10 ho10)
end Go.Proofs.YtfbdhcpclccikaaDoor

namespace Go.Proofs.YtfbdhcpclccikaaDoor
set_option linter.unusedVariables false
set_option linter.unusedSimpArgs false
open Go.RowKit

theorem size_exp : (Tryd.prog.info? 52).map (·.size) = some 2 := by kernel_rfl
theorem row_exp : ∃ d, Tryd.prog.underlying 52 = some d ∧ d.isRow = true := ⟨_, Tryd.underlying52, rfl⟩
/-- Coefficients, or an error. -/
def ExpEnd (w : World) (L : List UInt8) (E : Int) (e : Ending) (w' : World) : Prop :=
  ∃ Ax cx, e = .returned (.agg #[.slice Ax L.length cx, .int .i64 E]) ∧ Rds w' w'.heap.size Ax (L.map bv) ∧ Below w.heap.size w w'
theorem ExpEnd.nothing {w w' : World} {E : Int} (h : Below w.heap.size w w') : ExpEnd w [] E (.returned (.agg #[.slice none 0 0, .int .i64 E])) w' := ⟨none, 0, rfl, Rds.empty, h⟩
/-- The columns of a matrix, as so many rows. -/
def colsM (R : List (List UInt8)) (q : Nat) : List (List UInt8) := (List.range q).map (colF R)
theorem colsM_len (R : List (List UInt8)) (q : Nat) : (colsM R q).length = q := by simp [colsM]
theorem colsM_get (R : List (List UInt8)) {q k : Nat} (h : k < q) : (colsM R q)[k]? = some (colF R k) := by simp [colsM, h]
theorem colsM_rect (R : List (List UInt8)) (q : Nat) : Rect (colsM R q) R.length := fun m hm => by
  unfold colsM at hm
  obtain ⟨k, _, rfl⟩ := List.mem_map.1 hm
  exact colF_len R k
theorem cols_sys (R : List (List UInt8)) (row : List UInt8) : sysM (colsM R row.length) row = expS R row := by
  refine ext_el (n := R.length + 1) (by rw [sysM_len, colsM_len, expS_len]) (sysM_rect (colsM_rect R _) row) (matF_rect _ _ _) fun i hi k hk => ?_
  rw [sysM_len, colsM_len] at hi
  rw [sysM_el (colsM_rect R _) row (by rw [colsM_len]; exact hi) (by omega), expS_el hi (by omega)]
  by_cases h : k = R.length
  · rw [if_pos h, if_pos h]
  · rw [if_neg h, if_neg h, el_get (colsM_get R hi), List.getD_eq_getElem?_getD]
    unfold colF
    rw [rowF_get _ (by omega)]
    rfl

set_option maxRecDepth 100000 in
set_option maxHeartbeats 8000000 in
theorem refExpress_any (R : List (List UInt8)) (row : List UInt8) (A Ar : Option Addr) (c cr n q : Nat) (w : World) (h : Mat w w.heap.size A R) (hrow : Rds w w.heap.size Ar (row.map bv)) (hn : R.length = n) (hq : row.length = q) (hl : n ≤ 100000) :
    Calls Tryd.prog 33 #[.slice A n c, .slice Ar q cr] w (ExpEnd w (expL R row) (expE R row)) := by
  obtain ⟨dd, hdu, hdr⟩ := row_exp
  have hdu' := Lib.hid hdu
  obtain ⟨W1, hW1⟩ : ∃ W1, W1 = w.alloc (.cells #[.slice none 0 0, .int .i64 0] 52) := ⟨_, rfl⟩
  have hB1 : Hid (Below w.heap.size w W1) := by show Below _ _ _; rw [hW1]; exact (Below.refl _ _).alloc (Nat.le_refl _) _
  have hR1 : Hid (Blk W1 w.heap.size [.slice none 0 0, .int .i64 0] 52) := by show Blk _ _ _ _; rw [hW1]; exact Blk.new _ [_, _] _
  have hW1' := Lib.hid hW1
  have hM1 : Hid (Mat W1 W1.heap.size A R) := (h.below hB1.out).more hB1.out.size
  have hV1 : Hid (Rds W1 W1.heap.size Ar (row.map bv)) := (hrow.below hB1.out).more hB1.out.size
  obtain ⟨r, hr0⟩ : ∃ r, chk R = r := ⟨_, rfl⟩
  obtain ⟨k0, hk0⟩ : ∃ q, cols R = q := ⟨_, rfl⟩
  have CK : Hid (Calls Tryd.prog 19 #[.slice A n c] W1 fun e w' => e = .returned (.int .i64 r) ∧ Below W1.heap.size W1 w') := check_v R n A c W1 hM1.out hn (by omega) hr0
  have LX : Hid (expE R row ≠ 0 → expL R row = []) := fun h => by unfold expL; rw [if_neg h]
  have G1 : Hid (r ≠ 0 → expE R row = r ∧ expL R row = []) := fun h => by
    have e : expE R row = r := by unfold expE; rw [if_pos (by rw [hr0]; exact h), hr0]
    exact ⟨e, LX.out (by rw [e]; exact h)⟩
  have G2 : Hid (r = 0 → 48 < q → expE R row = 2 ∧ expL R row = []) := fun h1 h2 => by
    have e : expE R row = 2 := by unfold expE; rw [if_neg (by rw [hr0, h1]; simp), if_pos (by omega)]
    exact ⟨e, LX.out (by rw [e]; decide)⟩
  have G3 : Hid (r = 0 → q ≤ 48 → 0 < n → q ≠ k0 → expE R row = 1 ∧ expL R row = []) := fun h1 h2 h3 h4 => by
    have e : expE R row = 1 := by unfold expE; rw [if_neg (by rw [hr0, h1]; simp), if_neg (by omega), if_pos ⟨by omega, by omega⟩]
    exact ⟨e, LX.out (by rw [e]; decide)⟩
  have G4 : Hid (r = 0 → q ≤ 48 → (0 < n → q = k0) → n ≤ 48 ∧ Rect R q ∧ expE R row = rsE (expS R row) n ∧ expL R row = rsX (expS R row) n) := fun h1 h2 h3 => by
    have o := ok_of (hr0.trans h1)
    have e := expE_bad (R := R) (row := row) ⟨o, by omega, fun h => by rw [hq, hk0]; exact h3 (by omega)⟩
    rw [hn] at e
    refine ⟨by rw [← hn]; exact o.rows, ?_, e, ?_⟩
    · intro m hm
      have hp := List.length_pos_of_mem hm
      rw [o.same m hm, hk0]
      exact (h3 (by omega)).symm
    · unfold expL rsX
      rw [e, hn]
      cases hb : badS (expS R row) n <;> simp
  have hn' := Lib.hid hn
  have hq' := Lib.hid hq
  have hk0' := Lib.hid hk0
  clear hdu hW1 h hrow hn hq hr0 hk0 LX
  go_enter Tryd.func33, Tryd.ntmps33
  go_wp2_with fail
  generalize hg : w.alloc _ = Wg
  have hgW : W1 = Wg := by rw [← hg, hW1'.out]
  clear hg hW1'
  subst hgW
  refine CK.out.mono ?_
  rintro e w2 ⟨rfl, hb2⟩
  have hB2 : Hid (Below w.heap.size w w2) := hB1.out.trans (hb2.mono hB1.out.size)
  have hR2 : Hid (Blk w2 w.heap.size [.slice none 0 0, .int .i64 0] 52) := hR1.out.below hb2 hR1.out.lt
  have hM2 : Hid (Mat w2 w2.heap.size A R) := hM1.out.keep hb2
  have hV2 : Hid (Rds w2 w2.heap.size Ar (row.map bv)) := hV1.out.hold hb2
  clear CK hB1 hR1 hM1 hV1 hb2
  by_cases h0 : r = 0
  rotate_left
  · have t : (r != 0) = true := by simpa using h0
    have e1 := Lib.hid (G1.out h0)
    clear h0 G1 G2 G3 G4
    go_wp2_with (refine wpList_row_store rfl 52 _ _ rfl [.slice none 0 0, .int .i64 r] rfl rfl hR2.out size_exp rfl (made_one _ _ _ _) ?_; intro w4 hw4 ho4)
    exact bodyPost_ret (ret_blk rfl _ w4 (g := w.heap.size) rfl hw4.out dd hdu'.out hdr size_exp) rfl (by rw [e1.out.1, e1.out.2]; exact ExpEnd.nothing (hB2.out.trans (ho4.below (Nat.le_refl _))))
  have G2a := Lib.hid (G2.out h0)
  have G3a := Lib.hid (G3.out h0)
  have G4a := Lib.hid (G4.out h0)
  clear G1 G2 G3 G4
  subst h0
  by_cases h1 : 48 < q
  · have t : (48 : Int) < (q : Int) := by omega
    have t' : decide (48 < q) = true := by simpa using h1
    have e1 := Lib.hid (G2a.out h1)
    clear h1 G2a G3a G4a
    go_wp2_with (refine wpList_row_store rfl 52 _ _ rfl [.slice none 0 0, .int .i64 2] rfl rfl hR2.out size_exp rfl (made_one _ _ _ _) ?_; intro w4 hw4 ho4)
    exact bodyPost_ret (ret_blk rfl _ w4 (g := w.heap.size) rfl hw4.out dd hdu'.out hdr size_exp) rfl (by rw [e1.out.1, e1.out.2]; exact ExpEnd.nothing (hB2.out.trans (ho4.below (Nat.le_refl _))))
  have hq48 : q ≤ 48 := by omega
  have t48 : ¬ (48 : Int) < (q : Int) := by omega
  have G3b := Lib.hid (G3a.out hq48)
  have G4b := Lib.hid (G4a.out hq48)
  clear G2a G3a G4a h1
  have CC := Lib.hid (columns_v R n k0 A c w2 hM2.out hn'.out hk0'.out)
  by_cases h2 : 0 < n ∧ q ≠ k0
  · have t1 : (0 : Int) < (n : Int) := by omega
    have t2 : ((q : Int) != (k0 : Int)) = true := by simp only [bne_iff_ne, ne_eq]; omega
    have e1 := Lib.hid (G3b.out h2.1 h2.2)
    clear h2 G3b G4b
    go_wp2_with fail
    refine CC.out.mono ?_
    rintro e w3 ⟨rfl, rfl⟩
    go_wp2_with (refine wpList_row_store rfl 52 _ _ rfl [.slice none 0 0, .int .i64 1] rfl rfl hR2.out size_exp rfl (made_one _ _ _ _) ?_; intro w4 hw4 ho4)
    exact bodyPost_ret (ret_blk rfl _ w4 (g := w.heap.size) rfl hw4.out dd hdu'.out hdr size_exp) rfl (by rw [e1.out.1, e1.out.2]; exact ExpEnd.nothing (hB2.out.trans (ho4.below (Nat.le_refl _))))
  obtain ⟨hn48, hre, e1, e2⟩ := G4b.out (fun h => by omega)
  have hre' := Lib.hid hre
  have hEq := Lib.hid (And.intro e1 e2)
  have hnq : 0 < n → q = k0 := fun h => by omega
  clear G3b G4b hre e1 e2 h2
  have hTl := Lib.hid (colsM_len R q)
  have hTg : Hid (∀ k, k < q → (colsM R q)[k]? = some (colF R k)) := fun k hk => colsM_get R hk
  have hTr : Hid (Rect (colsM R q) n) := by rw [← hn'.out]; exact colsM_rect R q
  have hTs : Hid (sysM (colsM R q) row = expS R row) := by show _ = _; rw [← hq'.out]; exact cols_sys R row
  have hcfl : Hid (∀ k, (colF R k).length = n) := fun k => by rw [colF_len, hn'.out]
  have CL : Hid (∀ W k, Below w2.heap.size w2 W → k < q → Calls Tryd.prog 75 #[.slice A n c, .int .i64 k] W fun e w' => ∃ v, e = .returned v ∧ OwnB w' W.heap.size v (colF R k) ∧ Below W.heap.size W w') := fun W k hW hk => by
    rw [← hn'.out]
    exact column_any R A c k q W (hM2.out.below hW) hW.size hre'.out hk (by have := hn'.out; omega)
  have hg2 : Hid (w.heap.size < w2.heap.size) := hR2.out.lt
  generalize colsM R q = T at hTl hTg hTr hTs
  by_cases hnz : 0 < n
  · have t1 : (0 : Int) < (n : Int) := by omega
    have t2 : ((q : Int) != (k0 : Int)) = false := by have := hnq hnz; simp only [bne_eq_false_iff_eq]; omega
    clear hnq
    go_wp2_with fail
    refine CC.out.mono ?_
    rintro e w3 ⟨rfl, rfl⟩
    go_wp2_with fail
    go_loopw [6, 7] (fun v i wr => ∃ k : Nat, k ≤ q ∧ i = .int .i64 k ∧ OwnQ w.heap.size wr w2.heap.size v (T.take k) ∧ Below w2.heap.size w2 wr) (fun _ i _ => q - (intOf i).toNat)
    case atStart => exact ⟨0, Nat.zero_le _, rfl, ownQ_nil _ _ _, Below.refl _ _⟩
    case round =>
      obtain ⟨k, hk, rfl, ho, hbw⟩ := hrel
      by_cases hlt : k < q
      · have t : (k : Int) < (q : Int) := by omega
        have L1 := Lib.hid (CL.out _ k hbw hlt)
        have htk := Lib.hid (take_snoc (hTg.out k hlt))
        have hb' := Lib.hid hbw
        have ho' := Lib.hid ho
        have hcf := Lib.hid (hcfl.out k)
        generalize colF R k = cf at L1 htk hcf
        clear hbw ho
        go_wp2_with fail
        refine L1.out.mono ?_
        rintro e w4 ⟨u, rfl, hu, hb4⟩
        have hoff := Lib.hid (own_off hu ho'.out (by have := hb'.out.size; have := hg2.out; omega))
        have ho4 := Lib.hid (ho'.out.keep hb4)
        have hB4 := Lib.hid (hb'.out.trans (hb4.mono hb'.out.size))
        have hln : (T.take k).length ≤ 1000000 := by rw [List.length_take]; omega
        have hsz4 : w2.heap.size ≤ w4.heap.size := hB4.out.size
        obtain ⟨Au, cu, hue, _⟩ := own_form hu
        rw [hcf.out] at hue
        subst hue
        clear hu hb4
        go_wp2_with (at_builtin; go_must (refine push_q rfl _ _ rfl w2.heap.size _ (T.take k) cf _ rfl rfl ho4.out hoff.out hln hsz4 ?_); intro v' w5 ho5 hb5 hg5)
        go_roundw
        case rel => exact ⟨k + 1, by omega, by go_num, by rw [htk.out]; exact ho5, hB4.out.trans hb5⟩
        case measure => simp [intOf]; omega
      · have t : ¬ (k : Int) < (q : Int) := by omega
        have hkk : T.take k = T := List.take_of_length_le (by rw [hTl.out]; omega)
        rw [hkk] at ho
        have hbw' := Lib.hid hbw
        obtain ⟨Am, cm, rfl, _, _, _, hmb⟩ := ho.mat
        have SO0 := solutions_any T row Am Ar cm cr q n wr hmb (hV2.out.hold hbw) hTl.out hq'.out hTr.out (by omega) (by omega)
        rw [hTs.out] at SO0
        have SO := Lib.hid SO0
        rw [hTl.out]
        clear SO0 hmb ho hbw hkk
        go_wp2_with fail
        refine SO.out.mono ?_
        rintro e w4 ⟨Ax, cx, Ak, ck, rfl, hx, hkm, hb4, hap⟩
        have hX4 := Lib.hid hx
        have hA4 := Lib.hid (fun y hy => (hap y hy).2)
        have hB24 : Hid (Below w2.heap.size w2 w4) := hbw'.out.trans (hb4.mono hbw'.out.size)
        have hR4 : Hid (Blk w4 w.heap.size [.slice none 0 0, .int .i64 0] 52) := hR2.out.below hB24.out hR2.out.lt
        have hgr : Hid (w.heap.size < wr.heap.size) := Nat.lt_of_lt_of_le hg2.out hbw'.out.size
        generalize rsX (expS R row) n = X0 at hX4 hEq ⊢
        generalize rsK (expS R row) n = K0
        generalize rsE (expS R row) n = E0 at hEq ⊢
        obtain ⟨xl, hxl⟩ : ∃ x, X0.length = x := ⟨_, rfl⟩
        have hxl' := Lib.hid hxl
        rw [hxl]
        generalize K0.length = kl
        clear SO hx hkm hb4 hap hxl hbw'
        have hRc := Lib.hid (Blk.new w4 [.slice none 0 0, .slice none 0 0, .int .i64 0] 47)
        have hAc : Hid (∀ o, Below w4.heap.size w4 (w4.alloc o)) := fun o => (Below.refl _ _).alloc (Nat.le_refl _) _
        go_wp2_with (first | (refine wpList_row_store rfl 47 _ _ rfl [.slice Ax xl cx, .slice Ak kl ck, .int .i64 E0] rfl rfl hRc.out size_sol rfl (sol_one _ _ _ _ _ _ _) ?_; intro w5 hw5 ho5; have D5 := Lib.hid ((hAc.out _).trans (ho5.below (Nat.le_refl _))); have q1 := hw5.out.cell (j := 0) rfl; have q2 := hw5.out.cell (j := 2) rfl; have hR5 : Hid (Blk w5 w.heap.size [.slice none 0 0, .int .i64 0] 52) := hR4.out.below D5.out hR4.out.lt; clear ho5) | (refine wpList_row_store rfl 52 _ _ rfl [.slice Ax xl cx, .int .i64 E0] rfl rfl hR5.out size_exp rfl (made_one _ _ _ _) ?_; intro w6 hw6 ho6))
        have hfin : ExpEnd w (expL R row) (expE R row) (.returned (.agg #[.slice Ax xl cx, .int .i64 E0])) w6 := by
          rw [hEq.out.1, hEq.out.2]
          refine ⟨Ax, cx, by rw [hxl'.out], ?_, (hB2.out.trans ((hB24.out.trans (D5.out.mono hB24.out.size)).mono hB2.out.size)).trans (ho6.below (Nat.le_refl _))⟩
          have h5 := hX4.out.hold D5.out
          exact h5.apart (only_grown ho6) (fun ad ha hh => hA4.out _ hgr.out ad ha (Option.some.inj hh).symm)
        exact bodyPost_ret (ret_blk rfl _ w6 (g := w.heap.size) rfl hw6.out dd hdu'.out hdr size_exp) rfl hfin
  · have t1 : ¬ (0 : Int) < (n : Int) := by omega
    clear hnq
    go_wp2_with fail
    go_loopw [6, 7] (fun v i wr => ∃ k : Nat, k ≤ q ∧ i = .int .i64 k ∧ OwnQ w.heap.size wr w2.heap.size v (T.take k) ∧ Below w2.heap.size w2 wr) (fun _ i _ => q - (intOf i).toNat)
    case atStart => exact ⟨0, Nat.zero_le _, rfl, ownQ_nil _ _ _, Below.refl _ _⟩
    case round =>
      obtain ⟨k, hk, rfl, ho, hbw⟩ := hrel
      by_cases hlt : k < q
      · have t : (k : Int) < (q : Int) := by omega
        have L1 := Lib.hid (CL.out _ k hbw hlt)
        have htk := Lib.hid (take_snoc (hTg.out k hlt))
        have hb' := Lib.hid hbw
        have ho' := Lib.hid ho
        have hcf := Lib.hid (hcfl.out k)
        generalize colF R k = cf at L1 htk hcf
        clear hbw ho
        go_wp2_with fail
        refine L1.out.mono ?_
        rintro e w4 ⟨u, rfl, hu, hb4⟩
        have hoff := Lib.hid (own_off hu ho'.out (by have := hb'.out.size; have := hg2.out; omega))
        have ho4 := Lib.hid (ho'.out.keep hb4)
        have hB4 := Lib.hid (hb'.out.trans (hb4.mono hb'.out.size))
        have hln : (T.take k).length ≤ 1000000 := by rw [List.length_take]; omega
        have hsz4 : w2.heap.size ≤ w4.heap.size := hB4.out.size
        obtain ⟨Au, cu, hue, _⟩ := own_form hu
        rw [hcf.out] at hue
        subst hue
        clear hu hb4
        go_wp2_with (at_builtin; go_must (refine push_q rfl _ _ rfl w2.heap.size _ (T.take k) cf _ rfl rfl ho4.out hoff.out hln hsz4 ?_); intro v' w5 ho5 hb5 hg5)
        go_roundw
        case rel => exact ⟨k + 1, by omega, by go_num, by rw [htk.out]; exact ho5, hB4.out.trans hb5⟩
        case measure => simp [intOf]; omega
      · have t : ¬ (k : Int) < (q : Int) := by omega
        have hkk : T.take k = T := List.take_of_length_le (by rw [hTl.out]; omega)
        rw [hkk] at ho
        have hbw' := Lib.hid hbw
        obtain ⟨Am, cm, rfl, _, _, _, hmb⟩ := ho.mat
        have SO0 := solutions_any T row Am Ar cm cr q n wr hmb (hV2.out.hold hbw) hTl.out hq'.out hTr.out (by omega) (by omega)
        rw [hTs.out] at SO0
        have SO := Lib.hid SO0
        rw [hTl.out]
        clear SO0 hmb ho hbw hkk
        go_wp2_with fail
        refine SO.out.mono ?_
        rintro e w4 ⟨Ax, cx, Ak, ck, rfl, hx, hkm, hb4, hap⟩
        have hX4 := Lib.hid hx
        have hA4 := Lib.hid (fun y hy => (hap y hy).2)
        have hB24 : Hid (Below w2.heap.size w2 w4) := hbw'.out.trans (hb4.mono hbw'.out.size)
        have hR4 : Hid (Blk w4 w.heap.size [.slice none 0 0, .int .i64 0] 52) := hR2.out.below hB24.out hR2.out.lt
        have hgr : Hid (w.heap.size < wr.heap.size) := Nat.lt_of_lt_of_le hg2.out hbw'.out.size
        generalize rsX (expS R row) n = X0 at hX4 hEq ⊢
        generalize rsK (expS R row) n = K0
        generalize rsE (expS R row) n = E0 at hEq ⊢
        obtain ⟨xl, hxl⟩ : ∃ x, X0.length = x := ⟨_, rfl⟩
        have hxl' := Lib.hid hxl
        rw [hxl]
        generalize K0.length = kl
        clear SO hx hkm hb4 hap hxl hbw'
        have hRc := Lib.hid (Blk.new w4 [.slice none 0 0, .slice none 0 0, .int .i64 0] 47)
        have hAc : Hid (∀ o, Below w4.heap.size w4 (w4.alloc o)) := fun o => (Below.refl _ _).alloc (Nat.le_refl _) _
        go_wp2_with (first | (refine wpList_row_store rfl 47 _ _ rfl [.slice Ax xl cx, .slice Ak kl ck, .int .i64 E0] rfl rfl hRc.out size_sol rfl (sol_one _ _ _ _ _ _ _) ?_; intro w5 hw5 ho5; have D5 := Lib.hid ((hAc.out _).trans (ho5.below (Nat.le_refl _))); have q1 := hw5.out.cell (j := 0) rfl; have q2 := hw5.out.cell (j := 2) rfl; have hR5 : Hid (Blk w5 w.heap.size [.slice none 0 0, .int .i64 0] 52) := hR4.out.below D5.out hR4.out.lt; clear ho5) | (refine wpList_row_store rfl 52 _ _ rfl [.slice Ax xl cx, .int .i64 E0] rfl rfl hR5.out size_exp rfl (made_one _ _ _ _) ?_; intro w6 hw6 ho6))
        have hfin : ExpEnd w (expL R row) (expE R row) (.returned (.agg #[.slice Ax xl cx, .int .i64 E0])) w6 := by
          rw [hEq.out.1, hEq.out.2]
          refine ⟨Ax, cx, by rw [hxl'.out], ?_, (hB2.out.trans ((hB24.out.trans (D5.out.mono hB24.out.size)).mono hB2.out.size)).trans (ho6.below (Nat.le_refl _))⟩
          have h5 := hX4.out.hold D5.out
          exact h5.apart (only_grown ho6) (fun ad ha hh => hA4.out _ hgr.out ad ha (Option.some.inj hh).symm)
        exact bodyPost_ret (ret_blk rfl _ w6 (g := w.heap.size) rfl hw6.out dd hdu'.out hdr size_exp) rfl hfin
end Go.Proofs.YtfbdhcpclccikaaDoor
