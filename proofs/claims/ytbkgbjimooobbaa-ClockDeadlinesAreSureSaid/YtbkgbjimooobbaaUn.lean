/-
  Stage 14 (clock): Answer of the program and of the specification. (Written by tools/genun.py.)
-/
import Derived.Test.YtbkgbjimooobbaaUm
namespace Go.Proofs.Ytbkgbjimooobbaa
set_option linter.unusedVariables false
set_option linter.unusedSimpArgs false
open Go.RowKit

/-- What Answer returns. -/
def anOk (s g a b : Int) : Bool := decide (0 ≤ s ∧ s ≤ g ∧ g ≤ 3600000000) && okW a b
def anE (rate : Int) (l : List Rdg) (s g a b : Int) : Int := if chkK rate l = 0 then (if anOk s g a b = true then 0 else 3) else chkK rate l
def anR (rate : Int) (l : List Rdg) (s g a b : Int) : Rdg := if anE rate l s g a b = 0 then ⟨g, a, min (b + pHi rate (g - s)) 3600000000⟩ else ⟨0, 0, 0⟩
theorem an_ok {rate s g a b : Int} {l : List Rdg} (h : chkK rate l = 0) (h' : anOk s g a b = true) : anE rate l s g a b = 0 ∧ anR rate l s g a b = ⟨g, a, min (b + pHi rate (g - s)) 3600000000⟩ := by
  have e : anE rate l s g a b = 0 := by unfold anE; rw [if_pos h, if_pos h']
  exact ⟨e, by unfold anR; rw [if_pos e]⟩
theorem an_no {rate s g a b : Int} {l : List Rdg} (h : chkK rate l = 0) (h' : ¬ anOk s g a b = true) : anE rate l s g a b = 3 ∧ anR rate l s g a b = ⟨0, 0, 0⟩ := by
  have e : anE rate l s g a b = 3 := by unfold anE; rw [if_pos h, if_neg h']
  exact ⟨e, by unfold anR; rw [if_neg (by rw [e]; decide)]⟩
theorem an_bad {rate s g a b : Int} {l : List Rdg} (h : ¬ chkK rate l = 0) : anE rate l s g a b = chkK rate l ∧ anR rate l s g a b = ⟨0, 0, 0⟩ := by
  have e : anE rate l s g a b = chkK rate l := by unfold anE; rw [if_neg h]
  exact ⟨e, by unfold anR; rw [if_neg (by rw [e]; exact h)]⟩
theorem one4 (a b c d : Int) : ∀ u ∈ [Value.int .i64 a, .int .i64 b, .int .i64 c, .int .i64 d], u.oneCell' = true := by
  intro u hu
  simp only [List.mem_cons, List.not_mem_nil, or_false] at hu
  rcases hu with rfl | rfl | rfl | rfl <;> rfl

set_option maxRecDepth 100000 in
set_option maxHeartbeats 4000000 in
theorem answer_any {B : Nat} (k : Clk) (s g a b : Int) (w : World) (m : ClkM w B k) :
    Calls Try.prog 13 #[.agg #[.int .i64 k.rate, .slice k.A k.n k.c], .int .i64 s, .int .i64 g, .agg #[.int .i64 a, .int .i64 b]] w fun e w' => e = .returned (.tuple #[.agg #[.int .i64 (anR k.rate k.l s g a b).L, .int .i64 (anR k.rate k.l s g a b).lo, .int .i64 (anR k.rate k.l s g a b).hi], .int .i64 (anE k.rate k.l s g a b)]) ∧ Below w.heap.size w w' := by
  rcases k with ⟨rate, A, n, c, l⟩
  dsimp only at *
  obtain ⟨W2, hW2⟩ : ∃ W2, W2 = ((w.alloc (.cells #[.int .i64 rate, .slice A n c] 30)).alloc (.cells #[.int .i64 a, .int .i64 b] 45)).alloc (.cells #[.int .i64 0, .int .i64 0, .int .i64 0] 48) := ⟨_, rfl⟩
  have E : Hid (Below w.heap.size w W2) := by show Below _ _ _; rw [hW2]; exact (((Below.refl _ _).alloc (Nat.le_refl _) _).alloc (by simp) _).alloc (by simp; omega) _
  have X1 : Hid (Blk W2 w.heap.size [.int .i64 rate, .slice A n c] 30) := by show Blk _ _ _ _; rw [hW2]; exact ((Blk.new w [_, _] _).alloc _).alloc _
  have X2 : Hid (Blk W2 (w.heap.size + 1) [.int .i64 a, .int .i64 b] 45) := by show Blk _ _ _ _; rw [hW2]; exact ((Blk.new _ [_, _] _).alloc _).at (by simp)
  have X3 : Hid (Blk W2 (w.heap.size + 1 + 1) [.int .i64 0, .int .i64 0, .int .i64 0] 48) := by show Blk _ _ _ _; rw [hW2]; exact (Blk.new _ [_, _, _] _).at (by simp)
  have M := Lib.hid (m.below E.out)
  have hW2' := Lib.hid hW2
  clear hW2 m
  have hszc := Lib.hid size_clk
  have hunc : Hid (Try.prog.underlying 30 = _) := Try.underlying30
  have hszw := Lib.hid size_whn
  have hunw : Hid (Try.prog.underlying 45 = _) := Try.underlying45
  have hunt : Hid (Try.prog.underlying 48 = _) := Try.underlying48
  have CC := Lib.hid (fun W (h : ClkM W B ⟨rate, A, n, c, l⟩) => check14_any _ W h)
  dsimp only at CC
  have CW := Lib.hid (fun W => isRange_any a b W)
  obtain ⟨y, hy⟩ : ∃ y, okW a b = y := ⟨_, rfl⟩
  rw [hy] at CW
  have hyH := Lib.hid hy
  clear hy
  by_cases h : chkK rate l = 0
  · rw [h] at CC
    by_cases c1 : s < 0
    · skip
      obtain ⟨e1, e2⟩ := an_no (s := s) (g := g) (a := a) (b := b) h (by unfold anOk; rw [Bool.and_eq_true, decide_eq_true_iff]; intro hh; omega)
      rw [e1, e2]
      clear e1 e2 h hyH
      go_enter Try.func13, Try.ntmps13
      go_upto_region 1 with fail
      generalize hgg : ((w.alloc _).alloc _).alloc _ = Wg
      have hgW : W2 = Wg := by rw [← hgg, hW2'.out]
      clear hgg hW2'
      subst hgW
      go_wp2_with (refine wpList_blk_load rfl 30 _ rfl 0 rfl X1.out [_, _] rfl _ hunc.out rfl hszc.out ?_)
      refine (CC.out _ M.out).mono ?_
      rintro e w3 ⟨rfl, hb⟩
      replace E : Hid (Below w.heap.size w w3) := E.out.trans (hb.mono E.out.size)
      replace X1 := Lib.hid (X1.out.below hb X1.out.lt)
      replace X2 := Lib.hid (X2.out.below hb X2.out.lt)
      replace X3 := Lib.hid (X3.out.below hb X3.out.lt)
      clear hb CC
      go_wp2_with (first | (refine wpList_blk_load rfl 45 _ rfl 0 rfl X2.out [_, _] rfl _ hunw.out rfl hszw.out ?_) | (refine wpList_row_store rfl 48 _ _ rfl [.int .i64 0, .int .i64 0, .int .i64 0] rfl rfl X3.out size_rdg rfl (one3 _ _ _) ?_; intro w9 hw9 ho9) | fail)
      exact bodyPost_ret (ret_cellK rfl _ w9 (g := w.heap.size + 1 + 1) _ rfl rfl hw9.out _ hunt.out rfl size_rdg) rfl ⟨rfl, E.out.trans (ho9.below (by omega))⟩
    by_cases c2 : g < s
    · skip
      obtain ⟨e1, e2⟩ := an_no (s := s) (g := g) (a := a) (b := b) h (by unfold anOk; rw [Bool.and_eq_true, decide_eq_true_iff]; intro hh; omega)
      rw [e1, e2]
      clear e1 e2 h hyH
      go_enter Try.func13, Try.ntmps13
      go_upto_region 1 with fail
      generalize hgg : ((w.alloc _).alloc _).alloc _ = Wg
      have hgW : W2 = Wg := by rw [← hgg, hW2'.out]
      clear hgg hW2'
      subst hgW
      go_wp2_with (refine wpList_blk_load rfl 30 _ rfl 0 rfl X1.out [_, _] rfl _ hunc.out rfl hszc.out ?_)
      refine (CC.out _ M.out).mono ?_
      rintro e w3 ⟨rfl, hb⟩
      replace E : Hid (Below w.heap.size w w3) := E.out.trans (hb.mono E.out.size)
      replace X1 := Lib.hid (X1.out.below hb X1.out.lt)
      replace X2 := Lib.hid (X2.out.below hb X2.out.lt)
      replace X3 := Lib.hid (X3.out.below hb X3.out.lt)
      clear hb CC
      go_wp2_with (first | (refine wpList_blk_load rfl 45 _ rfl 0 rfl X2.out [_, _] rfl _ hunw.out rfl hszw.out ?_) | (refine wpList_row_store rfl 48 _ _ rfl [.int .i64 0, .int .i64 0, .int .i64 0] rfl rfl X3.out size_rdg rfl (one3 _ _ _) ?_; intro w9 hw9 ho9) | fail)
      exact bodyPost_ret (ret_cellK rfl _ w9 (g := w.heap.size + 1 + 1) _ rfl rfl hw9.out _ hunt.out rfl size_rdg) rfl ⟨rfl, E.out.trans (ho9.below (by omega))⟩
    by_cases c3 : 3600000000 < g
    · skip
      obtain ⟨e1, e2⟩ := an_no (s := s) (g := g) (a := a) (b := b) h (by unfold anOk; rw [Bool.and_eq_true, decide_eq_true_iff]; intro hh; omega)
      rw [e1, e2]
      clear e1 e2 h hyH
      go_enter Try.func13, Try.ntmps13
      go_upto_region 1 with fail
      generalize hgg : ((w.alloc _).alloc _).alloc _ = Wg
      have hgW : W2 = Wg := by rw [← hgg, hW2'.out]
      clear hgg hW2'
      subst hgW
      go_wp2_with (refine wpList_blk_load rfl 30 _ rfl 0 rfl X1.out [_, _] rfl _ hunc.out rfl hszc.out ?_)
      refine (CC.out _ M.out).mono ?_
      rintro e w3 ⟨rfl, hb⟩
      replace E : Hid (Below w.heap.size w w3) := E.out.trans (hb.mono E.out.size)
      replace X1 := Lib.hid (X1.out.below hb X1.out.lt)
      replace X2 := Lib.hid (X2.out.below hb X2.out.lt)
      replace X3 := Lib.hid (X3.out.below hb X3.out.lt)
      clear hb CC
      go_wp2_with (first | (refine wpList_blk_load rfl 45 _ rfl 0 rfl X2.out [_, _] rfl _ hunw.out rfl hszw.out ?_) | (refine wpList_row_store rfl 48 _ _ rfl [.int .i64 0, .int .i64 0, .int .i64 0] rfl rfl X3.out size_rdg rfl (one3 _ _ _) ?_; intro w9 hw9 ho9) | fail)
      exact bodyPost_ret (ret_cellK rfl _ w9 (g := w.heap.size + 1 + 1) _ rfl rfl hw9.out _ hunt.out rfl size_rdg) rfl ⟨rfl, E.out.trans (ho9.below (by omega))⟩
    have d1 : decide (s < 0) = false := decide_eq_false c1
    have d2 : decide (g < s) = false := decide_eq_false c2
    have d3 : decide (3600000000 < g) = false := decide_eq_false c3
    cases y with
    | false =>
      obtain ⟨e1, e2⟩ := an_no (s := s) (g := g) (a := a) (b := b) h (by unfold anOk; rw [Bool.and_eq_true, decide_eq_true_iff]; intro hh; rw [hyH.out] at hh; cases hh.2)
      rw [e1, e2]
      clear e1 e2 h hyH
      go_enter Try.func13, Try.ntmps13
      go_upto_region 1 with fail
      generalize hgg : ((w.alloc _).alloc _).alloc _ = Wg
      have hgW : W2 = Wg := by rw [← hgg, hW2'.out]
      clear hgg hW2'
      subst hgW
      go_wp2_with (refine wpList_blk_load rfl 30 _ rfl 0 rfl X1.out [_, _] rfl _ hunc.out rfl hszc.out ?_)
      refine (CC.out _ M.out).mono ?_
      rintro e w3 ⟨rfl, hb⟩
      replace E : Hid (Below w.heap.size w w3) := E.out.trans (hb.mono E.out.size)
      replace X1 := Lib.hid (X1.out.below hb X1.out.lt)
      replace X2 := Lib.hid (X2.out.below hb X2.out.lt)
      replace X3 := Lib.hid (X3.out.below hb X3.out.lt)
      clear hb CC
      go_wp2_with (refine wpList_blk_loadW (by rfl) 45 _ rfl 0 rfl X2.out [_, _] rfl _ hunw.out rfl hszw.out ?_)
      refine (CW.out _).mono ?_
      rintro e w4 ⟨rfl, hb⟩
      replace E : Hid (Below w.heap.size w w4) := E.out.trans (hb.mono E.out.size)
      replace X1 := Lib.hid (X1.out.below hb X1.out.lt)
      replace X2 := Lib.hid (X2.out.below hb X2.out.lt)
      replace X3 := Lib.hid (X3.out.below hb X3.out.lt)
      clear hb
      go_wp2_with (first | (refine wpList_blk_load rfl 45 _ rfl 0 rfl X2.out [_, _] rfl _ hunw.out rfl hszw.out ?_) | (refine wpList_row_store rfl 48 _ _ rfl [.int .i64 0, .int .i64 0, .int .i64 0] rfl rfl X3.out size_rdg rfl (one3 _ _ _) ?_; intro w9 hw9 ho9) | fail)
      exact bodyPost_ret (ret_cellK rfl _ w9 (g := w.heap.size + 1 + 1) _ rfl rfl hw9.out _ hunt.out rfl size_rdg) rfl ⟨rfl, E.out.trans (ho9.below (by omega))⟩
    | true =>
      obtain ⟨e1, e2⟩ := an_ok (s := s) (g := g) (a := a) (b := b) h (by unfold anOk; rw [Bool.and_eq_true, decide_eq_true_iff]; exact ⟨⟨by omega, by omega, by omega⟩, hyH.out⟩)
      rw [e1, e2]
      obtain ⟨k0, k1, k2, k3, k4⟩ := chk_facts h
      obtain ⟨⟨a0, a1⟩, ⟨b0, b1⟩, ab⟩ := okW_iff.1 hyH.out
      have wd : IntKind.i64.wrap (g - s) = g - s := by rw [IntKind.wrap_i64]; omega
      have CP := Lib.hid (fun W => passed_any rate (g - s) W k0 k1 (by omega) (by omega))
      have z2 := pHi_rng (rate := rate) (s := g - s) k0 k1 (by omega) (by omega)
      clear e1 e2 h hyH k3 k4
      generalize pLo rate (g - s) = P at *
      generalize pHi rate (g - s) = Q at *
      have wq : IntKind.i64.wrap (b + Q) = b + Q := by rw [IntKind.wrap_i64]; omega
      have hmn : Hid (min 3600000000 (b + Q) = min (b + Q) 3600000000) := by show _ = _; omega
      dsimp only
      go_enter Try.func13, Try.ntmps13
      go_upto_region 1 with fail
      generalize hgg : ((w.alloc _).alloc _).alloc _ = Wg
      have hgW : W2 = Wg := by rw [← hgg, hW2'.out]
      clear hgg hW2'
      subst hgW
      go_wp2_with (refine wpList_blk_load rfl 30 _ rfl 0 rfl X1.out [_, _] rfl _ hunc.out rfl hszc.out ?_)
      refine (CC.out _ M.out).mono ?_
      rintro e w3 ⟨rfl, hb⟩
      replace E : Hid (Below w.heap.size w w3) := E.out.trans (hb.mono E.out.size)
      replace X1 := Lib.hid (X1.out.below hb X1.out.lt)
      replace X2 := Lib.hid (X2.out.below hb X2.out.lt)
      replace X3 := Lib.hid (X3.out.below hb X3.out.lt)
      clear hb CC
      go_wp2_with (refine wpList_blk_loadW (by rfl) 45 _ rfl 0 rfl X2.out [_, _] rfl _ hunw.out rfl hszw.out ?_)
      refine (CW.out _).mono ?_
      rintro e w4 ⟨rfl, hb⟩
      replace E : Hid (Below w.heap.size w w4) := E.out.trans (hb.mono E.out.size)
      replace X1 := Lib.hid (X1.out.below hb X1.out.lt)
      replace X2 := Lib.hid (X2.out.below hb X2.out.lt)
      replace X3 := Lib.hid (X3.out.below hb X3.out.lt)
      clear hb
      have p0 := X1.out.cell (j := 0) rfl
      go_wp2_with fail
      refine (CP.out _).mono ?_
      rintro e w5 ⟨rfl, rfl⟩
      clear p0
      have q0 := X2.out.cell (j := 0) rfl
      have q1 := X2.out.cell (j := 1) rfl
      go_wp2_with (first | (refine wpList_row_store rfl 48 _ _ rfl [.int .i64 g, .int .i64 a, .int .i64 (min (b + Q) 3600000000)] rfl rfl X3.out size_rdg rfl (one3 _ _ _) ?_; intro w9 hw9 ho9) | fail)
      exact bodyPost_ret (ret_cellK rfl _ w9 (g := w.heap.size + 1 + 1) _ rfl rfl hw9.out _ hunt.out rfl size_rdg) rfl ⟨rfl, E.out.trans (ho9.below (by omega))⟩
  · obtain ⟨e1, e2⟩ := an_bad (s := s) (g := g) (a := a) (b := b) h
    rw [e1, e2]
    obtain ⟨z, hz⟩ : ∃ z, chkK rate l = z := ⟨_, rfl⟩
    rw [hz] at CC h ⊢
    have tz : (z == 0) = false := by simpa using h
    clear e1 e2 hz
    go_enter Try.func13, Try.ntmps13
    go_upto_region 1 with fail
    generalize hgg : ((w.alloc _).alloc _).alloc _ = Wg
    have hgW : W2 = Wg := by rw [← hgg, hW2'.out]
    clear hgg hW2'
    subst hgW
    go_wp2_with (refine wpList_blk_load rfl 30 _ rfl 0 rfl X1.out [_, _] rfl _ hunc.out rfl hszc.out ?_)
    refine (CC.out _ M.out).mono ?_
    rintro e w3 ⟨rfl, hb⟩
    replace E : Hid (Below w.heap.size w w3) := E.out.trans (hb.mono E.out.size)
    replace X1 := Lib.hid (X1.out.below hb X1.out.lt)
    replace X2 := Lib.hid (X2.out.below hb X2.out.lt)
    replace X3 := Lib.hid (X3.out.below hb X3.out.lt)
    clear hb CC
    go_wp2_with (first | (refine wpList_blk_load rfl 45 _ rfl 0 rfl X2.out [_, _] rfl _ hunw.out rfl hszw.out ?_) | (refine wpList_row_store rfl 48 _ _ rfl [.int .i64 0, .int .i64 0, .int .i64 0] rfl rfl X3.out size_rdg rfl (one3 _ _ _) ?_; intro w9 hw9 ho9) | fail)
    exact bodyPost_ret (ret_cellK rfl _ w9 (g := w.heap.size + 1 + 1) _ rfl rfl hw9.out _ hunt.out rfl size_rdg) rfl ⟨rfl, E.out.trans (ho9.below (by omega))⟩

end Go.Proofs.Ytbkgbjimooobbaa
