/-
  Stage 14 (clock): the specification's Bounds; checkAt, wrong; Now of both. (Written by tools/genuj.py.)
-/
import Derived.Test.YtbkgbjimooobbaaUi
import Derived.Test.YtbkgbjimooobbaaRws
import Derived.Deep.CutRange
namespace Go.Proofs.Ytbkgbjimooobbaa
set_option linter.unusedVariables false
set_option linter.unusedSimpArgs false
open Go.RowKit

/-- How the region of Bounds that calls allowed ends. -/
def RbR (w : World) (a b : Int) (v : Value) (W : World) : Prop := ∃ g, v = .pointer (some ⟨g, 0, none⟩) ∧ w.heap.size ≤ g ∧ Blk W g [.int .i64 a, .int .i64 b] 45 ∧ Below w.heap.size w W

/-- The error of a clock and of a number. -/
def chkA (rate : Int) (l : List Rdg) (x : Int) : Int := if chkK rate l = 0 then (if inst x = true then 0 else 3) else chkK rate l
theorem chkA_ok {rate x : Int} {l : List Rdg} : chkA rate l x = 0 ↔ chkK rate l = 0 ∧ inst x = true := by
  unfold chkA
  by_cases h : chkK rate l = 0
  · rw [if_pos h]
    cases inst x <;> simp [h]
  · rw [if_neg h]
    simp [h]
theorem chk_facts {rate : Int} {l : List Rdg} (h : chkK rate l = 0) : 0 ≤ rate ∧ rate ≤ 100000 ∧ l.length ≤ 16 ∧ (∀ r ∈ l, okR r = true) ∧ AscR l (-1) := by
  obtain ⟨h1, h2, h3⟩ := chkK_ok.1 h
  exact ⟨(okRate_iff.1 h1).1, (okRate_iff.1 h1).2, h2, h3.ok, h3⟩

set_option maxRecDepth 100000 in
set_option maxHeartbeats 2000000 in
theorem checkAt_any {B : Nat} (k : Clk) (x : Int) (w : World) (m : ClkM w B k) :
    Calls Try.prog 17 #[.agg #[.int .i64 k.rate, .slice k.A k.n k.c], .int .i64 x] w fun e w' => e = .returned (.int .i64 (chkA k.rate k.l x)) ∧ Below w.heap.size w w' := by
  rcases k with ⟨rate, A, n, c, l⟩
  dsimp only at *
  obtain ⟨W2, hW2⟩ : ∃ W2, W2 = w.alloc (.cells #[.int .i64 rate, .slice A n c] 30) := ⟨_, rfl⟩
  have E : Hid (Below w.heap.size w W2) := by show Below _ _ _; rw [hW2]; exact (Below.refl _ _).alloc (Nat.le_refl _) _
  have X1 : Hid (Blk W2 w.heap.size [.int .i64 rate, .slice A n c] 30) := by show Blk _ _ _ _; rw [hW2]; exact Blk.new w [.int .i64 rate, .slice A n c] _
  skip
  have M := Lib.hid (m.below E.out)
  have hW2' := Lib.hid hW2
  clear hW2 m
  have hszc := Lib.hid size_clk
  have hunc : Hid (Try.prog.underlying 30 = _) := Try.underlying30
  have CC := Lib.hid (fun W (h : ClkM W B ⟨rate, A, n, c, l⟩) => check14_any _ W h)
  dsimp only at CC
  have CI := Lib.hid (fun W => isInstant_any x W)
  obtain ⟨R, hR⟩ : ∃ R, R = chkA rate l x := ⟨_, rfl⟩
  rw [← hR]
  unfold chkA at hR
  obtain ⟨z, hz⟩ : ∃ z, chkK rate l = z := ⟨_, rfl⟩
  obtain ⟨y, hy⟩ : ∃ y, inst x = y := ⟨_, rfl⟩
  rw [hz] at CC hR
  rw [hy] at CI hR
  clear hz hy
  by_cases h : z = 0
  · rw [if_pos h] at hR
    subst h
    cases y with
    | false =>
      rw [if_neg (by simp)] at hR
      subst hR
      go_enter Try.func17, Try.ntmps17
      go_upto_region 1 with fail
      generalize hgg : w.alloc _ = Wg
      have hgW : W2 = Wg := by rw [← hgg, hW2'.out]
      clear hgg hW2'
      subst hgW
      go_wp2_with (refine wpList_blk_load rfl 30 _ rfl 0 rfl X1.out [_, _] rfl _ hunc.out rfl hszc.out ?_)
      refine (CC.out _ M.out).mono ?_
      rintro e w3 ⟨rfl, hb⟩
      replace E : Hid (Below w.heap.size w w3) := E.out.trans (hb.mono E.out.size)
      clear hb
      go_wp2_with fail
      refine (CI.out _).mono ?_
      rintro e w' ⟨rfl, rfl⟩
      go_wp2_with fail
      go_ret
      exact ⟨rfl, E.out⟩
    | true =>
      rw [if_pos rfl] at hR
      subst hR
      go_enter Try.func17, Try.ntmps17
      go_upto_region 1 with fail
      generalize hgg : w.alloc _ = Wg
      have hgW : W2 = Wg := by rw [← hgg, hW2'.out]
      clear hgg hW2'
      subst hgW
      go_wp2_with (refine wpList_blk_load rfl 30 _ rfl 0 rfl X1.out [_, _] rfl _ hunc.out rfl hszc.out ?_)
      refine (CC.out _ M.out).mono ?_
      rintro e w3 ⟨rfl, hb⟩
      replace E : Hid (Below w.heap.size w w3) := E.out.trans (hb.mono E.out.size)
      clear hb
      go_wp2_with fail
      refine (CI.out _).mono ?_
      rintro e w' ⟨rfl, rfl⟩
      go_wp2_with fail
      go_ret
      exact ⟨rfl, E.out⟩
  · rw [if_neg h] at hR
    subst hR
    have tz : (R == 0) = false := by simpa using h
    go_enter Try.func17, Try.ntmps17
    go_upto_region 1 with fail
    generalize hgg : w.alloc _ = Wg
    have hgW : W2 = Wg := by rw [← hgg, hW2'.out]
    clear hgg hW2'
    subst hgW
    go_wp2_with (refine wpList_blk_load rfl 30 _ rfl 0 rfl X1.out [_, _] rfl _ hunc.out rfl hszc.out ?_)
    refine (CC.out _ M.out).mono ?_
    rintro e w3 ⟨rfl, hb⟩
    replace E : Hid (Below w.heap.size w w3) := E.out.trans (hb.mono E.out.size)
    clear hb
    go_wp2_with fail
    go_ret
    exact ⟨rfl, E.out⟩

/-- What Now returns. -/
def nwLo (rate : Int) (l : List Rdg) (x : Int) : Int := if chkA rate l x = 0 then ocLo (bndLo rate l x) (bndHi rate l x) else 0
def nwHi (rate : Int) (l : List Rdg) (x : Int) : Int := if chkA rate l x = 0 then ocHi (bndLo rate l x) (bndHi rate l x) else 0
def nwE (rate : Int) (l : List Rdg) (x : Int) : Int := if chkA rate l x = 0 then ocE (bndLo rate l x) (bndHi rate l x) else chkA rate l x
theorem nw_ok {rate x : Int} {l : List Rdg} (h : chkA rate l x = 0) : nwLo rate l x = ocLo (bndLo rate l x) (bndHi rate l x) ∧ nwHi rate l x = ocHi (bndLo rate l x) (bndHi rate l x) ∧ nwE rate l x = ocE (bndLo rate l x) (bndHi rate l x) := by
  unfold nwLo nwHi nwE
  rw [if_pos h, if_pos h, if_pos h]
  exact ⟨rfl, rfl, rfl⟩
theorem nw_no {rate x : Int} {l : List Rdg} (h : ¬ chkA rate l x = 0) : nwLo rate l x = 0 ∧ nwHi rate l x = 0 ∧ nwE rate l x = chkA rate l x := by
  unfold nwLo nwHi nwE
  rw [if_neg h, if_neg h, if_neg h]
  exact ⟨rfl, rfl, rfl⟩

set_option maxRecDepth 100000 in
set_option maxHeartbeats 4000000 in
theorem now_any {B : Nat} (k : Clk) (x : Int) (w : World) (m : ClkM w B k) :
    Calls Try.prog 11 #[.agg #[.int .i64 k.rate, .slice k.A k.n k.c], .int .i64 x] w fun e w' => e = .returned (.tuple #[.agg #[.int .i64 (nwLo k.rate k.l x), .int .i64 (nwHi k.rate k.l x)], .int .i64 (nwE k.rate k.l x)]) ∧ Below w.heap.size w w' := by
  rcases k with ⟨rate, A, n, c, l⟩
  dsimp only at *
  obtain ⟨W2, hW2⟩ : ∃ W2, W2 = (w.alloc (.cells #[.int .i64 rate, .slice A n c] 30)).alloc (.cells #[.int .i64 0, .int .i64 0] 45) := ⟨_, rfl⟩
  have E : Hid (Below w.heap.size w W2) := by show Below _ _ _; rw [hW2]; exact ((Below.refl _ _).alloc (Nat.le_refl _) _).alloc (by simp) _
  have X1 : Hid (Blk W2 w.heap.size [.int .i64 rate, .slice A n c] 30) := by show Blk _ _ _ _; rw [hW2]; exact (Blk.new w [.int .i64 rate, .slice A n c] _).alloc _
  have X2 : Hid (Blk W2 (w.heap.size + 1) [.int .i64 0, .int .i64 0] 45) := by show Blk _ _ _ _; rw [hW2]; exact (Blk.new _ [_, _] _).at (by simp)
  have M := Lib.hid (m.below E.out)
  have hW2' := Lib.hid hW2
  clear hW2 m
  have hszc := Lib.hid size_clk
  have hunc : Hid (Try.prog.underlying 30 = _) := Try.underlying30
  have hszw := Lib.hid size_whn
  have hunw : Hid (Try.prog.underlying 45 = _) := Try.underlying45
  have CC := Lib.hid (fun W (h : ClkM W B ⟨rate, A, n, c, l⟩) => checkAt_any _ x W h)
  dsimp only at CC
  obtain ⟨z, hz⟩ : ∃ z, chkA rate l x = z := ⟨_, rfl⟩
  rw [hz] at CC
  by_cases h : z = 0
  · subst h
    obtain ⟨hk, hi⟩ := chkA_ok.1 hz
    obtain ⟨k0, k1, k2, k3, k4⟩ := chk_facts hk
    obtain ⟨i0, i1⟩ := inst_iff.1 hi
    obtain ⟨e1, e2, e3⟩ := nw_ok hz
    rw [e1, e2, e3]
    have CB := Lib.hid (fun W (h : ClkM W B ⟨rate, A, n, c, l⟩) => bounds_any _ x W h k0 k1 k3 i0 i1)
    dsimp only at CB
    clear hk hi e1 e2 e3 hz k4 k3
    obtain ⟨u, hu⟩ : ∃ u, bndLo rate l x = u := ⟨_, rfl⟩
    obtain ⟨v, hv⟩ : ∃ v, bndHi rate l x = v := ⟨_, rfl⟩
    rw [hu, hv] at CB ⊢
    clear hu hv
    have CO := Lib.hid (fun W => orConflict_any u v W)
    generalize ocLo u v = u' at *
    generalize ocHi u v = v' at *
    generalize ocE u v = e' at *
    go_enter Try.func11, Try.ntmps11
    go_upto_region 1 with fail
    generalize hgg : (w.alloc _).alloc _ = Wg
    have hgW : W2 = Wg := by rw [← hgg, hW2'.out]
    clear hgg hW2'
    subst hgW
    go_wp2_with (refine wpList_blk_load rfl 30 _ rfl 0 rfl X1.out [_, _] rfl _ hunc.out rfl hszc.out ?_)
    refine (CC.out _ M.out).mono ?_
    rintro e w3 ⟨rfl, hb⟩
    replace E : Hid (Below w.heap.size w w3) := E.out.trans (hb.mono E.out.size)
    replace X1 := Lib.hid (X1.out.below hb X1.out.lt)
    replace X2 := Lib.hid (X2.out.below hb X2.out.lt)
    replace M := Lib.hid (M.out.below hb)
    clear hb CC
    go_wp2_with (refine wpList_blk_load rfl 30 _ rfl 0 rfl X1.out [_, _] rfl _ hunc.out rfl hszc.out ?_)
    refine (CB.out _ M.out).mono ?_
    rintro e w4 ⟨rfl, hb⟩
    replace E : Hid (Below w.heap.size w w4) := E.out.trans (hb.mono E.out.size)
    replace X2 := Lib.hid (X2.out.below hb X2.out.lt)
    clear hb
    go_wp2_with fail
    refine (CO.out _).mono ?_
    rintro e w5 ⟨rfl, hb⟩
    replace E : Hid (Below w.heap.size w w5) := E.out.trans (hb.mono E.out.size)
    replace X2 := Lib.hid (X2.out.below hb X2.out.lt)
    clear hb
    go_wp2_with (refine wpList_row_store rfl 45 _ _ rfl [.int .i64 u', .int .i64 v'] rfl rfl X2.out size_whn rfl (one2 _ _) ?_; intro w9 hw9 ho9)
    exact bodyPost_ret (ret_cellK rfl _ w9 (g := w.heap.size + 1) _ rfl rfl hw9.out _ hunw.out rfl hszw.out) rfl ⟨rfl, E.out.trans (ho9.below (by omega))⟩
  · obtain ⟨e1, e2, e3⟩ := nw_no (by rw [hz]; exact h)
    rw [e1, e2, e3, hz]
    have tz : (z == 0) = false := by simpa using h
    clear e1 e2 e3 hz
    go_enter Try.func11, Try.ntmps11
    go_upto_region 1 with fail
    generalize hgg : (w.alloc _).alloc _ = Wg
    have hgW : W2 = Wg := by rw [← hgg, hW2'.out]
    clear hgg hW2'
    subst hgW
    go_wp2_with (refine wpList_blk_load rfl 30 _ rfl 0 rfl X1.out [_, _] rfl _ hunc.out rfl hszc.out ?_)
    refine (CC.out _ M.out).mono ?_
    rintro e w3 ⟨rfl, hb⟩
    replace E : Hid (Below w.heap.size w w3) := E.out.trans (hb.mono E.out.size)
    replace X1 := Lib.hid (X1.out.below hb X1.out.lt)
    replace X2 := Lib.hid (X2.out.below hb X2.out.lt)
    replace M := Lib.hid (M.out.below hb)
    clear hb CC
    go_wp2_with (refine wpList_row_store rfl 45 _ _ rfl [.int .i64 0, .int .i64 0] rfl rfl X2.out size_whn rfl (one2 _ _) ?_; intro w9 hw9 ho9)
    exact bodyPost_ret (ret_cellK rfl _ w9 (g := w.heap.size + 1) _ rfl rfl hw9.out _ hunw.out rfl hszw.out) rfl ⟨rfl, E.out.trans (ho9.below (by omega))⟩

end Go.Proofs.Ytbkgbjimooobbaa
