/-
  Stage 14 (clock): allowed of the program and of the specification, orConflict, when, few, Order. (Written by tools/genud.py.)
-/
import Derived.Test.YtbkgbjimooobbaaUc
import Derived.Deep.Cut
namespace Go.Proofs.Ytbkgbjimooobbaa
set_option linter.unusedVariables false
set_option linter.unusedSimpArgs false
open Go.RowKit

set_option maxRecDepth 100000 in
set_option maxHeartbeats 4000000 in
theorem allowed_any (rate x : Int) (r : Rdg) (w : World) (h0 : 0 ≤ rate) (h1 : rate ≤ 100000) (hr : okR r = true) (x0 : 0 ≤ x) (x1 : x ≤ 3600000000) :
    Calls Try.prog 34 #[.int .i64 rate, .agg #[.int .i64 r.L, .int .i64 r.lo, .int .i64 r.hi], .int .i64 x] w fun e w' => e = .returned (.agg #[.int .i64 (alLo rate r x), .int .i64 (alHi rate r x)]) ∧ Below w.heap.size w w' := by
  have hg := al_rng h0 h1 hr x0 x1
  obtain ⟨⟨l0, l1⟩, ⟨a0, a1⟩, ⟨b0, b1⟩, ab⟩ := okR_iff.1 hr
  obtain ⟨U, hU⟩ : ∃ U, U = alLo rate r x := ⟨_, rfl⟩
  obtain ⟨V, hV⟩ : ∃ V, V = alHi rate r x := ⟨_, rfl⟩
  rw [← hU, ← hV] at hg ⊢
  unfold alLo at hU
  unfold alHi at hV
  rcases r with ⟨L, a, b⟩
  dsimp only at *
  obtain ⟨W2, hW2⟩ : ∃ W2, W2 = (w.alloc (.cells #[.int .i64 L, .int .i64 a, .int .i64 b] 48)).alloc (.cells #[.int .i64 0, .int .i64 0] 45) := ⟨_, rfl⟩
  obtain ⟨W3, hW3⟩ : ∃ W3, W3 = W2.alloc (.cells #[.int .i64 a, .int .i64 b] 45) := ⟨_, rfl⟩
  have s2 : W2.heap.size = w.heap.size + 1 + 1 := by rw [hW2]; simp
  have B2 : Below w.heap.size w W2 := by rw [hW2]; exact ((Below.refl _ _).alloc (Nat.le_refl _) _).alloc (by simp) _
  have E : Hid (Below w.heap.size w W3) := by show Below _ _ _; rw [hW3]; exact B2.alloc B2.size _
  have XL : Hid (Blk ((w.alloc (.cells #[.int .i64 L, .int .i64 a, .int .i64 b] 48)).alloc (.cells #[.int .i64 0, .int .i64 0] 45)) w.heap.size [.int .i64 L, .int .i64 a, .int .i64 b] 48) := (Blk.new w [.int .i64 L, .int .i64 a, .int .i64 b] _).alloc _
  have X1 : Hid (Blk W3 w.heap.size [.int .i64 L, .int .i64 a, .int .i64 b] 48) := by show Blk _ _ _ _; rw [hW3, hW2]; exact XL.out.alloc _
  have X2 : Hid (Blk W3 (w.heap.size + 1) [.int .i64 0, .int .i64 0] 45) := by show Blk _ _ _ _; rw [hW3, hW2]; exact ((Blk.new _ [_, _] _).alloc _).at (by simp)
  have X3 : Hid (Blk W3 (w.heap.size + 1 + 1) [.int .i64 a, .int .i64 b] 45) := by show Blk _ _ _ _; rw [hW3]; exact (Blk.new _ [_, _] _).at (by rw [s2])
  have hW2' := Lib.hid hW2
  have hW3' := Lib.hid hW3
  clear hW2 hW3 B2 s2
  have p0 := X1.out.cell (j := 0) rfl
  have q0 := X3.out.cell (j := 0) rfl
  have q1 := X3.out.cell (j := 1) rfl
  have hsz := Lib.hid size_whn
  have hun : Hid (Try.prog.underlying 45 = _) := Try.underlying45
  by_cases c1 : L < x
  · rw [if_pos c1] at hU hV
    have CP := Lib.hid (passed_any rate (x - L) W3 h0 h1 (by omega) (by omega))
    have z1 := pLo_rng (s := x - L) h0 h1 (by omega) (by omega)
    have z2 := pHi_rng (s := x - L) h0 h1 (by omega) (by omega)
    have wd : IntKind.i64.wrap (x - L) = x - L := by rw [IntKind.wrap_i64]; omega
    obtain ⟨P, hP⟩ : ∃ P, P = pLo rate (x - L) := ⟨_, rfl⟩
    obtain ⟨Q, hQ⟩ : ∃ Q, Q = pHi rate (x - L) := ⟨_, rfl⟩
    try rw [← hP] at hU
    try rw [← hQ] at hU
    try rw [← hP] at hV
    try rw [← hQ] at hV
    rw [← hP] at CP z1
    rw [← hQ] at CP z2
    clear hP hQ
    have v1 : IntKind.i64.wrap (a + P) = U := by rw [hU, IntKind.wrap_i64]; omega
    have v2 : IntKind.i64.wrap (b + Q) = V := by rw [hV, IntKind.wrap_i64]; omega
    have hUH := Lib.hid hU
    have hVH := Lib.hid hV
    clear hU hV
    go_enter Try.func34, Try.ntmps34
    go_wp2_with (refine wpList_blk_load rfl 45 _ rfl 1 rfl XL.out [.int .i64 a, .int .i64 b] rfl _ hun.out rfl hsz.out ?_)
    generalize hgg : ((w.alloc _).alloc _).alloc _ = Wg
    have hgW : W3 = Wg := by rw [← hgg, hW3'.out, hW2'.out]
    clear hgg hW3' hW2'
    subst hgW
    refine (CP.out).mono ?_
    rintro e w' ⟨rfl, rfl⟩
    clear p0 CP
    go_wp2_with (refine wpList_row_store rfl 45 _ _ rfl [.int .i64 U, .int .i64 V] rfl rfl X2.out size_whn rfl (one2 _ _) ?_; intro w9 hw9 ho9)
    exact bodyPost_ret (ret_blk rfl _ w9 (g := w.heap.size + 1) rfl hw9.out _ hun.out rfl size_whn) rfl ⟨rfl, E.out.trans (ho9.below (by omega))⟩
  by_cases c2 : x < L
  · rw [if_neg c1, if_pos c2] at hU hV
    have CP := Lib.hid (passed_any rate (L - x) W3 h0 h1 (by omega) (by omega))
    have z1 := pLo_rng (s := L - x) h0 h1 (by omega) (by omega)
    have z2 := pHi_rng (s := L - x) h0 h1 (by omega) (by omega)
    have wd : IntKind.i64.wrap (L - x) = L - x := by rw [IntKind.wrap_i64]; omega
    obtain ⟨P, hP⟩ : ∃ P, P = pLo rate (L - x) := ⟨_, rfl⟩
    obtain ⟨Q, hQ⟩ : ∃ Q, Q = pHi rate (L - x) := ⟨_, rfl⟩
    try rw [← hP] at hU
    try rw [← hQ] at hU
    try rw [← hP] at hV
    try rw [← hQ] at hV
    rw [← hP] at CP z1
    rw [← hQ] at CP z2
    clear hP hQ
    have v1 : IntKind.i64.wrap (a - Q) = U := by rw [hU, IntKind.wrap_i64]; omega
    have v2 : IntKind.i64.wrap (b - P) = V := by rw [hV, IntKind.wrap_i64]; omega
    have hUH := Lib.hid hU
    have hVH := Lib.hid hV
    clear hU hV
    go_enter Try.func34, Try.ntmps34
    go_wp2_with (refine wpList_blk_load rfl 45 _ rfl 1 rfl XL.out [.int .i64 a, .int .i64 b] rfl _ hun.out rfl hsz.out ?_)
    generalize hgg : ((w.alloc _).alloc _).alloc _ = Wg
    have hgW : W3 = Wg := by rw [← hgg, hW3'.out, hW2'.out]
    clear hgg hW3' hW2'
    subst hgW
    refine (CP.out).mono ?_
    rintro e w' ⟨rfl, rfl⟩
    clear p0 CP
    go_wp2_with (refine wpList_row_store rfl 45 _ _ rfl [.int .i64 U, .int .i64 V] rfl rfl X2.out size_whn rfl (one2 _ _) ?_; intro w9 hw9 ho9)
    exact bodyPost_ret (ret_blk rfl _ w9 (g := w.heap.size + 1) rfl hw9.out _ hun.out rfl size_whn) rfl ⟨rfl, E.out.trans (ho9.below (by omega))⟩
  · rw [if_neg c1, if_neg c2] at hU hV
    have CP := Lib.hid (passed_any rate (0) W3 h0 h1 (by omega) (by omega))
    have z1 := pLo_rng (s := 0) h0 h1 (by omega) (by omega)
    have z2 := pHi_rng (s := 0) h0 h1 (by omega) (by omega)
    skip
    obtain ⟨P, hP⟩ : ∃ P, P = pLo rate (0) := ⟨_, rfl⟩
    obtain ⟨Q, hQ⟩ : ∃ Q, Q = pHi rate (0) := ⟨_, rfl⟩
    try rw [← hP] at hU
    try rw [← hQ] at hU
    try rw [← hP] at hV
    try rw [← hQ] at hV
    rw [← hP] at CP z1
    rw [← hQ] at CP z2
    clear hP hQ
    have v1 : IntKind.i64.wrap (a - Q) = U := by rw [hU, IntKind.wrap_i64]; omega
    have v2 : IntKind.i64.wrap (b + Q) = V := by rw [hV, IntKind.wrap_i64]; omega
    have hUH := Lib.hid hU
    have hVH := Lib.hid hV
    clear hU hV
    go_enter Try.func34, Try.ntmps34
    go_wp2_with (refine wpList_blk_load rfl 45 _ rfl 1 rfl XL.out [.int .i64 a, .int .i64 b] rfl _ hun.out rfl hsz.out ?_)
    generalize hgg : ((w.alloc _).alloc _).alloc _ = Wg
    have hgW : W3 = Wg := by rw [← hgg, hW3'.out, hW2'.out]
    clear hgg hW3' hW2'
    subst hgW
    refine (CP.out).mono ?_
    rintro e w' ⟨rfl, rfl⟩
    clear p0 CP
    go_wp2_with (refine wpList_row_store rfl 45 _ _ rfl [.int .i64 U, .int .i64 V] rfl rfl X2.out size_whn rfl (one2 _ _) ?_; intro w9 hw9 ho9)
    exact bodyPost_ret (ret_blk rfl _ w9 (g := w.heap.size + 1) rfl hw9.out _ hun.out rfl size_whn) rfl ⟨rfl, E.out.trans (ho9.below (by omega))⟩

/-- A range, or ErrConflict. -/
def ocLo (a b : Int) : Int := if b < a then 0 else a
def ocHi (a b : Int) : Int := if b < a then 0 else b
def ocE (a b : Int) : Int := if b < a then 24 else 0

set_option maxRecDepth 100000 in
set_option maxHeartbeats 2000000 in
theorem orConflict_any (a b : Int) (w : World) :
    Calls Try.prog 24 #[.agg #[.int .i64 a, .int .i64 b]] w fun e w' => e = .returned (.tuple #[.agg #[.int .i64 (ocLo a b), .int .i64 (ocHi a b)], .int .i64 (ocE a b)]) ∧ Below w.heap.size w w' := by
  obtain ⟨W2, hW2⟩ : ∃ W2, W2 = (w.alloc (.cells #[.int .i64 a, .int .i64 b] 45)).alloc (.cells #[.int .i64 0, .int .i64 0] 45) := ⟨_, rfl⟩
  have E : Hid (Below w.heap.size w W2) := by show Below _ _ _; rw [hW2]; exact ((Below.refl _ _).alloc (Nat.le_refl _) _).alloc (by simp) _
  have X1 : Hid (Blk W2 w.heap.size [.int .i64 a, .int .i64 b] 45) := by show Blk _ _ _ _; rw [hW2]; exact (Blk.new w [.int .i64 a, .int .i64 b] _).alloc _
  have X2 : Hid (Blk W2 (w.heap.size + 1) [.int .i64 0, .int .i64 0] 45) := by show Blk _ _ _ _; rw [hW2]; exact (Blk.new _ [_, _] _).at (by simp)
  have hW2' := Lib.hid hW2
  clear hW2
  have hsz := Lib.hid size_whn
  have hun : Hid (Try.prog.underlying 45 = _) := Try.underlying45
  unfold ocLo ocHi ocE
  by_cases c : b < a
  · rw [if_pos c, if_pos c, if_pos c]
    go_enter Try.func24, Try.ntmps24
    go_upto_region 1 with fail
    generalize hgg : (w.alloc _).alloc _ = Wg
    have hgW : W2 = Wg := by rw [← hgg, hW2'.out]
    clear hgg hW2'
    subst hgW
    have p0 := X1.out.cell (j := 0) rfl
    have p1 := X1.out.cell (j := 1) rfl
    go_wp2_with (first | (refine wpList_blk_load rfl 45 _ rfl 0 rfl X1.out [_, _] rfl _ hun.out rfl hsz.out ?_) | (refine wpList_row_store rfl 45 _ _ rfl [.int .i64 0, .int .i64 0] rfl rfl X2.out size_whn rfl (one2 _ _) ?_; intro w9 hw9 ho9) | fail)
    refine bodyPost_ret (ret_cellK rfl _ w9 (g := w.heap.size + 1) _ rfl rfl hw9.out _ hun.out rfl hsz.out) rfl ⟨rfl, E.out.trans (ho9.below (by omega))⟩
  · rw [if_neg c, if_neg c, if_neg c]
    go_enter Try.func24, Try.ntmps24
    go_upto_region 1 with fail
    generalize hgg : (w.alloc _).alloc _ = Wg
    have hgW : W2 = Wg := by rw [← hgg, hW2'.out]
    clear hgg hW2'
    subst hgW
    have p0 := X1.out.cell (j := 0) rfl
    have p1 := X1.out.cell (j := 1) rfl
    go_wp2_with (first | (refine wpList_blk_load rfl 45 _ rfl 0 rfl X1.out [_, _] rfl _ hun.out rfl hsz.out ?_) | (refine wpList_row_store rfl 45 _ _ rfl [.int .i64 a, .int .i64 b] rfl rfl X2.out size_whn rfl (one2 _ _) ?_; intro w9 hw9 ho9) | fail)
    refine bodyPost_ret (ret_cellK rfl _ w9 (g := w.heap.size + 1) _ rfl rfl hw9.out _ hun.out rfl hsz.out) rfl ⟨rfl, E.out.trans (ho9.below (by omega))⟩

set_option maxRecDepth 100000 in
set_option maxHeartbeats 1000000 in
theorem when_any (a b : Int) (w : World) :
    Calls Try.prog 9 #[.int .i64 a, .int .i64 b] w fun e w' => e = .returned (.agg #[.int .i64 a, .int .i64 b]) ∧ Below w.heap.size w w' := by
  obtain ⟨W2, hW2⟩ : ∃ W2, W2 = w.alloc (.cells #[.int .i64 0, .int .i64 0] 45) := ⟨_, rfl⟩
  have E : Hid (Below w.heap.size w W2) := by show Below _ _ _; rw [hW2]; exact (Below.refl _ _).alloc (Nat.le_refl _) _
  have X2 : Hid (Blk W2 w.heap.size [.int .i64 0, .int .i64 0] 45) := by show Blk _ _ _ _; rw [hW2]; exact Blk.new _ [_, _] _
  have hW2' := Lib.hid hW2
  clear hW2
  have hun : Hid (Try.prog.underlying 45 = _) := Try.underlying45
  go_enter Try.func9, Try.ntmps9
  go_upto_region 1 with fail
  generalize hgg : w.alloc _ = Wg
  have hgW : W2 = Wg := by rw [← hgg, hW2'.out]
  clear hgg hW2'
  subst hgW
  go_wp2_with (refine wpList_row_store rfl 45 _ _ rfl [.int .i64 a, .int .i64 b] rfl rfl X2.out size_whn rfl (one2 _ _) ?_; intro w9 hw9 ho9)
  refine bodyPost_ret (ret_blk rfl _ w9 (g := w.heap.size) rfl hw9.out _ hun.out rfl size_whn) rfl ⟨rfl, E.out.trans (ho9.below (by omega))⟩

/-- How two ranges lie. -/
def ordW (a b c d : Int) : Int := if b < c then -1 else if d < a then 1 else 0

set_option maxRecDepth 100000 in
set_option maxHeartbeats 1000000 in
theorem order_any (a b c d : Int) (w : World) :
    Calls Try.prog 15 #[.agg #[.int .i64 a, .int .i64 b], .agg #[.int .i64 c, .int .i64 d]] w fun e w' => e = .returned (.int .i64 (ordW a b c d)) ∧ Below w.heap.size w w' := by
  obtain ⟨W2, hW2⟩ : ∃ W2, W2 = (w.alloc (.cells #[.int .i64 a, .int .i64 b] 45)).alloc (.cells #[.int .i64 c, .int .i64 d] 45) := ⟨_, rfl⟩
  have E : Hid (Below w.heap.size w W2) := by show Below _ _ _; rw [hW2]; exact ((Below.refl _ _).alloc (Nat.le_refl _) _).alloc (by simp) _
  have X1 : Hid (Blk W2 w.heap.size [.int .i64 a, .int .i64 b] 45) := by show Blk _ _ _ _; rw [hW2]; exact (Blk.new w [.int .i64 a, .int .i64 b] _).alloc _
  have X2 : Hid (Blk W2 (w.heap.size + 1) [.int .i64 c, .int .i64 d] 45) := by show Blk _ _ _ _; rw [hW2]; exact (Blk.new _ [_, _] _).at (by simp)
  have hW2' := Lib.hid hW2
  clear hW2
  have p0 := X1.out.cell (j := 0) rfl
  have p1 := X1.out.cell (j := 1) rfl
  have q0 := X2.out.cell (j := 0) rfl
  have q1 := X2.out.cell (j := 1) rfl
  unfold ordW
  by_cases c1 : b < c
  · rw [if_pos c1]
    go_enter Try.func15, Try.ntmps15
    go_upto_region 1 with fail
    generalize hgg : (w.alloc _).alloc _ = Wg
    have hgW : W2 = Wg := by rw [← hgg, hW2'.out]
    clear hgg hW2'
    subst hgW
    go_wp2_with fail
    go_ret
    exact ⟨rfl, E.out⟩
  by_cases c2 : d < a
  · rw [if_neg c1, if_pos c2]
    go_enter Try.func15, Try.ntmps15
    go_upto_region 1 with fail
    generalize hgg : (w.alloc _).alloc _ = Wg
    have hgW : W2 = Wg := by rw [← hgg, hW2'.out]
    clear hgg hW2'
    subst hgW
    go_wp2_with fail
    go_ret
    exact ⟨rfl, E.out⟩
  · rw [if_neg c1, if_neg c2]
    go_enter Try.func15, Try.ntmps15
    go_upto_region 1 with fail
    generalize hgg : (w.alloc _).alloc _ = Wg
    have hgW : W2 = Wg := by rw [← hgg, hW2'.out]
    clear hgg hW2'
    subst hgW
    go_wp2_with fail
    go_ret
    exact ⟨rfl, E.out⟩

end Go.Proofs.Ytbkgbjimooobbaa
