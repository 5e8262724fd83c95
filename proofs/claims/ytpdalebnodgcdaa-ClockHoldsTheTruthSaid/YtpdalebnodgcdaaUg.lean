/-
  Stage 14 (clock): Check of the program and of the specification, checkAt, wrong. (Written by tools/genug.py.)
-/
import Derived.Test.YtpdalebnodgcdaaUf
namespace Go.Proofs.Ytpdalebnodgcdaa
set_option linter.unusedVariables false
set_option linter.unusedSimpArgs false
open Go.RowKit

/-- A reading in its place, as three cells. -/
theorem ClkM.rd3 {w : World} {B : Nat} {k : Clk} (m : ClkM w B k) {j : Nat} {r : Rdg} (hj : k.l[j]? = some r) : ∃ ad, k.A = some ad ∧ ad.block < B ∧ ∀ i v, ([.int .i64 r.L, .int .i64 r.lo, .int .i64 r.hi] : List Value)[i]? = some v → w.cell? ((ad.add (j * 3)).add i) = some v := by
  obtain ⟨ad, e, hb, h0, h1, h2⟩ := m.rd hj
  refine ⟨ad, e, hb, fun i v hi => ?_⟩
  rw [add_twice]
  rcases i with _ | _ | _ | i
  · rw [← Option.some.inj hi]; exact h0
  · rw [← Option.some.inj hi]; exact h1
  · rw [← Option.some.inj hi]; exact h2
  · simp at hi

set_option maxRecDepth 100000 in
set_option maxHeartbeats 8000000 in
theorem check14_any {B : Nat} (k : Clk) (w : World) (m : ClkM w B k) :
    Calls Try.prog 18 #[.agg #[.int .i64 k.rate, .slice k.A k.n k.c]] w fun e w' => e = .returned (.int .i64 (chkK k.rate k.l)) ∧ Below w.heap.size w w' := by
  have hfr := m.fr
  rcases k with ⟨rate, A, n, c, l⟩
  dsimp only at *
  obtain ⟨W2, hW2⟩ : ∃ W2, W2 = w.alloc (.cells #[.int .i64 rate, .slice A n c] 24) := ⟨_, rfl⟩
  have E : Hid (Below w.heap.size w W2) := by show Below _ _ _; rw [hW2]; exact (Below.refl _ _).alloc (Nat.le_refl _) _
  have X1 : Hid (Blk W2 w.heap.size [.int .i64 rate, .slice A n c] 24) := by show Blk _ _ _ _; rw [hW2]; exact Blk.new w [.int .i64 rate, .slice A n c] _
  have M := Lib.hid (m.below E.out)
  have hn : Hid (n = l.length) := m.len
  have hsm := m.small
  have hB := m.le
  have hW2' := Lib.hid hW2
  clear hW2 m
  have hsz := Lib.hid size_rdg
  have hun : Hid (Try.prog.underlying 29 = _) := Try.underlying29
  dsimp only at hsm
  obtain ⟨R, hR⟩ : ∃ R, R = chkK rate l := ⟨_, rfl⟩
  rw [← hR]
  unfold chkK at hR
  have CR := Lib.hid (fun W => isRate_any rate W)
  obtain ⟨x, hx⟩ : ∃ x, okRate rate = x := ⟨_, rfl⟩
  rw [hx] at CR hR
  clear hx
  cases x with
  | false =>
    rw [if_pos rfl] at hR
    subst hR
    have p0 := X1.out.cell (j := 0) rfl
    have p1 := X1.out.cell (j := 1) rfl
    go_enter Try.func18, Try.ntmps18
    go_upto_region 1 with fail
    generalize hgg : w.alloc _ = Wg
    have hgW : W2 = Wg := by rw [← hgg, hW2'.out]
    clear hgg hW2'
    subst hgW
    go_wp2_with fail
    refine (CR.out _).mono ?_
    rintro e w' ⟨rfl, rfl⟩
    go_wp2_with fail
    go_ret
    exact ⟨rfl, E.out⟩
  | true =>
    rw [if_neg (by simp)] at hR
    by_cases h16 : 16 < n
    · rw [if_pos (by rw [← hn.out]; exact h16)] at hR
      subst hR
      have t16 : (16 : Int) < (n : Int) := by omega
      have p0 := X1.out.cell (j := 0) rfl
      have p1 := X1.out.cell (j := 1) rfl
      go_enter Try.func18, Try.ntmps18
      go_upto_region 1 with fail
      generalize hgg : w.alloc _ = Wg
      have hgW : W2 = Wg := by rw [← hgg, hW2'.out]
      clear hgg hW2'
      subst hgW
      go_wp2_with fail
      refine (CR.out _).mono ?_
      rintro e w' ⟨rfl, rfl⟩
      go_wp2_with fail
      go_ret
      exact ⟨rfl, E.out⟩
    · rw [if_neg (by rw [← hn.out]; exact h16)] at hR
      have t16 : ¬ (16 : Int) < (n : Int) := by omega
      have hRH := Lib.hid hR
      clear hR
      have p0 := X1.out.cell (j := 0) rfl
      have p1 := X1.out.cell (j := 1) rfl
      go_enter Try.func18, Try.ntmps18
      go_upto_region 1 with fail
      generalize hgg : w.alloc _ = Wg
      have hgW : W2 = Wg := by rw [← hgg, hW2'.out]
      clear hgg hW2'
      subst hgW
      go_wp2_with fail
      refine (CR.out _).mono ?_
      rintro e w' ⟨rfl, rfl⟩
      clear CR
      go_wp2_with fail
      obtain ⟨wo, hwo⟩ : ∃ wo, wo = w' := ⟨_, rfl⟩
      clear p0 p1
      go_loopg [3, 19] n (fun g s3 s19 wx => ∃ (k : Nat) (b : Int), k + g = n ∧ s19 = .int .i64 k ∧ s3 = .int .i64 b ∧ Hid (Below w.heap.size w wx) ∧ Hid (R = chkG (l.drop k) b))
      case atStart => exact ⟨0, -1, by omega, rfl, rfl, E, hRH⟩
      case round =>
        obtain ⟨k, b, hkg, rfl, rfl, E4, hI⟩ := hrel
        clear hRH
        cases gk with
        | zero =>
          have hkz : ¬ ((k : Int) < (n : Int)) := by omega
          have hz : R = 0 := by rw [hI.out, List.drop_eq_nil_of_le (by have := hn.out; omega)]; rfl
          subst hz
          go_wp2_with fail
          go_ret
          exact ⟨rfl, E4.out⟩
        | succ gk =>
          have hkz : (k : Int) < (n : Int) := by omega
          obtain ⟨r, hx⟩ : ∃ x, l[k]? = some x := ⟨_, List.getElem?_eq_getElem (by have := hn.out; omega)⟩
          have hdrop : l.drop k = r :: l.drop (k + 1) := by rw [List.drop_eq_getElem_cons (List.getElem?_eq_some_iff.1 hx).1, (List.getElem?_eq_some_iff.1 hx).2]
          rw [hdrop] at hI
          have hI2 := hI.out
          unfold chkG at hI2
          have hf : Hid (Wm.Fits r.L) := (M.out.fits r (List.mem_of_getElem? hx)).1
          obtain ⟨ad, hA, hbb, hcl0⟩ := M.out.rd3 hx
          dsimp only at hA
          subst hA
          have hlt : B ≤ w.heap.size := hB
          have hcl : Hid (∀ i v, ([.int .i64 r.L, .int .i64 r.lo, .int .i64 r.hi] : List Value)[i]? = some v → wr.cell? ((ad.add (k * 3)).add i) = some v) := fun i v hi => by
            have h1 : ((ad.add (k * 3)).add i).block < w.heap.size := by rw [add_block, add_block]; omega
            exact (E4.out.cell h1).trans ((E.out.cell h1).symm.trans (hcl0 i v hi))
          obtain ⟨W3, hW3⟩ : ∃ W3, W3 = wr.alloc (.cells #[.int .i64 r.L, .int .i64 r.lo, .int .i64 r.hi] 29) := ⟨_, rfl⟩
          have b3 : Hid (Below wr.heap.size wr W3) := by show Below _ _ _; rw [hW3]; exact (Below.refl _ _).alloc (Nat.le_refl _) _
          have E3 : Hid (Below w.heap.size w W3) := E4.out.trans (b3.out.mono E4.out.size)
          have X3 : Hid (Blk W3 wr.heap.size [.int .i64 r.L, .int .i64 r.lo, .int .i64 r.hi] 29) := by show Blk _ _ _ _; rw [hW3]; exact Blk.new _ [_, _, _] _
          have hW3' := Lib.hid hW3
          have CI := Lib.hid (fun W => isReading_any r W)
          clear hW3 hcl0 hx hdrop hI
          obtain ⟨y, hy⟩ : ∃ y, okR r = y := ⟨_, rfl⟩
          rw [hy] at CI hI2
          clear hy
          cases y with
          | false =>
            rw [if_pos rfl] at hI2
            subst hI2
            go_upto_region 9 with (first | (refine wpList_load_at rfl 29 _ rfl (ad.add (k * 3)) rfl [.int .i64 r.L, .int .i64 r.lo, .int .i64 r.hi] _ hun.out rfl hsz.out hcl.out ?_) | fail)
            generalize hgg : wr.alloc _ = Wg
            have hgW : W3 = Wg := by rw [← hgg, hW3'.out]
            clear hgg hW3'
            subst hgW
            go_wp2_with (first | (refine wpList_blk_load rfl 29 _ rfl 0 rfl X3.out [_, _, _] rfl _ hun.out rfl hsz.out ?_) | fail)
            refine (CI.out _).mono ?_
            rintro e w5 ⟨rfl, hb⟩
            have E5 := Lib.hid (E3.out.trans (hb.mono E3.out.size))
            have p0 := (X3.out.below hb X3.out.lt).cell (j := 0) rfl
            clear hb CI hcl X3 b3
            go_wp2_with fail
            go_ret
            exact ⟨rfl, E5.out⟩
          | true =>
            rw [if_neg (by simp)] at hI2
            by_cases hb : r.L ≤ b
            · rw [if_pos hb] at hI2
              subst hI2
              go_upto_region 9 with (first | (refine wpList_load_at rfl 29 _ rfl (ad.add (k * 3)) rfl [.int .i64 r.L, .int .i64 r.lo, .int .i64 r.hi] _ hun.out rfl hsz.out hcl.out ?_) | fail)
              generalize hgg : wr.alloc _ = Wg
              have hgW : W3 = Wg := by rw [← hgg, hW3'.out]
              clear hgg hW3'
              subst hgW
              go_wp2_with (first | (refine wpList_blk_load rfl 29 _ rfl 0 rfl X3.out [_, _, _] rfl _ hun.out rfl hsz.out ?_) | fail)
              refine (CI.out _).mono ?_
              rintro e w5 ⟨rfl, hb⟩
              have E5 := Lib.hid (E3.out.trans (hb.mono E3.out.size))
              have p0 := (X3.out.below hb X3.out.lt).cell (j := 0) rfl
              clear hb CI hcl X3 b3
              go_wp2_with fail
              go_ret
              exact ⟨rfl, E5.out⟩
            · rw [if_neg hb] at hI2
              have hI3 := Lib.hid hI2
              clear hI2
              go_upto_region 9 with (first | (refine wpList_load_at rfl 29 _ rfl (ad.add (k * 3)) rfl [.int .i64 r.L, .int .i64 r.lo, .int .i64 r.hi] _ hun.out rfl hsz.out hcl.out ?_) | fail)
              generalize hgg : wr.alloc _ = Wg
              have hgW : W3 = Wg := by rw [← hgg, hW3'.out]
              clear hgg hW3'
              subst hgW
              go_wp2_with (first | (refine wpList_blk_load rfl 29 _ rfl 0 rfl X3.out [_, _, _] rfl _ hun.out rfl hsz.out ?_) | fail)
              refine (CI.out _).mono ?_
              rintro e w5 ⟨rfl, hb⟩
              have E5 := Lib.hid (E3.out.trans (hb.mono E3.out.size))
              have p0 := (X3.out.below hb X3.out.lt).cell (j := 0) rfl
              clear hb CI hcl X3 b3
              go_wp2_with fail
              go_roundg gk
              case measure => omega
              case rel => exact ⟨k + 1, r.L, by omega, by go_num, rfl, E5, hI3⟩

def prevL (l : List Rdg) : Nat → Int
  | 0 => -1
  | j + 1 => (l.getD j ⟨0, 0, 0⟩).L

set_option maxRecDepth 100000 in
set_option maxHeartbeats 8000000 in
theorem rCheck14_any {B : Nat} (k : Clk) (w : World) (m : ClkM w B k) :
    Calls Try.prog 19 #[.agg #[.int .i64 k.rate, .slice k.A k.n k.c]] w fun e w' => e = .returned (.int .i64 (chkK k.rate k.l)) ∧ Below w.heap.size w w' := by
  have hfr := m.fr
  rcases k with ⟨rate, A, n, c, l⟩
  dsimp only at *
  obtain ⟨W2, hW2⟩ : ∃ W2, W2 = w.alloc (.cells #[.int .i64 rate, .slice A n c] 24) := ⟨_, rfl⟩
  have E : Hid (Below w.heap.size w W2) := by show Below _ _ _; rw [hW2]; exact (Below.refl _ _).alloc (Nat.le_refl _) _
  have X1 : Hid (Blk W2 w.heap.size [.int .i64 rate, .slice A n c] 24) := by show Blk _ _ _ _; rw [hW2]; exact Blk.new w [.int .i64 rate, .slice A n c] _
  have M := Lib.hid (m.below E.out)
  have hn : Hid (n = l.length) := m.len
  have hsm := m.small
  have hB := m.le
  have hW2' := Lib.hid hW2
  clear hW2 m
  have hsz := Lib.hid size_rdg
  have hun : Hid (Try.prog.underlying 29 = _) := Try.underlying29
  dsimp only at hsm
  obtain ⟨R, hR⟩ : ∃ R, R = chkK rate l := ⟨_, rfl⟩
  rw [← hR]
  unfold chkK at hR
  by_cases hr0 : rate < 0
  · rw [if_pos (by unfold okRate; simp; omega)] at hR
    subst hR
    have p0 := X1.out.cell (j := 0) rfl
    have p1 := X1.out.cell (j := 1) rfl
    go_enter Try.func19, Try.ntmps19
    go_upto_region 1 with fail
    generalize hgg : w.alloc _ = Wg
    have hgW : W2 = Wg := by rw [← hgg, hW2'.out]
    clear hgg hW2'
    subst hgW
    go_wp2_with fail
    go_ret
    exact ⟨rfl, E.out⟩
  by_cases hr1 : 100000 < rate
  · rw [if_pos (by unfold okRate; simp; omega)] at hR
    subst hR
    have p0 := X1.out.cell (j := 0) rfl
    have p1 := X1.out.cell (j := 1) rfl
    go_enter Try.func19, Try.ntmps19
    go_upto_region 1 with fail
    generalize hgg : w.alloc _ = Wg
    have hgW : W2 = Wg := by rw [← hgg, hW2'.out]
    clear hgg hW2'
    subst hgW
    go_wp2_with fail
    go_ret
    exact ⟨rfl, E.out⟩
  rw [if_neg (by unfold okRate; simp; omega)] at hR
  by_cases h16 : 16 < n
  · rw [if_pos (by rw [← hn.out]; exact h16)] at hR
    subst hR
    have t16 : (16 : Int) < (n : Int) := by omega
    have p0 := X1.out.cell (j := 0) rfl
    have p1 := X1.out.cell (j := 1) rfl
    go_enter Try.func19, Try.ntmps19
    go_upto_region 1 with fail
    generalize hgg : w.alloc _ = Wg
    have hgW : W2 = Wg := by rw [← hgg, hW2'.out]
    clear hgg hW2'
    subst hgW
    go_wp2_with fail
    go_ret
    exact ⟨rfl, E.out⟩
  rw [if_neg (by rw [← hn.out]; exact h16)] at hR
  have t16 : ¬ (16 : Int) < (n : Int) := by omega
  have hRH := Lib.hid hR
  clear hR
  have p0 := X1.out.cell (j := 0) rfl
  have p1 := X1.out.cell (j := 1) rfl
  go_enter Try.func19, Try.ntmps19
  go_upto_region 1 with fail
  generalize hgg : w.alloc _ = Wg
  have hgW : W2 = Wg := by rw [← hgg, hW2'.out]
  clear hgg hW2'
  subst hgW
  go_wp2_with fail
  obtain ⟨wo, hwo⟩ : ∃ wo, wo = W2 := ⟨_, rfl⟩
  clear p0 p1
  go_loopg [3] n (fun g s3 wx => ∃ (k : Nat), k + g = n ∧ s3 = .int .i64 k ∧ Hid (Below W2.heap.size W2 wx) ∧ Hid (R = chkG (l.drop k) (prevL l k)))
  case atStart => exact ⟨0, by omega, rfl, Below.refl _ _, hRH⟩
  case round =>
    obtain ⟨k, hkg, rfl, B4, hI⟩ := hrel
    clear hRH
    have E4 : Hid (Below w.heap.size w wr) := E.out.trans (B4.out.mono E.out.size)
    have Xr := Lib.hid (X1.out.below B4.out X1.out.lt)
    have p1 := Xr.out.cell (j := 1) rfl
    cases gk with
    | zero =>
      have hkz : ¬ ((k : Int) < (n : Int)) := by omega
      have hz : R = 0 := by rw [hI.out, List.drop_eq_nil_of_le (by have := hn.out; omega)]; rfl
      subst hz
      go_wp2_with fail
      go_ret
      exact ⟨rfl, E4.out⟩
    | succ gk =>
      have hkz : (k : Int) < (n : Int) := by omega
      have hk0' : 0 ≤ (k : Int) := by omega
      obtain ⟨r, hx⟩ : ∃ x, l[k]? = some x := ⟨_, List.getElem?_eq_getElem (by have := hn.out; omega)⟩
      have hdrop : l.drop k = r :: l.drop (k + 1) := by rw [List.drop_eq_getElem_cons (List.getElem?_eq_some_iff.1 hx).1, (List.getElem?_eq_some_iff.1 hx).2]
      rw [hdrop] at hI
      have hI2 := hI.out
      unfold chkG at hI2
      have hnext : Hid (prevL l (k + 1) = r.L) := by
        show (l.getD k ⟨0, 0, 0⟩).L = r.L
        rw [List.getD_eq_getElem?_getD, hx]; rfl
      obtain ⟨ad, hA, hbb, hcl0⟩ := M.out.rd3 hx
      dsimp only at hA
      subst hA
      have keep : ∀ p : Addr, p.block < B → ∀ v, W2.cell? p = some v → ∀ W, Below W2.heap.size W2 W → W.cell? p = some v := fun p hp v hv W hW => by
        have h1 : p.block < W2.heap.size := by have := E.out.size; omega
        exact (hW.cell h1).trans hv
      have hcl : Hid (∀ i v, ([.int .i64 r.L, .int .i64 r.lo, .int .i64 r.hi] : List Value)[i]? = some v → wr.cell? ((ad.add (k * 3)).add i) = some v) := fun i v hi =>
        keep _ (by rw [add_block, add_block]; exact hbb) v (hcl0 i v hi) wr B4.out
      have hL0 : Hid (∀ W, Below W2.heap.size W2 W → W.cell? (ad.add (k * 3)) = some (.int .i64 r.L)) := fun W hW => by
        have := hcl0 0 _ rfl
        rw [add_twice] at this
        exact keep _ (by rw [add_block]; exact hbb) _ this W hW
      have CI := Lib.hid (fun W => read_any r W)
      obtain ⟨y, hy⟩ : ∃ y, okR r = y := ⟨_, rfl⟩
      rw [hy] at CI hI2
      have hyH := Lib.hid hy
      have hprev : Hid (∀ j, k = j + 1 → ∃ q : Rdg, prevL l k = q.L ∧ ∀ W, Below W2.heap.size W2 W → W.cell? (ad.add (j * 3)) = some (.int .i64 q.L)) := fun j hj => by
        obtain ⟨q, hq⟩ : ∃ x, l[j]? = some x := ⟨_, List.getElem?_eq_getElem (by have := hn.out; omega)⟩
        refine ⟨q, by rw [hj]; show (l.getD j ⟨0, 0, 0⟩).L = q.L; rw [List.getD_eq_getElem?_getD, hq]; rfl, fun W hW => ?_⟩
        obtain ⟨ad', hA', hb', hc'⟩ := M.out.rd3 hq
        obtain rfl := Option.some.inj hA'
        have := hc' 0 _ rfl
        rw [add_twice] at this
        exact keep _ (by rw [add_block]; exact hb') _ this W hW
      clear hcl0 hx hdrop hI hy keep
      cases y with
      | false =>
        rw [if_pos rfl] at hI2
        subst hI2
        go_wp2_with (first | (refine wpList_load_at rfl 29 _ rfl (ad.add (k * 3)) rfl [.int .i64 r.L, .int .i64 r.lo, .int .i64 r.hi] _ hun.out rfl hsz.out hcl.out ?_) | fail)
        refine (CI.out _).mono ?_
        rintro e w5 ⟨rfl, hb⟩
        have B5 : Hid (Below W2.heap.size W2 w5) := B4.out.trans (hb.mono B4.out.size)
        have E5 : Hid (Below w.heap.size w w5) := E.out.trans (B5.out.mono E.out.size)
        have p1' := (Xr.out.below hb Xr.out.lt).cell (j := 1) rfl
        clear hb CI hcl p1 Xr
        go_wp2_with fail
        go_ret
        exact ⟨rfl, E5.out⟩
      | true =>
        rw [if_neg (by simp)] at hI2
        by_cases hz : k = 0
        · have hpz : prevL l k = -1 := by rw [hz]; rfl
          rw [hpz, if_neg (by have := (okR_iff.1 hyH.out).1.1; omega)] at hI2
          have b3 : decide (0 < (k : Int)) = false := decide_eq_false (by omega)
          have b3' : ¬ (0 : Int) < (k : Int) := by omega
          have b4 : decide (0 < k) = false := decide_eq_false (by omega)
          clear hz hpz
          rw [← hnext.out] at hI2
          have hI3 := Lib.hid hI2
          clear hI2 hyH hL0 hprev
          go_wp2_with (first | (refine wpList_load_at rfl 29 _ rfl (ad.add (k * 3)) rfl [.int .i64 r.L, .int .i64 r.lo, .int .i64 r.hi] _ hun.out rfl hsz.out hcl.out ?_) | fail)
          refine (CI.out _).mono ?_
          rintro e w5 ⟨rfl, hb⟩
          have B5 : Hid (Below W2.heap.size W2 w5) := B4.out.trans (hb.mono B4.out.size)
          have E5 : Hid (Below w.heap.size w w5) := E.out.trans (B5.out.mono E.out.size)
          have p1' := (Xr.out.below hb Xr.out.lt).cell (j := 1) rfl
          clear hb CI hcl p1 Xr
          go_wp2_with fail
          go_quiet (fail)
          go_wp2_with fail
          go_roundg gk
          case measure => omega
          case rel => exact ⟨k + 1, by omega, by go_num, below_drewN B5.out _, hI3⟩
        obtain ⟨j, hj⟩ : ∃ j, k = j + 1 := ⟨k - 1, by omega⟩
        obtain ⟨q, hq1, hq2⟩ := hprev.out j hj
        have hq2' := Lib.hid hq2
        rw [hq1] at hI2
        have e1 : (k : Int) - 1 = (j : Int) := by omega
        have hw1 : IntKind.i64.wrap ((k : Int) - 1) = (j : Int) := by rw [IntKind.wrap_i64]; omega
        have j0 : 0 ≤ (j : Int) := by omega
        have j1 : (j : Int) < (n : Int) := by omega
        have b3 : decide (0 < (k : Int)) = true := decide_eq_true (by omega)
        have b3' : (0 : Int) < (k : Int) := by omega
        have b4 : decide (0 < k) = true := decide_eq_true (by omega)
        have hjj := Lib.hid hj
        clear hj hprev hq1 hq2 hz
        by_cases hb : r.L ≤ q.L
        · rw [if_pos hb] at hI2
          subst hI2
          have tb : decide (r.L ≤ q.L) = true := decide_eq_true hb
          go_wp2_with (first | (refine wpList_load_at rfl 29 _ rfl (ad.add (k * 3)) rfl [.int .i64 r.L, .int .i64 r.lo, .int .i64 r.hi] _ hun.out rfl hsz.out hcl.out ?_) | fail)
          refine (CI.out _).mono ?_
          rintro e w5 ⟨rfl, hb⟩
          have B5 : Hid (Below W2.heap.size W2 w5) := B4.out.trans (hb.mono B4.out.size)
          have E5 : Hid (Below w.heap.size w w5) := E.out.trans (B5.out.mono E.out.size)
          have p1' := (Xr.out.below hb Xr.out.lt).cell (j := 1) rfl
          clear hb CI hcl p1 Xr
          have c0 := hL0.out w5 B5.out
          have c1 := hq2'.out w5 B5.out
          clear hL0 hq2'
          go_wp2_with fail
          go_quiet (fail)
          go_wp2_with fail
          go_ret
          exact ⟨rfl, below_drewN E5.out _⟩
        · rw [if_neg hb] at hI2
          rw [← hnext.out] at hI2
          have hI3 := Lib.hid hI2
          have tb : decide (r.L ≤ q.L) = false := decide_eq_false hb
          clear hI2
          go_wp2_with (first | (refine wpList_load_at rfl 29 _ rfl (ad.add (k * 3)) rfl [.int .i64 r.L, .int .i64 r.lo, .int .i64 r.hi] _ hun.out rfl hsz.out hcl.out ?_) | fail)
          refine (CI.out _).mono ?_
          rintro e w5 ⟨rfl, hb⟩
          have B5 : Hid (Below W2.heap.size W2 w5) := B4.out.trans (hb.mono B4.out.size)
          have E5 : Hid (Below w.heap.size w w5) := E.out.trans (B5.out.mono E.out.size)
          have p1' := (Xr.out.below hb Xr.out.lt).cell (j := 1) rfl
          clear hb CI hcl p1 Xr
          have c0 := hL0.out w5 B5.out
          have c1 := hq2'.out w5 B5.out
          clear hL0 hq2'
          go_wp2_with fail
          go_quiet (fail)
          go_wp2_with fail
          go_roundg gk
          case measure => omega
          case rel => exact ⟨k + 1, by omega, by go_num, below_drewN B5.out _, hI3⟩

end Go.Proofs.Ytpdalebnodgcdaa
