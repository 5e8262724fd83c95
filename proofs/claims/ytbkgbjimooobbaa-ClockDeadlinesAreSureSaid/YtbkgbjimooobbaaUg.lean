/-
  Stage 14 (clock): Check of the program and of the specification, checkAt, wrong. (Written by tools/genug.py.)
-/
import Derived.Test.YtbkgbjimooobbaaUf
namespace Go.Proofs.Ytbkgbjimooobbaa
set_option linter.unusedVariables false
set_option linter.unusedSimpArgs false
open Go.RowKit

/-- A reading in its place, as three cells. -/
theorem ClkM.rd3 {w : World} {B : Nat} {k : Clk} (m : ClkM w B k) {j : Nat} {r : Rdg} (hj : k.l[j]? = some r) : ∃ ad, k.A = some ad ∧ ad.block < B ∧ ∀ i v, ([.int .i64 r.L, .int .i64 r.lo, .int .i64 r.hi] : List Value)[i]? = some v → w.cell? ((ad.add (j * 3)).add i) = some v := by
  obtain ⟨ad, e, hb, h0, h1, h2⟩ := m.rd hj
  refine ⟨ad, e, hb, fun i v hi => ?_⟩
  rw [add_twice]
  rcases i with _ | _ | _ | i
  · rw [← Option.some.inj hi]; exact h0
  · rw [← Option.some.inj hi]; exact h1
  · rw [← Option.some.inj hi]; exact h2
  · simp at hi

set_option maxRecDepth 100000 in
set_option maxHeartbeats 8000000 in
theorem check14_any {B : Nat} (k : Clk) (w : World) (m : ClkM w B k) :
    Calls Try.prog 16 #[.agg #[.int .i64 k.rate, .slice k.A k.n k.c]] w fun e w' => e = .returned (.int .i64 (chkK k.rate k.l)) ∧ Below w.heap.size w w' := by
  have hfr := m.fr
  rcases k with ⟨rate, A, n, c, l⟩
  dsimp only at *
  obtain ⟨W2, hW2⟩ : ∃ W2, W2 = w.alloc (.cells #[.int .i64 rate, .slice A n c] 30) := ⟨_, rfl⟩
  have E : Hid (Below w.heap.size w W2) := by show Below _ _ _; rw [hW2]; exact (Below.refl _ _).alloc (Nat.le_refl _) _
  have X1 : Hid (Blk W2 w.heap.size [.int .i64 rate, .slice A n c] 30) := by show Blk _ _ _ _; rw [hW2]; exact Blk.new w [.int .i64 rate, .slice A n c] _
  have M := Lib.hid (m.below E.out)
  have hn : Hid (n = l.length) := m.len
  have hsm := m.small
  have hB := m.le
  have hW2' := Lib.hid hW2
  clear hW2 m
  have hsz := Lib.hid size_rdg
  have hun : Hid (Try.prog.underlying 48 = _) := Try.underlying48
  dsimp only at hsm
  obtain ⟨R, hR⟩ : ∃ R, R = chkK rate l := ⟨_, rfl⟩
  rw [← hR]
  unfold chkK at hR
  have CR := Lib.hid (fun W => isRate_any rate W)
  obtain ⟨x, hx⟩ : ∃ x, okRate rate = x := ⟨_, rfl⟩
  rw [hx] at CR hR
  clear hx
  cases x with
  | false =>
    rw [if_pos rfl] at hR
    subst hR
    have p0 := X1.out.cell (j := 0) rfl
    have p1 := X1.out.cell (j := 1) rfl
    go_enter Try.func16, Try.ntmps16
    go_upto_region 1 with fail
    generalize hgg : w.alloc _ = Wg
    have hgW : W2 = Wg := by rw [← hgg, hW2'.out]
    clear hgg hW2'
    subst hgW
    go_wp2_with fail
    refine (CR.out _).mono ?_
    rintro e w' ⟨rfl, rfl⟩
    go_wp2_with fail
    go_ret
    exact ⟨rfl, E.out⟩
  | true =>
    rw [if_neg (by simp)] at hR
    by_cases h16 : 16 < n
    · rw [if_pos (by rw [← hn.out]; exact h16)] at hR
      subst hR
      have t16 : (16 : Int) < (n : Int) := by omega
      have p0 := X1.out.cell (j := 0) rfl
      have p1 := X1.out.cell (j := 1) rfl
      go_enter Try.func16, Try.ntmps16
      go_upto_region 1 with fail
      generalize hgg : w.alloc _ = Wg
      have hgW : W2 = Wg := by rw [← hgg, hW2'.out]
      clear hgg hW2'
      subst hgW
      go_wp2_with fail
      refine (CR.out _).mono ?_
      rintro e w' ⟨rfl, rfl⟩
      go_wp2_with fail
      go_ret
      exact ⟨rfl, E.out⟩
    · rw [if_neg (by rw [← hn.out]; exact h16)] at hR
      have t16 : ¬ (16 : Int) < (n : Int) := by omega
      have hRH := Lib.hid hR
      clear hR
      have p0 := X1.out.cell (j := 0) rfl
      have p1 := X1.out.cell (j := 1) rfl
      go_enter Try.func16, Try.ntmps16
      go_upto_region 1 with fail
      generalize hgg : w.alloc _ = Wg
      have hgW : W2 = Wg := by rw [← hgg, hW2'.out]
      clear hgg hW2'
      subst hgW
      go_wp2_with fail
      refine (CR.out _).mono ?_
      rintro e w' ⟨rfl, rfl⟩
      clear CR
      go_wp2_with fail
      obtain ⟨wo, hwo⟩ : ∃ wo, wo = w' := ⟨_, rfl⟩
      clear p0 p1
      go_loopg [3, 19] n (fun g s3 s19 wx => ∃ (k : Nat) (b : Int), k + g = n ∧ s19 = .int .i64 k ∧ s3 = .int .i64 b ∧ Hid (Below w.heap.size w wx) ∧ Hid (R = chkG (l.drop k) b))
      case atStart => exact ⟨0, -1, by omega, rfl, rfl, E, hRH⟩
      case round =>
        obtain ⟨k, b, hkg, rfl, rfl, E4, hI⟩ := hrel
        clear hRH
        cases gk with
        | zero =>
          have hkz : ¬ ((k : Int) < (n : Int)) := by omega
          have hz : R = 0 := by rw [hI.out, List.drop_eq_nil_of_le (by have := hn.out; omega)]; rfl
          subst hz
          go_wp2_with fail
          go_ret
          exact ⟨rfl, E4.out⟩
        | succ gk =>
          have hkz : (k : Int) < (n : Int) := by omega
          obtain ⟨r, hx⟩ : ∃ x, l[k]? = some x := ⟨_, List.getElem?_eq_getElem (by have := hn.out; omega)⟩
          have hdrop : l.drop k = r :: l.drop (k + 1) := by rw [List.drop_eq_getElem_cons (List.getElem?_eq_some_iff.1 hx).1, (List.getElem?_eq_some_iff.1 hx).2]
          rw [hdrop] at hI
          have hI2 := hI.out
          unfold chkG at hI2
          have hf : Hid (Wm.Fits r.L) := (M.out.fits r (List.mem_of_getElem? hx)).1
          obtain ⟨ad, hA, hbb, hcl0⟩ := M.out.rd3 hx
          dsimp only at hA
          subst hA
          have hlt : B ≤ w.heap.size := hB
          have hcl : Hid (∀ i v, ([.int .i64 r.L, .int .i64 r.lo, .int .i64 r.hi] : List Value)[i]? = some v → wr.cell? ((ad.add (k * 3)).add i) = some v) := fun i v hi => by
            have h1 : ((ad.add (k * 3)).add i).block < w.heap.size := by rw [add_block, add_block]; omega
            exact (E4.out.cell h1).trans ((E.out.cell h1).symm.trans (hcl0 i v hi))
          obtain ⟨W3, hW3⟩ : ∃ W3, W3 = wr.alloc (.cells #[.int .i64 r.L, .int .i64 r.lo, .int .i64 r.hi] 48) := ⟨_, rfl⟩
          have b3 : Hid (Below wr.heap.size wr W3) := by show Below _ _ _; rw [hW3]; exact (Below.refl _ _).alloc (Nat.le_refl _) _
          have E3 : Hid (Below w.heap.size w W3) := E4.out.trans (b3.out.mono E4.out.size)
          have X3 : Hid (Blk W3 wr.heap.size [.int .i64 r.L, .int .i64 r.lo, .int .i64 r.hi] 48) := by show Blk _ _ _ _; rw [hW3]; exact Blk.new _ [_, _, _] _
          have hW3' := Lib.hid hW3
          have CI := Lib.hid (fun W => isReading_any r W)
          clear hW3 hcl0 hx hdrop hI
          obtain ⟨y, hy⟩ : ∃ y, okR r = y := ⟨_, rfl⟩
          rw [hy] at CI hI2
          clear hy
          cases y with
          | false =>
            rw [if_pos rfl] at hI2
            subst hI2
            go_upto_region 9 with (first | (refine wpList_load_at rfl 48 _ rfl (ad.add (k * 3)) rfl [.int .i64 r.L, .int .i64 r.lo, .int .i64 r.hi] _ hun.out rfl hsz.out hcl.out ?_) | fail)
            generalize hgg : wr.alloc _ = Wg
            have hgW : W3 = Wg := by rw [← hgg, hW3'.out]
            clear hgg hW3'
            subst hgW
            go_wp2_with (first | (refine wpList_blk_load rfl 48 _ rfl 0 rfl X3.out [_, _, _] rfl _ hun.out rfl hsz.out ?_) | fail)
            refine (CI.out _).mono ?_
            rintro e w5 ⟨rfl, hb⟩
            have E5 := Lib.hid (E3.out.trans (hb.mono E3.out.size))
            have p0 := (X3.out.below hb X3.out.lt).cell (j := 0) rfl
            clear hb CI hcl X3 b3
            go_wp2_with fail
            go_ret
            exact ⟨rfl, E5.out⟩
          | true =>
            rw [if_neg (by simp)] at hI2
            by_cases hb : r.L ≤ b
            · rw [if_pos hb] at hI2
              subst hI2
              go_upto_region 9 with (first | (refine wpList_load_at rfl 48 _ rfl (ad.add (k * 3)) rfl [.int .i64 r.L, .int .i64 r.lo, .int .i64 r.hi] _ hun.out rfl hsz.out hcl.out ?_) | fail)
              generalize hgg : wr.alloc _ = Wg
              have hgW : W3 = Wg := by rw [← hgg, hW3'.out]
              clear hgg hW3'
              subst hgW
              go_wp2_with (first | (refine wpList_blk_load rfl 48 _ rfl 0 rfl X3.out [_, _, _] rfl _ hun.out rfl hsz.out ?_) | fail)
              refine (CI.out _).mono ?_
              rintro e w5 ⟨rfl, hb⟩
              have E5 := Lib.hid (E3.out.trans (hb.mono E3.out.size))
              have p0 := (X3.out.below hb X3.out.lt).cell (j := 0) rfl
              clear hb CI hcl X3 b3
              go_wp2_with fail
              go_ret
              exact ⟨rfl, E5.out⟩
            · rw [if_neg hb] at hI2
              have hI3 := Lib.hid hI2
              clear hI2
              go_upto_region 9 with (first | (refine wpList_load_at rfl 48 _ rfl (ad.add (k * 3)) rfl [.int .i64 r.L, .int .i64 r.lo, .int .i64 r.hi] _ hun.out rfl hsz.out hcl.out ?_) | fail)
              generalize hgg : wr.alloc _ = Wg
              have hgW : W3 = Wg := by rw [← hgg, hW3'.out]
              clear hgg hW3'
              subst hgW
              go_wp2_with (first | (refine wpList_blk_load rfl 48 _ rfl 0 rfl X3.out [_, _, _] rfl _ hun.out rfl hsz.out ?_) | fail)
              refine (CI.out _).mono ?_
              rintro e w5 ⟨rfl, hb⟩
              have E5 := Lib.hid (E3.out.trans (hb.mono E3.out.size))
              have p0 := (X3.out.below hb X3.out.lt).cell (j := 0) rfl
              clear hb CI hcl X3 b3
              go_wp2_with fail
              go_roundg gk
              case measure => omega
              case rel => exact ⟨k + 1, r.L, by omega, by go_num, rfl, E5, hI3⟩

def prevL (l : List Rdg) : Nat → Int
  | 0 => -1
  | j + 1 => (l.getD j ⟨0, 0, 0⟩).L

end Go.Proofs.Ytbkgbjimooobbaa
