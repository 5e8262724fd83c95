/-
  Stage 12, the specification: Same, for two perils that are the same.
-/
import Derived.Test.YtgajlgnniidgmaaDoorYzc
namespace Go.Proofs.YtgajlgnniidgmaaDoor
set_option linter.unusedVariables false
set_option linter.unusedSimpArgs false
open Go.RowKit Go.Maps

set_option maxRecDepth 100000 in
set_option maxHeartbeats 8000000 in
theorem same12_any {B : Nat} (p q : Prl) (w : World) (hM : PerM w B p) (hN : PerM w B q) (e1 : q.D = p.D) (e2 : q.G = p.G) (e3 : q.Gs = p.Gs) (e4 : q.al = p.al) (e5 : q.ch = p.ch) :
    Calls Tryd.prog 26 #[prv p, prv q] w fun e w' => e = .returned (.bool true) ∧ Below w.heap.size w w' := by
  have a1 := hM.cod.len
  have a2 := hN.cod.len
  have a3 := hM.n1
  have a4 := hN.n1
  have a5 := hM.n2
  have a6 := hN.n2
  have a7 := hM.cod.small
  have a8 := hM.s1
  have a9 := hM.s2
  rcases p with ⟨D, A, n, c, G, Gs, A1, n1, c1, al, A2, n2, c2, ch⟩
  rcases q with ⟨D', A', n', c', G', Gs', A1', n1', c1', al', A2', n2', c2', ch'⟩
  dsimp only at e1 e2 e3 e4 e5 a1 a2 a3 a4 a5 a6 a7 a8 a9
  subst e1 e2 e3 e4 e5
  obtain rfl : n' = n := a2.trans a1.symm
  obtain rfl : n1' = n1 := a4.trans a3.symm
  obtain rfl : n2' = n2 := a6.trans a5.symm
  have hG1 : Hid (GrpM w B A Gs') := hM.cod.m
  have hG2 : Hid (GrpM w B A' Gs') := hN.cod.m
  have hA1 : Hid (Rds w B A1 (al'.map iv)) := hM.al
  have hA2 : Hid (Rds w B A1' (al'.map iv)) := hN.al
  have hC1 : Hid (Rds w B A2 (ch'.map iv)) := hM.ch
  have hC2 : Hid (Rds w B A2' (ch'.map iv)) := hN.ch
  have hle := hM.le
  have hn := Lib.hid a1
  have hn1 := Lib.hid a3
  have hn2 := Lib.hid a5
  rw [prv_eq12, prv_eq12]
  dsimp only
  obtain ⟨W2, hW2⟩ : ∃ W2, W2 = (w.alloc (.cells #[.int .i64 D', .slice A n' c, .int .i64 G', .slice A1 n1' c1, .slice A2 n2' c2] 27)).alloc (.cells #[.int .i64 D', .slice A' n' c', .int .i64 G', .slice A1' n1' c1', .slice A2' n2' c2'] 27) := ⟨_, rfl⟩
  have E : Hid (Below w.heap.size w W2) := by show Below _ _ _; rw [hW2]; exact ((Below.refl _ _).alloc (Nat.le_refl _) _).alloc (by simp) _
  have X : Hid (Blk W2 w.heap.size [.int .i64 D', .slice A n' c, .int .i64 G', .slice A1 n1' c1, .slice A2 n2' c2] 27) := by show Blk _ _ _ _; rw [hW2]; exact (Blk.new _ [_, _, _, _, _] _).alloc _
  have Y : Hid (Blk W2 (w.heap.size + 1) [.int .i64 D', .slice A' n' c', .int .i64 G', .slice A1' n1' c1', .slice A2' n2' c2'] 27) := by show Blk _ _ _ _; rw [hW2]; exact (Blk.new _ [_, _, _, _, _] _).at (by simp)
  have hW' := Lib.hid hW2
  replace hG1 := Lib.hid (hG1.out.below (E.out.mono hle))
  replace hG2 := Lib.hid (hG2.out.below (E.out.mono hle))
  replace hA1 := Lib.hid (hA1.out.below (E.out.mono hle))
  replace hA2 := Lib.hid (hA2.out.below (E.out.mono hle))
  replace hC1 := Lib.hid (hC1.out.below (E.out.mono hle))
  replace hC2 := Lib.hid (hC2.out.below (E.out.mono hle))
  have p0 := X.out.cell (j := 0) rfl
  have p1 := X.out.cell (j := 1) rfl
  have p2 := X.out.cell (j := 2) rfl
  have p3 := X.out.cell (j := 3) rfl
  have p4 := X.out.cell (j := 4) rfl
  have q0 := Y.out.cell (j := 0) rfl
  have q1 := Y.out.cell (j := 1) rfl
  have q2 := Y.out.cell (j := 2) rfl
  have q3 := Y.out.cell (j := 3) rfl
  have q4 := Y.out.cell (j := 4) rfl
  clear hM hN hW2 a1 a2 a3 a4 a5 a6 hle
  go_enter Tryd.func26, Tryd.ntmps26
  go_upto_region 1 with fail
  generalize hg : (w.alloc _).alloc _ = Wg
  have hgW : W2 = Wg := by rw [← hg, hW'.out]
  clear hg hW'
  subst hgW
  go_wp2_with fail
  go_loopw [5] (fun i wr => ∃ k m : Nat, k ≤ n' ∧ i = .int .i64 k ∧ wr = W2.drewN m) (fun i _ => n' - (intOf i).toNat)
  case atStart => exact ⟨0, 0, by omega, rfl, rfl⟩
  case round =>
    obtain ⟨k, m, hk, rfl, rfl⟩ := hrel
    by_cases hlt : k < n'
    · have t : (k : Int) < (n' : Int) := by omega
      have t0 : 0 ≤ (k : Int) := by omega
      obtain ⟨g, hg⟩ : ∃ g, Gs'[k]? = some g := ⟨_, List.getElem?_eq_getElem (by rw [← hn.out]; exact hlt)⟩
      obtain ⟨ad, v, rfl, hab, hcv, a, ca, rfl, hgl, hcl, hca, hra⟩ := hG1.out.at hg
      obtain ⟨bd, v, rfl, hbb, hdv, b, cb, rfl, hgl2, hcl2, hcb, hrb⟩ := hG2.out.at hg
      have hraH := Lib.hid hra
      have hrbH := Lib.hid hrb
      obtain ⟨l, hl⟩ : ∃ l, l = g.length := ⟨_, rfl⟩
      rw [← hl] at hcv hdv
      have hlH := Lib.hid hl
      have hl9 : l ≤ 9223372036854775807 := by have : maxLen = 9223372036854775807 := rfl; omega
      clear hg hgl hcl hca hra hgl2 hcl2 hcb hrb hl
      go_wp2_with fail
      go_quiet (fail)
      go_wp2_with fail
      go_loopw [6] (fun i wr => ∃ j m : Nat, j ≤ l ∧ i = .int .i64 j ∧ wr = W2.drewN m) (fun i _ => l - (intOf i).toNat)
      case atStart => exact ⟨0, _, by omega, rfl, by first | rfl | (go_simp; rfl)⟩
      case round =>
        obtain ⟨j, m2, hj, rfl, rfl⟩ := hrel
        by_cases hlj : j < l
        · have tj : (j : Int) < (l : Int) := by omega
          have tj0 : 0 ≤ (j : Int) := by omega
          obtain ⟨x, hx⟩ : ∃ x, g[j]? = some x := ⟨_, List.getElem?_eq_getElem (by rw [← hlH.out]; exact hlj)⟩
          obtain ⟨cd, rfl, _, hcx⟩ := hraH.out.look (k := j) (u := iv x) (by rw [List.getElem?_map, hx]; rfl)
          obtain ⟨dd, rfl, _, hdx⟩ := hrbH.out.look (k := j) (u := iv x) (by rw [List.getElem?_map, hx]; rfl)
          unfold iv at hcx hdx
          clear hx
          go_wp2_with fail
          go_quiet (fail)
          go_wp2_with fail
          go_roundw
          case rel => exact ⟨j + 1, _, by omega, by go_num, by first | rfl | (go_simp; rfl)⟩
          case measure => simp [intOf]; omega
        · have tj : ¬ (j : Int) < (l : Int) := by omega
          go_wp2_with fail
          go_roundw
          case rel => exact ⟨k + 1, _, by omega, by go_num, by first | rfl | (go_simp; rfl)⟩
          case measure => simp [intOf]; omega
    · have t : ¬ (k : Int) < (n' : Int) := by omega
      clear hk hlt
      go_wp2_with fail
      go_loopw [7] (fun i wr => ∃ j m : Nat, j ≤ n1' ∧ i = .int .i64 j ∧ wr = W2.drewN m) (fun i _ => n1' - (intOf i).toNat)
      case atStart => exact ⟨0, _, by omega, rfl, by first | rfl | (go_simp; rfl)⟩
      case round =>
        obtain ⟨j, m2, hj, rfl, rfl⟩ := hrel
        by_cases hlj : j < n1'
        · have tj : (j : Int) < (n1' : Int) := by omega
          have tj0 : 0 ≤ (j : Int) := by omega
          obtain ⟨x, hx⟩ : ∃ x, al'[j]? = some x := ⟨_, List.getElem?_eq_getElem (by rw [← hn1.out]; exact hlj)⟩
          obtain ⟨cd, rfl, _, hcx⟩ := hA1.out.look (k := j) (u := iv x) (by rw [List.getElem?_map, hx]; rfl)
          obtain ⟨dd, rfl, _, hdx⟩ := hA2.out.look (k := j) (u := iv x) (by rw [List.getElem?_map, hx]; rfl)
          unfold iv at hcx hdx
          clear hx
          go_wp2_with fail
          go_quiet (fail)
          go_wp2_with fail
          go_roundw
          case rel => exact ⟨j + 1, _, by omega, by go_num, by first | rfl | (go_simp; rfl)⟩
          case measure => simp [intOf]; omega
        · have tj : ¬ (j : Int) < (n1' : Int) := by omega
          clear hj hlj
          go_wp2_with fail
          go_loopw [8] (fun i wr => ∃ j m : Nat, j ≤ n2' ∧ i = .int .i64 j ∧ wr = W2.drewN m) (fun i _ => n2' - (intOf i).toNat)
          case atStart => exact ⟨0, _, by omega, rfl, by first | rfl | (go_simp; rfl)⟩
          case round =>
            obtain ⟨i, m3, hi, rfl, rfl⟩ := hrel
            by_cases hli : i < n2'
            · have ti : (i : Int) < (n2' : Int) := by omega
              have ti0 : 0 ≤ (i : Int) := by omega
              obtain ⟨x, hx⟩ : ∃ x, ch'[i]? = some x := ⟨_, List.getElem?_eq_getElem (by rw [← hn2.out]; exact hli)⟩
              obtain ⟨cd, rfl, _, hcx⟩ := hC1.out.look (k := i) (u := iv x) (by rw [List.getElem?_map, hx]; rfl)
              obtain ⟨dd, rfl, _, hdx⟩ := hC2.out.look (k := i) (u := iv x) (by rw [List.getElem?_map, hx]; rfl)
              unfold iv at hcx hdx
              clear hx
              go_wp2_with fail
              go_quiet (fail)
              go_wp2_with fail
              go_roundw
              case rel => exact ⟨i + 1, _, by omega, by go_num, by first | rfl | (go_simp; rfl)⟩
              case measure => simp [intOf]; omega
            · have ti : ¬ (i : Int) < (n2' : Int) := by omega
              go_wp2_with fail
              go_ret
              exact ⟨rfl, below_drewN E.out _⟩
end Go.Proofs.YtgajlgnniidgmaaDoor
