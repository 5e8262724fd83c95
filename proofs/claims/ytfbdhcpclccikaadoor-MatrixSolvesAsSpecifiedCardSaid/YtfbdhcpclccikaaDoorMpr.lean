/-
  Stage 5: MatrixReducesAsSpecified, the walk.
-/
import Derived.Test.YtfbdhcpclccikaaDoorMwk
import Derived.Test.YtfbdhcpclccikaaDoorMrtu
namespace Go.Proofs.YtfbdhcpclccikaaDoor
set_option linter.unusedVariables false
set_option linter.unusedSimpArgs false
open Go.RowKit

theorem checkP_v (M : List (List UInt8)) (n : Nat) (A : Option Addr) (c : Nat) (w : World) (h : Mat w w.heap.size A M) (hn : M.length = n) (hl : n ≤ 140737488355328) {E : Int} (hE : chk M = E) :
    Calls Tryd.prog 23 #[.slice A n c] w fun e w' => e = .returned (.int .i64 E) ∧ Below w.heap.size w w' := by
  subst hn hE
  exact check_any M A c w h hl
theorem reduceE_v (M : List (List UInt8)) (n1 r : Nat) (A : Option Addr) (c : Nat) (w : World) (h : Mat w w.heap.size A M) (e1 : M.length = n1) (l1 : n1 ≤ 100000) (ht : PTab 0 w) {E : Int} (hE : chk M = E) {R : List (List UInt8)} {p : List Nat} (hR : (if E = 0 then redR M else []) = R) (hp : (if E = 0 then redP M else []) = p) (hr : R.length = r) (hpr : p.length = r) :
    Calls Tryd.prog 21 #[.slice A n1 c] w fun e w' => ∃ A' c' A2 c2, e = .returned (.tuple #[.slice A' r c', .slice A2 r c2, .int .i64 E]) ∧ Mat w' w'.heap.size A' R ∧ Rds w' w'.heap.size A2 (p.map pv) ∧ Below w.heap.size w w' := by
  subst e1
  have := reduceF_any M A c w h (by omega) ht ht.1
  rw [hE, hR, hp] at this
  refine this.mono fun e w' h => ?_
  obtain ⟨⟨A', c', vp, g1, g2, g3, _, g4, A2, c2, rfl, _, _, _, g5⟩, g6⟩ := h
  rw [hr, hpr] at g1
  exact ⟨A', c', A2, c2, g1, g4, g5, g6⟩
theorem rankE_v (M : List (List UInt8)) (n1 r : Nat) (A : Option Addr) (c : Nat) (w : World) (h : Mat w w.heap.size A M) (e1 : M.length = n1) (l1 : n1 ≤ 100000) (ht : PTab 0 w) {E : Int} (hE : chk M = E) (hr : (if E = 0 then redP M else []).length = r) :
    Calls Tryd.prog 22 #[.slice A n1 c] w fun e w' => e = .returned (.tuple #[.int .i64 r, .int .i64 E]) ∧ Below w.heap.size w w' := by
  subst e1
  have := rank_any M A c w h (by omega) ht ht.1
  rw [hE, hr] at this
  exact this
theorem refTranspose_v (M : List (List UInt8)) (n k : Nat) (A : Option Addr) (c : Nat) (w : World) (h : Mat w w.heap.size A M) (hn : M.length = n) (hl : n ≤ 100000) (hE : chk M = 0) (hk : (tr M).length = k) :
    Calls Tryd.prog 24 #[.slice A n c] w fun e w' => ∃ A' c', e = .returned (.agg #[.slice A' k c', .int .i64 0]) ∧ Mat w' w'.heap.size A' (tr M) ∧ Below w.heap.size w w' := by
  subst hn
  have := refTranspose_any M A c w h (Nat.le_refl _) (by omega)
  rw [hE, if_pos rfl] at this
  refine this.mono fun e w' h => ?_
  obtain ⟨⟨A', c', g1, _, _, _, g2⟩, g3⟩ := h
  rw [hk] at g1
  exact ⟨A', c', g1, g2, g3⟩
theorem refReduce_v (M : List (List UInt8)) (n r cc : Nat) (A : Option Addr) (c : Nat) (w : World) (h : Mat w w.heap.size A M) (hn : M.length = n) (hnc : n ≤ c) (hl : n ≤ 100000) (hre : Rect M cc) (hcc : cc ≤ 100000) {R : List (List UInt8)} {p : List Nat} (hR : redR M = R) (hp : redP M = p) (hr : p.length = r) :
    Calls Tryd.prog 25 #[.slice A n c] w fun e w' => ∃ A' c' A2 c2, e = .returned (.agg #[.slice A' r c', .slice A2 r c2]) ∧ Mat w' w'.heap.size A' R ∧ Rds w' w'.heap.size A2 (p.map pv) ∧ Below w.heap.size w w' := by
  refine (refReduce_any (fun _ => False) M A c n cc w (fun y hy => hy.elim) h hn hnc hre hl hcc).mono fun e w' h => ?_
  obtain ⟨A', c', A2, c2, g1, g2, g3, g4, _⟩ := h
  rw [hp, hr] at g1
  rw [hR] at g2
  rw [hp] at g3
  exact ⟨A', c', A2, c2, g1, g2, g3, g4⟩

theorem refReduce_x (y n r cc : Nat) (M : List (List UInt8)) (A : Option Addr) (c : Nat) (w : World) (h : MatX y w A M) (hy : y < w.heap.size) (hn : M.length = n) (hnc : n ≤ c) (hl : n ≤ 100000) (hre : Rect M cc) (hcc : cc ≤ 100000) {R : List (List UInt8)} {p : List Nat} (hR : redR M = R) (hp : redP M = p) (hr : p.length = r) :
    Calls Tryd.prog 25 #[.slice A n c] w fun e w' => ∃ A' c' A2 c2, e = .returned (.agg #[.slice A' r c', .slice A2 r c2]) ∧ MatX y w' A' R ∧ Rds w' w'.heap.size A2 (p.map pv) ∧ Below w.heap.size w w' := by
  refine (refReduce_any (fun z => z = y) M A c n cc w (fun z hz => by rw [hz]; exact ⟨hy, h⟩) h.mat hn hnc hre hl hcc).mono fun e w' h => ?_
  obtain ⟨A', c', A2, c2, g1, _, g3, g4, g5⟩ := h
  rw [hp, hr] at g1
  rw [hp] at g3
  have := g5 y rfl
  rw [hR] at this
  exact ⟨A', c', A2, c2, g1, this, g3, g4⟩

set_option maxRecDepth 100000 in
set_option maxHeartbeats 8000000 in
theorem walk_reduces (A0 : Option Addr) (c0 : Nat) (l0 : List (List UInt8)) (w : World) (H0 : SlM w A0 l0.length c0 l0) (ht : PTab 0 w) :
    Calls Tryd.prog 3 #[.slice A0 l0.length c0] w fun e w' => e = .returned (.bool true) ∧ Below w.heap.size w w' := by
  obtain ⟨n, hn⟩ : ∃ n, l0.length = n := ⟨_, rfl⟩
  have M0 := Lib.hid H0.mat
  have q0 := H0.reach
  have cap0 := H0.cap
  rw [hn] at q0 cap0
  obtain ⟨b0, hb0⟩ : ∃ b, fewB l0 50 = b := ⟨_, rfl⟩
  obtain ⟨E, hE⟩ : ∃ E, chk l0 = E := ⟨_, rfl⟩
  obtain ⟨T, hTT⟩ : ∃ T, (if E = 0 then tr l0 else []) = T := ⟨_, rfl⟩
  obtain ⟨t, ht0⟩ : ∃ n, T.length = n := ⟨_, rfl⟩
  obtain ⟨R, hR⟩ : ∃ T, (if E = 0 then redR l0 else []) = T := ⟨_, rfl⟩
  obtain ⟨p, hp⟩ : ∃ T, (if E = 0 then redP l0 else []) = T := ⟨_, rfl⟩
  obtain ⟨r, hr⟩ : ∃ n, p.length = n := ⟨_, rfl⟩
  have L0 : Hid (b0 = true → n ≤ 50) := fun h => by have := few_len (hb0.trans h); omega
  have hRr : R.length = r := by
    rw [← hr, ← hR, ← hp]
    by_cases h0 : E = 0
    · rw [if_pos h0, if_pos h0]
      exact redR_len (ok_of (hE.trans h0))
    · rw [if_neg h0, if_neg h0]; rfl
  have G0 : Hid (E ≠ 0 → t = 0 ∧ r = 0) := fun h => ⟨by rw [← ht0, ← hTT, if_neg h]; rfl, by rw [← hr, ← hp, if_neg h]; rfl⟩
  have G1 : Hid (E = 0 → chk l0 = 0 ∧ tr l0 = T ∧ redR l0 = R ∧ redP l0 = p ∧ Rect l0 (cols l0) ∧ cols l0 ≤ 48 ∧ (∀ m ∈ T, m.length ≤ 140737488355328) ∧ (∀ m ∈ R, m.length ≤ 140737488355328) ∧ t ≤ 48 ∧ r ≤ 48) := fun h => by
    have o := ok_of (hE.trans h)
    rw [if_pos h] at hTT hR hp
    refine ⟨hE.trans h, hTT, hR, hp, o.rect, o.cols_le, fun m hm => ?_, fun m hm => ?_, ?_, ?_⟩
    · rw [← hTT] at hm
      have := (ok_tr o).cols48 m hm
      omega
    · rw [← hR] at hm
      have := redR_rect o m hm
      have := o.cols_le
      omega
    · rw [← ht0, ← hTT, show (tr l0).length = cols l0 from matF_len _ _ _]; exact o.cols_le
    · rw [← hr, ← hp, redP_rk]
      have := rk_le_len o.rect (cols l0)
      have := o.rows
      omega
  have hT := Lib.hid ht
  have hn' := Lib.hid hn
  have hE' := Lib.hid hE
  have hTT' := Lib.hid hTT
  have ht0' := Lib.hid ht0
  have hR' := Lib.hid hR
  have hp' := Lib.hid hp
  have hr' := Lib.hid hr
  have hRr' := Lib.hid hRr
  have F0 := Lib.hid (few_v l0 n A0 c0 50 w M0.out hn (by omega) hb0)
  have SANF : Hid (∀ W, Below w.heap.size w W → Calls Tryd.prog 18 #[] W fun e w' => e = .returned (.bool true) ∧ Below w.heap.size w w') := fun W hW => (sanity_any5 W (hT.out.on hW)).mono fun e w' h => ⟨h.1, hW.trans (h.2.mono hW.size)⟩
  rw [hn]
  clear hn hb0 hE hTT ht0 hR hp hr hRr H0 ht
  go_enter Tryd.func3, Tryd.ntmps3
  go_wp2_with fail
  refine F0.out.mono ?_
  rintro e w1 ⟨rfl, rfl⟩
  cases b0 with
  | false =>
    go_wp2_with fail
    refine (SANF.out _ (Below.refl _ _)).mono ?_
    rintro e w2 ⟨rfl, hb⟩
    go_wp2_with fail
    go_ret
    exact ⟨rfl, hb⟩
  | true =>
  have L0q := L0.out (by trivial)
  clear L0 F0
  have K0 := Lib.hid (check_v l0 n A0 c0 w M0.out hn'.out (by omega) hE'.out)
  go_wp2_with fail
  refine K0.out.mono ?_
  rintro e w1 ⟨rfl, hb⟩
  have D := Lib.hid hb
  replace M0 := Lib.hid (M0.out.keep hb)
  replace hT := Lib.hid (hT.out.on hb)
  clear hb K0
  have P1 := Lib.hid (transpose_v l0 n t A0 c0 w1 M0.out hn'.out (by omega) hE'.out hTT'.out ht0'.out)
  go_wp2_with fail
  refine P1.out.mono ?_
  rintro e w2 ⟨At, ct, rfl, hm, hb⟩
  have X1 := Lib.hid hm
  replace D := Lib.hid (D.out.trans (hb.mono D.out.size))
  replace M0 := Lib.hid (M0.out.keep hb)
  replace hT := Lib.hid (hT.out.on hb)
  clear hm hb P1
  have P2 := Lib.hid (reduceE_v l0 n r A0 c0 w2 M0.out hn'.out (by omega) hT.out hE'.out hR'.out hp'.out hRr'.out hr'.out)
  go_wp2_with fail
  refine P2.out.mono ?_
  rintro e w3 ⟨Ar, cr, Ap, cp, rfl, hm, hq, hb⟩
  have X2 := Lib.hid hm
  have X3 := Lib.hid hq
  replace D := Lib.hid (D.out.trans (hb.mono D.out.size))
  replace M0 := Lib.hid (M0.out.keep hb)
  replace X1 := Lib.hid (X1.out.keep hb)
  replace hT := Lib.hid (hT.out.on hb)
  clear hm hq hb P2
  have P3 := Lib.hid (rankE_v l0 n r A0 c0 w3 M0.out hn'.out (by omega) hT.out hE'.out (by rw [hp'.out]; exact hr'.out))
  go_wp2_with fail
  refine P3.out.mono ?_
  rintro e w4 ⟨rfl, hb⟩
  replace D := Lib.hid (D.out.trans (hb.mono D.out.size))
  replace M0 := Lib.hid (M0.out.keep hb)
  replace X1 := Lib.hid (X1.out.keep hb)
  replace X2 := Lib.hid (X2.out.keep hb)
  replace X3 := Lib.hid (X3.out.hold hb)
  replace hT := Lib.hid (hT.out.on hb)
  clear hb P3
  have P4 := Lib.hid (checkP_v l0 n A0 c0 w4 M0.out hn'.out (by omega) hE'.out)
  have tEE : (E != E) = false := by simp
  go_wp2_with fail
  refine P4.out.mono ?_
  rintro e w5 ⟨rfl, hb⟩
  replace D := Lib.hid (D.out.trans (hb.mono D.out.size))
  replace M0 := Lib.hid (M0.out.keep hb)
  replace X1 := Lib.hid (X1.out.keep hb)
  replace X2 := Lib.hid (X2.out.keep hb)
  replace X3 := Lib.hid (X3.out.hold hb)
  replace hT := Lib.hid (hT.out.on hb)
  clear hb P4
  by_cases z0 : E = 0
  rotate_left
  · have tz : (E != 0) = true := by simpa using z0
    obtain ⟨rfl, rfl⟩ := G0.out z0
    clear G0 G1 z0
    go_wp2_with fail
    refine (SANF.out _ D.out).mono ?_
    rintro e w6 ⟨rfl, hb⟩
    go_wp2_with fail
    go_ret
    exact ⟨rfl, hb⟩
  obtain ⟨g1, g2, g3, g4, g5, g6, g7, g8, g9, g10⟩ := G1.out z0
  have g1' := Lib.hid g1
  have g2' := Lib.hid g2
  have g3' := Lib.hid g3
  have g4' := Lib.hid g4
  have g5' := Lib.hid g5
  have g6' := Lib.hid g6
  have g7' := Lib.hid g7
  have g8' := Lib.hid g8
  clear G0 G1 g1 g2 g3 g4 g5 g6 g7 g8 hTT' hR' hp' tEE
  subst z0
  have P5 := Lib.hid (refTranspose_v l0 n t A0 c0 w5 M0.out hn'.out (by omega) g1'.out (by rw [g2'.out]; exact ht0'.out))
  go_wp2_with fail
  refine P5.out.mono ?_
  rintro e w6 ⟨Au, cu, rfl, hm, hb⟩
  have Y1 : Hid (Mat w6 w6.heap.size Au T) := by have := hm; rw [g2'.out] at this; exact this
  replace D := Lib.hid (D.out.trans (hb.mono D.out.size))
  replace M0 := Lib.hid (M0.out.keep hb)
  replace X1 := Lib.hid (X1.out.keep hb)
  replace X2 := Lib.hid (X2.out.keep hb)
  replace X3 := Lib.hid (X3.out.hold hb)
  replace hT := Lib.hid (hT.out.on hb)
  clear hm hb P5
  have hRa := Lib.hid (Blk.new w6 [.slice none 0 0, .int .i64 0] 35)
  have hAa : Hid (∀ o, Below w6.heap.size w6 (w6.alloc o)) := fun o => (Below.refl _ _).alloc (Nat.le_refl _) _
  obtain ⟨ga, hga⟩ : ∃ g, g = w6.heap.size := ⟨_, rfl⟩
  have RR : Hid (∀ W, Below w6.heap.size w6 W → Calls Tryd.prog 25 #[.slice A0 n c0] W fun e w' => ∃ A' c' A2 c2, e = .returned (.agg #[.slice A' r c', .slice A2 r c2]) ∧ Mat w' w'.heap.size A' R ∧ Rds w' w'.heap.size A2 (p.map pv) ∧ Below W.heap.size W w') := fun W hW =>
    refReduce_v l0 n r (cols l0) A0 c0 W (M0.out.keep hW) hn'.out cap0 (by omega) g5'.out (by have := g6'.out; omega) g3'.out g4'.out hr'.out
  go_wp2_with (refine wpList_row_store rfl 35 _ _ rfl [.slice Au t cu, .int .i64 0] rfl rfl hRa.out size_made rfl (made_one _ _ _ _) ?_; intro w7 hw7 ho7; have D7 := Lib.hid ((hAa.out _).trans (ho7.below (Nat.le_refl _))); clear ho7)
  refine (RR.out w7 D7.out).mono ?_
  rintro e w8 ⟨Av, cv, Aw, cw, rfl, hm, hq, hb⟩
  have K1 : Hid (Blk w8 ga [.slice Au t cu, .int .i64 0] 35) := by
    show Blk _ _ _ _
    rw [hga]
    exact hw7.out.below hb hw7.out.lt
  have Y2 := Lib.hid hm
  have Y3 := Lib.hid hq
  have hb1 : Below w6.heap.size w6 w8 := D7.out.trans (hb.mono D7.out.size)
  replace D := Lib.hid (D.out.trans (hb1.mono D.out.size))
  replace X1 := Lib.hid (X1.out.keep hb1)
  replace X2 := Lib.hid (X2.out.keep hb1)
  replace X3 := Lib.hid (X3.out.hold hb1)
  replace Y1 := Lib.hid (Y1.out.keep hb1)
  replace hT := Lib.hid (hT.out.on hb1)
  have hga8 : Hid (ga < w8.heap.size) := K1.out.lt
  rw [← hga]
  clear hm hq hb hb1 RR hRa hAa hw7 D7 hga M0
  have hRb := Lib.hid (Blk.new w8 [.slice none 0 0, .slice none 0 0] 38)
  have hAb : Hid (∀ o, Below w8.heap.size w8 (w8.alloc o)) := fun o => (Below.refl _ _).alloc (Nat.le_refl _) _
  obtain ⟨gb, hgb⟩ : ∃ g, g = w8.heap.size := ⟨_, rfl⟩
  have SS : Hid (∀ W, Below w8.heap.size w8 W → Calls Tryd.prog 18 #[] W fun e w' => e = .returned (.bool true) ∧ Below W.heap.size W w') := fun W hW => sanity_any5 W (hT.out.on hW)
  go_wp2_with (refine wpList_row_store rfl 38 _ _ rfl [.slice Av r cv, .slice Aw r cw] rfl rfl hRb.out size_red rfl (red_one _ _ _ _ _ _) ?_; intro w9 hw9 ho9; have D9 := Lib.hid ((hAb.out _).trans (ho9.below (Nat.le_refl _))); clear ho9)
  refine (SS.out w9 D9.out).mono ?_
  rintro e w10 ⟨rfl, hb⟩
  have K2 : Hid (Blk w10 gb [.slice Av r cv, .slice Aw r cw] 38) := by
    show Blk _ _ _ _
    rw [hgb]
    exact hw9.out.below hb hw9.out.lt
  have hb1 : Below w8.heap.size w8 w10 := D9.out.trans (hb.mono D9.out.size)
  replace D := Lib.hid (D.out.trans (hb1.mono D.out.size))
  replace K1 := Lib.hid (K1.out.below hb1 hga8.out)
  replace X1 := Lib.hid (X1.out.keep hb1)
  replace X2 := Lib.hid (X2.out.keep hb1)
  replace X3 := Lib.hid (X3.out.hold hb1)
  replace Y1 := Lib.hid (Y1.out.keep hb1)
  replace Y2 := Lib.hid (Y2.out.keep hb1)
  replace Y3 := Lib.hid (Y3.out.hold hb1)
  rw [← hgb]
  clear hb hb1 SS hRb hAb hw9 D9 hgb hga8 hT
  have q1 := K1.out.cell (j := 0) rfl
  have S1 := Lib.hid (same_v T T t t At Au ct cu w10 X1.out Y1.out ht0'.out ht0'.out (by omega) g7'.out (sameB_self _))
  go_wp2_with fail
  refine S1.out.mono ?_
  rintro e w11 ⟨rfl, hb⟩
  replace D := Lib.hid (D.out.trans (hb.mono D.out.size))
  replace K2 := Lib.hid (K2.out.below hb K2.out.lt)
  replace X2 := Lib.hid (X2.out.keep hb)
  replace X3 := Lib.hid (X3.out.hold hb)
  replace Y2 := Lib.hid (Y2.out.keep hb)
  replace Y3 := Lib.hid (Y3.out.hold hb)
  clear hb S1 q1 K1 X1 Y1
  have q2 := K2.out.cell (j := 0) rfl
  have S2 := Lib.hid (same_v R R r r Ar Av cr cv w11 X2.out Y2.out hRr'.out hRr'.out (by omega) g8'.out (sameB_self _))
  go_wp2_with fail
  refine S2.out.mono ?_
  rintro e w12 ⟨rfl, hb⟩
  replace D := Lib.hid (D.out.trans (hb.mono D.out.size))
  replace K2 := Lib.hid (K2.out.below hb K2.out.lt)
  replace X3 := Lib.hid (X3.out.hold hb)
  replace Y3 := Lib.hid (Y3.out.hold hb)
  clear hb S2 q2 X2 Y2
  have q3 := K2.out.cell (j := 1) rfl
  have S3 := Lib.hid (sameList_v p p r r Ap Aw cp cw w12 X3.out Y3.out hr'.out hr'.out (by omega) (sameB_self _))
  go_wp2_with fail
  refine S3.out.mono ?_
  rintro e w13 ⟨rfl, hb⟩
  replace D := Lib.hid (D.out.trans (hb.mono D.out.size))
  replace K2 := Lib.hid (K2.out.below hb K2.out.lt)
  clear hb S3 q3 X3 Y3
  have q4 := K2.out.cell (j := 1) rfl
  have trr : ((r : Int) == (r : Int)) = true := by simp
  go_wp2_with fail
  go_ret
  exact ⟨rfl, D.out⟩
end Go.Proofs.YtfbdhcpclccikaaDoor
