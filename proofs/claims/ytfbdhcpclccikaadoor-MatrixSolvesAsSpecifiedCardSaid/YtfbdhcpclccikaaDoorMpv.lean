/-
  Stage 5: MatrixSolvesAsSpecified, the walk.
-/
import Derived.Test.YtfbdhcpclccikaaDoorMrza
import Derived.Test.YtfbdhcpclccikaaDoorMwk
namespace Go.Proofs.YtfbdhcpclccikaaDoor
set_option linter.unusedVariables false
set_option linter.unusedSimpArgs false
open Go.RowKit

theorem solveK_caps {M : List (List UInt8)} {b : List UInt8} : ∀ v ∈ solveK M b, v.length ≤ 48 := fun v hv => by
  unfold solveK at hv
  by_cases h : solveE M b = 0
  · rw [if_pos h] at hv
    have hc : chk M = 0 := by
      unfold solveE at h
      by_cases h2 : chk M = 0
      · exact h2
      · rw [if_pos h2] at h; exact absurd h h2
    rw [kers_rect _ _ _ v hv]
    exact (ok_of hc).cols_le
  · rw [if_neg h] at hv; cases hv
theorem invM_caps {M : List (List UInt8)} {n : Nat} (hn : M.length = n) : ∀ v ∈ invM M, v.length ≤ n := fun v hv => by
  by_cases h : invE M = 0
  · have := (invM_rect h).1 v hv
    omega
  · unfold invM at hv
    rw [if_neg h] at hv; cases hv
theorem refSolve_v (M : List (List UInt8)) (b : List UInt8) (m nb x k : Nat) (A Ab : Option Addr) (c cb : Nat) (w : World) (h : Mat w w.heap.size A M) (hb : Rds w w.heap.size Ab (b.map bv)) (hm : M.length = m) (hbl : b.length = nb) (hl : m ≤ 100000) {E : Int} {X : List UInt8} {K : List (List UInt8)} (hE : solveE M b = E) (hX : solveX M b = X) (hK : solveK M b = K) (hx : X.length = x) (hk : K.length = k) :
    Calls Tryd.prog 29 #[.slice A m c, .slice Ab nb cb] w fun e w' => ∃ A' c' A2 c2, e = .returned (.agg #[.slice A' x c', .slice A2 k c2, .int .i64 E]) ∧ Rds w' w'.heap.size A' (X.map bv) ∧ Mat w' w'.heap.size A2 K ∧ Below w.heap.size w w' := by
  refine (refSolve_any M b A Ab c cb m nb w h hb hm hbl hl).mono fun e w' h => ?_
  obtain ⟨Ax, cx, Ak, ck, g1, g2, g3, g4, _⟩ := h
  rw [hX, hK, hE, hx, hk] at g1
  rw [hX] at g2
  rw [hK] at g3
  exact ⟨Ax, cx, Ak, ck, g1, g2, g3, g4⟩
theorem refInverse_v (M : List (List UInt8)) (n t : Nat) (A : Option Addr) (c : Nat) (w : World) (h : Mat w w.heap.size A M) (hn : M.length = n) (hl : n ≤ 100000) {T : List (List UInt8)} {E : Int} (hE : invE M = E) (hT : invM M = T) (ht : T.length = t) :
    Calls Tryd.prog 31 #[.slice A n c] w fun e w' => ∃ A' c', e = .returned (.agg #[.slice A' t c', .int .i64 E]) ∧ Mat w' w'.heap.size A' T ∧ Below w.heap.size w w' := by
  refine (refInverse_any M A c n w h hn hl).mono fun e w' h => ?_
  obtain ⟨⟨A', c', g1, _, _, _, g2⟩, g3⟩ := h
  rw [hT, hE, ht] at g1
  rw [hT] at g2
  exact ⟨A', c', g1, g2, g3⟩
theorem refExpress_v (R : List (List UInt8)) (row : List UInt8) (n q l : Nat) (A Ar : Option Addr) (c cr : Nat) (w : World) (h : Mat w w.heap.size A R) (hrow : Rds w w.heap.size Ar (row.map bv)) (hn : R.length = n) (hq : row.length = q) (hl : n ≤ 100000) {L : List UInt8} {E : Int} (hE : expE R row = E) (hL : expL R row = L) (hll : L.length = l) :
    Calls Tryd.prog 33 #[.slice A n c, .slice Ar q cr] w fun e w' => ∃ A' c', e = .returned (.agg #[.slice A' l c', .int .i64 E]) ∧ Rds w' w'.heap.size A' (L.map bv) ∧ Below w.heap.size w w' := by
  refine (refExpress_any R row A Ar c cr n q w h hrow hn hq hl).mono fun e w' h => ?_
  obtain ⟨A', c', g1, g2, g3⟩ := h
  rw [hL, hE, hll] at g1
  rw [hL] at g2
  exact ⟨A', c', g1, g2, g3⟩

set_option maxRecDepth 100000 in
set_option maxHeartbeats 8000000 in
theorem walk_solves (A0 : Option Addr) (c0 : Nat) (l0 : List (List UInt8)) (A1 : Option Addr) (c1 : Nat) (l1 : List UInt8) (w : World) (H0 : SlM w A0 l0.length c0 l0) (H1 : SlB w A1 l1.length c1 l1) (ht : PTab 0 w) :
    Calls Tryd.prog 4 #[.slice A0 l0.length c0, .slice A1 l1.length c1] w fun e w' => e = .returned (.bool true) ∧ Below w.heap.size w w' := by
  obtain ⟨n, hn⟩ : ∃ n, l0.length = n := ⟨_, rfl⟩
  obtain ⟨m, hm⟩ : ∃ n, l1.length = n := ⟨_, rfl⟩
  have M0 := Lib.hid H0.mat
  have V1 := Lib.hid H1.rds
  have q0 := H0.reach
  rw [hn] at q0
  obtain ⟨b0, hb0⟩ : ∃ b, fewB l0 50 = b := ⟨_, rfl⟩
  obtain ⟨E1, hE1⟩ : ∃ E, solveE l0 l1 = E := ⟨_, rfl⟩
  obtain ⟨X, hX⟩ : ∃ E, solveX l0 l1 = E := ⟨_, rfl⟩
  obtain ⟨K, hK⟩ : ∃ E, solveK l0 l1 = E := ⟨_, rfl⟩
  obtain ⟨x, hx⟩ : ∃ E, X.length = E := ⟨_, rfl⟩
  obtain ⟨k, hk⟩ : ∃ E, K.length = E := ⟨_, rfl⟩
  obtain ⟨E2, hE2⟩ : ∃ E, invE l0 = E := ⟨_, rfl⟩
  obtain ⟨T, hTT⟩ : ∃ E, invM l0 = E := ⟨_, rfl⟩
  obtain ⟨t, htt⟩ : ∃ E, T.length = E := ⟨_, rfl⟩
  obtain ⟨E3, hE3⟩ : ∃ E, expE l0 l1 = E := ⟨_, rfl⟩
  obtain ⟨L, hL⟩ : ∃ E, expL l0 l1 = E := ⟨_, rfl⟩
  obtain ⟨l, hl⟩ : ∃ E, L.length = E := ⟨_, rfl⟩
  have L0 : Hid (b0 = true → n ≤ 50) := fun h => by have := few_len (hb0.trans h); omega
  have kcap : Hid (∀ v ∈ K, v.length ≤ 140737488355328) := fun v hv => by rw [← hK] at hv; have := solveK_caps v hv; omega
  have tcap : Hid (∀ v ∈ T, v.length ≤ 140737488355328) := fun v hv => by rw [← hTT] at hv; have := invM_caps hn v hv; omega
  have kbound : k ≤ 100000 := by
    rw [← hk, ← hK]
    unfold solveK
    by_cases h : solveE l0 l1 = 0
    · rw [if_pos h]
      have hc : chk l0 = 0 := by
        unfold solveE at h
        by_cases h2 : chk l0 = 0
        · exact h2
        · rw [if_pos h2] at h; exact absurd h h2
      have h3 := kers_len (red (sysM l0 l1) (cols l0)).1 (red (sysM l0 l1) (cols l0)).2 (cols l0) (cols l0)
      have := (ok_of hc).cols_le
      omega
    · rw [if_neg h]; simp
  have xbound : x ≤ 100000 := by
    rw [← hx, ← hX]
    unfold solveX
    by_cases h : solveE l0 l1 = 0
    · rw [if_pos h, solX_len]
      have hc : chk l0 = 0 := by
        unfold solveE at h
        by_cases h2 : chk l0 = 0
        · exact h2
        · rw [if_pos h2] at h; exact absurd h h2
      have := (ok_of hc).cols_le
      omega
    · rw [if_neg h]; simp
  have tbound : Hid (b0 = true → t ≤ 100000) := fun h => by
    have h50 := few_len (hb0.trans h)
    show t ≤ 100000
    rw [← htt, ← hTT]
    unfold invM
    split
    · rw [matF_len]; omega
    · simp
  have lbound : Hid (b0 = true → l ≤ 100000) := fun h => by
    have h50 := few_len (hb0.trans h)
    show l ≤ 100000
    rw [← hl, ← hL]
    unfold expL
    split
    · rw [solX_len]; omega
    · simp
  have hT := Lib.hid ht
  have F0 := Lib.hid (few_v l0 n A0 c0 50 w M0.out hn (by omega) hb0)
  have SANF : Hid (∀ W, Below w.heap.size w W → Calls Tryd.prog 18 #[] W fun e w' => e = .returned (.bool true) ∧ Below w.heap.size w w') := fun W hW => (sanity_any5 W (hT.out.on hW)).mono fun e w' h => ⟨h.1, hW.trans (h.2.mono hW.size)⟩
  have hn' := Lib.hid hn
  have hm' := Lib.hid hm
  have hE1' := Lib.hid hE1
  have hX' := Lib.hid hX
  have hK' := Lib.hid hK
  have hx' := Lib.hid hx
  have hk' := Lib.hid hk
  have hE2' := Lib.hid hE2
  have hTT' := Lib.hid hTT
  have htt' := Lib.hid htt
  have hE3' := Lib.hid hE3
  have hL' := Lib.hid hL
  have hl' := Lib.hid hl
  rw [hn, hm]
  clear hn hm hb0 hE1 hX hK hx hk hE2 hTT htt hE3 hL hl H0 H1 ht
  go_enter Tryd.func4, Tryd.ntmps4
  go_wp2_with fail
  refine F0.out.mono ?_
  rintro e w1 ⟨rfl, rfl⟩
  cases b0 with
  | false =>
    go_wp2_with fail
    refine (SANF.out _ (Below.refl _ _)).mono ?_
    rintro e w2 ⟨rfl, hb⟩
    go_wp2_with fail
    go_ret
    exact ⟨rfl, hb⟩
  | true =>
  have L0q := L0.out (by trivial)
  have tbq := tbound.out (by trivial)
  have lbq := lbound.out (by trivial)
  clear L0 F0 tbound lbound
  by_cases m50 : 50 < m
  · have t1 : (50 : Int) < (m : Int) := by omega
    have t2 : decide (50 < m) = true := decide_eq_true m50
    go_wp2_with fail
    refine (SANF.out _ (Below.refl _ _)).mono ?_
    rintro e w2 ⟨rfl, hb⟩
    go_wp2_with fail
    go_ret
    exact ⟨rfl, hb⟩
  have t1 : ¬ (50 : Int) < (m : Int) := by omega
  have t2 : decide (50 < m) = false := decide_eq_false m50
  have P1 := Lib.hid (solve_v l0 l1 n m x k A0 A1 c0 c1 w M0.out V1.out hn'.out hm'.out (by omega) hT.out hE1'.out hX'.out hK'.out hx'.out hk'.out)
  go_wp2_with fail
  refine P1.out.mono ?_
  rintro e w2 ⟨Ax, cx, Ak, ck, rfl, h1, h2, hb⟩
  have D := Lib.hid hb
  have X1 := Lib.hid h1
  have X2 := Lib.hid h2
  replace M0 := Lib.hid (M0.out.keep hb)
  replace V1 := Lib.hid (V1.out.hold hb)
  replace hT := Lib.hid (hT.out.on hb)
  clear h1 h2 hb P1 t1 t2
  have P2 := Lib.hid (refSolve_v l0 l1 n m x k A0 A1 c0 c1 w2 M0.out V1.out hn'.out hm'.out (by omega) hE1'.out hX'.out hK'.out hx'.out hk'.out)
  go_wp2_with fail
  refine P2.out.mono ?_
  rintro e w3 ⟨Ay, cy, Al, cl, rfl, h1, h2, hb⟩
  have Y1 := Lib.hid h1
  have Y2 := Lib.hid h2
  replace D := Lib.hid (D.out.trans (hb.mono D.out.size))
  replace M0 := Lib.hid (M0.out.keep hb)
  replace V1 := Lib.hid (V1.out.hold hb)
  replace hT := Lib.hid (hT.out.on hb)
  replace X1 := Lib.hid (X1.out.hold hb)
  replace X2 := Lib.hid (X2.out.keep hb)
  clear h1 h2 hb P2
  have hRa := Lib.hid (Blk.new w3 [.slice none 0 0, .slice none 0 0, .int .i64 0] 47)
  have hAa : Hid (∀ o, Below w3.heap.size w3 (w3.alloc o)) := fun o => (Below.refl _ _).alloc (Nat.le_refl _) _
  obtain ⟨gs, hgs⟩ : ∃ g, g = w3.heap.size := ⟨_, rfl⟩
  have RR : Hid (∀ W, Below w3.heap.size w3 W → Calls Tryd.prog 30 #[.slice A0 n c0] W (MRet W T t E2)) := fun W hW => inverse_v l0 n t A0 c0 W (M0.out.keep hW) hn'.out (by omega) (hT.out.on hW) hE2'.out hTT'.out htt'.out
  go_wp2_with (refine wpList_row_store rfl 47 _ _ rfl [.slice Ay x cy, .slice Al k cl, .int .i64 E1] rfl rfl hRa.out size_sol rfl (sol_one _ _ _ _ _ _ _) ?_; intro w4 hw4 ho4; have D4 := Lib.hid ((hAa.out _).trans (ho4.below (Nat.le_refl _))); clear ho4)
  refine (RR.out w4 D4.out).mono ?_
  rintro e w5 ⟨Ai, ci, rfl, h1, hb0⟩
  have I1 := Lib.hid h1
  have hb : Below w3.heap.size w3 w5 := D4.out.trans (hb0.mono D4.out.size)
  have KS : Hid (Blk w5 gs [.slice Ay x cy, .slice Al k cl, .int .i64 E1] 47) := by
    show Blk _ _ _ _
    rw [hgs]
    exact hw4.out.below hb0 hw4.out.lt
  replace D := Lib.hid (D.out.trans (hb.mono D.out.size))
  replace M0 := Lib.hid (M0.out.keep hb)
  replace V1 := Lib.hid (V1.out.hold hb)
  replace hT := Lib.hid (hT.out.on hb)
  replace X1 := Lib.hid (X1.out.hold hb)
  replace X2 := Lib.hid (X2.out.keep hb)
  replace Y1 := Lib.hid (Y1.out.hold hb)
  replace Y2 := Lib.hid (Y2.out.keep hb)
  rw [← hgs]
  clear h1 hb hb0 RR hRa hAa hw4 D4 hgs
  have P3 := Lib.hid (refInverse_v l0 n t A0 c0 w5 M0.out hn'.out (by omega) hE2'.out hTT'.out htt'.out)
  go_wp2_with fail
  refine P3.out.mono ?_
  rintro e w6 ⟨Aj, cj, rfl, h1, hb⟩
  have J1 := Lib.hid h1
  replace D := Lib.hid (D.out.trans (hb.mono D.out.size))
  replace M0 := Lib.hid (M0.out.keep hb)
  replace V1 := Lib.hid (V1.out.hold hb)
  replace hT := Lib.hid (hT.out.on hb)
  replace X1 := Lib.hid (X1.out.hold hb)
  replace X2 := Lib.hid (X2.out.keep hb)
  replace Y1 := Lib.hid (Y1.out.hold hb)
  replace Y2 := Lib.hid (Y2.out.keep hb)
  replace I1 := Lib.hid (I1.out.keep hb)
  replace KS := Lib.hid (KS.out.below hb KS.out.lt)
  clear h1 hb P3
  have hRa := Lib.hid (Blk.new w6 [.slice none 0 0, .int .i64 0] 35)
  have hAa : Hid (∀ o, Below w6.heap.size w6 (w6.alloc o)) := fun o => (Below.refl _ _).alloc (Nat.le_refl _) _
  obtain ⟨gm, hgm⟩ : ∃ g, g = w6.heap.size := ⟨_, rfl⟩
  have RR : Hid (∀ W, Below w6.heap.size w6 W → Calls Tryd.prog 32 #[.slice A0 n c0, .slice A1 m c1] W fun e w' => ∃ A' c', e = .returned (.tuple #[.slice A' l c', .int .i64 E3]) ∧ Rds w' w'.heap.size A' (L.map bv) ∧ Below W.heap.size W w') := fun W hW => express_v l0 l1 n m l A0 A1 c0 c1 W (M0.out.keep hW) (V1.out.hold hW) hn'.out hm'.out (by omega) (hT.out.on hW) hE3'.out hL'.out hl'.out
  go_wp2_with (refine wpList_row_store rfl 35 _ _ rfl [.slice Aj t cj, .int .i64 E2] rfl rfl hRa.out size_made rfl (made_one _ _ _ _) ?_; intro w7 hw7 ho7; have D7 := Lib.hid ((hAa.out _).trans (ho7.below (Nat.le_refl _))); clear ho7)
  refine (RR.out w7 D7.out).mono ?_
  rintro e w8 ⟨Ae, ce, rfl, h1, hb0⟩
  have L1 := Lib.hid h1
  have hb : Below w6.heap.size w6 w8 := D7.out.trans (hb0.mono D7.out.size)
  have KM : Hid (Blk w8 gm [.slice Aj t cj, .int .i64 E2] 35) := by
    show Blk _ _ _ _
    rw [hgm]
    exact hw7.out.below hb0 hw7.out.lt
  replace D := Lib.hid (D.out.trans (hb.mono D.out.size))
  replace M0 := Lib.hid (M0.out.keep hb)
  replace V1 := Lib.hid (V1.out.hold hb)
  replace hT := Lib.hid (hT.out.on hb)
  replace X1 := Lib.hid (X1.out.hold hb)
  replace X2 := Lib.hid (X2.out.keep hb)
  replace Y1 := Lib.hid (Y1.out.hold hb)
  replace Y2 := Lib.hid (Y2.out.keep hb)
  replace I1 := Lib.hid (I1.out.keep hb)
  replace J1 := Lib.hid (J1.out.keep hb)
  replace KS := Lib.hid (KS.out.below hb KS.out.lt)
  rw [← hgm]
  clear h1 hb hb0 RR hRa hAa hw7 D7 hgm
  have P4 := Lib.hid (refExpress_v l0 l1 n m l A0 A1 c0 c1 w8 M0.out V1.out hn'.out hm'.out (by omega) hE3'.out hL'.out hl'.out)
  go_wp2_with fail
  refine P4.out.mono ?_
  rintro e w9 ⟨Af, cf, rfl, h1, hb⟩
  have F1 := Lib.hid h1
  replace D := Lib.hid (D.out.trans (hb.mono D.out.size))
  replace hT := Lib.hid (hT.out.on hb)
  replace X1 := Lib.hid (X1.out.hold hb)
  replace X2 := Lib.hid (X2.out.keep hb)
  replace Y1 := Lib.hid (Y1.out.hold hb)
  replace Y2 := Lib.hid (Y2.out.keep hb)
  replace I1 := Lib.hid (I1.out.keep hb)
  replace J1 := Lib.hid (J1.out.keep hb)
  replace L1 := Lib.hid (L1.out.hold hb)
  replace KS := Lib.hid (KS.out.below hb KS.out.lt)
  replace KM := Lib.hid (KM.out.below hb KM.out.lt)
  clear h1 hb P4 M0 V1
  have hRa := Lib.hid (Blk.new w9 [.slice none 0 0, .int .i64 0] 52)
  have hAa : Hid (∀ o, Below w9.heap.size w9 (w9.alloc o)) := fun o => (Below.refl _ _).alloc (Nat.le_refl _) _
  obtain ⟨ge, hge⟩ : ∃ g, g = w9.heap.size := ⟨_, rfl⟩
  have tE1 : (E1 == E1) = true := by simp
  have tE2 : (E2 == E2) = true := by simp
  have tE3 : (E3 == E3) = true := by simp
  have SS : Hid (∀ W, Below w9.heap.size w9 W → Calls Tryd.prog 18 #[] W fun e w' => e = .returned (.bool true) ∧ Below W.heap.size W w') := fun W hW => sanity_any5 W (hT.out.on hW)
  go_wp2_with (refine wpList_row_store rfl 52 _ _ rfl [.slice Af l cf, .int .i64 E3] rfl rfl hRa.out size_exp rfl (made_one _ _ _ _) ?_; intro w10 hw10 ho10; have D10 := Lib.hid ((hAa.out _).trans (ho10.below (Nat.le_refl _))); clear ho10; have u1 := (KS.out.below D10.out KS.out.lt).cell (j := 2) rfl; have u2 := (KM.out.below D10.out KM.out.lt).cell (j := 1) rfl; have u3 := hw10.out.cell (j := 1) rfl)
  refine (SS.out w10 D10.out).mono ?_
  rintro e w11 ⟨rfl, hb0⟩
  have hb : Below w9.heap.size w9 w11 := D10.out.trans (hb0.mono D10.out.size)
  have KE : Hid (Blk w11 ge [.slice Af l cf, .int .i64 E3] 52) := by
    show Blk _ _ _ _
    rw [hge]
    exact hw10.out.below hb0 hw10.out.lt
  replace D := Lib.hid (D.out.trans (hb.mono D.out.size))
  replace X1 := Lib.hid (X1.out.hold hb)
  replace X2 := Lib.hid (X2.out.keep hb)
  replace Y1 := Lib.hid (Y1.out.hold hb)
  replace Y2 := Lib.hid (Y2.out.keep hb)
  replace I1 := Lib.hid (I1.out.keep hb)
  replace J1 := Lib.hid (J1.out.keep hb)
  replace L1 := Lib.hid (L1.out.hold hb)
  replace F1 := Lib.hid (F1.out.hold hb)
  replace KS := Lib.hid (KS.out.below hb KS.out.lt)
  replace KM := Lib.hid (KM.out.below hb KM.out.lt)
  rw [← hge]
  clear hb hb0 SS hRa hAa hw10 D10 hge u1 u2 u3 tE1 tE2 tE3
  have q1 := KS.out.cell (j := 0) rfl
  have S1 := Lib.hid (sameRow_v X X x x Ax Ay cx cy w11 X1.out Y1.out hx'.out hx'.out xbound (sameB_self _))
  go_wp2_with fail
  refine S1.out.mono ?_
  rintro e w12 ⟨rfl, hb⟩
  replace D := Lib.hid (D.out.trans (hb.mono D.out.size))
  replace X2 := Lib.hid (X2.out.keep hb)
  replace Y2 := Lib.hid (Y2.out.keep hb)
  replace I1 := Lib.hid (I1.out.keep hb)
  replace J1 := Lib.hid (J1.out.keep hb)
  replace L1 := Lib.hid (L1.out.hold hb)
  replace F1 := Lib.hid (F1.out.hold hb)
  replace KS := Lib.hid (KS.out.below hb KS.out.lt)
  replace KM := Lib.hid (KM.out.below hb KM.out.lt)
  replace KE := Lib.hid (KE.out.below hb KE.out.lt)
  clear hb S1 q1 X1 Y1
  have q1 := KS.out.cell (j := 1) rfl
  have S2 := Lib.hid (same_v K K k k Ak Al ck cl w12 X2.out Y2.out hk'.out hk'.out kbound kcap.out (sameB_self _))
  go_wp2_with fail
  refine S2.out.mono ?_
  rintro e w13 ⟨rfl, hb⟩
  replace D := Lib.hid (D.out.trans (hb.mono D.out.size))
  replace I1 := Lib.hid (I1.out.keep hb)
  replace J1 := Lib.hid (J1.out.keep hb)
  replace L1 := Lib.hid (L1.out.hold hb)
  replace F1 := Lib.hid (F1.out.hold hb)
  replace KM := Lib.hid (KM.out.below hb KM.out.lt)
  replace KE := Lib.hid (KE.out.below hb KE.out.lt)
  clear hb S2 q1 X2 Y2 KS
  have q1 := KM.out.cell (j := 0) rfl
  have S3 := Lib.hid (same_v T T t t Ai Aj ci cj w13 I1.out J1.out htt'.out htt'.out tbq tcap.out (sameB_self _))
  go_wp2_with fail
  refine S3.out.mono ?_
  rintro e w14 ⟨rfl, hb⟩
  replace D := Lib.hid (D.out.trans (hb.mono D.out.size))
  replace L1 := Lib.hid (L1.out.hold hb)
  replace F1 := Lib.hid (F1.out.hold hb)
  replace KE := Lib.hid (KE.out.below hb KE.out.lt)
  clear hb S3 q1 I1 J1 KM
  have q1 := KE.out.cell (j := 0) rfl
  have S4 := Lib.hid (sameRow_v L L l l Ae Af ce cf w14 L1.out F1.out hl'.out hl'.out lbq (sameB_self _))
  go_wp2_with fail
  refine S4.out.mono ?_
  rintro e w15 ⟨rfl, hb⟩
  replace D := Lib.hid (D.out.trans (hb.mono D.out.size))
  go_wp2_with fail
  go_ret
  exact ⟨rfl, D.out⟩
end Go.Proofs.YtfbdhcpclccikaaDoor
