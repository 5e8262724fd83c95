/-
  Stage 5: MatrixProductsAsSpecified, the walk.
-/
import Derived.Test.YtfbdhcpclccikaaDoorMwk
namespace Go.Proofs.YtfbdhcpclccikaaDoor
set_option linter.unusedVariables false
set_option linter.unusedSimpArgs false
open Go.RowKit

theorem prdE_of {A B : List (List UInt8)} (hA : Ok A) (hB : Ok B) (h : cols A = B.length) : prdE A B = 0 := by
  unfold prdE
  rw [if_neg (by rw [chk_ok hA]; simp), if_neg (by rw [chk_ok hB]; simp), if_neg (by omega)]
theorem prdT_caps {A B T : List (List UInt8)} {E : Int} (hE : prdE A B = E) (hT : (if E = 0 then prd A B else []) = T) : ∀ m ∈ T, m.length ≤ 140737488355328 := fun m hm => by
  rw [← hT] at hm
  split at hm
  · rename_i h0
    have := prd_rows A B m hm
    have := (ok_of (prdE_ok (hE.trans h0)).2.1).cols_le
    omega
  · simp at hm
theorem refProduct_v (M1 M2 : List (List UInt8)) (n1 n2 n : Nat) (A1 A2 : Option Addr) (c1 c2 : Nat) (w : World) (h1 : Mat w w.heap.size A1 M1) (h2 : Mat w w.heap.size A2 M2) (e1 : M1.length = n1) (e2 : M2.length = n2) (l1 : n1 ≤ 100000) (l2 : n2 ≤ 100000) {T : List (List UInt8)} {E : Int} (hE : prdE M1 M2 = E) (hT : (if E = 0 then prd M1 M2 else []) = T) (hn : T.length = n) :
    Calls Tryd.prog 36 #[.slice A1 n1 c1, .slice A2 n2 c2] w fun e w' => ∃ A c, e = .returned (.agg #[.slice A n c, .int .i64 E]) ∧ Mat w' w'.heap.size A T ∧ Below w.heap.size w w' := by
  subst e1 e2
  have := refProduct_any M1 M2 A1 A2 c1 c2 w h1 h2 (Nat.le_refl _) (Nat.le_refl _) (by omega) (by omega)
  rw [hE, hT] at this
  refine this.mono fun e w' h => ?_
  obtain ⟨⟨A, c, g1, _, _, _, g2⟩, g3⟩ := h
  rw [hn] at g1
  exact ⟨A, c, g1, g2, g3⟩

set_option maxRecDepth 100000 in
set_option maxHeartbeats 8000000 in
theorem walk_products (A0 : Option Addr) (c0 : Nat) (l0 : List (List UInt8)) (A1 : Option Addr) (c1 : Nat) (l1 : List (List UInt8)) (A2 : Option Addr) (c2 : Nat) (l2 : List (List UInt8)) (w : World) (H0 : SlM w A0 l0.length c0 l0) (H1 : SlM w A1 l1.length c1 l1) (H2 : SlM w A2 l2.length c2 l2) (ht : PTab 0 w) :
    Calls Tryd.prog 5 #[.slice A0 l0.length c0, .slice A1 l1.length c1, .slice A2 l2.length c2] w fun e w' => e = .returned (.bool true) ∧ Below w.heap.size w w' := by
  obtain ⟨n0, hn0⟩ : ∃ n, l0.length = n := ⟨_, rfl⟩
  obtain ⟨n1, hn1⟩ : ∃ n, l1.length = n := ⟨_, rfl⟩
  obtain ⟨n2, hn2⟩ : ∃ n, l2.length = n := ⟨_, rfl⟩
  have M0 := Lib.hid H0.mat
  have M1 := Lib.hid H1.mat
  have M2 := Lib.hid H2.mat
  have q0 := H0.reach
  have q1 := H1.reach
  have q2 := H2.reach
  rw [hn0] at q0
  rw [hn1] at q1
  rw [hn2] at q2
  obtain ⟨b0, hb0⟩ : ∃ b, fewB l0 20 = b := ⟨_, rfl⟩
  obtain ⟨b1, hb1⟩ : ∃ b, fewB l1 20 = b := ⟨_, rfl⟩
  obtain ⟨b2, hb2⟩ : ∃ b, fewB l2 20 = b := ⟨_, rfl⟩
  obtain ⟨E1, hE1⟩ : ∃ E, prdE l0 l1 = E := ⟨_, rfl⟩
  obtain ⟨E2, hE2⟩ : ∃ E, prdE l1 l2 = E := ⟨_, rfl⟩
  obtain ⟨T1, hT1⟩ : ∃ T, (if E1 = 0 then prd l0 l1 else []) = T := ⟨_, rfl⟩
  obtain ⟨T2, hT2⟩ : ∃ T, (if E2 = 0 then prd l1 l2 else []) = T := ⟨_, rfl⟩
  obtain ⟨t1, ht1⟩ : ∃ n, T1.length = n := ⟨_, rfl⟩
  obtain ⟨t2, ht2⟩ : ∃ n, T2.length = n := ⟨_, rfl⟩
  obtain ⟨k0, hk0⟩ : ∃ n, cols l0 = n := ⟨_, rfl⟩
  obtain ⟨k1, hk1⟩ : ∃ n, cols l1 = n := ⟨_, rfl⟩
  obtain ⟨k2, hk2⟩ : ∃ n, cols l2 = n := ⟨_, rfl⟩
  have L0 : b0 = true → n0 ≤ 20 := fun h => by have := few_len (hb0.trans h); omega
  have L1 : b1 = true → n1 ≤ 20 := fun h => by have := few_len (hb1.trans h); omega
  have L2 : b2 = true → n2 ≤ 20 := fun h => by have := few_len (hb2.trans h); omega
  have g1 : t1 ≤ n0 := by
    rw [← ht1, ← hT1, ← hn0]
    split
    · rw [prd_len]; exact Nat.le_refl _
    · simp
  have g2 : t2 ≤ n1 := by
    rw [← ht2, ← hT2, ← hn1]
    split
    · rw [prd_len]; exact Nat.le_refl _
    · simp
  have F0 := Lib.hid (few_v l0 n0 A0 c0 20 w M0.out hn0 (by omega) hb0)
  have F1 := Lib.hid (few_v l1 n1 A1 c1 20 w M1.out hn1 (by omega) hb1)
  have F2 := Lib.hid (few_v l2 n2 A2 c2 20 w M2.out hn2 (by omega) hb2)
  have hT := Lib.hid ht
  have caps1 := Lib.hid (prdT_caps hE1 hT1)
  -- what holds when all errors are none, and no matrix is without columns
  have good : Hid (E1 = 0 → E2 = 0 → k0 ≠ 0 → k1 ≠ 0 → k2 ≠ 0 → Ok l0 ∧ Ok l1 ∧ Ok l2 ∧ k0 = n1 ∧ k1 = n2 ∧ T1 = prd l0 l1 ∧ T2 = prd l1 l2 ∧ t1 = n0 ∧ t2 = n1 ∧ 0 < n0 ∧ 0 < n1) := fun e1 e2 z0 z1 z2 => by
    obtain ⟨a1, a2, a3⟩ := prdE_ok (hE1.trans e1)
    obtain ⟨_, a4, a5⟩ := prdE_ok (hE2.trans e2)
    have p0 := cols_pos (M := l0) (by omega)
    have p1 := cols_pos (M := l1) (by omega)
    rw [if_pos e1] at hT1
    rw [if_pos e2] at hT2
    refine ⟨ok_of a1, ok_of a2, ok_of a4, by omega, by omega, hT1.symm, hT2.symm, ?_, ?_, by omega, by omega⟩
    · rw [← ht1, ← hT1, prd_len, hn0]
    · rw [← ht2, ← hT2, prd_len, hn1]
  have hn0' := Lib.hid hn0
  have hn1' := Lib.hid hn1
  have hn2' := Lib.hid hn2
  have hE1' := Lib.hid hE1
  have hE2' := Lib.hid hE2
  have hT1' := Lib.hid hT1
  have hT2' := Lib.hid hT2
  have ht1' := Lib.hid ht1
  have ht2' := Lib.hid ht2
  have hk0' := Lib.hid hk0
  have hk1' := Lib.hid hk1
  have hk2' := Lib.hid hk2
  rw [hn0, hn1, hn2]
  clear hn0 hn1 hn2 hb0 hb1 hb2 hE1 hE2 hT1 hT2 ht1 ht2 hk0 hk1 hk2 H0 H1 H2 ht
  go_enter Tryd.func5, Tryd.ntmps5
  go_wp2_with fail
  refine F0.out.mono ?_
  rintro e w1 ⟨rfl, rfl⟩
  cases b0 with
  | false =>
    go_wp2_with fail
    refine (sanity_any5 _ hT.out).mono ?_
    rintro e w2 ⟨rfl, hb⟩
    go_wp2_with fail
    go_ret
    exact ⟨rfl, hb⟩
  | true =>
  go_wp2_with fail
  refine F1.out.mono ?_
  rintro e w1 ⟨rfl, rfl⟩
  cases b1 with
  | false =>
    go_wp2_with fail
    refine (sanity_any5 _ hT.out).mono ?_
    rintro e w2 ⟨rfl, hb⟩
    go_wp2_with fail
    go_ret
    exact ⟨rfl, hb⟩
  | true =>
  go_wp2_with fail
  refine F2.out.mono ?_
  rintro e w1 ⟨rfl, rfl⟩
  cases b2 with
  | false =>
    go_wp2_with fail
    refine (sanity_any5 _ hT.out).mono ?_
    rintro e w2 ⟨rfl, hb⟩
    go_wp2_with fail
    go_ret
    exact ⟨rfl, hb⟩
  | true =>
  have L0q := L0 (by first | trivial | rfl)
  have L1q := L1 (by first | trivial | rfl)
  have L2q := L2 (by first | trivial | rfl)
  clear F0 F1 F2 L0 L1 L2 q0 q1 q2
  go_wp2_with fail
  refine (product_v l0 l1 n0 n1 t1 A0 A1 c0 c1 w M0.out M1.out hn0'.out hn1'.out (by omega) (by omega) hT.out hE1'.out hT1'.out ht1'.out).mono ?_
  rintro e w2 ⟨Ax, cx, rfl, hm, hb⟩
  have D := Lib.hid hb
  have X1 := Lib.hid hm
  replace M0 := Lib.hid (M0.out.keep hb)
  replace M1 := Lib.hid (M1.out.keep hb)
  replace M2 := Lib.hid (M2.out.keep hb)
  replace hT := Lib.hid (hT.out.on hb)
  clear hb hm
  go_wp2_with fail
  refine (refProduct_v l0 l1 n0 n1 t1 A0 A1 c0 c1 w2 M0.out M1.out hn0'.out hn1'.out (by omega) (by omega) hE1'.out hT1'.out ht1'.out).mono ?_
  rintro e w3 ⟨Ay, cy, rfl, hm, hb⟩
  have D3 := Lib.hid (D.out.trans (hb.mono D.out.size))
  have Y1 := Lib.hid hm
  replace X1 := Lib.hid (X1.out.keep hb)
  replace M0 := Lib.hid (M0.out.keep hb)
  replace M1 := Lib.hid (M1.out.keep hb)
  replace M2 := Lib.hid (M2.out.keep hb)
  replace hT := Lib.hid (hT.out.on hb)
  clear hb hm D
  have hR4 := Lib.hid (Blk.new w3 [.slice none 0 0, .int .i64 0] 35)
  have hA4 : Hid (∀ o, Below w3.heap.size w3 (w3.alloc o)) := fun o => (Below.refl _ _).alloc (Nat.le_refl _) _
  have tE : (E1 != E1) = false := by simp
  have SS : Hid (∀ W, Below w3.heap.size w3 W → Calls Tryd.prog 26 #[.slice Ax t1 cx, .slice Ay t1 cy] W fun e w' => e = .returned (.bool true) ∧ Below W.heap.size W w') := fun W hW =>
    same_v T1 T1 t1 t1 Ax Ay cx cy W (X1.out.keep hW) (Y1.out.keep hW) ht1'.out ht1'.out (by omega) caps1.out (sameB_self _)
  go_wp2_with (refine wpList_row_store rfl 35 _ _ rfl [.slice Ay t1 cy, .int .i64 E1] rfl rfl hR4.out size_made rfl (made_one _ _ _ _) ?_; intro w5 hw5 ho5; have D5 := Lib.hid ((hA4.out _).trans (ho5.below (Nat.le_refl _))); have q1 := hw5.out.cell (j := 0) rfl; have q2 := hw5.out.cell (j := 1) rfl; clear ho5)
  refine (SS.out w5 D5.out).mono ?_
  rintro e w6 ⟨rfl, hb6⟩
  have hb : Below w3.heap.size w3 w6 := D5.out.trans (hb6.mono D5.out.size)
  have D := Lib.hid (D3.out.trans (hb.mono D3.out.size))
  replace X1 := Lib.hid (X1.out.keep hb)
  replace M0 := Lib.hid (M0.out.keep hb)
  replace M1 := Lib.hid (M1.out.keep hb)
  replace M2 := Lib.hid (M2.out.keep hb)
  replace hT := Lib.hid (hT.out.on hb)
  clear SS D5 D3 Y1 hR4 hA4 q1 q2 hw5 hb6 hb tE
  go_wp2_with fail
  refine (product_v l1 l2 n1 n2 t2 A1 A2 c1 c2 w6 M1.out M2.out hn1'.out hn2'.out (by omega) (by omega) hT.out hE2'.out hT2'.out ht2'.out).mono ?_
  rintro e w7 ⟨Az, cz, rfl, hm, hb⟩
  have X2 := Lib.hid hm
  replace D := Lib.hid (D.out.trans (hb.mono D.out.size))
  replace X1 := Lib.hid (X1.out.keep hb)
  replace M0 := Lib.hid (M0.out.keep hb)
  replace M1 := Lib.hid (M1.out.keep hb)
  replace M2 := Lib.hid (M2.out.keep hb)
  replace hT := Lib.hid (hT.out.on hb)
  clear hb hm
  have SAN : Hid (Calls Tryd.prog 18 #[] w7 fun e w' => e = .returned (.bool true) ∧ Below w.heap.size w w') := (sanity_any5 w7 hT.out).mono fun e w' h => ⟨h.1, D.out.trans (h.2.mono D.out.size)⟩
  have C0 := Lib.hid (columns_v l0 n0 k0 A0 c0 w7 M0.out hn0'.out hk0'.out)
  have C1 := Lib.hid (columns_v l1 n1 k1 A1 c1 w7 M1.out hn1'.out hk1'.out)
  have C2 := Lib.hid (columns_v l2 n2 k2 A2 c2 w7 M2.out hn2'.out hk2'.out)
  by_cases z1 : E1 = 0
  rotate_left
  · have t : (E1 != 0) = true := by simpa using z1
    go_wp2_with fail
    refine SAN.out.mono ?_
    rintro e w8 ⟨rfl, hb⟩
    go_wp2_with fail
    go_ret
    exact ⟨rfl, hb⟩
  by_cases z2 : E2 = 0
  rotate_left
  · have t : (E1 != 0) = false := by simpa using z1
    have t2 : (E2 != 0) = true := by simpa using z2
    go_wp2_with fail
    refine SAN.out.mono ?_
    rintro e w8 ⟨rfl, hb⟩
    go_wp2_with fail
    go_ret
    exact ⟨rfl, hb⟩
  have good1 := Lib.hid (good.out z1 z2)
  clear good
  subst z1
  subst z2
  go_wp2_with fail
  refine C0.out.mono ?_
  rintro e w8 ⟨rfl, rfl⟩
  by_cases y0 : k0 = 0
  · subst y0
    go_wp2_with fail
    refine SAN.out.mono ?_
    rintro e w8 ⟨rfl, hb⟩
    go_wp2_with fail
    go_ret
    exact ⟨rfl, hb⟩
  have ty0 : ((k0 : Int) == 0) = false := by rw [beq_eq_false_iff_ne]; omega
  go_wp2_with fail
  refine C1.out.mono ?_
  rintro e w8 ⟨rfl, rfl⟩
  by_cases y1 : k1 = 0
  · subst y1
    go_wp2_with fail
    refine SAN.out.mono ?_
    rintro e w8 ⟨rfl, hb⟩
    go_wp2_with fail
    go_ret
    exact ⟨rfl, hb⟩
  have ty1 : ((k1 : Int) == 0) = false := by rw [beq_eq_false_iff_ne]; omega
  go_wp2_with fail
  refine C2.out.mono ?_
  rintro e w8 ⟨rfl, rfl⟩
  by_cases y2 : k2 = 0
  · subst y2
    go_wp2_with fail
    refine SAN.out.mono ?_
    rintro e w8 ⟨rfl, hb⟩
    go_wp2_with fail
    go_ret
    exact ⟨rfl, hb⟩
  have ty2 : ((k2 : Int) == 0) = false := by rw [beq_eq_false_iff_ne]; omega
  obtain ⟨o0, o1, o2, e0, e1, eT1, eT2, et1, et2, p0, p1⟩ := good1.out y0 y1 y2
  have p2 : 0 < cols l1 := by rw [hk1'.out]; omega
  have O0 := Lib.hid o0
  have O1 := Lib.hid o1
  have O2 := Lib.hid o2
  have EQ := Lib.hid (show k0 = n1 ∧ k1 = n2 ∧ t1 = n0 ∧ t2 = n1 ∧ 0 < n0 ∧ 0 < n1 ∧ 0 < k0 ∧ 0 < k1 ∧ 0 < k2 from ⟨e0, e1, et1, et2, p0, p1, by omega, by omega, by omega⟩)
  have ET := Lib.hid (And.intro eT1 eT2)
  clear o0 o1 o2 e0 e1 eT1 eT2 et1 et2 p0 p1 p2 good1 C0 C1 C2 SAN hT1' hT2' hE1' hE2'
  have cAB : Hid (cols (prd l0 l1) = k1) := by
    show _ = _
    rw [prd_cols (by rw [hn0'.out]; have := EQ.out; omega), hk1'.out]
  have cBC : Hid (cols (prd l1 l2) = k2) := by
    show _ = _
    rw [prd_cols (by rw [hn1'.out]; have := EQ.out; omega), hk2'.out]
  have lAB : Hid ((prd l0 l1).length = t1) := by show _ = _; rw [prd_len, hn0'.out]; have := EQ.out; omega
  have lBC : Hid ((prd l1 l2).length = t2) := by show _ = _; rw [prd_len, hn1'.out]; have := EQ.out; omega
  have r0 : Hid (∀ m ∈ l0, m.length = l1.length) := fun m hm => by rw [O0.out.same m hm, hk0'.out, hn1'.out]; have := EQ.out; omega
  have r1 : Hid (∀ m ∈ l1, m.length = l2.length) := fun m hm => by rw [O1.out.same m hm, hk1'.out, hn2'.out]; have := EQ.out; omega
  replace X1 : Hid (Mat w7 w7.heap.size Ax (prd l0 l1)) := by have := X1.out; rw [ET.out.1] at this; exact this
  replace X2 : Hid (Mat w7 w7.heap.size Az (prd l1 l2)) := by have := X2.out; rw [ET.out.2] at this; exact this
  clear ET
  have P1 := Lib.hid (product_v (prd l0 l1) l2 t1 n2 t1 Ax A2 cx c2 w7 X1.out M2.out lAB.out hn2'.out (by have := EQ.out; omega) (by omega) hT.out (prdE_of (ok_prd O0.out O1.out) O2.out (by rw [cAB.out, hn2'.out]; have := EQ.out; omega)) (if_pos rfl) (by rw [prd_len, lAB.out]))
  go_wp2_with fail
  refine P1.out.mono ?_
  rintro e w8 ⟨Al, cl, rfl, hm, hb⟩
  have X3 := Lib.hid hm
  replace D := Lib.hid (D.out.trans (hb.mono D.out.size))
  replace X1 := Lib.hid (X1.out.keep hb)
  replace X2 := Lib.hid (X2.out.keep hb)
  replace M0 := Lib.hid (M0.out.keep hb)
  replace M1 := Lib.hid (M1.out.keep hb)
  replace hT := Lib.hid (hT.out.on hb)
  clear hb hm P1 M2
  have P2 := Lib.hid (product_v l0 (prd l1 l2) n0 t2 t1 A0 Az c0 cz w8 M0.out X2.out hn0'.out lBC.out (by omega) (by have := EQ.out; omega) hT.out (prdE_of O0.out (ok_prd O1.out O2.out) (by rw [hk0'.out, lBC.out]; have := EQ.out; omega)) (if_pos rfl) (by rw [prd_len, hn0'.out]; have := EQ.out; omega))
  go_wp2_with fail
  refine P2.out.mono ?_
  rintro e w9 ⟨Ar, cr, rfl, hm, hb⟩
  have X4 := Lib.hid hm
  replace D := Lib.hid (D.out.trans (hb.mono D.out.size))
  replace X1 := Lib.hid (X1.out.keep hb)
  replace X3 := Lib.hid (X3.out.keep hb)
  replace M0 := Lib.hid (M0.out.keep hb)
  replace M1 := Lib.hid (M1.out.keep hb)
  replace hT := Lib.hid (hT.out.on hb)
  clear hb hm P2 X2
  have P3 := Lib.hid (transpose_v l0 n0 k0 A0 c0 w9 M0.out hn0'.out (by omega) (chk_ok O0.out) (if_pos rfl) (by show (tr l0).length = _; rw [show (tr l0).length = cols l0 from matF_len _ _ _, hk0'.out]))
  go_wp2_with fail
  refine P3.out.mono ?_
  rintro e w10 ⟨At, ct, rfl, hm, hb⟩
  have X5 := Lib.hid hm
  replace D := Lib.hid (D.out.trans (hb.mono D.out.size))
  replace X1 := Lib.hid (X1.out.keep hb)
  replace X3 := Lib.hid (X3.out.keep hb)
  replace X4 := Lib.hid (X4.out.keep hb)
  replace M1 := Lib.hid (M1.out.keep hb)
  replace hT := Lib.hid (hT.out.on hb)
  clear hb hm P3 M0
  have P4 := Lib.hid (transpose_v l1 n1 k1 A1 c1 w10 M1.out hn1'.out (by omega) (chk_ok O1.out) (if_pos rfl) (by show (tr l1).length = _; rw [show (tr l1).length = cols l1 from matF_len _ _ _, hk1'.out]))
  go_wp2_with fail
  refine P4.out.mono ?_
  rintro e w11 ⟨Au, cu, rfl, hm, hb⟩
  have X6 := Lib.hid hm
  replace D := Lib.hid (D.out.trans (hb.mono D.out.size))
  replace X1 := Lib.hid (X1.out.keep hb)
  replace X3 := Lib.hid (X3.out.keep hb)
  replace X4 := Lib.hid (X4.out.keep hb)
  replace X5 := Lib.hid (X5.out.keep hb)
  replace hT := Lib.hid (hT.out.on hb)
  clear hb hm P4 M1
  have P5 := Lib.hid (transpose_v (prd l0 l1) t1 k1 Ax cx w11 X1.out lAB.out (by have := EQ.out; omega) (chk_ok (ok_prd O0.out O1.out)) (if_pos rfl) (by show (tr (prd l0 l1)).length = _; rw [show (tr (prd l0 l1)).length = cols (prd l0 l1) from matF_len _ _ _, cAB.out]))
  go_wp2_with fail
  refine P5.out.mono ?_
  rintro e w12 ⟨Av, cv, rfl, hm, hb⟩
  have X7 := Lib.hid hm
  replace D := Lib.hid (D.out.trans (hb.mono D.out.size))
  replace X3 := Lib.hid (X3.out.keep hb)
  replace X4 := Lib.hid (X4.out.keep hb)
  replace X5 := Lib.hid (X5.out.keep hb)
  replace X6 := Lib.hid (X6.out.keep hb)
  replace hT := Lib.hid (hT.out.on hb)
  clear hb hm P5 X1
  have P6 := Lib.hid (product_v (tr l1) (tr l0) k1 k0 k1 Au At cu ct w12 X6.out X5.out (by show (tr l1).length = _; rw [show (tr l1).length = cols l1 from matF_len _ _ _, hk1'.out]) (by show (tr l0).length = _; rw [show (tr l0).length = cols l0 from matF_len _ _ _, hk0'.out]) (by have := EQ.out; omega) (by have := EQ.out; omega) hT.out (prdE_of (ok_tr O1.out) (ok_tr O0.out) (by rw [show cols (tr l1) = l1.length from cols_matF _ _ (by rw [hk1'.out]; have := EQ.out; omega), show (tr l0).length = cols l0 from matF_len _ _ _, hk0'.out, hn1'.out]; have := EQ.out; omega)) (if_pos rfl) (by rw [prd_len, show (tr l1).length = cols l1 from matF_len _ _ _, hk1'.out]))
  go_wp2_with fail
  refine P6.out.mono ?_
  rintro e w13 ⟨Aw, cw, rfl, hm, hb⟩
  have X8 := Lib.hid hm
  replace D := Lib.hid (D.out.trans (hb.mono D.out.size))
  replace X3 := Lib.hid (X3.out.keep hb)
  replace X4 := Lib.hid (X4.out.keep hb)
  replace X7 := Lib.hid (X7.out.keep hb)
  replace hT := Lib.hid (hT.out.on hb)
  clear hb hm P6 X5 X6
  go_wp2_with fail
  refine (sanity_any5 _ hT.out).mono ?_
  rintro e w14 ⟨rfl, hb⟩
  replace D := Lib.hid (D.out.trans (hb.mono D.out.size))
  replace X3 := Lib.hid (X3.out.keep hb)
  replace X4 := Lib.hid (X4.out.keep hb)
  replace X7 := Lib.hid (X7.out.keep hb)
  replace X8 := Lib.hid (X8.out.keep hb)
  clear hb
  have S1 := Lib.hid (same_v (prd (prd l0 l1) l2) (prd l0 (prd l1 l2)) t1 t1 Al Ar cl cr w14 X3.out X4.out (by rw [prd_len, lAB.out]) (by rw [prd_len, hn0'.out]; have := EQ.out; omega) (by have := EQ.out; omega) (fun m hm => by rw [prd_rows _ _ m hm, hk2'.out]; have := O2.out.cols_le; have := hk2'.out; omega) (r := true) (by
    rw [prd_assoc r0.out r1.out (by rw [hk1'.out, hn2'.out]; have := EQ.out; omega) (by rw [hn1'.out]; have := EQ.out; omega)]
    exact sameB_self _))
  go_wp2_with fail
  refine S1.out.mono ?_
  rintro e w15 ⟨rfl, hb⟩
  replace D := Lib.hid (D.out.trans (hb.mono D.out.size))
  replace X7 := Lib.hid (X7.out.keep hb)
  replace X8 := Lib.hid (X8.out.keep hb)
  clear hb S1 X3 X4
  have S2 := Lib.hid (same_v (tr (prd l0 l1)) (prd (tr l1) (tr l0)) k1 k1 Av Aw cv cw w15 X7.out X8.out (by rw [show (tr (prd l0 l1)).length = cols (prd l0 l1) from matF_len _ _ _, cAB.out]) (by rw [prd_len, show (tr l1).length = cols l1 from matF_len _ _ _, hk1'.out]) (by have := EQ.out; omega) (fun m hm => by have := (ok_tr (ok_prd O0.out O1.out)).cols48 m hm; omega) (r := true) (by
    rw [tr_prd r0.out (by rw [hk0'.out, hn1'.out]; have := EQ.out; omega) (by rw [hn0'.out]; have := EQ.out; omega) (by rw [hn1'.out]; have := EQ.out; omega) (by rw [hk1'.out]; have := EQ.out; omega)]
    exact sameB_self _))
  go_wp2_with fail
  refine S2.out.mono ?_
  rintro e w16 ⟨rfl, hb⟩
  replace D := Lib.hid (D.out.trans (hb.mono D.out.size))
  go_wp2_with fail
  go_ret
  exact ⟨rfl, D.out⟩
end Go.Proofs.YtfbdhcpclccikaaDoor
