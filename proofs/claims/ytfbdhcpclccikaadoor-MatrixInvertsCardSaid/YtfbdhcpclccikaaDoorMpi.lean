/-
  Stage 5: MatrixInverts, the walk.
-/
import Derived.Test.YtfbdhcpclccikaaDoorMwk
import Derived.Test.YtfbdhcpclccikaaDoorMpw
namespace Go.Proofs.YtfbdhcpclccikaaDoor
set_option linter.unusedVariables false
set_option linter.unusedSimpArgs false
open Go.RowKit

set_option maxRecDepth 100000 in
set_option maxHeartbeats 8000000 in
theorem walk_inverts (A0 : Option Addr) (c0 : Nat) (l0 : List (List UInt8)) (A1 : Option Addr) (c1 : Nat) (l1 : List (List UInt8)) (w : World) (H0 : SlM w A0 l0.length c0 l0) (H1 : SlM w A1 l1.length c1 l1) (ht : PTab 0 w) :
    Calls Tryd.prog 7 #[.slice A0 l0.length c0, .slice A1 l1.length c1] w fun e w' => e = .returned (.bool true) ∧ Below w.heap.size w w' := by
  obtain ⟨n, hn⟩ : ∃ n, l0.length = n := ⟨_, rfl⟩
  obtain ⟨m, hm⟩ : ∃ n, l1.length = n := ⟨_, rfl⟩
  have M0 := Lib.hid H0.mat
  have M1 := Lib.hid H1.mat
  have q0 := H0.reach
  have q1 := H1.reach
  rw [hn] at q0
  rw [hm] at q1
  obtain ⟨b0, hb0⟩ : ∃ b, fewB l0 16 = b := ⟨_, rfl⟩
  obtain ⟨b1, hb1⟩ : ∃ b, fewB l1 16 = b := ⟨_, rfl⟩
  obtain ⟨E0, hE0⟩ : ∃ E, chk l0 = E := ⟨_, rfl⟩
  obtain ⟨E5, hE5⟩ : ∃ E, chk l1 = E := ⟨_, rfl⟩
  obtain ⟨k0, hk0⟩ : ∃ n, cols l0 = n := ⟨_, rfl⟩
  obtain ⟨k1, hk1⟩ : ∃ n, cols l1 = n := ⟨_, rfl⟩
  obtain ⟨E1, hE1⟩ : ∃ E, invE l0 = E := ⟨_, rfl⟩
  obtain ⟨X, hX⟩ : ∃ E, invM l0 = E := ⟨_, rfl⟩
  obtain ⟨x, hx⟩ : ∃ E, X.length = E := ⟨_, rfl⟩
  obtain ⟨r, hr⟩ : ∃ E, (redP l0).length = E := ⟨_, rfl⟩
  obtain ⟨E3, hE3⟩ : ∃ E, invE l1 = E := ⟨_, rfl⟩
  obtain ⟨Y, hY⟩ : ∃ E, invM l1 = E := ⟨_, rfl⟩
  obtain ⟨y, hy⟩ : ∃ E, Y.length = E := ⟨_, rfl⟩
  obtain ⟨E4, hE4⟩ : ∃ E, invE (prd l0 l1) = E := ⟨_, rfl⟩
  obtain ⟨Z, hZ⟩ : ∃ E, invM (prd l0 l1) = E := ⟨_, rfl⟩
  obtain ⟨z, hz⟩ : ∃ E, Z.length = E := ⟨_, rfl⟩
  have L0 : Hid (b0 = true → n ≤ 16) := fun h => by have := few_len (hb0.trans h); omega
  have L1 : Hid (b1 = true → m ≤ 16) := fun h => by have := few_len (hb1.trans h); omega
  have F0 := Lib.hid (few_v l0 n A0 c0 16 w M0.out hn (by omega) hb0)
  have K0 := Lib.hid (check_v l0 n A0 c0 w M0.out hn (by omega) hE0)
  have hT := Lib.hid ht
  -- what the maths says
  have G1 : Hid (E0 = 0 → k0 = n → (E1 = 0 ∧ r = n ∧ x = n ∨ E1 = 8 ∧ r ≠ n ∧ x = 0)) := fun e k => by
    have o := ok_of (hE0.trans e)
    obtain ⟨h1, h2⟩ := inv_iff o (by omega)
    rcases h1 with h1 | h1
    · refine .inl ⟨hE1.symm.trans h1, ?_, ?_⟩
      · rw [← hr, ← hn]; exact h2.1 h1
      · rw [← hx, ← hX, ← hn]; exact (invM_rect h1).2
    · refine .inr ⟨hE1.symm.trans h1, ?_, ?_⟩
      · rw [← hr, ← hn]
        intro hh
        rw [h2.2 hh] at h1
        cases h1
      · rw [← hx, ← hX]
        unfold invM
        rw [if_neg (by rw [h1]; decide)]
        rfl
  have G2 : Hid (E0 = 0 → k0 = n → E1 = 0 → Ok l0 ∧ Ok X ∧ prdE X l0 = 0 ∧ prdE l0 X = 0 ∧ prd X l0 = idM n ∧ prd l0 X = idM n) := fun e k e1 => by
    have o := ok_of (hE0.trans e)
    have he := hE1.trans e1
    have oX := ok_inv o he
    obtain ⟨h1, h2⟩ := inv_prd o (by omega) he
    obtain ⟨h3, h4⟩ := invM_rect he
    rw [hX] at h1 h2 h3 h4 oX
    rw [hn] at h1 h2 h3 h4
    have hc : cols X = n := by
      rcases Nat.eq_zero_or_pos n with h0 | h0
      · rw [List.length_eq_zero_iff.1 (h4.trans h0), h0]; rfl
      · exact cols_of h3 (by omega)
    exact ⟨o, oX, prdE_of oX o (by omega), prdE_of o oX (by omega), h1, h2⟩
  have G3 : Hid (E0 = 0 → k0 = n → E1 = 0 → E5 = 0 → m = n → k1 = n → prdE l0 l1 = 0 ∧ (prd l0 l1).length = n ∧ (E3 = 0 ∧ E4 = 0 ∧ y = n ∧ z = n ∧ Ok Y ∧ prdE Y X = 0 ∧ Z = prd Y X ∧ (prd Y X).length = n ∨ E3 = 8 ∧ E4 = 8)) := fun e k e1 e5 hmn hkn => by
    have o := ok_of (hE0.trans e)
    have o1 := ok_of (hE5.trans e5)
    have he := hE1.trans e1
    obtain ⟨g1, g2⟩ := inv_of_prd o o1 (by omega) (by omega) (by omega) he
    have hP := ok_prd o o1
    have hPl : (prd l0 l1).length = n := by rw [prd_len, hn]
    have hPc : cols (prd l0 l1) = n := by
      rcases Nat.eq_zero_or_pos n with h0 | h0
      · rw [List.length_eq_zero_iff.1 (hPl.trans h0), h0]; rfl
      · rw [prd_cols (by omega), hk1, hkn]
    refine ⟨prdE_of o o1 (by omega), hPl, ?_⟩
    obtain ⟨p1, p2⟩ := inv_iff o1 (by omega)
    obtain ⟨p3, p4⟩ := inv_iff hP (by omega)
    rw [hE3] at g1 g2 p1
    rw [hE4] at g1 p3
    rcases p1 with p1 | p1
    · left
      have h3 := hE3.trans p1
      have h4 := hE4.trans (g1.2 p1)
      obtain ⟨a1, a2⟩ := invM_rect h3
      obtain ⟨a3, a4⟩ := invM_rect h4
      obtain ⟨a5, a6⟩ := invM_rect he
      rw [hY] at a1 a2
      rw [hZ] at a3 a4
      rw [hX] at a5 a6
      have oY := ok_inv o1 h3
      have oX := ok_inv o he
      rw [hY] at oY
      rw [hX] at oX
      have hYc : cols Y = n := by
        rcases Nat.eq_zero_or_pos n with h0 | h0
        · rw [List.length_eq_zero_iff.1 (show Y.length = 0 by omega), h0]; rfl
        · rw [cols_of a1 (by omega)]; omega
      refine ⟨p1, g1.2 p1, by omega, by omega, oY, prdE_of oY oX (by omega), ?_, by rw [prd_len]; omega⟩
      rw [← hZ, g2 p1, hY, hX]
    · right
      refine ⟨p1, ?_⟩
      rcases p3 with p3 | p3
      · have := g1.1 p3
        rw [p1] at this
        cases this
      · exact p3
  have hn' := Lib.hid hn
  have hm' := Lib.hid hm
  have hE0' := Lib.hid hE0
  have hE1' := Lib.hid hE1
  have hE3' := Lib.hid hE3
  have hE4' := Lib.hid hE4
  have hE5' := Lib.hid hE5
  have hX' := Lib.hid hX
  have hY' := Lib.hid hY
  have hZ' := Lib.hid hZ
  have hx' := Lib.hid hx
  have hy' := Lib.hid hy
  have hz' := Lib.hid hz
  have hr' := Lib.hid hr
  have hk0' := Lib.hid hk0
  have hk1' := Lib.hid hk1
  have hb1' := Lib.hid hb1
  have q1' := Lib.hid q1
  have SANF : Hid (∀ W, Below w.heap.size w W → Calls Tryd.prog 18 #[] W fun e w' => e = .returned (.bool true) ∧ Below w.heap.size w w') := fun W hW => (sanity_any5 W (hT.out.on hW)).mono fun e w' h => ⟨h.1, hW.trans (h.2.mono hW.size)⟩
  rw [hn, hm]
  clear hn hm hb0 hb1 hE0 hE1 hE3 hE4 hE5 hX hY hZ hx hy hz hr hk0 hk1 H0 H1 ht q0 q1
  go_enter Tryd.func7, Tryd.ntmps7
  go_wp2_with fail
  refine F0.out.mono ?_
  rintro e w1 ⟨rfl, rfl⟩
  cases b0 with
  | false =>
    go_wp2_with fail
    refine (SANF.out _ (Below.refl _ _)).mono ?_
    rintro e w2 ⟨rfl, hb⟩
    go_wp2_with fail
    go_ret
    exact ⟨rfl, hb⟩
  | true =>
  have L0q := L0.out (by trivial)
  clear L0 F0
  go_wp2_with fail
  refine K0.out.mono ?_
  rintro e w1 ⟨rfl, hb⟩
  have D := Lib.hid hb
  replace M0 := Lib.hid (M0.out.keep hb)
  replace M1 := Lib.hid (M1.out.keep hb)
  replace hT := Lib.hid (hT.out.on hb)
  clear hb K0
  by_cases z0 : E0 = 0
  rotate_left
  · have t : (E0 != 0) = true := by simpa using z0
    go_wp2_with fail
    refine (SANF.out _ D.out).mono ?_
    rintro e w2 ⟨rfl, hb⟩
    go_wp2_with fail
    go_ret
    exact ⟨rfl, hb⟩
  have G1a := Lib.hid (G1.out z0)
  have G2a := Lib.hid (G2.out z0)
  have G3a := Lib.hid (G3.out z0)
  clear G1 G2 G3
  subst z0
  have C0 := Lib.hid (columns_v l0 n k0 A0 c0 w1 M0.out hn'.out hk0'.out)
  go_wp2_with fail
  refine C0.out.mono ?_
  rintro e w2 ⟨rfl, rfl⟩
  by_cases y0 : k0 = n
  rotate_left
  · have t : ((k0 : Int) != (n : Int)) = true := by simp only [bne_iff_ne, ne_eq]; omega
    go_wp2_with fail
    refine (SANF.out _ D.out).mono ?_
    rintro e w2 ⟨rfl, hb⟩
    go_wp2_with fail
    go_ret
    exact ⟨rfl, hb⟩
  have G1b := Lib.hid (G1a.out y0)
  have G2b := Lib.hid (G2a.out y0)
  have G3b := Lib.hid (G3a.out y0)
  clear G1a G2a G3a C0
  have hk0'' : Hid (cols l0 = n) := hk0'.out.trans y0
  clear hk0'
  replace y0 := y0.symm
  subst y0
  have P1 := Lib.hid (inverse_v l0 n x A0 c0 w1 M0.out hn'.out (by omega) hT.out hE1'.out hX'.out hx'.out)
  have tnn : ((n : Int) != (n : Int)) = false := by simp
  go_wp2_with fail
  refine P1.out.mono ?_
  rintro e w2 ⟨Ax, cx, rfl, hm, hb⟩
  have X1 := Lib.hid hm
  replace D := Lib.hid (D.out.trans (hb.mono D.out.size))
  replace M0 := Lib.hid (M0.out.keep hb)
  replace M1 := Lib.hid (M1.out.keep hb)
  replace hT := Lib.hid (hT.out.on hb)
  clear hm hb P1
  have P2 := Lib.hid (rank_v l0 n r A0 c0 w2 M0.out hn'.out (by omega) hT.out hE0'.out hr'.out)
  go_wp2_with fail
  refine P2.out.mono ?_
  rintro e w3 ⟨rfl, hb⟩
  replace D := Lib.hid (D.out.trans (hb.mono D.out.size))
  replace X1 := Lib.hid (X1.out.keep hb)
  replace M0 := Lib.hid (M0.out.keep hb)
  replace M1 := Lib.hid (M1.out.keep hb)
  replace hT := Lib.hid (hT.out.on hb)
  clear hb P2 tnn
  rcases G1b.out with ⟨e1, er, ex⟩ | ⟨e1, er, ex⟩
  rotate_left
  · clear G1b G2b G3b
    subst e1
    subst ex
    have t : ((r : Int) == (n : Int)) = false := by rw [beq_eq_false_iff_ne]; omega
    go_wp2_with fail
    refine (SANF.out _ D.out).mono ?_
    rintro e w2 ⟨rfl, hb⟩
    go_wp2_with fail
    go_ret
    exact ⟨rfl, hb⟩
  have G2c := Lib.hid (G2b.out e1)
  have G3c := Lib.hid (G3b.out e1)
  clear G1b G2b G3b
  subst e1
  replace er := er.symm
  subst er
  replace ex := ex.symm
  subst ex
  have t : ((n : Int) == (n : Int)) = true := by simp
  have I1 := Lib.hid (identity_v n w3 (by omega) (Nat.lt_of_le_of_lt (Nat.zero_le _) hT.out.1))
  go_wp2_with fail
  refine I1.out.mono ?_
  rintro e w4 ⟨Ai, ci, rfl, hm, hb⟩
  have X2 := Lib.hid hm
  replace D := Lib.hid (D.out.trans (hb.mono D.out.size))
  replace X1 := Lib.hid (X1.out.keep hb)
  replace M0 := Lib.hid (M0.out.keep hb)
  replace M1 := Lib.hid (M1.out.keep hb)
  replace hT := Lib.hid (hT.out.on hb)
  clear hm hb I1 t
  have P3 := Lib.hid (product_v X l0 n n n Ax A0 cx c0 w4 X1.out M0.out hx'.out hn'.out (by omega) (by omega) hT.out G2c.out.2.2.1 ((if_pos rfl).trans G2c.out.2.2.2.2.1) (idM_len n))
  go_wp2_with fail
  refine P3.out.mono ?_
  rintro e w5 ⟨Al, cl, rfl, hm, hb⟩
  have X3 := Lib.hid hm
  replace D := Lib.hid (D.out.trans (hb.mono D.out.size))
  replace X1 := Lib.hid (X1.out.keep hb)
  replace X2 := Lib.hid (X2.out.keep hb)
  replace M0 := Lib.hid (M0.out.keep hb)
  replace M1 := Lib.hid (M1.out.keep hb)
  replace hT := Lib.hid (hT.out.on hb)
  clear hm hb P3
  have P4 := Lib.hid (product_v l0 X n n n A0 Ax c0 cx w5 M0.out X1.out hn'.out hx'.out (by omega) (by omega) hT.out G2c.out.2.2.2.1 ((if_pos rfl).trans G2c.out.2.2.2.2.2) (idM_len n))
  go_wp2_with fail
  refine P4.out.mono ?_
  rintro e w6 ⟨Ar, cr, rfl, hm, hb⟩
  have X4 := Lib.hid hm
  replace D := Lib.hid (D.out.trans (hb.mono D.out.size))
  replace X1 := Lib.hid (X1.out.keep hb)
  replace X2 := Lib.hid (X2.out.keep hb)
  replace X3 := Lib.hid (X3.out.keep hb)
  replace M0 := Lib.hid (M0.out.keep hb)
  replace M1 := Lib.hid (M1.out.keep hb)
  replace hT := Lib.hid (hT.out.on hb)
  clear hm hb P4
  have icap : Hid (∀ m ∈ idM n, m.length ≤ 140737488355328) := fun m hm => by rw [idM_rect n m hm]; omega
  have S1 := Lib.hid (same_v (idM n) (idM n) n n Al Ai cl ci w6 X3.out X2.out (idM_len n) (idM_len n) (by omega) icap.out (sameB_self _))
  go_wp2_with fail
  refine S1.out.mono ?_
  rintro e w7 ⟨rfl, hb⟩
  replace D := Lib.hid (D.out.trans (hb.mono D.out.size))
  replace X1 := Lib.hid (X1.out.keep hb)
  replace X2 := Lib.hid (X2.out.keep hb)
  replace X4 := Lib.hid (X4.out.keep hb)
  replace M0 := Lib.hid (M0.out.keep hb)
  replace M1 := Lib.hid (M1.out.keep hb)
  replace hT := Lib.hid (hT.out.on hb)
  clear hb S1 X3
  have S2 := Lib.hid (same_v (idM n) (idM n) n n Ar Ai cr ci w7 X4.out X2.out (idM_len n) (idM_len n) (by omega) icap.out (sameB_self _))
  go_wp2_with fail
  refine S2.out.mono ?_
  rintro e w8 ⟨rfl, hb⟩
  replace D := Lib.hid (D.out.trans (hb.mono D.out.size))
  replace X1 := Lib.hid (X1.out.keep hb)
  replace M0 := Lib.hid (M0.out.keep hb)
  replace M1 := Lib.hid (M1.out.keep hb)
  replace hT := Lib.hid (hT.out.on hb)
  clear hb S2 X2 X4 icap
  have F1 := Lib.hid (few_v l1 m A1 c1 16 w8 M1.out hm'.out (by have := q1'.out; omega) hb1'.out)
  have SAN : Hid (Calls Tryd.prog 18 #[] w8 fun e w' => e = .returned (.bool true) ∧ Below w.heap.size w w') := SANF.out _ D.out
  go_wp2_with fail
  refine F1.out.mono ?_
  rintro e w9 ⟨rfl, rfl⟩
  cases b1 with
  | false =>
    go_wp2_with fail
    refine SAN.out.mono ?_
    rintro e w2 ⟨rfl, hb⟩
    go_wp2_with fail
    go_ret
    exact ⟨rfl, hb⟩
  | true =>
  have L1q := L1.out (by trivial)
  clear L1 F1 SAN
  have K1 := Lib.hid (check_v l1 m A1 c1 w8 M1.out hm'.out (by omega) hE5'.out)
  go_wp2_with fail
  refine K1.out.mono ?_
  rintro e w9 ⟨rfl, hb⟩
  replace D := Lib.hid (D.out.trans (hb.mono D.out.size))
  replace X1 := Lib.hid (X1.out.keep hb)
  replace M0 := Lib.hid (M0.out.keep hb)
  replace M1 := Lib.hid (M1.out.keep hb)
  replace hT := Lib.hid (hT.out.on hb)
  clear hb K1
  have SAN : Hid (Calls Tryd.prog 18 #[] w9 fun e w' => e = .returned (.bool true) ∧ Below w.heap.size w w') := SANF.out _ D.out
  by_cases z5 : E5 = 0
  rotate_left
  · have t : (E5 != 0) = true := by simpa using z5
    go_wp2_with fail
    refine SAN.out.mono ?_
    rintro e w2 ⟨rfl, hb⟩
    go_wp2_with fail
    go_ret
    exact ⟨rfl, hb⟩
  have G3d := Lib.hid (G3c.out z5)
  clear G3c
  subst z5
  by_cases y1 : m = n
  rotate_left
  · have t : ((m : Int) != (n : Int)) = true := by simp only [bne_iff_ne, ne_eq]; omega
    go_wp2_with fail
    refine SAN.out.mono ?_
    rintro e w2 ⟨rfl, hb⟩
    go_wp2_with fail
    go_ret
    exact ⟨rfl, hb⟩
  have G3e := Lib.hid (G3d.out y1)
  clear G3d
  replace y1 := y1.symm
  subst y1
  have tmm : ((n : Int) != (n : Int)) = false := by simp
  have C1 := Lib.hid (columns_v l1 n k1 A1 c1 w9 M1.out hm'.out hk1'.out)
  go_wp2_with fail
  refine C1.out.mono ?_
  rintro e w10 ⟨rfl, rfl⟩
  by_cases y2 : k1 = n
  rotate_left
  · have t : ((k1 : Int) != (n : Int)) = true := by simp only [bne_iff_ne, ne_eq]; omega
    go_wp2_with fail
    refine SAN.out.mono ?_
    rintro e w2 ⟨rfl, hb⟩
    go_wp2_with fail
    go_ret
    exact ⟨rfl, hb⟩
  have G3f := Lib.hid (G3e.out y2)
  clear G3e C1 hk1' SAN
  replace y2 := y2.symm
  subst y2
  have P5 := Lib.hid (product_v l0 l1 n n n A0 A1 c0 c1 w9 M0.out M1.out hn'.out hm'.out (by omega) (by omega) hT.out G3f.out.1 (if_pos rfl) G3f.out.2.1)
  go_wp2_with fail
  refine P5.out.mono ?_
  rintro e w10 ⟨Ap, cp, rfl, hm, hb⟩
  have X5 := Lib.hid hm
  replace D := Lib.hid (D.out.trans (hb.mono D.out.size))
  replace X1 := Lib.hid (X1.out.keep hb)
  replace M1 := Lib.hid (M1.out.keep hb)
  replace hT := Lib.hid (hT.out.on hb)
  clear hm hb P5 M0
  have P6 := Lib.hid (inverse_v l1 n y A1 c1 w10 M1.out hm'.out (by omega) hT.out hE3'.out hY'.out hy'.out)
  go_wp2_with fail
  refine P6.out.mono ?_
  rintro e w11 ⟨Ay, cy, rfl, hm, hb⟩
  have X6 := Lib.hid hm
  replace D := Lib.hid (D.out.trans (hb.mono D.out.size))
  replace X1 := Lib.hid (X1.out.keep hb)
  replace X5 := Lib.hid (X5.out.keep hb)
  replace hT := Lib.hid (hT.out.on hb)
  clear hm hb P6 M1
  have P7 := Lib.hid (inverse_v (prd l0 l1) n z Ap cp w11 X5.out G3f.out.2.1 (by omega) hT.out hE4'.out hZ'.out hz'.out)
  go_wp2_with fail
  refine P7.out.mono ?_
  rintro e w12 ⟨Az, cz, rfl, hm, hb⟩
  have X7 := Lib.hid hm
  replace D := Lib.hid (D.out.trans (hb.mono D.out.size))
  replace X1 := Lib.hid (X1.out.keep hb)
  replace X6 := Lib.hid (X6.out.keep hb)
  replace hT := Lib.hid (hT.out.on hb)
  clear hm hb P7 X5
  rcases G3f.out.2.2 with ⟨e3, e4, ey, ez, oY, eYX, eZ, lYX⟩ | ⟨e3, e4⟩
  rotate_left
  · subst e3
    subst e4
    go_wp2_with fail
    refine (SANF.out _ D.out).mono ?_
    rintro e w2 ⟨rfl, hb⟩
    go_wp2_with fail
    go_ret
    exact ⟨rfl, hb⟩
  have eYX' := Lib.hid eYX
  have eZ' := Lib.hid eZ
  have lYX' := Lib.hid lYX
  have oY' := Lib.hid oY
  clear G3f eYX eZ lYX oY
  subst e3
  subst e4
  replace ey := ey.symm
  subst ey
  replace ez := ez.symm
  subst ez
  have P8 := Lib.hid (product_v Y X n n n Ay Ax cy cx w12 X6.out X1.out hy'.out hx'.out (by omega) (by omega) hT.out eYX'.out (if_pos rfl) lYX'.out)
  go_wp2_with fail
  refine P8.out.mono ?_
  rintro e w13 ⟨Aw, cw, rfl, hm, hb⟩
  have X8 := Lib.hid hm
  replace D := Lib.hid (D.out.trans (hb.mono D.out.size))
  replace X7 := Lib.hid (X7.out.keep hb)
  replace hT := Lib.hid (hT.out.on hb)
  clear hm hb P8 X6 X1
  go_wp2_with fail
  refine (sanity_any5 _ hT.out).mono ?_
  rintro e w14 ⟨rfl, hb⟩
  replace D := Lib.hid (D.out.trans (hb.mono D.out.size))
  replace X7 := Lib.hid (X7.out.keep hb)
  replace X8 := Lib.hid (X8.out.keep hb)
  clear hb
  have S3 := Lib.hid (same_v Z (prd Y X) n n Az Aw cz cw w14 X7.out X8.out hz'.out lYX'.out (by omega) (fun m hm => by
    rw [eZ'.out] at hm
    rw [prd_rows _ _ m hm]
    have := (G2c.out.2.1).cols_le
    omega) (r := true) (by rw [eZ'.out]; exact sameB_self _))
  go_wp2_with fail
  refine S3.out.mono ?_
  rintro e w15 ⟨rfl, hb⟩
  replace D := Lib.hid (D.out.trans (hb.mono D.out.size))
  go_wp2_with fail
  go_ret
  exact ⟨rfl, D.out⟩
end Go.Proofs.YtfbdhcpclccikaaDoor
