/-
  Stage 5: MatrixRanks, the walk.
-/
import Derived.Test.YtfbdhcpclccikaaDoorMwk
import Derived.Test.YtfbdhcpclccikaaDoorMpw
namespace Go.Proofs.YtfbdhcpclccikaaDoor
set_option linter.unusedVariables false
set_option linter.unusedSimpArgs false
open Go.RowKit

set_option maxRecDepth 100000 in
set_option maxHeartbeats 8000000 in
theorem walk_ranks (A0 : Option Addr) (c0 : Nat) (l0 : List (List UInt8)) (A1 : Option Addr) (c1 : Nat) (l1 : List (List UInt8)) (w : World) (H0 : SlM w A0 l0.length c0 l0) (H1 : SlM w A1 l1.length c1 l1) (ht : PTab 0 w) :
    Calls Tryd.prog 9 #[.slice A0 l0.length c0, .slice A1 l1.length c1] w fun e w' => e = .returned (.bool true) ∧ Below w.heap.size w w' := by
  obtain ⟨n, hn⟩ : ∃ n, l0.length = n := ⟨_, rfl⟩
  obtain ⟨m, hm⟩ : ∃ n, l1.length = n := ⟨_, rfl⟩
  have M0 := Lib.hid H0.mat
  have M1 := Lib.hid H1.mat
  have q0 := H0.reach
  have q1 := H1.reach
  rw [hn] at q0
  rw [hm] at q1
  obtain ⟨b0, hb0⟩ : ∃ b, fewB l0 20 = b := ⟨_, rfl⟩
  obtain ⟨b1, hb1⟩ : ∃ b, fewB l1 20 = b := ⟨_, rfl⟩
  obtain ⟨E0, hE0⟩ : ∃ E, chk l0 = E := ⟨_, rfl⟩
  obtain ⟨E5, hE5⟩ : ∃ E, chk l1 = E := ⟨_, rfl⟩
  obtain ⟨k0, hk0⟩ : ∃ n, cols l0 = n := ⟨_, rfl⟩
  obtain ⟨R, hR⟩ : ∃ E, redR l0 = E := ⟨_, rfl⟩
  obtain ⟨p, hp⟩ : ∃ E, redP l0 = E := ⟨_, rfl⟩
  obtain ⟨r, hr⟩ : ∃ E, p.length = E := ⟨_, rfl⟩
  obtain ⟨s, hs⟩ : ∃ E, (redP (prd l0 l1)).length = E := ⟨_, rfl⟩
  obtain ⟨u, hu⟩ : ∃ E, (redP l1).length = E := ⟨_, rfl⟩
  have L0 : Hid (b0 = true → n ≤ 20) := fun h => by have := few_len (hb0.trans h); omega
  have L1 : Hid (b1 = true → m ≤ 20) := fun h => by have := few_len (hb1.trans h); omega
  have F0 := Lib.hid (few_v l0 n A0 c0 20 w M0.out hn (by omega) hb0)
  have K0 := Lib.hid (check_v l0 n A0 c0 w M0.out hn (by omega) hE0)
  have hT := Lib.hid ht
  -- what the maths says
  have G1 : Hid (E0 = 0 → chk (tr l0) = 0 ∧ (tr l0).length = k0 ∧ (redP (tr l0)).length = r ∧ r ≤ n ∧ r ≤ k0 ∧ R.length = r ∧ (∀ m ∈ R, m.length = k0) ∧ k0 ≤ 48 ∧ chk R.reverse = 0 ∧ redR R.reverse = R ∧ redP R.reverse = p) := fun e => by
    have o := ok_of (hE0.trans e)
    obtain ⟨a1, a2⟩ := red_again o
    have a3 := redR_len o
    have a4 := redR_rect o
    rw [hR] at a1 a2 a3 a4
    rw [hp] at a2 a3
    rw [hk0] at a4
    refine ⟨chk_ok (ok_tr o), (matF_len _ _ _).trans hk0, ?_, ?_, ?_, by omega, a4, ?_, ?_, a1, a2⟩
    · rw [rank_tr o, hp, hr]
    · rw [← hr, ← hp, redP_rk, ← hn]; exact rk_le_len o.rect _
    · rw [← hr, ← hp, redP_rk, hk0]; exact rk_le_n o.rect _
    · rw [← hk0]; exact o.cols_le
    · rw [← hR]; exact chk_ok (ok_rev o)
  have G2 : Hid (E0 = 0 → E5 = 0 → m = k0 → prdE l0 l1 = 0 ∧ chk (prd l0 l1) = 0 ∧ s ≤ r ∧ s ≤ u) := fun e e5 hmk => by
    have o := ok_of (hE0.trans e)
    have o1 := ok_of (hE5.trans e5)
    obtain ⟨a1, a2⟩ := rank_prd o o1 (by omega)
    rw [hs, hp, hr] at a1
    rw [hs, hu] at a2
    exact ⟨prdE_of o o1 (by omega), chk_ok (ok_prd o o1), a1, a2⟩
  have hPl : Hid ((prd l0 l1).length = n) := by show _ = _; rw [prd_len, hn]
  have hn' := Lib.hid hn
  have hm' := Lib.hid hm
  have hE0' := Lib.hid hE0
  have hE5' := Lib.hid hE5
  have hR' := Lib.hid hR
  have hp' := Lib.hid hp
  have hr' := Lib.hid hr
  have hs' := Lib.hid hs
  have hu' := Lib.hid hu
  have hk0' := Lib.hid hk0
  have hb1' := Lib.hid hb1
  have q1' := Lib.hid q1
  have SANF : Hid (∀ W, Below w.heap.size w W → Calls Tryd.prog 18 #[] W fun e w' => e = .returned (.bool true) ∧ Below w.heap.size w w') := fun W hW => (sanity_any5 W (hT.out.on hW)).mono fun e w' h => ⟨h.1, hW.trans (h.2.mono hW.size)⟩
  rw [hn, hm]
  clear hn hm hb0 hb1 hE0 hE5 hR hp hr hs hu hk0 H0 H1 ht q0 q1
  go_enter Tryd.func9, Tryd.ntmps9
  go_wp2_with fail
  refine F0.out.mono ?_
  rintro e w1 ⟨rfl, rfl⟩
  cases b0 with
  | false =>
    go_wp2_with fail
    refine (SANF.out _ (Below.refl _ _)).mono ?_
    rintro e w2 ⟨rfl, hb⟩
    go_wp2_with fail
    go_ret
    exact ⟨rfl, hb⟩
  | true =>
  have L0q := L0.out (by trivial)
  clear L0 F0
  go_wp2_with fail
  refine K0.out.mono ?_
  rintro e w1 ⟨rfl, hb⟩
  have D := Lib.hid hb
  replace M0 := Lib.hid (M0.out.keep hb)
  replace M1 := Lib.hid (M1.out.keep hb)
  replace hT := Lib.hid (hT.out.on hb)
  clear hb K0
  by_cases z0 : E0 = 0
  rotate_left
  · have t : (E0 != 0) = true := by simpa using z0
    go_wp2_with fail
    refine (SANF.out _ D.out).mono ?_
    rintro e w2 ⟨rfl, hb⟩
    go_wp2_with fail
    go_ret
    exact ⟨rfl, hb⟩
  obtain ⟨g1, g2, g3, g4, g5, g6, g7, g8, g9, g10, g11⟩ := G1.out z0
  have g1' := Lib.hid g1
  have g2' := Lib.hid g2
  have g3' := Lib.hid g3
  have g6' := Lib.hid g6
  have g7' := Lib.hid g7
  have g9' := Lib.hid g9
  have g10' := Lib.hid g10
  have g11' := Lib.hid g11
  have G2a := Lib.hid (G2.out z0)
  clear G1 G2 g1 g2 g3 g6 g7 g9 g10 g11
  subst z0
  have P1 := Lib.hid (transpose_v l0 n k0 A0 c0 w1 M0.out hn'.out (by omega) hE0'.out (if_pos rfl) g2'.out)
  go_wp2_with fail
  refine P1.out.mono ?_
  rintro e w2 ⟨At, ct, rfl, hm, hb⟩
  have X1 := Lib.hid hm
  replace D := Lib.hid (D.out.trans (hb.mono D.out.size))
  replace M0 := Lib.hid (M0.out.keep hb)
  replace M1 := Lib.hid (M1.out.keep hb)
  replace hT := Lib.hid (hT.out.on hb)
  clear hm hb P1
  have P2 := Lib.hid (rank_v l0 n r A0 c0 w2 M0.out hn'.out (by omega) hT.out hE0'.out (by rw [hp'.out]; exact hr'.out))
  go_wp2_with fail
  refine P2.out.mono ?_
  rintro e w3 ⟨rfl, hb⟩
  replace D := Lib.hid (D.out.trans (hb.mono D.out.size))
  replace X1 := Lib.hid (X1.out.keep hb)
  replace M0 := Lib.hid (M0.out.keep hb)
  replace M1 := Lib.hid (M1.out.keep hb)
  replace hT := Lib.hid (hT.out.on hb)
  clear hb P2
  have P3 := Lib.hid (rank_v (tr l0) k0 r At ct w3 X1.out g2'.out (by omega) hT.out g1'.out g3'.out)
  go_wp2_with fail
  refine P3.out.mono ?_
  rintro e w4 ⟨rfl, hb⟩
  replace D := Lib.hid (D.out.trans (hb.mono D.out.size))
  replace M0 := Lib.hid (M0.out.keep hb)
  replace M1 := Lib.hid (M1.out.keep hb)
  replace hT := Lib.hid (hT.out.on hb)
  clear hb P3 X1
  have P4 := Lib.hid (reduce_v l0 n r A0 c0 w4 M0.out hn'.out (by omega) hT.out hE0'.out hR'.out hp'.out g6'.out hr'.out)
  go_wp2_with fail
  refine P4.out.mono ?_
  rintro e w5 ⟨Ar, cr, Ap, cp, rfl, hm, hq, hcr, hcm, hb⟩
  have X2 := Lib.hid hm
  have X3 := Lib.hid hq
  replace D := Lib.hid (D.out.trans (hb.mono D.out.size))
  replace M0 := Lib.hid (M0.out.keep hb)
  replace M1 := Lib.hid (M1.out.keep hb)
  replace hT := Lib.hid (hT.out.on hb)
  clear hm hq hb P4 hcr hcm
  have t0 : ((r : Int) != (r : Int)) = false := by simp
  have t1 : ¬ (n : Int) < (r : Int) := by omega
  have t2 : ¬ (k0 : Int) < (r : Int) := by omega
  have t3 : decide ((n : Int) < (r : Int)) = false := by simpa using t1
  have t4 : decide ((k0 : Int) < (r : Int)) = false := by simpa using t2
  have t5 : decide (n < r) = false := decide_eq_false (by omega)
  have t6 : decide (k0 < r) = false := decide_eq_false (by omega)
  have C0 := Lib.hid (columns_v l0 n k0 A0 c0 w5 M0.out hn'.out hk0'.out)
  go_wp2_with fail
  refine C0.out.mono ?_
  rintro e w6 ⟨rfl, rfl⟩
  have hB5 : Hid (Below w5.heap.size w5 w5) := Below.refl _ _
  have O0 : Hid (OwnQ w5.heap.size w5 w5.heap.size (.slice none 0 0) (R.reverse.take 0)) := ownQ_nil _ _ _
  go_wp2_with fail
  go_loopw [14, 100] (fun v i wr => ∃ k : Nat, k ≤ r ∧ i = .int .i64 k ∧ OwnQ w5.heap.size wr w5.heap.size v (R.reverse.take k) ∧ Below w5.heap.size w5 wr) (fun _ i _ => r - (intOf i).toNat)
  case atStart => exact ⟨0, Nat.zero_le _, rfl, O0.out, hB5.out⟩
  case round =>
    obtain ⟨k, hk, rfl, ho0, hb0⟩ := hrel
    have ho := Lib.hid ho0
    have hb := Lib.hid hb0
    clear ho0 hb0
    by_cases hlt : k < r
    · have tl : (k : Int) < (r : Int) := by omega
      obtain ⟨j, hj⟩ : ∃ j : Nat, j = r - 1 - k := ⟨_, rfl⟩
      have ej : (r : Int) - 1 - (k : Int) = (j : Int) := by omega
      have tj : (j : Int) < (r : Int) := by omega
      have tj0 : 0 ≤ (j : Int) := by omega
      obtain ⟨x, hx⟩ : ∃ x, R[j]? = some x := ⟨_, List.getElem?_eq_getElem (by rw [g6'.out]; omega)⟩
      obtain ⟨ad, v, hA, hab, hc, hrow⟩ := X2.out.at hx
      subst hA
      have hcw : wr.cell? (ad.add j) = some v := (hb.out.cell (p := ad.add j) (by rw [add_block]; exact hab)).trans hc
      have hxl : x.length = k0 := g7'.out x (List.mem_of_getElem? hx)
      obtain ⟨vw, hvw⟩ : ∃ z, z = wr.heap.size := ⟨_, rfl⟩
      have hnext : Hid (R.reverse.take (k + 1) = R.reverse.take k ++ [x]) := by
        show _ = _
        rw [List.take_add_one, List.getElem?_reverse (by rw [g6'.out]; exact hlt), g6'.out, show r - 1 - k = j by omega, hx]
        rfl
      have HR : Hid (∀ v0, OwnQ w5.heap.size wr w5.heap.size v0 (R.reverse.take k) → RowOff w5.heap.size wr v0.ownBlock v x) := fun v0 hv0 => mat_off (A := A0) (M := R) (cc := 0) (i := 0) (B := w5.heap.size) (hrow.below hb.out) (by omega) hb.out.size (Nat.le_refl _) (fun g hg => by
        obtain ⟨vs, _, e2, _⟩ := hv0
        exact (e2.lt g hg).1)
      have hln : (R.reverse.take k).length ≤ 1000000 := by rw [List.length_take]; omega
      have hro := Lib.hid (HR.out _ ho.out)
      have hoo := Lib.hid ho.out
      obtain ⟨av, cw, hvv, _⟩ := hrow
      subst hvv
      clear hc hx hj hvw HR ho hxl
      go_wp2_with (at_builtin; go_must (refine push_q rfl _ _ rfl w5.heap.size _ (R.reverse.take k) x _ rfl rfl hoo.out hro.out hln hb.out.size ?_); intro v' w7 ho7 hb7 hg7)
      go_roundw
      case rel => exact ⟨k + 1, by omega, by go_num, by rw [hnext.out]; exact ho7, hb.out.trans hb7⟩
      case measure => simp [intOf]; omega
    · have tl : ¬ (k : Int) < (r : Int) := by omega
      have ek : r = k := by omega
      subst ek
      have hRt : R.reverse.take r = R.reverse := List.take_of_length_le (by rw [List.length_reverse, g6'.out]; exact Nat.le_refl _)
      obtain ⟨Aq, cq, hv, _, _, _, hmq⟩ := ho.out.mat
      rw [hRt] at hv hmq
      rw [List.length_reverse, g6'.out] at hv
      subst hv
      have X4 := Lib.hid hmq
      replace D := Lib.hid (D.out.trans (hb.out.mono D.out.size))
      replace M0 := Lib.hid (M0.out.keep hb.out)
      replace M1 := Lib.hid (M1.out.keep hb.out)
      replace X2 := Lib.hid (X2.out.keep hb.out)
      replace X3 := Lib.hid (X3.out.hold hb.out)
      replace hT := Lib.hid (hT.out.on hb.out)
      clear hmq ho hb hRt O0 hB5 C0 t1 t2 t3 t4 t5 t6
      have P5 := Lib.hid (reduce_v R.reverse r r Aq cq wr X4.out (by rw [List.length_reverse, g6'.out]) (by omega) hT.out g9'.out g10'.out g11'.out g6'.out hr'.out)
      go_wp2_with fail
      refine P5.out.mono ?_
      rintro e w7 ⟨Au, cu, Av, cv, rfl, hm, hq, hcr, hcm, hb⟩
      have X5 := Lib.hid hm
      have X6 := Lib.hid hq
      replace D := Lib.hid (D.out.trans (hb.mono D.out.size))
      replace M0 := Lib.hid (M0.out.keep hb)
      replace M1 := Lib.hid (M1.out.keep hb)
      replace X2 := Lib.hid (X2.out.keep hb)
      replace X3 := Lib.hid (X3.out.hold hb)
      replace hT := Lib.hid (hT.out.on hb)
      clear hm hq hb P5 hcr hcm X4
      have S1 := Lib.hid (same_v R R r r Au Ar cu cr w7 X5.out X2.out g6'.out g6'.out (by omega) (fun m hm => by rw [g7'.out m hm]; omega) (sameB_self _))
      go_wp2_with fail
      refine S1.out.mono ?_
      rintro e w8 ⟨rfl, hb⟩
      replace D := Lib.hid (D.out.trans (hb.mono D.out.size))
      replace M0 := Lib.hid (M0.out.keep hb)
      replace M1 := Lib.hid (M1.out.keep hb)
      replace X6 := Lib.hid (X6.out.hold hb)
      replace X3 := Lib.hid (X3.out.hold hb)
      replace hT := Lib.hid (hT.out.on hb)
      clear hb S1 X2 X5
      have S2 := Lib.hid (sameList_v p p r r Av Ap cv cp w8 X6.out X3.out hr'.out hr'.out (by omega) (sameB_self _))
      go_wp2_with fail
      refine S2.out.mono ?_
      rintro e w9 ⟨rfl, hb⟩
      replace D := Lib.hid (D.out.trans (hb.mono D.out.size))
      replace M0 := Lib.hid (M0.out.keep hb)
      replace M1 := Lib.hid (M1.out.keep hb)
      replace hT := Lib.hid (hT.out.on hb)
      clear hb S2 X3 X6
      have F1 := Lib.hid (few_v l1 m A1 c1 20 w9 M1.out hm'.out (by have := q1'.out; omega) hb1'.out)
      have SAN : Hid (Calls Tryd.prog 18 #[] w9 fun e w' => e = .returned (.bool true) ∧ Below w.heap.size w w') := SANF.out _ D.out
      go_wp2_with fail
      refine F1.out.mono ?_
      rintro e w10 ⟨rfl, rfl⟩
      cases b1 with
      | false =>
        go_wp2_with fail
        refine SAN.out.mono ?_
        rintro e w2 ⟨rfl, hb⟩
        go_wp2_with fail
        go_ret
        exact ⟨rfl, hb⟩
      | true =>
      have L1q := L1.out (by trivial)
      clear L1 F1 SAN
      have K1 := Lib.hid (check_v l1 m A1 c1 w9 M1.out hm'.out (by omega) hE5'.out)
      go_wp2_with fail
      refine K1.out.mono ?_
      rintro e w10 ⟨rfl, hb⟩
      replace D := Lib.hid (D.out.trans (hb.mono D.out.size))
      replace M0 := Lib.hid (M0.out.keep hb)
      replace M1 := Lib.hid (M1.out.keep hb)
      replace hT := Lib.hid (hT.out.on hb)
      clear hb K1
      have SAN : Hid (Calls Tryd.prog 18 #[] w10 fun e w' => e = .returned (.bool true) ∧ Below w.heap.size w w') := SANF.out _ D.out
      by_cases z5 : E5 = 0
      rotate_left
      · have t : (E5 != 0) = true := by simpa using z5
        go_wp2_with fail
        refine SAN.out.mono ?_
        rintro e w2 ⟨rfl, hb⟩
        go_wp2_with fail
        go_ret
        exact ⟨rfl, hb⟩
      have G2b := Lib.hid (G2a.out z5)
      clear G2a
      subst z5
      have C1 := Lib.hid (columns_v l0 n k0 A0 c0 w10 M0.out hn'.out hk0'.out)
      go_wp2_with fail
      refine C1.out.mono ?_
      rintro e w11 ⟨rfl, rfl⟩
      by_cases y1 : m = k0
      rotate_left
      · have t : ((m : Int) != (k0 : Int)) = true := by simp only [bne_iff_ne, ne_eq]; omega
        go_wp2_with fail
        refine SAN.out.mono ?_
        rintro e w2 ⟨rfl, hb⟩
        go_wp2_with fail
        go_ret
        exact ⟨rfl, hb⟩
      obtain ⟨d1, d2, d3, d4⟩ := G2b.out y1
      have d1' := Lib.hid d1
      have d2' := Lib.hid d2
      clear G2b C1 SAN d1 d2
      subst y1
      have tmm : ((m : Int) != (m : Int)) = false := by simp
      have P6 := Lib.hid (product_v l0 l1 n m n A0 A1 c0 c1 w10 M0.out M1.out hn'.out hm'.out (by omega) (by omega) hT.out d1'.out (if_pos rfl) hPl.out)
      go_wp2_with fail
      refine P6.out.mono ?_
      rintro e w11 ⟨Ax, cx, rfl, hm, hb⟩
      have X7 := Lib.hid hm
      replace D := Lib.hid (D.out.trans (hb.mono D.out.size))
      replace M1 := Lib.hid (M1.out.keep hb)
      replace hT := Lib.hid (hT.out.on hb)
      clear hm hb P6 M0
      have P7 := Lib.hid (rank_v (prd l0 l1) n s Ax cx w11 X7.out hPl.out (by omega) hT.out d2'.out hs'.out)
      go_wp2_with fail
      refine P7.out.mono ?_
      rintro e w12 ⟨rfl, hb⟩
      replace D := Lib.hid (D.out.trans (hb.mono D.out.size))
      replace M1 := Lib.hid (M1.out.keep hb)
      replace hT := Lib.hid (hT.out.on hb)
      clear hb P7 X7
      have P8 := Lib.hid (rank_v l1 m u A1 c1 w12 M1.out hm'.out (by omega) hT.out hE5'.out hu'.out)
      go_wp2_with fail
      refine P8.out.mono ?_
      rintro e w13 ⟨rfl, hb⟩
      replace D := Lib.hid (D.out.trans (hb.mono D.out.size))
      replace hT := Lib.hid (hT.out.on hb)
      clear hb P8
      go_wp2_with fail
      refine (sanity_any5 _ hT.out).mono ?_
      rintro e w14 ⟨rfl, hb⟩
      replace D := Lib.hid (D.out.trans (hb.mono D.out.size))
      clear hb
      have f1 : (s : Int) ≤ (r : Int) := by omega
      have f2 : (s : Int) ≤ (u : Int) := by omega
      have f3 : decide ((s : Int) ≤ (r : Int)) = true := by simpa using f1
      have f4 : decide ((s : Int) ≤ (u : Int)) = true := by simpa using f2
      go_wp2_with fail
      go_ret
      exact ⟨rfl, D.out⟩
end Go.Proofs.YtfbdhcpclccikaaDoor
