/-
  Stage 5: MatrixSolutionsAreAll, the walk.
-/
import Derived.Test.YtfbdhcpclccikaaDoorMwk
import Derived.Test.YtfbdhcpclccikaaDoorMpw
namespace Go.Proofs.YtfbdhcpclccikaaDoor
set_option linter.unusedVariables false
set_option linter.unusedSimpArgs false
open Go.RowKit

set_option maxRecDepth 100000 in
set_option maxHeartbeats 4000000 in
theorem mapped_v (M : List (List UInt8)) (x b : List UInt8) (n q nb : Nat) (A Ax Ab : Option Addr) (c cx cb : Nat) (w : World) (h : Mat w w.heap.size A M) (hx : Rds w w.heap.size Ax (x.map bv)) (hb : Rds w w.heap.size Ab (b.map bv)) (e1 : M.length = n) (e2 : x.length = q) (e3 : b.length = nb) (hok : Ok M) (hq : cols M ≤ q) {r : Bool} (hr : sameB (mapR M x) b = r) :
    Calls Tryd.prog 38 #[.slice A n c, .slice Ax q cx, .slice Ab nb cb] w fun e w' => e = .returned (.bool r) ∧ Below w.heap.size w w' := by
  have hn48 : n ≤ 48 := by rw [← e1]; exact hok.rows
  have hk48 := hok.cols_le
  have H0 := refTranspose_any M A c w h (Nat.le_refl _) (by omega)
  rw [chk_ok hok, if_pos rfl, e1] at H0
  have H := Lib.hid H0
  obtain ⟨k, hk⟩ : ∃ k, (tr M).length = k := ⟨_, rfl⟩
  have hkc : k = cols M := by rw [← hk]; exact matF_len _ _ _
  have hkq : k ≤ q := by omega
  have hk48' : k ≤ 48 := by omega
  have hk' := Lib.hid hk
  -- the length is named later
  have hX := Lib.hid hx
  have hBb := Lib.hid hb
  have e1' := Lib.hid e1
  have e2' := Lib.hid e2
  have e3' := Lib.hid e3
  have hr' := Lib.hid hr
  have hrect : Hid (Rect (tr M) n) := by rw [← e1]; exact matF_rect _ _ _
  have hmap : Hid (comR x (tr M) n (tr M).length = mapR M x) := by show _ = _; rw [← e1]; rfl
  clear H0 h hx hb e1 e2 e3 hok hq hr hk hkc hk48
  go_enter Tryd.func38, Tryd.ntmps38
  go_wp2_with fail
  refine H.out.mono ?_
  rintro e w1 ⟨⟨At, ct, rfl, -, -, -, hm⟩, hb⟩
  rw [hk'.out]
  have D := Lib.hid hb
  have X1 := Lib.hid hm
  replace hX := Lib.hid (hX.out.hold hb)
  replace hBb := Lib.hid (hBb.out.hold hb)
  clear hm hb H
  have hR4 := Lib.hid (Blk.new w1 [.slice none 0 0, .int .i64 0] 35)
  have hA4 : Hid (∀ o, Below w1.heap.size w1 (w1.alloc o)) := fun o => (Below.refl _ _).alloc (Nat.le_refl _) _
  have CC : Hid (∀ W, Below w1.heap.size w1 W → Calls Tryd.prog 41 #[.slice Ax q cx, .slice At k ct, .int .i64 n] W fun e w' => ∃ A' c', e = .returned (.slice A' n c') ∧ Rds w' w'.heap.size A' ((mapR M x).map bv) ∧ Below W.heap.size W w') := fun W hW =>
    combine_v x (tr M) n k q Ax At cx ct W (hX.out.hold hW) (X1.out.keep hW) e2'.out hk'.out hkq hrect.out (by omega) (by omega) hmap.out
  go_wp2_with (refine wpList_row_store rfl 35 _ _ rfl [.slice At k ct, .int .i64 0] rfl rfl hR4.out size_made rfl (made_one _ _ _ _) ?_; intro w5 hw5 ho5; have D5 := Lib.hid ((hA4.out _).trans (ho5.below (Nat.le_refl _))); have q1 := hw5.out.cell (j := 0) rfl; have q2 := hw5.out.cell (j := 1) rfl; clear ho5)
  refine (CC.out w5 D5.out).mono ?_
  rintro e w6 ⟨Ac, cc, rfl, hm, hb⟩
  have X2 := Lib.hid hm
  have hb1 : Below w1.heap.size w1 w6 := D5.out.trans (hb.mono D5.out.size)
  replace D := Lib.hid (D.out.trans (hb1.mono D.out.size))
  replace hBb := Lib.hid (hBb.out.hold hb1)
  clear hm hb hb1 CC hR4 hA4 q1 q2 hw5 D5 X1
  have S1 := Lib.hid (sameRow_v (mapR M x) b n nb Ac Ab cc cb w6 X2.out hBb.out ((mapR_len M x).trans e1'.out) e3'.out (by omega) hr'.out)
  go_wp2_with fail
  refine S1.out.mono ?_
  rintro e w7 ⟨rfl, hb⟩
  replace D := Lib.hid (D.out.trans (hb.mono D.out.size))
  clear hb S1
  go_wp2_with fail
  go_ret
  exact ⟨rfl, D.out⟩

theorem sum_v (a b : List UInt8) (n n' : Nat) (A A' : Option Addr) (c c' : Nat) (w : World) (ha : Rds w w.heap.size A (a.map bv)) (hb : Rds w w.heap.size A' (b.map bv)) (e1 : a.length = n) (e2 : b.length = n') (hn : n ≤ n') (hl : n ≤ 100000) :
    Calls Tryd.prog 39 #[.slice A n c, .int .u8 1, .slice A' n' c'] w fun e w' => ∃ A2 c2, e = .returned (.slice A2 n c2) ∧ Rds w' w'.heap.size A2 ((addR 1 b a).map bv) ∧ Below w.heap.size w w' := by
  have H := refSum5_any a b 1 A A' c c' n n' w ha hb (Nat.le_refl _) (Nat.le_refl _) e1.symm e2.symm (by omega) (by omega)
  refine H.mono fun e w' h => ?_
  obtain ⟨v, rfl, h1, h2⟩ := h
  obtain ⟨A2, c2, rfl, _, _, _, h3⟩ := own_form h1
  rw [addR_len, e1]
  exact ⟨A2, c2, rfl, h3, h2⟩
theorem row_rds {w : World} {B : Nat} {A : Option Addr} {n c : Nat} {l : List UInt8} (h : RowAt w B (.slice A n c) l) : Rds w B A (l.map bv) := by
  obtain ⟨a, c', e, _, _, _, h⟩ := h
  cases e
  exact h
section
open Go.ChangeShapes Go.WideShapes Go.ChangeAt
/-- An argument that is two slices of bytes. -/
theorem open_twoB {H : Type} {enc : TypeId × Value → H} {P : Program} {w : World} {base : Nat} {spare : Nat → Bool} {held : Bool} {r : Reach} {b0 : Nat} {t s e : TypeId} {v : Value} {d : DataW H} {ps : List MemPlace}
    (ht : P.underlying t = some (.array 2 s)) (hs : P.underlying s = some (.slice e)) (he : P.underlying e = some (.int .u8)) (hcs : P.cellsOf s = 1) (hct : P.cellsOf t = 2) (hce : P.cellsOf e = 1) (hval : Value.okWide P w r b0 t v) (hd : DataW.Trod enc P w base spare held t v d ps) :
    ∃ (A1 : Option Addr) (c1 : Nat) (l1 : List UInt8) (A2 : Option Addr) (c2 : Nat) (l2 : List UInt8), v = .agg #[.slice A1 l1.length c1, .slice A2 l2.length c2] ∧ RowAt w w.heap.size (.slice A1 l1.length c1) l1 ∧ RowAt w w.heap.size (.slice A2 l2.length c2) l2 := by
  unfold Value.okWide at hval
  rw [ht] at hval
  obtain ⟨cs, rfl, hsz, _⟩ := hval
  obtain ⟨fuel, hf⟩ := hd
  obtain ⟨xs, m, rfl, hx, hl, hn, hat⟩ := DataW.trod_array ht hf
  rw [hct] at hsz
  obtain ⟨l, hcl⟩ : ∃ l, l = cs.toList := ⟨_, rfl⟩
  have hll : l.length = 2 := by rw [hcl, Array.length_toList, hsz]
  match l, hll with
  | [u, z], _ =>
    have hcs2 : cs = #[u, z] := by apply Array.ext'; rw [← hcl]
    subst hcs2
    rw [hcs] at hat
    have h0 := hat 0 (by decide)
    have h1 := hat 1 (by decide)
    match xs, hn with
    | [x, y], _ =>
      obtain ⟨l1, k1⟩ := open_rowB hs he hce h0
      obtain ⟨l2, k2⟩ := open_rowB hs he hce h1
      have k1' := k1
      have k2' := k2
      obtain ⟨A1, c1, rfl, _⟩ := k1
      obtain ⟨A2, c2, rfl, _⟩ := k2
      exact ⟨A1, c1, l1, A2, c2, l2, rfl, k1', k2'⟩
end
theorem sameB_ne {α : Type} [DecidableEq α] {a b : List α} (h : a ≠ b) : sameB a b = false := by unfold sameB; simp [h]
theorem sameB_iff {α : Type} [DecidableEq α] {a b : List α} : sameB a b = true ↔ a = b := by unfold sameB; simp

set_option maxRecDepth 100000 in
set_option maxHeartbeats 8000000 in
theorem walk_solutions (A0 : Option Addr) (c0 : Nat) (l0 : List (List UInt8)) (A1 : Option Addr) (c1 : Nat) (b : List UInt8) (A2 : Option Addr) (c2 : Nat) (y : List UInt8) (w : World) (H0 : SlM w A0 l0.length c0 l0) (H1 : RowAt w w.heap.size (.slice A1 b.length c1) b) (H2 : RowAt w w.heap.size (.slice A2 y.length c2) y) (ht : PTab 0 w) :
    Calls Tryd.prog 6 #[.slice A0 l0.length c0, .agg #[.slice A1 b.length c1, .slice A2 y.length c2]] w fun e w' => e = .returned (.bool true) ∧ Below w.heap.size w w' := by
  obtain ⟨n, hn⟩ : ∃ n, l0.length = n := ⟨_, rfl⟩
  obtain ⟨m, hm⟩ : ∃ n, b.length = n := ⟨_, rfl⟩
  obtain ⟨p, hp⟩ : ∃ n, y.length = n := ⟨_, rfl⟩
  have q0 := H0.reach
  rw [hn] at q0
  obtain ⟨W1, hW1⟩ : ∃ W1, W1 = w.alloc (.cells #[.slice A1 m c1, .slice A2 p c2] 60) := ⟨_, rfl⟩
  have hB1 : Hid (Below w.heap.size w W1) := by show Below _ _ _; rw [hW1]; exact (Below.refl _ _).alloc (Nat.le_refl _) _
  have hK1 : Hid (Blk W1 w.heap.size [.slice A1 m c1, .slice A2 p c2] 60) := by show Blk _ _ _ _; rw [hW1]; exact Blk.new _ [_, _] _
  have hs1 : Hid (W1.heap.size = w.heap.size + 1) := by show _ = _; rw [hW1]; simp
  have z1 : ∀ z : ExtOf W1.drew, z.world.cell? ⟨w.heap.size, 0, none⟩ = some (.slice A1 m c1) := fun z => (hK1.out.drew.below z.ext hK1.out.drew.lt).cell rfl
  have z2 : ∀ z : ExtOf W1.drew, z.world.cell? ⟨w.heap.size, 1, none⟩ = some (.slice A2 p c2) := fun z => (hK1.out.drew.below z.ext hK1.out.drew.lt).cell rfl
  have D : Hid (Below w.heap.size w W1.drew) := hB1.out.drew
  have hT : Hid (PTab 0 W1.drew) := ht.on D.out
  have M0 := Lib.hid (H0.mat.keep D.out)
  have V1 := Lib.hid ((row_rds H1).hold D.out)
  have V2 := Lib.hid ((row_rds H2).hold D.out)
  have hW1' := Lib.hid hW1
  obtain ⟨b0, hb0⟩ : ∃ b, fewB l0 20 = b := ⟨_, rfl⟩
  obtain ⟨E0, hE0⟩ : ∃ E, chk l0 = E := ⟨_, rfl⟩
  obtain ⟨k0, hk0⟩ : ∃ n, cols l0 = n := ⟨_, rfl⟩
  obtain ⟨E, hE⟩ : ∃ E, solveE l0 b = E := ⟨_, rfl⟩
  obtain ⟨X, hX⟩ : ∃ E, solveX l0 b = E := ⟨_, rfl⟩
  obtain ⟨K, hK⟩ : ∃ E, solveK l0 b = E := ⟨_, rfl⟩
  obtain ⟨x, hx⟩ : ∃ E, X.length = E := ⟨_, rfl⟩
  obtain ⟨k, hk⟩ : ∃ E, K.length = E := ⟨_, rfl⟩
  obtain ⟨r, hr⟩ : ∃ E, (redP l0).length = E := ⟨_, rfl⟩
  obtain ⟨sv, hsv⟩ : ∃ E, sameB (mapR l0 y) b = E := ⟨_, rfl⟩
  obtain ⟨E2, hE2⟩ : ∃ E, expE K (addR 1 X y) = E := ⟨_, rfl⟩
  obtain ⟨L2, hL2⟩ : ∃ E, expL K (addR 1 X y) = E := ⟨_, rfl⟩
  obtain ⟨l2, hl2⟩ : ∃ E, L2.length = E := ⟨_, rfl⟩
  have L0 : Hid (b0 = true → n ≤ 20) := fun h => by have := few_len (hb0.trans h); omega
  -- what the maths says
  have G1 : Hid (E0 = 0 → m = n → p = k0 → Ok l0 ∧ k0 ≤ 48 ∧ (E = 8 ∧ sv = false ∨ E = 0 ∧ x = k0 ∧ k + r = k0 ∧ sameB (mapR l0 X) b = true ∧ chk K = 0 ∧ (redP K).length = k ∧ (∀ v ∈ K, v.length = k0) ∧ (∀ v ∈ K, sameB (mapR l0 v) (List.replicate n 0) = true) ∧ (E2 = 0 ∧ sv = true ∨ E2 = 8 ∧ sv = false))) := fun e hmn hpk => by
    have o := ok_of (hE0.trans e)
    have hbl : b.length = l0.length := by omega
    have hyl : y.length = cols l0 := by omega
    refine ⟨o, by rw [← hk0]; exact o.cols_le, ?_⟩
    have hcase := solveE_cases o hbl
    rw [hE] at hcase
    by_cases h8 : E = 0
    · right
      obtain ⟨a1, a2, a3, a4, a5, a6, a7⟩ := solve_all o hbl (hE.trans h8)
      rw [hX] at a1 a2
      rw [hK] at a3 a4 a5 a6
      rw [hX, hK] at a7
      rw [hk0] at a1 a3 a4 a5 a7
      have hkk : K.length ≤ 48 := by have := o.cols_le; omega
      have oK : Ok K := ok_of_rect a4 hkk (by rw [← hk0]; exact o.cols_le)
      have hfull : (redP K).length = k := by
        rw [redP_rk]
        rcases Nat.eq_zero_or_pos k with h0 | h0
        · rw [List.length_eq_zero_iff.1 (hk.trans h0), rk_nil, h0]
        · rw [cols_of a4 (by omega), a5, hk]
      have hadd : (addR 1 X y).length = k0 := by rw [addR_len]; omega
      have hXp : ExpOk K (addR 1 X y) := ⟨oK, by rw [hadd, ← hk0]; exact o.cols_le, fun h => by rw [hadd, cols_of a4 h]⟩
      obtain ⟨f1, f2⟩ := exp_iff hXp
      rw [hadd, a7 y (by omega), ← sameB_iff, hsv, hE2] at f2
      rw [hE2] at f1
      refine ⟨h8, by omega, by omega, sameB_iff.2 a2, chk_ok oK, hfull, a4, fun v hv => ?_, ?_⟩
      · rw [a6 v hv, hn]; exact sameB_self _
      · rcases f1 with f1 | f1
        · exact .inl ⟨f1, f2.1 f1⟩
        · refine .inr ⟨f1, ?_⟩
          cases hs : sv with
          | false => rfl
          | true => rw [f2.2 hs] at f1; cases f1
    · left
      refine ⟨?_, ?_⟩
      · rw [hcase] at h8 ⊢
        split
        · rfl
        · rename_i hh; rw [if_neg hh] at h8; exact absurd rfl h8
      · rw [← hsv]
        exact sameB_ne (solve_none o hbl hyl (by rw [hE]; exact h8))
  have hn' := Lib.hid hn
  have hm' := Lib.hid hm
  have hp' := Lib.hid hp
  have hE0' := Lib.hid hE0
  have hE' := Lib.hid hE
  have hX' := Lib.hid hX
  have hK' := Lib.hid hK
  have hx' := Lib.hid hx
  have hk' := Lib.hid hk
  have hr' := Lib.hid hr
  have hsv' := Lib.hid hsv
  have hE2' := Lib.hid hE2
  have hL2' := Lib.hid hL2
  have hl2' := Lib.hid hl2
  have hk0' := Lib.hid hk0
  have hb0' := Lib.hid hb0
  have hTw := Lib.hid ht
  have SANF : Hid (∀ W, Below w.heap.size w W → Calls Tryd.prog 18 #[] W fun e w' => e = .returned (.bool true) ∧ Below w.heap.size w w') := fun W hW => (sanity_any5 W (hTw.out.on hW)).mono fun e w' h => ⟨h.1, hW.trans (h.2.mono hW.size)⟩
  rw [hn, hm, hp]
  clear hn hm hp hb0 hE0 hE hX hK hx hk hr hsv hE2 hL2 hl2 hk0 H0 H1 H2 ht hW1
  go_enter Tryd.func6, Tryd.ntmps6
  go_wp2_with fail
  generalize hg : w.alloc _ = Wg
  have hgW : W1 = Wg := by rw [← hg, hW1'.out]
  clear hg hW1'
  subst hgW
  refine wp_region_planL 99 [(true, 0), (true, 1), (true, 2), (true, 3), (true, 4), (true, 5)] (by kernel_rfl) (by decide) (by kernel_rfl) (by kernel_rfl) (by kernel_rfl) (by decide) (by intro c a d v w h; cases d <;> exact h) ?_
  change wpPlanL _ _ _ _ _ _ W1.drew
  iterate 6 (refine wpPlanL_plain rfl (fun K hK => ?_); go_simp; refine hK _ ?_; clear hK K)
  refine wpPlanL_nil ?_
  clear z1 z2 hK1 hs1 hB1
  generalize W1.drew = w1 at D hT M0 V1 V2 ⊢
  have C0 := Lib.hid (columns_v l0 n k0 A0 c0 w1 M0.out hn'.out hk0'.out)
  go_wp2_with fail
  refine C0.out.mono ?_
  rintro e w2 ⟨rfl, rfl⟩
  clear C0
  have F0 := Lib.hid (few_v l0 n A0 c0 20 w1 M0.out hn'.out (by omega) hb0'.out)
  go_wp2_with fail
  refine F0.out.mono ?_
  rintro e w2 ⟨rfl, rfl⟩
  cases b0 with
  | false =>
    go_wp2_with fail
    refine (SANF.out _ D.out).mono ?_
    rintro e w2 ⟨rfl, hb⟩
    go_wp2_with fail
    go_ret
    exact ⟨rfl, hb⟩
  | true =>
  have L0q := L0.out (by trivial)
  clear L0 F0
  have K0 := Lib.hid (check_v l0 n A0 c0 w1 M0.out hn'.out (by omega) hE0'.out)
  go_wp2_with fail
  refine K0.out.mono ?_
  rintro e w2 ⟨rfl, hb⟩
  replace D := Lib.hid (D.out.trans (hb.mono D.out.size))
  replace M0 := Lib.hid (M0.out.keep hb)
  replace V1 := Lib.hid (V1.out.hold hb)
  replace V2 := Lib.hid (V2.out.hold hb)
  replace hT := Lib.hid (hT.out.on hb)
  clear hb K0
  by_cases z0 : E0 = 0
  rotate_left
  · have t : (E0 != 0) = true := by simpa using z0
    go_wp2_with fail
    refine (SANF.out _ D.out).mono ?_
    rintro e w2 ⟨rfl, hb⟩
    go_wp2_with fail
    go_ret
    exact ⟨rfl, hb⟩
  have G1a := Lib.hid (G1.out z0)
  clear G1
  subst z0
  by_cases y0 : m = n
  rotate_left
  · have t : ((m : Int) != (n : Int)) = true := by simp only [bne_iff_ne, ne_eq]; omega
    go_wp2_with fail
    refine (SANF.out _ D.out).mono ?_
    rintro e w2 ⟨rfl, hb⟩
    go_wp2_with fail
    go_ret
    exact ⟨rfl, hb⟩
  have tmn : ((m : Int) != (n : Int)) = false := by simp only [bne_eq_false_iff_eq]; omega
  by_cases y1 : p = k0
  rotate_left
  · have t : ((p : Int) != (k0 : Int)) = true := by simp only [bne_iff_ne, ne_eq]; omega
    go_wp2_with fail
    refine (SANF.out _ D.out).mono ?_
    rintro e w2 ⟨rfl, hb⟩
    go_wp2_with fail
    go_ret
    exact ⟨rfl, hb⟩
  obtain ⟨g1, g2, g3⟩ := G1a.out y0 y1
  have g1' := Lib.hid g1
  have g3' := Lib.hid g3
  clear G1a g1 g3
  replace y0 := y0.symm
  subst y0
  replace y1 := y1.symm
  subst y1
  clear tmn
  have tnn : ((n : Int) != (n : Int)) = false := by simp
  have tpp : ((k0 : Int) != (k0 : Int)) = false := by simp
  have P1 := Lib.hid (solve_v l0 b n n x k A0 A1 c0 c1 w2 M0.out V1.out hn'.out hm'.out (by omega) hT.out hE'.out hX'.out hK'.out hx'.out hk'.out)
  go_wp2_with fail
  refine P1.out.mono ?_
  rintro e w3 ⟨Ax, cx, Ak, ck, rfl, h1, h2, hb⟩
  have X1 := Lib.hid h1
  have X2 := Lib.hid h2
  replace D := Lib.hid (D.out.trans (hb.mono D.out.size))
  replace M0 := Lib.hid (M0.out.keep hb)
  replace V1 := Lib.hid (V1.out.hold hb)
  replace V2 := Lib.hid (V2.out.hold hb)
  replace hT := Lib.hid (hT.out.on hb)
  clear h1 h2 hb P1
  have P2 := Lib.hid (mapped_v l0 y b n k0 n A0 A2 A1 c0 c2 c1 w3 M0.out V2.out V1.out hn'.out hp'.out hm'.out g1'.out (Nat.le_of_eq hk0'.out) hsv'.out)
  go_wp2_with fail
  refine P2.out.mono ?_
  rintro e w4 ⟨rfl, hb⟩
  replace D := Lib.hid (D.out.trans (hb.mono D.out.size))
  replace M0 := Lib.hid (M0.out.keep hb)
  replace V1 := Lib.hid (V1.out.hold hb)
  replace V2 := Lib.hid (V2.out.hold hb)
  replace X1 := Lib.hid (X1.out.hold hb)
  replace X2 := Lib.hid (X2.out.keep hb)
  replace hT := Lib.hid (hT.out.on hb)
  clear hb P2
  rcases g3'.out with ⟨e1, es⟩ | ⟨e1, ex, ek, em, eK, ef, er, ez, e2⟩
  · clear g3'
    subst e1
    subst es
    go_wp2_with fail
    refine (SANF.out _ D.out).mono ?_
    rintro e w5 ⟨rfl, hb⟩
    go_wp2_with fail
    go_ret
    exact ⟨rfl, hb⟩
  have em' := Lib.hid em
  have eK' := Lib.hid eK
  have ef' := Lib.hid ef
  have er' := Lib.hid er
  have ez' := Lib.hid ez
  have e2' := Lib.hid e2
  clear g3' em eK ef er ez e2
  subst e1
  replace ex := ex.symm
  subst ex
  have P3 := Lib.hid (rank_v l0 n r A0 c0 w4 M0.out hn'.out (by omega) hT.out hE0'.out hr'.out)
  go_wp2_with fail
  refine P3.out.mono ?_
  rintro e w5 ⟨rfl, hb⟩
  replace D := Lib.hid (D.out.trans (hb.mono D.out.size))
  replace M0 := Lib.hid (M0.out.keep hb)
  replace V1 := Lib.hid (V1.out.hold hb)
  replace V2 := Lib.hid (V2.out.hold hb)
  replace X1 := Lib.hid (X1.out.hold hb)
  replace X2 := Lib.hid (X2.out.keep hb)
  replace hT := Lib.hid (hT.out.on hb)
  clear hb P3
  have P4 := Lib.hid (rank_v K k k Ak ck w5 X2.out hk'.out (by omega) hT.out eK'.out ef'.out)
  go_wp2_with fail
  refine P4.out.mono ?_
  rintro e w6 ⟨rfl, hb⟩
  replace D := Lib.hid (D.out.trans (hb.mono D.out.size))
  replace M0 := Lib.hid (M0.out.keep hb)
  replace V1 := Lib.hid (V1.out.hold hb)
  replace V2 := Lib.hid (V2.out.hold hb)
  replace X1 := Lib.hid (X1.out.hold hb)
  replace X2 := Lib.hid (X2.out.keep hb)
  replace hT := Lib.hid (hT.out.on hb)
  clear hb P4
  have P5 := Lib.hid (mapped_v l0 X b n k0 n A0 Ax A1 c0 cx c1 w6 M0.out X1.out V1.out hn'.out hx'.out hm'.out g1'.out (Nat.le_of_eq hk0'.out) em'.out)
  have tkr : (k0 : Int) - (r : Int) = (k : Int) := by omega
  have tkk : ((k : Int) != (k : Int)) = false := by simp
  go_wp2_with fail
  refine P5.out.mono ?_
  rintro e w7 ⟨rfl, hb⟩
  replace D := Lib.hid (D.out.trans (hb.mono D.out.size))
  replace M0 := Lib.hid (M0.out.keep hb)
  replace V2 := Lib.hid (V2.out.hold hb)
  replace X1 := Lib.hid (X1.out.hold hb)
  replace X2 := Lib.hid (X2.out.keep hb)
  replace hT := Lib.hid (hT.out.on hb)
  clear hb P5 V1
  have hB7 : Hid (Below w7.heap.size w7 w7) := Below.refl _ _
  have hk48 : k ≤ 48 := by omega
  go_wp2_with fail
  clear tkr tkk tnn
  go_loopw [116] (fun i wr => ∃ j : Nat, j ≤ k ∧ i = .int .i64 j ∧ Below w7.heap.size w7 wr) (fun i _ => k - (intOf i).toNat)
  case atStart => exact ⟨0, Nat.zero_le _, rfl, hB7.out⟩
  case round =>
    obtain ⟨j, hj, rfl, hb0⟩ := hrel
    have hb := Lib.hid hb0
    clear hb0
    by_cases hlt : j < k
    · have tl : (j : Int) < (k : Int) := by omega
      have tj0 : 0 ≤ (j : Int) := by omega
      obtain ⟨v, hv⟩ : ∃ x, K[j]? = some x := ⟨_, List.getElem?_eq_getElem (by rw [hk'.out]; exact hlt)⟩
      obtain ⟨ad, u, hA, hab, hc, hrow⟩ := X2.out.at hv
      subst hA
      have hcw : wr.cell? (ad.add j) = some u := (hb.out.cell (p := ad.add j) (by rw [add_block]; exact hab)).trans hc
      have hvl : v.length = k0 := er'.out v (List.mem_of_getElem? hv)
      have hvz := Lib.hid (ez'.out v (List.mem_of_getElem? hv))
      obtain ⟨av, cw, hu, _, _, _, hrd⟩ := hrow
      rw [hvl] at hu
      subst hu
      have hvl' := Lib.hid hvl
      have hrd' := Lib.hid (hrd.hold hb.out)
      have MW := Lib.hid (M0.out.keep hb.out)
      obtain ⟨W2, hW2⟩ : ∃ W2, W2 = wr.alloc (.cells (madeCells #[.int .u8 0] n) 5) := ⟨_, rfl⟩
      have hB2 : Hid (Below wr.heap.size wr W2) := by show Below _ _ _; rw [hW2]; exact (Below.refl _ _).alloc (Nat.le_refl _) _
      have hZ2 : Hid (Blk W2 wr.heap.size ((List.replicate n (0 : UInt8)).map bv) 5) := by
        show Blk _ _ _ _
        rw [hW2, made_zeros, zeros_row]
        exact Blk.new _ _ _
      have hZr : Hid (Rds W2 W2.heap.size (some ⟨wr.heap.size, 0, none⟩) ((List.replicate n (0 : UInt8)).map bv)) := by
        have := hZ2.out.rds 0 n
        rw [List.drop_zero, List.take_of_length_le (by simp)] at this
        exact this
      have hmk := run_make_row' (P := Tryd.prog) 43 5 (.int .u8 0) 1 Tryd.underlying43 infoByte rfl .i64 .i64 n (by omega) (by omega) wr
      rw [← hW2] at hmk
      have MP := Lib.hid (mapped_v l0 v (List.replicate n 0) n k0 n A0 av (some ⟨wr.heap.size, 0, none⟩) c0 cw n W2 (MW.out.keep hB2.out) (hrd'.out.hold hB2.out) hZr.out hn'.out hvl'.out (List.length_replicate ..) g1'.out (Nat.le_of_eq hk0'.out) hvz.out)
      clear hc hv hvl hrd hW2 hZ2 hZr
      go_wp2_with fail
      refine MP.out.mono ?_
      rintro e w8 ⟨rfl, hb8⟩
      have hbn : Hid (Below w7.heap.size w7 w8) := hb.out.trans ((hB2.out.trans (hb8.mono hB2.out.size)).mono hb.out.size)
      clear hb8 MP MW hmk hB2 hcw
      go_wp2_with fail
      go_roundw
      case rel => exact ⟨j + 1, by omega, by go_num, hbn.out⟩
      case measure => simp [intOf]; omega
    · have tl : ¬ (j : Int) < (k : Int) := by omega
      replace D := Lib.hid (D.out.trans (hb.out.mono D.out.size))
      replace V2 := Lib.hid (V2.out.hold hb.out)
      replace X1 := Lib.hid (X1.out.hold hb.out)
      replace X2 := Lib.hid (X2.out.keep hb.out)
      replace hT := Lib.hid (hT.out.on hb.out)
      clear hb hB7
      have P6 := Lib.hid (sum_v y X k0 k0 A2 Ax c2 cx wr V2.out X1.out hp'.out hx'.out (Nat.le_refl _) (by omega))
      go_wp2_with fail
      refine P6.out.mono ?_
      rintro e w8 ⟨As, cs, rfl, h1, hb⟩
      have X3 := Lib.hid h1
      replace D := Lib.hid (D.out.trans (hb.mono D.out.size))
      replace X2 := Lib.hid (X2.out.keep hb)
      replace hT := Lib.hid (hT.out.on hb)
      clear h1 hb P6 V2 X1
      have P7 := Lib.hid (express_v K (addR 1 X y) k k0 l2 Ak As ck cs w8 X2.out X3.out hk'.out (by rw [addR_len]; exact hp'.out) (by omega) hT.out hE2'.out hL2'.out hl2'.out)
      go_wp2_with fail
      refine P7.out.mono ?_
      rintro e w9 ⟨Ae, ce, rfl, h1, hb⟩
      replace D := Lib.hid (D.out.trans (hb.mono D.out.size))
      replace hT := Lib.hid (hT.out.on hb)
      clear h1 hb P7 X2 X3
      go_wp2_with fail
      refine (sanity_any5 _ hT.out).mono ?_
      rintro e w10 ⟨rfl, hb⟩
      replace D := Lib.hid (D.out.trans (hb.mono D.out.size))
      clear hb
      rcases e2'.out with ⟨f1, f2⟩ | ⟨f1, f2⟩
      · subst f1
        subst f2
        go_wp2_with fail
        go_ret
        exact ⟨rfl, D.out⟩
      · subst f1
        subst f2
        go_wp2_with fail
        go_ret
        exact ⟨rfl, D.out⟩
end Go.Proofs.YtfbdhcpclccikaaDoor
