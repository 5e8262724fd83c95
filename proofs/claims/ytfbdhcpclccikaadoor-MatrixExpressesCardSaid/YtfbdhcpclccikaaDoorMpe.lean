/-
  Stage 5: MatrixExpresses, the walk.
-/
import Derived.Test.YtfbdhcpclccikaaDoorMwk
import Derived.Test.YtfbdhcpclccikaaDoorMpw
import Derived.ArgAppend
namespace Go.Proofs.YtfbdhcpclccikaaDoor
set_option linter.unusedVariables false
set_option linter.unusedSimpArgs false
open Go.RowKit

set_option maxRecDepth 100000 in
/-- 'append(m[:len(m):len(m)], row)', m not empty. -/
theorem snoc_mat {w0 : World} {ops : Array Oper} {rest : List Oper} {o : Oper} {a : Act} {Q : Exit → Act → World → Prop} (hgd : o.guard = none) (s x : Operand)
    (ho : o.op = .call { callee := .builtin .append, args := #[s, x], argTypes := #[22, 22] })
    (ad : Addr) (n : Nat) (M : List (List UInt8)) (m : List UInt8) (u : Value) (hs : a.eval s = .slice (some ad) n n) (hx : a.eval x = .slice (some ⟨w0.heap.size, 0, none⟩) 1 1)
    (hM : Mat w0 w0.heap.size (some ad) M) (hu : RowAt w0 w0.heap.size u m) (hn : M.length = n) (hl : n ≤ 100000)
    (h : ∀ A c w', Mat w' w'.heap.size A (M ++ [m]) → Below w0.heap.size w0 w' → wpList Tryd.prog ops Q rest (a.put o.dst (.slice A (n + 1) c)) w') :
    wpList Tryd.prog ops Q (o :: rest) a (w0.alloc (.cells #[u] 43)) := by
  obtain ⟨vs, h1, h2, h3⟩ := hM
  obtain ⟨i0, hi, hz0, hz1, hz2⟩ := info_parts infoRow
  have hB1 : Below w0.heap.size w0 (w0.alloc (.cells #[u] 43)) := (Below.refl _ _).alloc (Nat.le_refl _) _
  have hK : Blk (w0.alloc (.cells #[u] 43)) w0.heap.size [u] 43 := Blk.new w0 [u] _
  refine wpList_append_grows _ hgd s x 22 ho 43 i0 (.slice none 0 0) 1 24 Tryd.underlying22 hi hz0 hz1 hz2 rfl (by decide) (some ad) n n vs hs (fun hh => by cases hh) (by rw [h1, hn, Nat.mul_one]) (fun b hb j u' hu' => ?_) ⟨w0.heap.size, 0, none⟩ 1 1 [u] hx rfl (fun j u' hu' => ?_) (fun u' hu' => ?_) (by omega) (by unfold maxLen; omega) (by omega) ?_
  · obtain ⟨ad', e, hbb, hc⟩ := h2.look hu'
    cases e
    cases hb
    rw [hB1.cell (p := ad.add j) (by rw [add_block]; omega)]
    exact hc
  · have := hK.cell hu'
    rw [← this]
    congr 1
    simp [Addr.add] <;> omega
  · rw [List.mem_singleton.1 hu']
    obtain ⟨_, _, rfl, _⟩ := hu
    rfl
  · intro v' w' g1 g2
    have hB2 : Below w0.heap.size w0 w' := hB1.trans ((Below.refl _ _).grown g2 hB1.size fun k hk => by cases hk)
    obtain ⟨A, c, rfl, _, _, _, g3⟩ := own_form g1
    refine h A c w' ⟨vs ++ [u], by simp [h1], g3, fun i v r hv hr => ?_⟩ hB2
    rcases Nat.lt_or_ge i vs.length with hil | hil
    · rw [List.getElem?_append_left hil] at hv
      rw [List.getElem?_append_left (by omega)] at hr
      exact (h3 i v r hv hr).keep hB2
    · rw [List.getElem?_append_right hil] at hv
      rw [List.getElem?_append_right (by omega), ← h1] at hr
      have h0 : i - vs.length = 0 := by
        rcases Nat.eq_zero_or_pos (i - vs.length) with h0 | h0
        · exact h0
        · rw [List.getElem?_eq_none (by simp; omega)] at hv; cases hv
      rw [h0] at hv hr
      obtain rfl := Option.some.inj hv
      obtain rfl := Option.some.inj hr
      exact hu.keep hB2

set_option maxRecDepth 100000 in
set_option maxHeartbeats 8000000 in
theorem walk_expresses (A0 : Option Addr) (c0 : Nat) (l0 : List (List UInt8)) (A1 : Option Addr) (c1 : Nat) (l1 : List UInt8) (w : World) (H0 : SlM w A0 l0.length c0 l0) (H1 : SlB w A1 l1.length c1 l1) (ht : PTab 0 w) :
    Calls Tryd.prog 8 #[.slice A0 l0.length c0, .slice A1 l1.length c1] w fun e w' => e = .returned (.bool true) ∧ Below w.heap.size w w' := by
  obtain ⟨n, hn⟩ : ∃ n, l0.length = n := ⟨_, rfl⟩
  obtain ⟨m, hm⟩ : ∃ n, l1.length = n := ⟨_, rfl⟩
  have M0 := Lib.hid H0.mat
  have M1 := Lib.hid H1.rds
  have V1 : Hid (RowAt w w.heap.size (.slice A1 m c1) l1) := by
    subst hm
    exact ⟨A1, c1, rfl, H1.cap, H1.max, H1.nil, H1.rds⟩
  have q0 := H0.reach
  have q1 := H1.reach
  have cap0 := H0.cap
  have max0 := H0.max
  rw [hn] at q0 cap0
  rw [hm] at q1
  obtain ⟨b0, hb0⟩ : ∃ b, fewB l0 20 = b := ⟨_, rfl⟩
  obtain ⟨E0, hE0⟩ : ∃ E, chk l0 = E := ⟨_, rfl⟩
  obtain ⟨k0, hk0⟩ : ∃ n, cols l0 = n := ⟨_, rfl⟩
  obtain ⟨E, hE⟩ : ∃ E, expE l0 l1 = E := ⟨_, rfl⟩
  obtain ⟨L, hL⟩ : ∃ E, expL l0 l1 = E := ⟨_, rfl⟩
  obtain ⟨l, hl⟩ : ∃ E, L.length = E := ⟨_, rfl⟩
  obtain ⟨r, hr⟩ : ∃ E, (redP l0).length = E := ⟨_, rfl⟩
  obtain ⟨s, hs⟩ : ∃ E, (redP (l0 ++ [l1])).length = E := ⟨_, rfl⟩
  have L0 : Hid (b0 = true → n ≤ 20) := fun h => by have := few_len (hb0.trans h); omega
  have F0 := Lib.hid (few_v l0 n A0 c0 20 w M0.out hn (by omega) hb0)
  have K0 := Lib.hid (check_v l0 n A0 c0 w M0.out hn (by omega) hE0)
  have hT := Lib.hid ht
  have few48 : Hid (b0 = true → ∀ m ∈ l0, m.length ≤ 20) := fun h m hm => by
    have h' := hb0.trans h
    unfold fewB at h'
    rw [Bool.and_eq_true, Bool.not_eq_true', List.any_eq_false] at h'
    have := h'.2 m hm
    simpa using this
  -- what the maths says
  have G1 : Hid (b0 = true → E0 = 0 → n ≠ 0 → m = k0 → Ok l0 ∧ k0 ≤ 48 ∧ chk (l0 ++ [l1]) = 0 ∧ (l0 ++ [l1]).length = n + 1 ∧ (E = 0 ∧ s = r ∧ l = n ∧ comR L l0 m l0.length = l1 ∨ E = 8 ∧ s ≠ r ∧ l = 0) ∧ Rect l0 m) := fun hb e hn0 hmk => by
    have o := ok_of (hE0.trans e)
    have hp : 0 < l0.length := by omega
    have hc : l1.length = cols l0 := by omega
    have hrect : Rect (l0 ++ [l1]) (cols l0) := rect_snoc o.rect hc
    have hlen : l0.length ≤ 20 := few_len (hb0.trans hb)
    have hok : Ok (l0 ++ [l1]) := ok_of_rect hrect (by simp; omega) o.cols_le
    obtain ⟨h1, h2⟩ := exp_rank o hp hc
    rw [hs, hr] at h2
    refine ⟨o, by rw [← hk0]; exact o.cols_le, chk_ok hok, by simp [hn], ?_, by rw [hmk, ← hk0]; exact o.rect⟩
    rcases h1 with h1 | h1
    · left
      obtain ⟨a1, a2⟩ := exp_comb (R := l0) (row := l1) ⟨o, by rw [hc]; exact o.cols_le, fun _ => hc⟩ h1
      rw [hL] at a1 a2
      exact ⟨hE.symm.trans h1, h2.1 h1, by omega, by rw [← hm]; exact a2⟩
    · right
      refine ⟨hE.symm.trans h1, fun hh => ?_, ?_⟩
      · rw [h2.2 hh] at h1; cases h1
      · rw [← hl, ← hL]
        unfold expL
        rw [if_neg (by rw [h1]; decide)]
        rfl
  have G2 : Hid (E0 = 0 → n ≠ 0 → m = k0 → E = 0 → ∀ k, k < n → chk (l0.take k) = 0 ∧ chk (l0.take (k + 1)) = 0 ∧ (L.getD k 0 ≠ 0 → (redP (l0.take (k + 1))).length = (redP (l0.take k)).length + 1)) := fun e hn0 hmk hE' k hk => by
    have o := ok_of (hE0.trans e)
    refine ⟨chk_ok (ok_take o k), chk_ok (ok_take o (k + 1)), fun hc => ?_⟩
    rw [← hL] at hc
    exact exp_needs o (by omega) (by omega) (hE.trans hE') (by omega) hc
  have hn' := Lib.hid hn
  have hm' := Lib.hid hm
  have hE0' := Lib.hid hE0
  have hE' := Lib.hid hE
  have hL' := Lib.hid hL
  have hl' := Lib.hid hl
  have hr' := Lib.hid hr
  have hs' := Lib.hid hs
  have hk0' := Lib.hid hk0
  have SANF : Hid (∀ W, Below w.heap.size w W → Calls Tryd.prog 18 #[] W fun e w' => e = .returned (.bool true) ∧ Below w.heap.size w w') := fun W hW => (sanity_any5 W (hT.out.on hW)).mono fun e w' h => ⟨h.1, hW.trans (h.2.mono hW.size)⟩
  rw [hn, hm]
  clear hn hm hb0 hE0 hE hL hl hr hs hk0 H0 H1 ht few48
  go_enter Tryd.func8, Tryd.ntmps8
  go_wp2_with fail
  refine F0.out.mono ?_
  rintro e w1 ⟨rfl, rfl⟩
  cases b0 with
  | false =>
    go_wp2_with fail
    refine (SANF.out _ (Below.refl _ _)).mono ?_
    rintro e w2 ⟨rfl, hb⟩
    go_wp2_with fail
    go_ret
    exact ⟨rfl, hb⟩
  | true =>
  have L0q := L0.out (by trivial)
  have G1z := Lib.hid (G1.out (by trivial))
  clear L0 F0 G1
  by_cases n0 : n = 0
  · subst n0
    go_wp2_with fail
    refine (SANF.out _ (Below.refl _ _)).mono ?_
    rintro e w2 ⟨rfl, hb⟩
    go_wp2_with fail
    go_ret
    exact ⟨rfl, hb⟩
  have tn0 : ((n : Int) == 0) = false := by rw [beq_eq_false_iff_ne]; omega
  go_wp2_with fail
  refine K0.out.mono ?_
  rintro e w1 ⟨rfl, hb⟩
  have D := Lib.hid hb
  replace M0 := Lib.hid (M0.out.keep hb)
  replace M1 := Lib.hid (M1.out.hold hb)
  replace V1 := Lib.hid (V1.out.keep hb)
  replace hT := Lib.hid (hT.out.on hb)
  clear hb K0
  by_cases z0 : E0 = 0
  rotate_left
  · have t : (E0 != 0) = true := by simpa using z0
    go_wp2_with fail
    refine (SANF.out _ D.out).mono ?_
    rintro e w2 ⟨rfl, hb⟩
    go_wp2_with fail
    go_ret
    exact ⟨rfl, hb⟩
  have G1a := Lib.hid (G1z.out z0 n0)
  have G2a := Lib.hid (G2.out z0 n0)
  clear G1z G2
  subst z0
  have C0 := Lib.hid (columns_v l0 n k0 A0 c0 w1 M0.out hn'.out hk0'.out)
  go_wp2_with fail
  refine C0.out.mono ?_
  rintro e w2 ⟨rfl, rfl⟩
  by_cases y0 : m = k0
  rotate_left
  · have t : ((m : Int) != (k0 : Int)) = true := by simp only [bne_iff_ne, ne_eq]; omega
    go_wp2_with fail
    refine (SANF.out _ D.out).mono ?_
    rintro e w2 ⟨rfl, hb⟩
    go_wp2_with fail
    go_ret
    exact ⟨rfl, hb⟩
  obtain ⟨g1, g2, g3, g4, g5, g6⟩ := G1a.out y0
  have g1' := Lib.hid g1
  have g3' := Lib.hid g3
  have g4' := Lib.hid g4
  have g5' := Lib.hid g5
  have g6' := Lib.hid g6
  have G2b := Lib.hid (G2a.out y0)
  clear G1a G2a g1 g3 g4 g5 g6 C0 hk0'
  subst y0
  have tmm : ((m : Int) != (m : Int)) = false := by simp
  have P1 := Lib.hid (express_v l0 l1 n m l A0 A1 c0 c1 w1 M0.out M1.out hn'.out hm'.out (by omega) hT.out hE'.out hL'.out hl'.out)
  go_wp2_with fail
  refine P1.out.mono ?_
  rintro e w2 ⟨Al, cl, rfl, hm, hb⟩
  have X1 := Lib.hid hm
  replace D := Lib.hid (D.out.trans (hb.mono D.out.size))
  replace M0 := Lib.hid (M0.out.keep hb)
  replace M1 := Lib.hid (M1.out.hold hb)
  replace V1 := Lib.hid (V1.out.keep hb)
  replace hT := Lib.hid (hT.out.on hb)
  clear hm hb P1
  have P2 := Lib.hid (rank_v l0 n r A0 c0 w2 M0.out hn'.out (by omega) hT.out hE0'.out hr'.out)
  go_wp2_with fail
  refine P2.out.mono ?_
  rintro e w3 ⟨rfl, hb⟩
  replace D := Lib.hid (D.out.trans (hb.mono D.out.size))
  replace X1 := Lib.hid (X1.out.hold hb)
  replace M0 := Lib.hid (M0.out.keep hb)
  replace M1 := Lib.hid (M1.out.hold hb)
  replace V1 := Lib.hid (V1.out.keep hb)
  replace hT := Lib.hid (hT.out.on hb)
  clear hb P2
  obtain ⟨ad, hA0⟩ : ∃ ad, A0 = some ad := by
    obtain ⟨x, hx⟩ : ∃ x, l0[0]? = some x := ⟨_, List.getElem?_eq_getElem (by rw [hn'.out]; omega)⟩
    obtain ⟨ad, _, h1, _⟩ := M0.out.at hx
    exact ⟨ad, h1⟩
  subst hA0
  have tc0 : (n : Int) ≤ (c0 : Int) := by omega
  have tn1 : 0 ≤ (n : Int) := by omega
  go_wp2_with (at_builtin; go_must (refine snoc_mat rfl _ _ rfl ad n l0 l1 _ rfl rfl M0.out V1.out hn'.out (by omega) ?_); intro Aq cq w4 hm hb)
  have X2 := Lib.hid hm
  replace D := Lib.hid (D.out.trans (hb.mono D.out.size))
  replace X1 := Lib.hid (X1.out.hold hb)
  replace M0 := Lib.hid (M0.out.keep hb)
  replace M1 := Lib.hid (M1.out.hold hb)
  replace hT := Lib.hid (hT.out.on hb)
  clear hm hb V1
  have P3 := Lib.hid (rank_v (l0 ++ [l1]) (n + 1) s Aq cq w4 X2.out g4'.out (by omega) hT.out g3'.out hs'.out)
  go_wp2_with fail
  refine P3.out.mono ?_
  rintro e w5 ⟨rfl, hb⟩
  replace D := Lib.hid (D.out.trans (hb.mono D.out.size))
  replace X1 := Lib.hid (X1.out.hold hb)
  replace M0 := Lib.hid (M0.out.keep hb)
  replace M1 := Lib.hid (M1.out.hold hb)
  replace hT := Lib.hid (hT.out.on hb)
  clear hb P3 X2
  rcases g5'.out with ⟨e1, er, ex, hcomb⟩ | ⟨e1, er, ex⟩
  rotate_left
  · clear G2b g5'
    subst e1
    subst ex
    have t : ((s : Int) == (r : Int)) = false := by rw [beq_eq_false_iff_ne]; omega
    go_wp2_with fail
    refine (SANF.out _ D.out).mono ?_
    rintro e w2 ⟨rfl, hb⟩
    go_wp2_with fail
    go_ret
    exact ⟨rfl, hb⟩
  have G2c := Lib.hid (G2b.out e1)
  have hcomb' := Lib.hid hcomb
  clear G2b g5' hcomb
  subst e1
  subst er
  subst ex
  have t : ((s : Int) == (s : Int)) = true := by simp
  have tll : ((l : Int) != (l : Int)) = false := by simp
  have P4 := Lib.hid (combine_v L l0 m l l Al (some ad) cl c0 w5 X1.out M0.out hl'.out hn'.out (Nat.le_refl _) g6'.out (by omega) (by omega) hcomb'.out)
  go_wp2_with fail
  refine P4.out.mono ?_
  rintro e w6 ⟨Ac, cc, rfl, hm, hb⟩
  have X3 := Lib.hid hm
  replace D := Lib.hid (D.out.trans (hb.mono D.out.size))
  replace X1 := Lib.hid (X1.out.hold hb)
  replace M0 := Lib.hid (M0.out.keep hb)
  replace M1 := Lib.hid (M1.out.hold hb)
  replace hT := Lib.hid (hT.out.on hb)
  clear hm hb P4
  have S1 := Lib.hid (sameRow_v l1 l1 m m Ac A1 cc c1 w6 X3.out M1.out hm'.out hm'.out (by omega) (sameB_self _))
  go_wp2_with fail
  refine S1.out.mono ?_
  rintro e w7 ⟨rfl, hb⟩
  replace D := Lib.hid (D.out.trans (hb.mono D.out.size))
  replace X1 := Lib.hid (X1.out.hold hb)
  replace M0 := Lib.hid (M0.out.keep hb)
  replace hT := Lib.hid (hT.out.on hb)
  clear hb S1 X3 M1 t tll tmm tn0 n0
  have hB7 : Hid (Below w7.heap.size w7 w7) := Below.refl _ _
  go_wp2_with fail
  go_loopw [109] (fun i wr => ∃ k : Nat, k ≤ l ∧ i = .int .i64 k ∧ Below w7.heap.size w7 wr) (fun i _ => l - (intOf i).toNat)
  case atStart => exact ⟨0, Nat.zero_le _, rfl, hB7.out⟩
  case round =>
    obtain ⟨k, hk, rfl, hb0⟩ := hrel
    have hb := Lib.hid hb0
    clear hb0
    by_cases hlt : k < l
    · have tl : (k : Int) < (l : Int) := by omega
      have tk0 : 0 ≤ (k : Int) := by omega
      have tkc : (k : Int) ≤ (c0 : Int) := by omega
      have tkc1 : (k : Int) + 1 ≤ (c0 : Int) := by omega
      have tkc0 : 0 ≤ (k : Int) + 1 := by omega
      obtain ⟨x, hx⟩ : ∃ x, L[k]? = some x := ⟨_, List.getElem?_eq_getElem (by rw [hl'.out]; exact hlt)⟩
      obtain ⟨al, hAl, hab, hc⟩ := X1.out.look (k := k) (u := bv x) (by rw [List.getElem?_map, hx]; rfl)
      subst hAl
      have hcw : wr.cell? (al.add k) = some (bv x) := (hb.out.cell (p := al.add k) (by rw [add_block]; exact hab)).trans hc
      obtain ⟨d1, d2, d3⟩ := G2c.out k hlt
      rw [List.getD_eq_getElem?_getD, hx] at d3
      have d1' := Lib.hid d1
      have d2' := Lib.hid d2
      have d3' : Hid (x ≠ 0 → (redP (l0.take (k + 1))).length = (redP (l0.take k)).length + 1) := d3
      obtain ⟨p, hp⟩ : ∃ p, (redP (l0.take k)).length = p := ⟨_, rfl⟩
      obtain ⟨q, hq⟩ : ∃ p, (redP (l0.take (k + 1))).length = p := ⟨_, rfl⟩
      rw [hp, hq] at d3'
      have hp' := Lib.hid hp
      have hq' := Lib.hid hq
      have hple : p ≤ 48 := by
        rw [← hp]
        have := rk_le_len (rect_take g6'.out k) (cols (l0.take k))
        rw [← redP_rk, List.length_take] at this
        omega
      have MW := Lib.hid (M0.out.keep hb.out)
      have TW := Lib.hid (hT.out.on hb.out)
      have tk1 : Hid ((l0.take k).length = k) := by show _ = _; rw [List.length_take, hn'.out]; omega
      have tk2 : Hid ((l0.take (k + 1)).length = k + 1) := by show _ = _; rw [List.length_take, hn'.out]; omega
      unfold bv at hcw
      clear hc hx d1 d2 d3 hp hq
      have R1 := Lib.hid (rank_v (l0.take k) k p (some ad) c0 wr (MW.out.take k) tk1.out (by omega) TW.out d1'.out hp'.out)
      go_wp2_with fail
      refine R1.out.mono ?_
      rintro e w8 ⟨rfl, hb8⟩
      replace MW := Lib.hid (MW.out.keep hb8)
      replace TW := Lib.hid (TW.out.on hb8)
      replace hb := Lib.hid (hb.out.trans (hb8.mono hb.out.size))
      clear hb8 R1 hcw
      have R2 := Lib.hid (rank_v (l0.take (k + 1)) (k + 1) q (some ad) c0 w8 (MW.out.take (k + 1)) tk2.out (by omega) TW.out d2'.out hq'.out)
      go_wp2_with fail
      refine R2.out.mono ?_
      rintro e w9 ⟨rfl, hb9⟩
      replace hb := Lib.hid (hb.out.trans (hb9.mono hb.out.size))
      clear hb9 R2 MW TW
      by_cases hx0 : x = 0
      · subst hx0
        go_wp2_with fail
        go_roundw
        case rel => exact ⟨k + 1, by omega, by go_num, hb.out⟩
        case measure => simp [intOf]; omega
      · have hpq := d3'.out hx0
        subst hpq
        have tx : (((x.toNat : Nat) : Int) != 0) = true := u8_int_ne hx0
        clear hx0
        go_wp2_with fail
        go_roundw
        case rel => exact ⟨k + 1, by omega, by go_num, hb.out⟩
        case measure => simp [intOf]; omega
    · have tl : ¬ (k : Int) < (l : Int) := by omega
      have D2 : Below w.heap.size w wr := D.out.trans (hb.out.mono D.out.size)
      have SAN := Lib.hid (SANF.out wr D2)
      clear D2
      go_wp2_with fail
      refine SAN.out.mono ?_
      rintro e w8 ⟨rfl, hb8⟩
      go_wp2_with fail
      go_ret
      exact ⟨rfl, hb8⟩
end Go.Proofs.YtfbdhcpclccikaaDoor
