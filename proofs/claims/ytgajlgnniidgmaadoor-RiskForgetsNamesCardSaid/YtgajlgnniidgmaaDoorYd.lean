/-
  Stage 12: the walk of RiskLeastIsLeast. (Written by tools/genyd.py.)
-/
import Derived.Test.YtgajlgnniidgmaaDoorYzc
namespace Go.Proofs.YtgajlgnniidgmaaDoor
set_option linter.unusedVariables false
set_option linter.unusedSimpArgs false
open Go.RowKit Go.Maps

theorem pow_facts12 {d : Nat} (h : d ≤ 12) : ∃ P : Nat, P = 2 ^ d ∧ P ≤ 4096 ∧ wrap64 ((2 : Int) ^ d) = (P : Int) ∧ IntKind.i64.wrap ((2 : Int) ^ d) = (P : Int) := by
  have h1 : (2 : Nat) ^ d ≤ 2 ^ 12 := Nat.pow_le_pow_right (by omega) h
  have e : (2 : Int) ^ d = ((2 ^ d : Nat) : Int) := by rw [Int.natCast_pow]; rfl
  obtain ⟨q, hq⟩ : ∃ q, q = 2 ^ d := ⟨_, rfl⟩
  rw [← hq] at h1 e
  refine ⟨q, hq, h1, ?_, ?_⟩
  · rw [e]; unfold wrap64; omega
  · rw [e, IntKind.wrap_i64]; omega
theorem wrap_u16_12 {a : Nat} (h : a < 65536) : IntKind.i64.wrap (a : Int) = (a : Int) := by rw [IntKind.wrap_i64]; omega
theorem mask_set12 {o n P M : Nat} (ho : o < 65536) (hn : n ≤ 9) (hP : P = 2 ^ n) (hM : M = P - 1) : bits BinOp.and IntKind.i64 (o : Int) (M : Int) = ((o % P : Nat) : Int) ∧ o % P < 2 ^ n := by
  have h1 : (2 : Nat) ^ n ≤ 2 ^ 9 := Nat.pow_le_pow_right (by omega) hn
  have h2 : 0 < 2 ^ n := Nat.two_pow_pos n
  refine ⟨?_, by rw [hP]; exact Nat.mod_lt _ h2⟩
  rw [i64_and7 _ _ (by omega) (by omega), hM, hP, Nat.and_two_pow_sub_one_eq_mod]
theorem lost_eq {w : World} {p : Prl} {s : Nat} (hz : chkP p = 0) (hs : s < 2 ^ p.ch.length) {W : World} (b : Bool) (hb : b = true ↔ LosP p s) (h : Calls Tryd.prog 13 #[prv p, .int .i64 s] w (LostEnd w p s)) :
    Calls Tryd.prog 13 #[prv p, .int .i64 s] w fun e w' => e = .returned (.tuple #[.bool b, .int .i64 0]) ∧ Below w.heap.size w w' := by
  refine h.mono ?_
  rintro e w' ⟨⟨b', rfl, h2⟩, h3⟩
  have hr : (0 : Int) ≤ (s : Int) ∧ (s : Int) < 2 ^ p.ch.length := by
    have e : (2 : Int) ^ p.ch.length = ((2 ^ p.ch.length : Nat) : Int) := by rw [Int.natCast_pow]; rfl
    rw [e]; omega
  rw [if_neg (fun hh => hh hz), if_pos hr]
  rw [Int.toNat_natCast] at h2
  have hbb : b' = b := by
    cases hx : b with
    | true => exact h2.2 ⟨hz, hr.1, hr.2, hb.1 hx⟩
    | false =>
      cases hy : b' with
      | false => rfl
      | true => have := hb.2 (h2.1 hy).2.2.2; rw [hx] at this; cases this
  rw [hbb]
  exact ⟨rfl, h3⟩
set_option maxRecDepth 100000 in
set_option maxHeartbeats 16000000 in
theorem least_walk12 (p : Prl) (o : Nat) (w : World) (hMp : PerM w w.heap.size p) (hk : CapP p) (ho : o < 65536) (ht : PTab 2 w) :
    Calls Tryd.prog 6 #[prv p, .int .u16 o] w fun e w' => e = .returned (.bool true) ∧ Below w.heap.size w w' := by
  have hn2 : Hid (p.n2 = p.ch.length) := hMp.n2
  have hsz := Lib.hid size_prl
  have hun : Hid (Tryd.prog.underlying 27 = _) := Tryd.underlying27
  have hii := Lib.hid size_int12
  have hT := Lib.hid ht
  obtain ⟨W1, hW1⟩ : ∃ x, x = w.alloc (.cells #[.int .i64 p.D, .slice p.A p.n p.c, .int .i64 p.G, .slice p.A1 p.n1 p.c1, .slice p.A2 p.n2 p.c2] 27) := ⟨_, rfl⟩
  have sW1 : Hid (W1.heap.size = w.heap.size + 1) := by show _ = _; rw [hW1]; simp
  have bW1 : Hid (Below w.heap.size w W1) := by show Below _ _ _; rw [hW1]; exact (Below.refl _ _).alloc (Nat.le_refl _) _
  have Xp : Hid (Blk W1 (w.heap.size) [.int .i64 p.D, .slice p.A p.n p.c, .int .i64 p.G, .slice p.A1 p.n1 p.c1, .slice p.A2 p.n2 p.c2] 27) := by show Blk _ _ _ _; rw [hW1]; exact Blk.new _ [_, _, _, _, _] _
  have E : Hid (Below w.heap.size w W1) := bW1.out
  have Mp := Lib.hid (hMp.keep E.out)
  have T := Lib.hid (hT.out.on E.out)
  have hWW : Hid ((w).alloc (.cells #[.int .i64 p.D, .slice p.A p.n p.c, .int .i64 p.G, .slice p.A1 p.n1 p.c1, .slice p.A2 p.n2 p.c2] 27) = W1) := by show _ = _; rw [hW1]
  clear hW1 bW1 sW1 ht hMp
  rw [prv_eq12]
  go_enter Tryd.func6, Tryd.ntmps6
  go_upto_region 1 with fail
  generalize hg : (w).alloc _ = Wg
  have hgW : W1 = Wg := by rw [← hg, hWW.out]
  clear hg hWW
  subst hgW
  go_wp2_with (first | (refine wpList_blk_load rfl 27 _ rfl 0 rfl Xp.out [_, _, _, _, _] rfl _ hun.out rfl hsz.out ?_) | fail)
  have C := few12_any p 9 W1 Mp.out
  rw [prv_eq12] at C
  refine C.mono ?_
  rintro e v1 ⟨⟨b, rfl, hbf⟩, hb⟩
  clear C T
  replace E : Hid (Below w.heap.size w v1) := E.out.trans (hb.mono E.out.size)
  have T := Lib.hid (hT.out.on E.out)
  replace Mp := Lib.hid (Mp.out.keep hb)
  replace Xp := Lib.hid (Xp.out.below hb Xp.out.lt)
  clear hb
  have hbfH := Lib.hid hbf
  clear hbf
  cases b with
  | false =>
    go_wp2_with (first | (refine wpList_blk_load rfl 27 _ rfl 0 rfl Xp.out [_, _, _, _, _] rfl _ hun.out rfl hsz.out ?_) | fail)
    have C := sanity_any12 v1 T.out
    refine C.mono ?_
    rintro e v2 ⟨rfl, hb⟩
    clear C T
    replace E : Hid (Below w.heap.size w v2) := E.out.trans (hb.mono E.out.size)
    have T := Lib.hid (hT.out.on E.out)
    replace Mp := Lib.hid (Mp.out.keep hb)
    replace Xp := Lib.hid (Xp.out.below hb Xp.out.lt)
    clear hb
    go_wp2_with fail
    go_ret
    exact ⟨by first | rfl | (go_simp; done), E.out⟩
  | true =>
    have hF := hbfH.out.1 rfl
    have h9 : p.ch.length ≤ 9 := by have := hF.1; omega
    have h9H := Lib.hid h9
    clear hF hbfH
    have p0 := Xp.out.cell (j := 0) rfl
    have p1 := Xp.out.cell (j := 1) rfl
    have p2 := Xp.out.cell (j := 2) rfl
    have p3 := Xp.out.cell (j := 3) rfl
    have p4 := Xp.out.cell (j := 4) rfl
    go_wp2_with fail
    clear p0 p1 p2 p3 p4
    obtain ⟨Z, hZ⟩ : ∃ z, z = chkP p := ⟨_, rfl⟩
    have CK := rcheck_any p v1 Mp.out
    rw [← hZ] at CK
    have hZH := Lib.hid hZ
    clear hZ
    have C := CK
    rw [prv_eq12] at C
    refine C.mono ?_
    rintro e v2 ⟨rfl, hb⟩
    clear C T CK
    replace E : Hid (Below w.heap.size w v2) := E.out.trans (hb.mono E.out.size)
    have T := Lib.hid (hT.out.on E.out)
    replace Mp := Lib.hid (Mp.out.keep hb)
    replace Xp := Lib.hid (Xp.out.below hb Xp.out.lt)
    clear hb
    by_cases h0 : Z = 0
    rotate_left
    · have t0 : (Z == 0) = false := by simpa using h0
      go_wp2_with (first | (refine wpList_blk_load rfl 27 _ rfl 0 rfl Xp.out [_, _, _, _, _] rfl _ hun.out rfl hsz.out ?_) | fail)
      have C := sanity_any12 v2 T.out
      refine C.mono ?_
      rintro e v3 ⟨rfl, hb⟩
      clear C T
      replace E : Hid (Below w.heap.size w v3) := E.out.trans (hb.mono E.out.size)
      have T := Lib.hid (hT.out.on E.out)
      replace Mp := Lib.hid (Mp.out.keep hb)
      replace Xp := Lib.hid (Xp.out.below hb Xp.out.lt)
      clear hb
      go_wp2_with fail
      go_ret
      exact ⟨by first | rfl | (go_simp; done), E.out⟩
    have hz : Hid (chkP p = 0) := hZH.out.symm.trans h0
    subst h0
    have OK := Lib.hid (chkP_ok.1 hz.out)
    have hn9 : p.n2 ≤ 9 := by rw [hn2.out]; exact h9
    clear hZH h9
    obtain ⟨L, hL⟩ : ∃ l, l = lstV p := ⟨_, rfl⟩
    have hLH := Lib.hid hL
    obtain ⟨f1, f2, f3⟩ := lst_facts OK.out
    have hp9 : (2 : Nat) ^ p.ch.length ≤ 2 ^ 9 := Nat.pow_le_pow_right (by omega) h9H.out
    rw [← hL] at f1 f2 f3
    have hL5 : L < 512 := by omega
    have hLos := Lib.hid f1
    have hLlt := Lib.hid f2
    have hMin := Lib.hid f3
    have CL : Hid (∀ W, PerM W w.heap.size p → PTab 2 W → Calls Tryd.prog 15 #[prv p] W fun e w' => e = .returned (.tuple #[.int .i64 (L : Int), .int .i64 0]) ∧ Below W.heap.size W w') := fun W m t => by
      have := rLeast_any p W m t
      rw [hz.out, if_pos rfl, ← hLH.out] at this
      exact this
    have CO : Hid (∀ W (s : Nat) (b : Bool), s < 2 ^ p.ch.length → (b = true ↔ LosP p s) → PerM W w.heap.size p → PTab 2 W → Calls Tryd.prog 13 #[prv p, .int .i64 s] W fun e w' => e = .returned (.tuple #[.bool b, .int .i64 0]) ∧ Below W.heap.size W w') := fun W s b hs hb m t => lost_eq hz.out hs (W := W) b hb (rLost_any p (s : Int) W m t)
    have hdr : Hid (∀ d, L.testBit d = true → ¬ LosP p (L - 2 ^ d) ∧ 2 ^ d ≤ L) := fun d hd => by
      have h1 := lst_drop OK.out (d := d) (by rw [← hLH.out]; exact hd)
      rw [← hLH.out] at h1
      exact ⟨h1, (cnt7_drop hd).2⟩
    clear hL f1 f2 f3 hp9
    have p4 := Xp.out.cell (j := 4) rfl
    go_wp2_with (first | (refine wpList_blk_load rfl 27 _ rfl 0 rfl Xp.out [_, _, _, _, _] rfl _ hun.out rfl hsz.out ?_) | fail)
    clear p4
    have C := CL.out v2 Mp.out T.out
    rw [prv_eq12] at C
    refine C.mono ?_
    rintro e v3 ⟨rfl, hb⟩
    clear C T
    replace E : Hid (Below w.heap.size w v3) := E.out.trans (hb.mono E.out.size)
    have T := Lib.hid (hT.out.on E.out)
    replace Mp := Lib.hid (Mp.out.keep hb)
    replace Xp := Lib.hid (Xp.out.below hb Xp.out.lt)
    clear hb
    go_wp2_with (first | (refine wpList_blk_load rfl 27 _ rfl 0 rfl Xp.out [_, _, _, _, _] rfl _ hun.out rfl hsz.out ?_) | fail)
    have C := CO.out v3 L true hLlt.out ⟨fun _ => hLos.out, fun _ => rfl⟩ Mp.out T.out
    rw [prv_eq12] at C
    refine C.mono ?_
    rintro e v4 ⟨rfl, hb⟩
    clear C T
    replace E : Hid (Below w.heap.size w v4) := E.out.trans (hb.mono E.out.size)
    have T := Lib.hid (hT.out.on E.out)
    replace Mp := Lib.hid (Mp.out.keep hb)
    replace Xp := Lib.hid (Xp.out.below hb Xp.out.lt)
    clear hb
    go_wp2_with fail
    go_loopw [11] (fun i wr => ∃ d : Nat, d ≤ p.n2 ∧ i = .int .i64 d ∧ Hid (PerM wr w.heap.size p) ∧ Hid (Blk wr w.heap.size [.int .i64 p.D, .slice p.A p.n p.c, .int .i64 p.G, .slice p.A1 p.n1 p.c1, .slice p.A2 p.n2 p.c2] 27) ∧ Hid (Below w.heap.size w wr)) (fun i _ => p.n2 - (intOf i).toNat)
    case atStart => exact ⟨0, by omega, rfl, Mp, Xp, E⟩
    case round =>
      clear Mp Xp E T
      obtain ⟨d, hd, rfl, Mp, Xp, E⟩ := hrel
      have T := Lib.hid (hT.out.on E.out)
      by_cases hlt : d < p.n2
      · have t : (d : Int) < (p.n2 : Int) := by omega
        have u1 : ¬ (d : Int) < 0 := by omega
        have u0 : 0 ≤ (d : Int) := by omega
        have u2 : min d 64 = d := by omega
        have hbt := bit_int7 L d
        obtain ⟨bb, hbb⟩ : ∃ b, b = L.testBit d := ⟨_, rfl⟩
        rw [← hbb] at hbt
        have hbbH := Lib.hid hbb
        clear hbb
        cases bb with
        | false =>
          go_wp2_with fail
          go_roundw
          case rel => exact ⟨d + 1, by omega, by go_num, Mp, Xp, E⟩
          case measure => simp [intOf]; omega
        | true =>
          obtain ⟨q1, q2⟩ := hdr.out d hbbH.out.symm
          obtain ⟨P, hP, hP4, hP1, hP2⟩ := pow_facts12 (d := d) (by omega)
          rw [← hP] at q1 q2
          obtain ⟨L2, hL2⟩ : ∃ x, x = L - P := ⟨_, rfl⟩
          rw [← hL2] at q1
          have eL : (L : Int) - (P : Int) = (L2 : Int) := by omega
          have fL : IntKind.i64.wrap (L2 : Int) = (L2 : Int) := by rw [IntKind.wrap_i64]; omega
          have hno : Hid (false = true ↔ LosP p L2) := ⟨fun h => (by cases h), fun h => absurd h q1⟩
          have hlt2 : Hid (L2 < 2 ^ p.ch.length) := by show L2 < _; have := hLlt.out; omega
          clear q1 q2 hP hL2
          go_wp2_with fail
          refine wp_region_planM [] [(true, 0), (true, 1), (true, 2), (true, 3), (true, 4), (false, 5), (true, 6), (true, 7), (true, 8), (true, 9), (true, 10)] (by decide) (by kernel_rfl) (by kernel_rfl) (by decide) (by intro c a d v w h; cases d <;> exact h) ?_
          change wpPlanM _ _ _ _ _ _ wr.drew
          have hb : Below wr.heap.size wr wr.drew := (Below.refl _ _).drew
          generalize hgd : wr.drew = v5 at hb ⊢
          clear hgd T
          replace E : Hid (Below w.heap.size w v5) := E.out.trans (hb.mono E.out.size)
          have T := Lib.hid (hT.out.on E.out)
          replace Mp := Lib.hid (Mp.out.keep hb)
          replace Xp := Lib.hid (Xp.out.below hb Xp.out.lt)
          clear hb
          refine wpPlanM_runW rfl (by rfl) _ (fun x => load_run 27 _ rfl w.heap.size 0 rfl [.int .i64 p.D, .slice p.A p.n p.c, .int .i64 p.G, .slice p.A1 p.n1 p.c1, .slice p.A2 p.n2 p.c2] _ hun.out rfl hsz.out x.world ((Blk.below Xp.out x.ext Xp.out.lt).range 0 _ (take_all0 _))) ?_
          iterate 4 (refine wpPlanM_plain rfl (fun K hK => ?_); go_simp; refine hK _ ?_; clear hK K)
          refine wpPlanM_call rfl (fun K hK => ?_)
          have C := CO.out v5 L2 false hlt2.out hno.out Mp.out T.out
          rw [prv_eq12] at C
          go_wp2_with fail
          refine C.mono ?_
          rintro e v6 ⟨rfl, hb⟩
          have hbp := Lib.hid hb
          clear C T
          replace E : Hid (Below w.heap.size w v6) := E.out.trans (hb.mono E.out.size)
          have T := Lib.hid (hT.out.on E.out)
          replace Mp := Lib.hid (Mp.out.keep hb)
          replace Xp := Lib.hid (Xp.out.below hb Xp.out.lt)
          clear hb
          go_wp2_with fail
          refine planPostL_normal ⟨.inr hbp.out, hK _ _ ?_⟩
          clear hK K hbp
          iterate 5 (refine wpPlanM_plain rfl (fun K hK => ?_); go_simp; refine hK _ ?_; clear hK K)
          refine wpPlanM_nil ?_
          clear eL fL hP1 hP2 hbt
          go_wp2_with fail
          go_roundw
          case rel => exact ⟨d + 1, by omega, by go_num, Mp, Xp, E⟩
          case measure => simp [intOf]; omega
      · have t : ¬ (d : Int) < (p.n2 : Int) := by omega
        obtain ⟨P, hP, hP4, hP1, hP2⟩ := pow_facts12 (d := p.n2) (by omega)
        obtain ⟨M1, hM1⟩ : ∃ x, x = P - 1 := ⟨_, rfl⟩
        have hPp : 0 < P := by rw [hP]; exact Nat.two_pow_pos _
        have eM : (P : Int) - 1 = (M1 : Int) := by omega
        have fM : IntKind.i64.wrap (M1 : Int) = (M1 : Int) := by rw [IntKind.wrap_i64]; omega
        obtain ⟨k1, k2⟩ := mask_set12 ho hn9 hP hM1
        rw [hn2.out] at k2
        have hwo := wrap_u16_12 ho
        have v1n : ¬ (p.n2 : Int) < 0 := by omega
        have v0n : 0 ≤ (p.n2 : Int) := by omega
        have v2n : min p.n2 64 = p.n2 := by omega
        obtain ⟨S, hS⟩ : ∃ x, x = o % P := ⟨_, rfl⟩
        rw [← hS] at k1 k2
        have hp9 : (2 : Nat) ^ p.ch.length ≤ 2 ^ 9 := Nat.pow_le_pow_right (by omega) h9H.out
        have hS5 : S < 512 := by omega
        have hSlt := Lib.hid k2
        clear hS k2 hP hM1 hp9 hd hlt
        go_wp2_with (first | (refine wpList_blk_load rfl 27 _ rfl 0 rfl Xp.out [_, _, _, _, _] rfl _ hun.out rfl hsz.out ?_) | fail)
        obtain ⟨bs, hbs⟩ : ∃ b : Bool, b = true ↔ LosP p S := by
          by_cases h : LosP p S
          · exact ⟨true, fun _ => h, fun _ => rfl⟩
          · exact ⟨false, fun hh => (by cases hh), fun hh => absurd hh h⟩
        have hbsH := Lib.hid hbs
        clear hbs
        have C := CO.out wr S bs hSlt.out hbsH.out Mp.out T.out
        rw [prv_eq12] at C
        refine C.mono ?_
        rintro e v5 ⟨rfl, hb⟩
        clear C T
        replace E : Hid (Below w.heap.size w v5) := E.out.trans (hb.mono E.out.size)
        have T := Lib.hid (hT.out.on E.out)
        replace Mp := Lib.hid (Mp.out.keep hb)
        replace Xp := Lib.hid (Xp.out.below hb Xp.out.lt)
        clear hb
        go_wp2_with fail
        have C := sanity_any12 v5 T.out
        refine C.mono ?_
        rintro e v6 ⟨rfl, hb⟩
        clear C T
        replace E : Hid (Below w.heap.size w v6) := E.out.trans (hb.mono E.out.size)
        have T := Lib.hid (hT.out.on E.out)
        replace Mp := Lib.hid (Mp.out.keep hb)
        replace Xp := Lib.hid (Xp.out.below hb Xp.out.lt)
        clear hb
        cases bs with
        | false =>
          go_wp2_with fail
          go_ret
          exact ⟨by first | rfl | (go_simp; done), E.out⟩
        | true =>
          have hge := hMin.out S hSlt.out (hbsH.out.1 rfl)
          have C1 := count12_any S v6 (by omega)
          have C2 := count12_any L v6 (by omega)
          generalize cnt7 S = cs at *
          generalize cnt7 L = cl at *
          have tge : (cs : Int) ≥ (cl : Int) := by omega
          clear hge
          go_wp2_with fail
          refine C1.mono ?_
          rintro e wz ⟨rfl, rfl⟩
          clear C1
          go_wp2_with fail
          refine C2.mono ?_
          rintro e wz ⟨rfl, rfl⟩
          clear C2
          go_wp2_with fail
          go_ret
          exact ⟨by first | rfl | (go_simp; done), E.out⟩
end Go.Proofs.YtgajlgnniidgmaaDoor
