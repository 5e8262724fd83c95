/-
  Stage 12: the walk of RiskConditions. (Written by tools/genyg.py.)
-/
import Derived.Test.YtgajlgnniidgmaaDoorYf
namespace Go.Proofs.YtgajlgnniidgmaaDoor
set_option linter.unusedVariables false
set_option linter.unusedSimpArgs false
open Go.RowKit Go.Maps

set_option maxRecDepth 100000 in
set_option maxHeartbeats 1500000 in
theorem cond_walk12 (p : Prl) (o : Nat) (w : World) (hMp : PerM w w.heap.size p) (hk : CapP p) (ho : o < 256) (ht : PTab 2 w) :
    Calls Tryd.prog 4 #[prv p, .int .u8 o] w fun e w' => e = .returned (.bool true) ∧ Below w.heap.size w w' := by
  have hn2 : Hid (p.n2 = p.ch.length) := hMp.n2
  have hkH := Lib.hid hk
  clear hk
  have hsz := Lib.hid size_prl
  have hun : Hid (Tryd.prog.underlying 27 = _) := Tryd.underlying27
  have hii := Lib.hid size_int12
  have hT := Lib.hid ht
  obtain ⟨W1, hW1⟩ : ∃ x, x = w.alloc (.cells #[.int .i64 p.D, .slice p.A p.n p.c, .int .i64 p.G, .slice p.A1 p.n1 p.c1, .slice p.A2 p.n2 p.c2] 27) := ⟨_, rfl⟩
  have sW1 : Hid (W1.heap.size = w.heap.size + 1) := by show _ = _; rw [hW1]; simp
  have bW1 : Hid (Below w.heap.size w W1) := by show Below _ _ _; rw [hW1]; exact (Below.refl _ _).alloc (Nat.le_refl _) _
  have Xp : Hid (Blk W1 (w.heap.size) [.int .i64 p.D, .slice p.A p.n p.c, .int .i64 p.G, .slice p.A1 p.n1 p.c1, .slice p.A2 p.n2 p.c2] 27) := by show Blk _ _ _ _; rw [hW1]; exact Blk.new _ [_, _, _, _, _] _
  have E : Hid (Below w.heap.size w W1) := bW1.out
  have Mp := Lib.hid (hMp.keep E.out)
  have T := Lib.hid (hT.out.on E.out)
  have hWW : Hid ((w).alloc (.cells #[.int .i64 p.D, .slice p.A p.n p.c, .int .i64 p.G, .slice p.A1 p.n1 p.c1, .slice p.A2 p.n2 p.c2] 27) = W1) := by show _ = _; rw [hW1]
  clear hW1 bW1 sW1 ht hMp
  rw [prv_eq12]
  go_enter Tryd.func4, Tryd.ntmps4
  go_upto_region 1 with fail
  generalize hg : (w).alloc _ = Wg
  have hgW : W1 = Wg := by rw [← hg, hWW.out]
  clear hg hWW
  subst hgW
  go_wp2_with (first | (refine wpList_blk_load rfl 27 _ rfl 0 rfl Xp.out [_, _, _, _, _] rfl _ hun.out rfl hsz.out ?_) | fail)
  have C := few12_any p 9 W1 Mp.out
  rw [prv_eq12] at C
  refine C.mono ?_
  rintro e v1 ⟨⟨b, rfl, hbf⟩, hb⟩
  clear C T
  replace E : Hid (Below w.heap.size w v1) := E.out.trans (hb.mono E.out.size)
  have T := Lib.hid (hT.out.on E.out)
  replace Mp := Lib.hid (Mp.out.keep hb)
  replace Xp := Lib.hid (Xp.out.below hb Xp.out.lt)
  clear hb
  have hbfH := Lib.hid hbf
  clear hbf
  cases b with
  | false =>
    go_wp2_with (first | (refine wpList_blk_load rfl 27 _ rfl 0 rfl Xp.out [_, _, _, _, _] rfl _ hun.out rfl hsz.out ?_) | fail)
    have C := sanity_any12 v1 T.out
    refine C.mono ?_
    rintro e v2 ⟨rfl, hb⟩
    clear C T
    replace E : Hid (Below w.heap.size w v2) := E.out.trans (hb.mono E.out.size)
    have T := Lib.hid (hT.out.on E.out)
    replace Mp := Lib.hid (Mp.out.keep hb)
    replace Xp := Lib.hid (Xp.out.below hb Xp.out.lt)
    clear hb
    go_wp2_with fail
    go_ret
    exact ⟨by first | rfl | (go_simp; done), E.out⟩
  | true =>
    have hF := hbfH.out.1 rfl
    have h9 : p.ch.length ≤ 9 := by have := hF.1; omega
    have h9H := Lib.hid h9
    have hshH := Lib.hid hF.sh
    clear hF hbfH
    have p0 := Xp.out.cell (j := 0) rfl
    have p1 := Xp.out.cell (j := 1) rfl
    have p2 := Xp.out.cell (j := 2) rfl
    have p3 := Xp.out.cell (j := 3) rfl
    have p4 := Xp.out.cell (j := 4) rfl
    go_wp2_with fail
    clear p0 p1 p2 p3 p4
    obtain ⟨Z, hZ⟩ : ∃ z, z = chkP p := ⟨_, rfl⟩
    have CK := rcheck_any p v1 Mp.out
    rw [← hZ] at CK
    have hZH := Lib.hid hZ
    clear hZ
    have C := CK
    rw [prv_eq12] at C
    refine C.mono ?_
    rintro e v2 ⟨rfl, hb⟩
    clear C T CK
    replace E : Hid (Below w.heap.size w v2) := E.out.trans (hb.mono E.out.size)
    have T := Lib.hid (hT.out.on E.out)
    replace Mp := Lib.hid (Mp.out.keep hb)
    replace Xp := Lib.hid (Xp.out.below hb Xp.out.lt)
    clear hb
    by_cases h0 : Z = 0
    rotate_left
    · have t0 : (Z == 0) = false := by simpa using h0
      go_wp2_with fail
      have C := sanity_any12 v2 T.out
      refine C.mono ?_
      rintro e v3 ⟨rfl, hb⟩
      clear C T
      replace E : Hid (Below w.heap.size w v3) := E.out.trans (hb.mono E.out.size)
      have T := Lib.hid (hT.out.on E.out)
      replace Mp := Lib.hid (Mp.out.keep hb)
      replace Xp := Lib.hid (Xp.out.below hb Xp.out.lt)
      clear hb
      go_wp2_with fail
      go_ret
      exact ⟨by first | rfl | (go_simp; done), E.out⟩
    have hz : Hid (chkP p = 0) := hZH.out.symm.trans h0
    subst h0
    have OK := Lib.hid (chkP_ok.1 hz.out)
    have hn9 : p.n2 ≤ 9 := by rw [hn2.out]; exact h9
    clear hZH h9 hz
    have p4 := Xp.out.cell (j := 4) rfl
    by_cases hn0 : p.n2 = 0
    · have t0 : ((p.n2 : Int) == 0) = true := by simp [hn0]
      clear hn0
      go_wp2_with fail
      clear p4
      have C := sanity_any12 v2 T.out
      refine C.mono ?_
      rintro e v3 ⟨rfl, hb⟩
      clear C T
      replace E : Hid (Below w.heap.size w v3) := E.out.trans (hb.mono E.out.size)
      have T := Lib.hid (hT.out.on E.out)
      replace Mp := Lib.hid (Mp.out.keep hb)
      replace Xp := Lib.hid (Xp.out.below hb Xp.out.lt)
      clear hb
      go_wp2_with fail
      go_ret
      exact ⟨by first | rfl | (go_simp; done), E.out⟩
    obtain ⟨d, hde, hdl, hrem, hnz, t0⟩ := rem12 o p.n2 (by omega)
    have hremH := Lib.hid hrem
    clear hrem hde
    have hdH : Hid (d < p.ch.length) := by show d < _; rw [← hn2.out]; exact hdl
    obtain ⟨c, hc⟩ : ∃ c, p.ch[d]? = some c := ⟨_, List.getElem?_eq_getElem hdH.out⟩
    have hcH := Lib.hid hc
    obtain ⟨ad, hA2p, _, _⟩ := Mp.out.look2 hc
    have hpv : Hid (prv p = .agg #[.int .i64 p.D, .slice p.A p.n p.c, .int .i64 p.G, .slice p.A1 p.n1 p.c1, .slice (some ad) p.n2 p.c2]) := by show prv p = _; rw [prv_eq12, hA2p]
    rw [hA2p] at Xp
    have hA2H := Lib.hid hA2p
    have hw8 : IntKind.i64.wrap (o : Int) = (o : Int) := by rw [IntKind.wrap_i64]; omega
    have td : (d : Int) < (p.n2 : Int) := by omega
    have td0 : 0 ≤ (d : Int) := by omega
    have tdw : IntKind.i64.wrap (d : Int) = (d : Int) := by rw [IntKind.wrap_i64]; omega
    clear hc hA2p hn0 p4
    have p4 := Xp.out.cell (j := 4) rfl
    go_wp2_with (first | (refine wpList_blk_load rfl 27 _ rfl 0 rfl Xp.out [_, _, _, _, _] rfl _ hun.out rfl hsz.out ?_) | fail)
    clear p4
    rw [hremH.out]
    have C := rGiven_any p d true 16 rfl v2 Mp.out Mp.out.le OK.out hkH.out hshH.out hdH.out
    rw [hpv.out] at C
    refine C.mono ?_
    rintro e v3 ⟨⟨qf, rfl, hMq, hcap, f1, f2, f3, f4, f5, f6, f7, f8, gqf, hg, hA2⟩, hb⟩
    clear C T
    replace E : Hid (Below w.heap.size w v3) := E.out.trans (hb.mono E.out.size)
    have T := Lib.hid (hT.out.on E.out)
    replace Mp := Lib.hid (Mp.out.keep hb)
    replace Xp := Lib.hid (Xp.out.below hb Xp.out.lt)
    clear hb
    have Fqf : Hid (qf.D = p.D ∧ qf.G = p.G ∧ qf.Gs = p.Gs ∧ qf.al = p.al ∧ qf.ch = p.ch.set d 16) := ⟨f1, f2, f3, f4, f5⟩
    have Vqf : Hid (prv qf = .agg #[.int .i64 p.D, .slice qf.A p.n qf.c, .int .i64 p.G, .slice qf.A1 p.n1 qf.c1, .slice (some ⟨gqf, 0, none⟩) p.n2 qf.c2]) := by show prv qf = _; rw [prv_eq12, f1, f2, f6, f7, f8, hA2]
    have MF : Hid (PerM v3 v3.heap.size qf) := hMq
    have Aqf := Lib.hid hA2
    have Nqf : Hid (qf.n = p.n ∧ qf.n1 = p.n1) := ⟨f6, f7⟩
    clear f1 f2 f3 f4 f5 f6 f7 f8 hMq hcap hg hA2
    rw [Vqf.out]
    have Xn : Hid (Blk (v3.alloc (.cells #[.int .i64 0, .slice none 0 0, .int .i64 0, .slice none 0 0, .slice none 0 0] 27)) v3.heap.size [.int .i64 0, .slice none 0 0, .int .i64 0, .slice none 0 0, .slice none 0 0] 27) := Blk.new _ [_, _, _, _, _] _
    have hal : Hid (Below v3.heap.size v3 (v3.alloc (.cells #[.int .i64 0, .slice none 0 0, .int .i64 0, .slice none 0 0, .slice none 0 0] 27))) := (Below.refl _ _).alloc (Nat.le_refl _) _
    go_upto_region 6 with (refine wpList_row_store rfl 27 _ _ rfl [.int .i64 p.D, .slice qf.A p.n qf.c, .int .i64 p.G, .slice qf.A1 p.n1 qf.c1, .slice (some ⟨gqf, 0, none⟩) p.n2 qf.c2] rfl rfl Xn.out hsz.out rfl (five_one12 _ _ _ _ _ _ _ _ _ _ _) ?_; intro v4 hw ho)
    have hb : Below v3.heap.size v3 v4 := hal.out.trans (ho.below (Nat.le_refl _))
    clear T
    replace E : Hid (Below w.heap.size w v4) := E.out.trans (hb.mono E.out.size)
    have T := Lib.hid (hT.out.on E.out)
    replace Mp := Lib.hid (Mp.out.keep hb)
    replace Xp := Lib.hid (Xp.out.below hb Xp.out.lt)
    replace MF := Lib.hid (MF.out.keep hb)
    have XF := Lib.hid hw.out
    clear hb hw ho hal Xn
    go_wp2_with (first | (refine wpList_blk_load rfl 27 _ rfl 0 rfl Xp.out [_, _, _, _, _] rfl _ hun.out rfl hsz.out ?_) | (refine wpList_blk_load rfl 27 _ rfl 0 rfl XF.out [_, _, _, _, _] rfl _ hun.out rfl hsz.out ?_) | fail)
    have C := rGiven_any p d false 0 rfl v4 Mp.out Mp.out.le OK.out hkH.out hshH.out hdH.out
    rw [hpv.out] at C
    refine C.mono ?_
    rintro e v5 ⟨⟨qs, rfl, hMq, hcap, f1, f2, f3, f4, f5, f6, f7, f8, gqs, hg, hA2⟩, hb⟩
    clear C T
    replace E : Hid (Below w.heap.size w v5) := E.out.trans (hb.mono E.out.size)
    have T := Lib.hid (hT.out.on E.out)
    replace Mp := Lib.hid (Mp.out.keep hb)
    replace Xp := Lib.hid (Xp.out.below hb Xp.out.lt)
    replace MF := Lib.hid (MF.out.keep hb)
    replace XF := Lib.hid (XF.out.below hb XF.out.lt)
    clear hb
    have Fqs : Hid (qs.D = p.D ∧ qs.G = p.G ∧ qs.Gs = p.Gs ∧ qs.al = p.al ∧ qs.ch = p.ch.set d 0) := ⟨f1, f2, f3, f4, f5⟩
    have Vqs : Hid (prv qs = .agg #[.int .i64 p.D, .slice qs.A p.n qs.c, .int .i64 p.G, .slice qs.A1 p.n1 qs.c1, .slice (some ⟨gqs, 0, none⟩) p.n2 qs.c2]) := by show prv qs = _; rw [prv_eq12, f1, f2, f6, f7, f8, hA2]
    have MS : Hid (PerM v5 v5.heap.size qs) := hMq
    have Aqs := Lib.hid hA2
    have Nqs : Hid (qs.n = p.n ∧ qs.n1 = p.n1) := ⟨f6, f7⟩
    clear f1 f2 f3 f4 f5 f6 f7 f8 hMq hcap hg hA2
    rw [Vqs.out]
    have Xn : Hid (Blk (v5.alloc (.cells #[.int .i64 0, .slice none 0 0, .int .i64 0, .slice none 0 0, .slice none 0 0] 27)) v5.heap.size [.int .i64 0, .slice none 0 0, .int .i64 0, .slice none 0 0, .slice none 0 0] 27) := Blk.new _ [_, _, _, _, _] _
    have hal : Hid (Below v5.heap.size v5 (v5.alloc (.cells #[.int .i64 0, .slice none 0 0, .int .i64 0, .slice none 0 0, .slice none 0 0] 27))) := (Below.refl _ _).alloc (Nat.le_refl _) _
    go_upto_region 7 with (refine wpList_row_store rfl 27 _ _ rfl [.int .i64 p.D, .slice qs.A p.n qs.c, .int .i64 p.G, .slice qs.A1 p.n1 qs.c1, .slice (some ⟨gqs, 0, none⟩) p.n2 qs.c2] rfl rfl Xn.out hsz.out rfl (five_one12 _ _ _ _ _ _ _ _ _ _ _) ?_; intro v6 hw ho)
    have hb : Below v5.heap.size v5 v6 := hal.out.trans (ho.below (Nat.le_refl _))
    clear T
    replace E : Hid (Below w.heap.size w v6) := E.out.trans (hb.mono E.out.size)
    have T := Lib.hid (hT.out.on E.out)
    replace Mp := Lib.hid (Mp.out.keep hb)
    replace Xp := Lib.hid (Xp.out.below hb Xp.out.lt)
    replace MF := Lib.hid (MF.out.keep hb)
    replace XF := Lib.hid (XF.out.below hb XF.out.lt)
    replace MS := Lib.hid (MS.out.keep hb)
    have XS := Lib.hid hw.out
    clear hb hw ho hal Xn
    have p4 := Xp.out.cell (j := 4) rfl
    have f4 := XF.out.cell (j := 4) rfl
    have s4 := XS.out.cell (j := 4) rfl
    have cf := MF.out.at2 Aqf.out (d := d) (c := 16) (by rw [Fqf.out.2.2.2.2, List.getElem?_set_self hdH.out])
    have cs := MS.out.at2 Aqs.out (d := d) (c := 0) (by rw [Fqs.out.2.2.2.2, List.getElem?_set_self hdH.out])
    go_upto_region 9 with fail
    clear p4 f4 s4 cf cs
    go_wp2_with (first | (refine wpList_blk_load rfl 27 _ rfl 0 rfl Xp.out [_, _, _, _, _] rfl _ hun.out rfl hsz.out ?_) | (refine wpList_blk_load rfl 27 _ rfl 0 rfl XF.out [_, _, _, _, _] rfl _ hun.out rfl hsz.out ?_) | (refine wpList_blk_load rfl 27 _ rfl 0 rfl XS.out [_, _, _, _, _] rfl _ hun.out rfl hsz.out ?_) | fail)
    have r0 := lsum_rng9 OK.out h9H.out
    have okf := OK.out.set (x := 16) (by decide) Fqf.out.1 Fqf.out.2.1 Fqf.out.2.2.1 Fqf.out.2.2.2.1 Fqf.out.2.2.2.2
    have oks := OK.out.set (x := 0) (by decide) Fqs.out.1 Fqs.out.2.1 Fqs.out.2.2.1 Fqs.out.2.2.2.1 Fqs.out.2.2.2.2
    have rf := lsum_rng9 okf (by rw [Fqf.out.2.2.2.2, List.length_set]; exact h9H.out)
    have rs := lsum_rng9 oks (by rw [Fqs.out.2.2.2.2, List.length_set]; exact h9H.out)
    have hmain := cond_loss hcH.out Fqf.out.1 Fqf.out.2.1 Fqf.out.2.2.1 Fqf.out.2.2.2.1 Fqf.out.2.2.2.2 Fqs.out.1 Fqs.out.2.1 Fqs.out.2.2.1 Fqs.out.2.2.2.1 Fqs.out.2.2.2.2
    have rc := OK.out.ch c (List.mem_of_getElem? hcH.out)
    have CLP : Hid (∀ W B, PerM W B p → PTab 2 W → Calls Tryd.prog 14 #[prv p] W fun e w' => e = .returned (.tuple #[.int .i64 (lsum p (2 ^ p.ch.length)), .int .i64 0]) ∧ Below W.heap.size W w') := fun W B m t => by
      have := rLoss_any p W m t
      rw [chkP_ok.2 OK.out, if_pos rfl] at this
      exact this
    have CLF : Hid (∀ W B, PerM W B qf → PTab 2 W → Calls Tryd.prog 14 #[prv qf] W fun e w' => e = .returned (.tuple #[.int .i64 (lsum qf (2 ^ qf.ch.length)), .int .i64 0]) ∧ Below W.heap.size W w') := fun W B m t => by
      have := rLoss_any qf W m t
      rw [chkP_ok.2 okf, if_pos rfl] at this
      exact this
    have CLS : Hid (∀ W B, PerM W B qs → PTab 2 W → Calls Tryd.prog 14 #[prv qs] W fun e w' => e = .returned (.tuple #[.int .i64 (lsum qs (2 ^ qs.ch.length)), .int .i64 0]) ∧ Below W.heap.size W w') := fun W B m t => by
      have := rLoss_any qs W m t
      rw [chkP_ok.2 oks, if_pos rfl] at this
      exact this
    generalize lsum p (2 ^ p.ch.length) = x at *
    generalize lsum qf (2 ^ qf.ch.length) = y at *
    generalize lsum qs (2 ^ qs.ch.length) = z at *
    obtain ⟨c', hc'⟩ : ∃ c', c' = 16 - c := ⟨_, rfl⟩
    have m1 := mul_rng12 rc.1 rc.2 rf.1 rf.2
    have m2 := mul_rng12 (c := c') (by omega) (by omega) rs.1 rs.2
    rw [← hc'] at hmain
    obtain ⟨P1, hP1⟩ : ∃ v, v = 16 * x := ⟨_, rfl⟩
    obtain ⟨P2, hP2⟩ : ∃ v, v = c * y := ⟨_, rfl⟩
    obtain ⟨P3, hP3⟩ : ∃ v, v = c' * z := ⟨_, rfl⟩
    rw [← hP1, ← hP2, ← hP3] at hmain
    rw [← hP2] at m1
    rw [← hP3] at m2
    have E1 : Hid (16 * x = P1 ∧ c * y = P2 ∧ c' * z = P3 ∧ 16 - c = c' ∧ P2 + P3 = P1) := ⟨hP1.symm, hP2.symm, hP3.symm, hc'.symm, hmain.symm⟩
    have WR : Hid (IntKind.i64.wrap P1 = P1 ∧ IntKind.i64.wrap P2 = P2 ∧ IntKind.i64.wrap P3 = P3 ∧ IntKind.i64.wrap c' = c') := ⟨wrap12r (by omega) (by omega), wrap12r (by omega) (by omega), wrap12r (by omega) (by omega), wrap12r (by omega) (by omega)⟩
    clear hP1 hP2 hP3 hc' m1 m2 rf rs r0 hmain okf oks rc
    have C := CLP.out v6 _ Mp.out T.out
    rw [hpv.out] at C
    refine C.mono ?_
    rintro e v7 ⟨rfl, hb⟩
    clear C T
    replace E : Hid (Below w.heap.size w v7) := E.out.trans (hb.mono E.out.size)
    have T := Lib.hid (hT.out.on E.out)
    replace Mp := Lib.hid (Mp.out.keep hb)
    replace Xp := Lib.hid (Xp.out.below hb Xp.out.lt)
    replace MF := Lib.hid (MF.out.keep hb)
    replace XF := Lib.hid (XF.out.below hb XF.out.lt)
    replace MS := Lib.hid (MS.out.keep hb)
    replace XS := Lib.hid (XS.out.below hb XS.out.lt)
    clear hb
    go_wp2_with (first | (refine wpList_blk_load rfl 27 _ rfl 0 rfl Xp.out [_, _, _, _, _] rfl _ hun.out rfl hsz.out ?_) | (refine wpList_blk_load rfl 27 _ rfl 0 rfl XF.out [_, _, _, _, _] rfl _ hun.out rfl hsz.out ?_) | (refine wpList_blk_load rfl 27 _ rfl 0 rfl XS.out [_, _, _, _, _] rfl _ hun.out rfl hsz.out ?_) | fail)
    have C := CLF.out v7 _ MF.out T.out
    rw [Vqf.out] at C
    refine C.mono ?_
    rintro e v8 ⟨rfl, hb⟩
    clear C T
    replace E : Hid (Below w.heap.size w v8) := E.out.trans (hb.mono E.out.size)
    have T := Lib.hid (hT.out.on E.out)
    replace Mp := Lib.hid (Mp.out.keep hb)
    replace Xp := Lib.hid (Xp.out.below hb Xp.out.lt)
    replace MF := Lib.hid (MF.out.keep hb)
    replace XF := Lib.hid (XF.out.below hb XF.out.lt)
    replace MS := Lib.hid (MS.out.keep hb)
    replace XS := Lib.hid (XS.out.below hb XS.out.lt)
    clear hb
    go_wp2_with (first | (refine wpList_blk_load rfl 27 _ rfl 0 rfl Xp.out [_, _, _, _, _] rfl _ hun.out rfl hsz.out ?_) | (refine wpList_blk_load rfl 27 _ rfl 0 rfl XF.out [_, _, _, _, _] rfl _ hun.out rfl hsz.out ?_) | (refine wpList_blk_load rfl 27 _ rfl 0 rfl XS.out [_, _, _, _, _] rfl _ hun.out rfl hsz.out ?_) | fail)
    have C := CLS.out v8 _ MS.out T.out
    rw [Vqs.out] at C
    refine C.mono ?_
    rintro e v9 ⟨rfl, hb⟩
    clear C T
    replace E : Hid (Below w.heap.size w v9) := E.out.trans (hb.mono E.out.size)
    have T := Lib.hid (hT.out.on E.out)
    replace Mp := Lib.hid (Mp.out.keep hb)
    replace Xp := Lib.hid (Xp.out.below hb Xp.out.lt)
    replace MF := Lib.hid (MF.out.keep hb)
    replace XF := Lib.hid (XF.out.below hb XF.out.lt)
    replace MS := Lib.hid (MS.out.keep hb)
    replace XS := Lib.hid (XS.out.below hb XS.out.lt)
    clear hb
    clear MS XS CLP CLF CLS Fqs Vqs Aqs
    have p4 := Xp.out.cell (j := 4) rfl
    obtain ⟨ad2, e2, _, cc⟩ := Mp.out.look2 hcH.out
    obtain rfl : ad = ad2 := Option.some.inj (hA2H.out.symm.trans e2)
    clear e2
    go_upto_region 13 with fail
    clear p4 cc
    have lx0 := Lib.hid Xp.out.lt
    have lm0 := Lib.hid MF.out.le
    have Xn : Hid (Blk (v9.alloc (.cells #[.int .i64 0, .slice none 0 0, .int .i64 0, .slice none 0 0, .slice none 0 0] 27)) v9.heap.size [.int .i64 0, .slice none 0 0, .int .i64 0, .slice none 0 0, .slice none 0 0] 27) := Blk.new _ [_, _, _, _, _] _
    have hal : Hid (Below v9.heap.size v9 (v9.alloc (.cells #[.int .i64 0, .slice none 0 0, .int .i64 0, .slice none 0 0, .slice none 0 0] 27))) := (Below.refl _ _).alloc (Nat.le_refl _) _
    go_upto_region 14 with (first | (refine wpList_blk_load rfl 27 _ rfl 0 rfl XF.out [_, _, _, _, _] rfl _ hun.out rfl hsz.out ?_) | (refine wpList_row_store rfl 27 _ _ rfl [.int .i64 p.D, .slice qf.A p.n qf.c, .int .i64 p.G, .slice qf.A1 p.n1 qf.c1, .slice (some ⟨gqf, 0, none⟩) p.n2 qf.c2] rfl rfl Xn.out hsz.out rfl (five_one12 _ _ _ _ _ _ _ _ _ _ _) ?_; intro v10 hw ho))
    have hb : Below v9.heap.size v9 v10 := hal.out.trans (ho.below (Nat.le_refl _))
    clear T
    replace E : Hid (Below w.heap.size w v10) := E.out.trans (hb.mono E.out.size)
    have T := Lib.hid (hT.out.on E.out)
    replace Mp := Lib.hid (Mp.out.keep hb)
    replace Xp := Lib.hid (Xp.out.below hb Xp.out.lt)
    replace MF := Lib.hid (MF.out.keep hb)
    replace XF := Lib.hid (XF.out.below hb XF.out.lt)
    have XB := Lib.hid hw.out
    obtain ⟨gb, hgb⟩ : ∃ g, g = v9.heap.size := ⟨_, rfl⟩
    rw [← hgb] at XB lx0 lm0 ⊢
    clear hb hw ho hal Xn hgb
    have f4 : ∀ o, (v10.alloc o).cell? ⟨v3.heap.size, 4, none⟩ = some (.slice (some ⟨gqf, 0, none⟩) p.n2 qf.c2) := fun o => (XF.out.alloc o).cell (j := 4) rfl
    have hrF : Hid (Rds v10 v10.heap.size (some ⟨gqf, 0, none⟩) ((p.ch.set d 16).map iv)) := by
      have := MF.out.ch
      rw [Aqf.out, Fqf.out.2.2.2.2] at this
      exact this.more MF.out.le
    have hlen : Hid (p.n2 = ((p.ch.set d 16).map iv).length) := by show _ = _; rw [List.length_map, List.length_set]; exact hn2.out
    have one_ch : Hid (∀ u ∈ (p.ch.set d 16).map iv, u.oneCell' = true) := fun u hu => by obtain ⟨b, _, rfl⟩ := List.mem_map.1 hu; rfl
    have hpos : Hid (0 < p.n2) := by show 0 < p.n2; omega
    have lXp := Lib.hid Xp.out.lt
    have lXF := Lib.hid XF.out.lt
    have lXB := Lib.hid XB.out.lt
    have hmle := Lib.hid MF.out.le
    have hple := Lib.hid Mp.out.le
    have hints := Lib.hid size_ints12
    go_upto_region 15 with (first | (refine push_vs (z := .int .i64 0) (bs := 8) Tryd.underlying25 infoI12 rfl (by decide) rfl _ _ rfl v10 _ _ ⟨gqf, 0, none⟩ p.n2 qf.c2 hlen.out rfl rfl hrF.out (Nat.le_refl _) one_ch.out (by omega) ?_; intro v4 v11 ho4 hb4; obtain ⟨gB, cB, LB, rfl, hgB, hLB, hLBn, hLBt⟩ := own_open12 ho4 hpos.out; have XB2 := Lib.hid (XB.out.below hb4 lXB.out)) | (refine wpList_blk_store rfl 25 _ _ rfl 4 (.slice (some ⟨gB, 0, none⟩) p.n2 cB) rfl rfl XB2.out hints.out (by simp [Value.cells]) (slice_one12 _ _ _) ?_; intro v12 hw5 ho5))
    clear f4 T
    have hgbB : gb < gB := Nat.lt_of_lt_of_le lXB.out hgB
    have XB5 : Hid (Blk v12 gb [.int .i64 p.D, .slice qf.A p.n qf.c, .int .i64 p.G, .slice qf.A1 p.n1 qf.c1, .slice (some ⟨gB, 0, none⟩) p.n2 cB] 27) := hw5
    have LB5 : Hid (Blk v12 gB LB 3) := hLB.only ho5 (by omega)
    replace E : Hid (Below w.heap.size w v12) := E.out.trans ((hb4.mono E.out.size).trans (ho5.below (Nat.le_of_lt lx0.out)))
    replace Xp := Lib.hid ((Xp.out.below hb4 lXp.out).only ho5 (Nat.ne_of_lt lx0.out))
    replace Mp := Lib.hid ((Mp.out.below (hb4.mono hple.out)).below (ho5.below (Nat.le_of_lt lx0.out)))
    replace MF := Lib.hid ((MF.out.below (hb4.mono hmle.out)).below (ho5.below lm0.out))
    have p4 := XB5.out.cell (j := 4) rfl
    have hdLB : Hid (d < LB.length) := by show _ < _; omega
    have hfit : Hid (d + (Value.int .i64 c).cells.size ≤ LB.length) := by show d + 1 ≤ _; omega
    have hgBH : Hid (v10.heap.size ≤ gB) := hgB
    have hbH := Lib.hid hgbB
    have hLtH : Hid (LB.take p.n2 = (p.ch.set d 16).map iv) := hLBt
    clear hw5 ho5 hLB hLBn hLBt hgB ho4 hgbB XB2 XB XF
    go_upto_region 16 with (refine wpList_blk_store rfl 3 _ _ rfl d (.int .i64 c) rfl rfl LB5.out hii.out hfit.out (one_int _ _) ?_; intro v13 hw6 ho6)
    have LB6 : Hid (Blk v13 gB (LB.set d (iv c)) 3) := by
      have h := hw6.out
      rw [show (Value.int .i64 c).cells.toList = [iv c] from rfl, splice_set _ _ _ hdLB.out] at h
      exact h
    have hgB' := hgBH.out
    have XBf := Lib.hid (XB5.out.only ho6 (by have := hbH.out; omega))
    replace E : Hid (Below w.heap.size w v13) := E.out.trans (ho6.below (by have := lXp.out; omega))
    replace Xp := Lib.hid (Xp.out.only ho6 (by have := lXp.out; omega))
    replace Mp := Lib.hid (Mp.out.below (ho6.below (by have := hple.out; omega)))
    replace MF := Lib.hid (MF.out.below (ho6.below (by have := hmle.out; omega)))
    have T := Lib.hid (hT.out.on E.out)
    have hcb : Hid (Rds v13 v13.heap.size (some ⟨gB, 0, none⟩) (p.ch.map iv)) := by
      have h := LB6.out.rds 0 p.n2
      rw [List.drop_zero, take_set12 hLtH.out, List.set_set, set_self12 hcH.out] at h
      exact h
    have MB : Hid (PerM v13 v13.heap.size { qf with A2 := some ⟨gB, 0, none⟩, n2 := p.n2, c2 := cB, ch := p.ch }) := MF.out.swap MF.out.le (Nat.le_refl _) hcb.out hn2.out (by omega)
    obtain ⟨qb, hqb⟩ : ∃ q : Prl, q = { qf with A2 := some ⟨gB, 0, none⟩, n2 := p.n2, c2 := cB, ch := p.ch } := ⟨_, rfl⟩
    rw [← hqb] at MB
    have Vqb : Hid (prv qb = .agg #[.int .i64 p.D, .slice qf.A p.n qf.c, .int .i64 p.G, .slice qf.A1 p.n1 qf.c1, .slice (some ⟨gB, 0, none⟩) p.n2 cB]) := by
      show prv qb = _
      rw [hqb, prv_eq12]
      dsimp only
      rw [Fqf.out.1, Fqf.out.2.1, Nqf.out.1, Nqf.out.2]
    have Fqb : Hid (p.D = qb.D ∧ p.G = qb.G ∧ p.Gs = qb.Gs ∧ p.al = qb.al ∧ p.ch = qb.ch) := by show _ ∧ _; rw [hqb]; exact ⟨Fqf.out.1.symm, Fqf.out.2.1.symm, Fqf.out.2.2.1.symm, Fqf.out.2.2.2.1.symm, rfl⟩
    clear hw6 ho6 LB5 LB6 hcb hqb MF Fqf Aqf hgB' p4 hfit XB5
    have hle3 := Lib.hid Mp.out.le
    go_wp2_with fail
    have C := sanity_any12 v13 T.out
    refine C.mono ?_
    rintro e v14 ⟨rfl, hb⟩
    clear C T
    replace E : Hid (Below w.heap.size w v14) := E.out.trans (hb.mono E.out.size)
    have T := Lib.hid (hT.out.on E.out)
    replace Mp := Lib.hid (Mp.out.keep hb)
    replace MB := Lib.hid (MB.out.keep hb)
    replace Xp := Lib.hid (Xp.out.below hb Xp.out.lt)
    replace XBf := Lib.hid (XBf.out.below hb XBf.out.lt)
    clear hb
    obtain ⟨k1, k2, k3, k4, k5⟩ := E1.out
    obtain ⟨j1, j2, j3, j4⟩ := WR.out
    have p0 := Xp.out.cell (j := 0) rfl
    have p1 := Xp.out.cell (j := 1) rfl
    have p2 := Xp.out.cell (j := 2) rfl
    have p3 := Xp.out.cell (j := 3) rfl
    have p4 := Xp.out.cell (j := 4) rfl
    have b0 := XBf.out.cell (j := 0) rfl
    have b1 := XBf.out.cell (j := 1) rfl
    have b2 := XBf.out.cell (j := 2) rfl
    have b3 := XBf.out.cell (j := 3) rfl
    have b4 := XBf.out.cell (j := 4) rfl
    go_wp2_with fail
    clear p0 p1 p2 p3 p4
    clear b0 b1 b2 b3 b4
    have C := same12_any qb p v14 MB.out (Mp.out.more hle3.out MB.out.le) Fqb.out.1 Fqb.out.2.1 Fqb.out.2.2.1 Fqb.out.2.2.2.1 Fqb.out.2.2.2.2
    rw [Vqb.out] at C
    rw [hpv.out] at C
    refine C.mono ?_
    rintro e v15 ⟨rfl, hb⟩
    clear C T
    replace E : Hid (Below w.heap.size w v15) := E.out.trans (hb.mono E.out.size)
    have T := Lib.hid (hT.out.on E.out)
    replace Mp := Lib.hid (Mp.out.keep hb)
    replace MB := Lib.hid (MB.out.keep hb)
    replace Xp := Lib.hid (Xp.out.below hb Xp.out.lt)
    replace XBf := Lib.hid (XBf.out.below hb XBf.out.lt)
    clear hb
    go_wp2_with fail
    go_ret
    exact ⟨by first | rfl | (go_simp; done), E.out⟩
end Go.Proofs.YtgajlgnniidgmaaDoor
