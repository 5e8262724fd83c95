/-
  Stage 12: the walk of RiskIsMonotone. (Written by tools/genyj.py.)
-/
import Derived.Test.YtgajlgnniidgmaaDoorYi
import Derived.Test.YtgajlgnniidgmaaDoorYd
namespace Go.Proofs.YtgajlgnniidgmaaDoor
set_option linter.unusedVariables false
set_option linter.unusedSimpArgs false
open Go.RowKit Go.Maps

theorem wrap_u8_12 {a : Nat} (h : a < 256) : IntKind.i64.wrap (a : Int) = (a : Int) := by rw [IntKind.wrap_i64]; omega
theorem or_sub12 {a b : Nat} : ∀ i, a.testBit i = true → (a ||| b).testBit i = true := fun i h => by rw [Nat.testBit_or, h]; rfl
theorem sets_facts12 {s0 s1 n : Nat} (h0 : s0 < 65536) (h1 : s1 < 65536) (hn : n ≤ 9) : ∃ P M1 a b1 b2 : Nat, wrap64 ((2 : Int) ^ n) = (P : Int) ∧ IntKind.i64.wrap ((2 : Int) ^ n) = (P : Int) ∧ (P : Int) - 1 = (M1 : Int) ∧ IntKind.i64.wrap (M1 : Int) = (M1 : Int) ∧
    bits BinOp.and IntKind.i64 (s0 : Int) (M1 : Int) = (a : Int) ∧ bits BinOp.and IntKind.i64 (s1 : Int) (M1 : Int) = (b1 : Int) ∧ bits BinOp.or IntKind.i64 (a : Int) (b1 : Int) = (b2 : Int) ∧ a < 2 ^ n ∧ b2 < 2 ^ n ∧ ∀ i, a.testBit i = true → b2.testBit i = true := by
  obtain ⟨P, hP, hP4, hP1, hP2⟩ := pow_facts12 (d := n) (by omega)
  have hPp : 0 < P := by rw [hP]; exact Nat.two_pow_pos _
  obtain ⟨k1, k2⟩ := mask_set12 (M := P - 1) h0 hn hP rfl
  obtain ⟨k3, k4⟩ := mask_set12 (M := P - 1) h1 hn hP rfl
  have hab : s0 % P ||| s1 % P < 2 ^ n := Nat.or_lt_two_pow k2 k4
  have l1 : s0 % P < 4096 := Nat.lt_of_lt_of_le (Nat.mod_lt _ hPp) hP4
  have l2 : s1 % P < 4096 := Nat.lt_of_lt_of_le (Nat.mod_lt _ hPp) hP4
  refine ⟨P, P - 1, s0 % P, s1 % P, s0 % P ||| s1 % P, hP1, hP2, by omega, ?_, k1, k3, i64_or _ _ (by omega) (by omega), k2, hab, or_sub12⟩
  clear k1 k2 k3 k4 hab hP1 hP2 hP l1 l2
  rw [IntKind.wrap_i64]; omega
set_option maxRecDepth 100000 in
set_option maxHeartbeats 4000000 in
theorem mono_walk12 (p : Prl) (a0 a1 a2 s0 s1 : Nat) (w : World) (hMp : PerM w w.heap.size p) (hk : CapP p) (ha0 : a0 < 256) (ha1 : a1 < 256) (ha2 : a2 < 256) (hs0 : s0 < 65536) (hs1 : s1 < 65536) (ht : PTab 2 w) :
    Calls Tryd.prog 5 #[prv p, .agg #[.int .u8 a0, .int .u8 a1, .int .u8 a2], .agg #[.int .u16 s0, .int .u16 s1]] w fun e w' => e = .returned (.bool true) ∧ Below w.heap.size w w' := by
  have hn2 : Hid (p.n2 = p.ch.length) := hMp.n2
  have hn1 : Hid (p.n1 = p.al.length) := hMp.n1
  have hkH := Lib.hid hk
  clear hk
  have hsz := Lib.hid size_prl
  have hun : Hid (Tryd.prog.underlying 27 = _) := Tryd.underlying27
  have hii := Lib.hid size_int12
  have hints := Lib.hid size_ints12
  have hT := Lib.hid ht
  obtain ⟨W1, hW1⟩ : ∃ x, x = w.alloc (.cells #[.int .i64 p.D, .slice p.A p.n p.c, .int .i64 p.G, .slice p.A1 p.n1 p.c1, .slice p.A2 p.n2 p.c2] 27) := ⟨_, rfl⟩
  have sW1 : Hid (W1.heap.size = w.heap.size + 1) := by show _ = _; rw [hW1]; simp
  have bW1 : Hid (Below w.heap.size w W1) := by show Below _ _ _; rw [hW1]; exact (Below.refl _ _).alloc (Nat.le_refl _) _
  have Xp : Hid (Blk W1 (w.heap.size) [.int .i64 p.D, .slice p.A p.n p.c, .int .i64 p.G, .slice p.A1 p.n1 p.c1, .slice p.A2 p.n2 p.c2] 27) := by show Blk _ _ _ _; rw [hW1]; exact Blk.new _ [.int .i64 p.D, .slice p.A p.n p.c, .int .i64 p.G, .slice p.A1 p.n1 p.c1, .slice p.A2 p.n2 p.c2] _
  have E : Hid (Below w.heap.size w W1) := bW1.out
  obtain ⟨W2, hW2⟩ : ∃ x, x = W1.alloc (.cells #[.int .u8 a0, .int .u8 a1, .int .u8 a2] 47) := ⟨_, rfl⟩
  have sW2 : Hid (W2.heap.size = w.heap.size + 1 + 1) := by show _ = _; rw [hW2]; simp [sW1.out]
  have bW2 : Hid (Below W1.heap.size W1 W2) := by show Below _ _ _; rw [hW2]; exact (Below.refl _ _).alloc (Nat.le_refl _) _
  have Xa : Hid (Blk W2 (w.heap.size + 1) [.int .u8 a0, .int .u8 a1, .int .u8 a2] 47) := by show Blk _ _ _ _; rw [hW2, ← sW1.out]; exact Blk.new _ [.int .u8 a0, .int .u8 a1, .int .u8 a2] _
  replace Xp := Lib.hid (Xp.out.below bW2.out Xp.out.lt)
  replace E : Hid (Below w.heap.size w W2) := E.out.trans (bW2.out.mono E.out.size)
  obtain ⟨W3, hW3⟩ : ∃ x, x = W2.alloc (.cells #[.int .u16 s0, .int .u16 s1] 49) := ⟨_, rfl⟩
  have sW3 : Hid (W3.heap.size = w.heap.size + 1 + 1 + 1) := by show _ = _; rw [hW3]; simp [sW2.out]
  have bW3 : Hid (Below W2.heap.size W2 W3) := by show Below _ _ _; rw [hW3]; exact (Below.refl _ _).alloc (Nat.le_refl _) _
  have Xs : Hid (Blk W3 (w.heap.size + 1 + 1) [.int .u16 s0, .int .u16 s1] 49) := by show Blk _ _ _ _; rw [hW3, ← sW2.out]; exact Blk.new _ [.int .u16 s0, .int .u16 s1] _
  replace Xp := Lib.hid (Xp.out.below bW3.out Xp.out.lt)
  replace Xa := Lib.hid (Xa.out.below bW3.out Xa.out.lt)
  replace E : Hid (Below w.heap.size w W3) := E.out.trans (bW3.out.mono E.out.size)
  have Mp := Lib.hid (hMp.keep E.out)
  have T := Lib.hid (hT.out.on E.out)
  have hWW : Hid ((((w).alloc (.cells #[.int .i64 p.D, .slice p.A p.n p.c, .int .i64 p.G, .slice p.A1 p.n1 p.c1, .slice p.A2 p.n2 p.c2] 27)).alloc (.cells #[.int .u8 a0, .int .u8 a1, .int .u8 a2] 47)).alloc (.cells #[.int .u16 s0, .int .u16 s1] 49) = W3) := by show _ = _; rw [hW3, hW2, hW1]
  clear hW1 hW2 hW3 bW1 bW2 bW3 sW1 sW2 sW3 ht hMp
  rw [prv_eq12]
  go_enter Tryd.func5, Tryd.ntmps5
  go_upto_region 1 with fail
  generalize hg : (((w).alloc _).alloc _).alloc _ = Wg
  have hgW : W3 = Wg := by rw [← hg, hWW.out]
  clear hg hWW
  subst hgW
  go_wp2_with (first | (refine wpList_blk_load rfl 27 _ rfl 0 rfl Xp.out [_, _, _, _, _] rfl _ hun.out rfl hsz.out ?_) | fail)
  have C := few12_any p 9 W3 Mp.out
  rw [prv_eq12] at C
  refine C.mono ?_
  rintro e v1 ⟨⟨b, rfl, hbf⟩, hb⟩
  clear C T
  replace E : Hid (Below w.heap.size w v1) := E.out.trans (hb.mono E.out.size)
  have T := Lib.hid (hT.out.on E.out)
  replace Mp := Lib.hid (Mp.out.keep hb)
  replace Xp := Lib.hid (Xp.out.below hb Xp.out.lt)
  replace Xa := Lib.hid (Xa.out.below hb Xa.out.lt)
  replace Xs := Lib.hid (Xs.out.below hb Xs.out.lt)
  clear hb
  have hbfH := Lib.hid hbf
  clear hbf
  cases b with
  | false =>
    go_wp2_with (first | (refine wpList_blk_load rfl 27 _ rfl 0 rfl Xp.out [_, _, _, _, _] rfl _ hun.out rfl hsz.out ?_) | fail)
    have C := sanity_any12 v1 T.out
    refine C.mono ?_
    rintro e v2 ⟨rfl, hb⟩
    clear C T
    replace E : Hid (Below w.heap.size w v2) := E.out.trans (hb.mono E.out.size)
    have T := Lib.hid (hT.out.on E.out)
    replace Mp := Lib.hid (Mp.out.keep hb)
    replace Xp := Lib.hid (Xp.out.below hb Xp.out.lt)
    replace Xa := Lib.hid (Xa.out.below hb Xa.out.lt)
    replace Xs := Lib.hid (Xs.out.below hb Xs.out.lt)
    clear hb
    go_wp2_with fail
    go_ret
    exact ⟨by first | rfl | (go_simp; done), E.out⟩
  | true =>
    have hF := hbfH.out.1 rfl
    have h9 : p.ch.length ≤ 9 := by have := hF.1; omega
    have h9H := Lib.hid h9
    clear hF hbfH
    have p0 := Xp.out.cell (j := 0) rfl
    have p1 := Xp.out.cell (j := 1) rfl
    have p2 := Xp.out.cell (j := 2) rfl
    have p3 := Xp.out.cell (j := 3) rfl
    have p4 := Xp.out.cell (j := 4) rfl
    go_wp2_with fail
    clear p0 p1 p2 p3 p4
    obtain ⟨Z, hZ⟩ : ∃ z, z = chkP p := ⟨_, rfl⟩
    have CK := rcheck_any p v1 Mp.out
    rw [← hZ] at CK
    have hZH := Lib.hid hZ
    clear hZ
    have C := CK
    rw [prv_eq12] at C
    refine C.mono ?_
    rintro e v2 ⟨rfl, hb⟩
    clear C T CK
    replace E : Hid (Below w.heap.size w v2) := E.out.trans (hb.mono E.out.size)
    have T := Lib.hid (hT.out.on E.out)
    replace Mp := Lib.hid (Mp.out.keep hb)
    replace Xp := Lib.hid (Xp.out.below hb Xp.out.lt)
    replace Xa := Lib.hid (Xa.out.below hb Xa.out.lt)
    replace Xs := Lib.hid (Xs.out.below hb Xs.out.lt)
    clear hb
    by_cases h0 : Z = 0
    rotate_left
    · have t0 : (Z == 0) = false := by simpa using h0
      go_wp2_with fail
      have C := sanity_any12 v2 T.out
      refine C.mono ?_
      rintro e v3 ⟨rfl, hb⟩
      clear C T
      replace E : Hid (Below w.heap.size w v3) := E.out.trans (hb.mono E.out.size)
      have T := Lib.hid (hT.out.on E.out)
      replace Mp := Lib.hid (Mp.out.keep hb)
      replace Xp := Lib.hid (Xp.out.below hb Xp.out.lt)
      replace Xa := Lib.hid (Xa.out.below hb Xa.out.lt)
      replace Xs := Lib.hid (Xs.out.below hb Xs.out.lt)
      clear hb
      go_wp2_with fail
      go_ret
      exact ⟨by first | rfl | (go_simp; done), E.out⟩
    have hz : Hid (chkP p = 0) := hZH.out.symm.trans h0
    subst h0
    have OK := Lib.hid (chkP_ok.1 hz.out)
    have hn9 : p.n2 ≤ 9 := by rw [hn2.out]; exact h9
    have hn24 : p.n1 ≤ 24 := by rw [hn1.out]; exact OK.out.l24
    have hn1p : 1 ≤ p.n1 := by rw [hn1.out]; have h1 := OK.out.pcs; obtain ⟨b1, b2, b3, b4, b5, b6⟩ := cchk_ok OK.out.cod; omega
    clear hZH h9
    obtain ⟨l, hl1, hl2, hl3⟩ := lsum_nat OK.out h9H.out
    obtain ⟨t, hte⟩ : ∃ t, t = 16 ^ p.ch.length := ⟨_, rfl⟩
    have htp : 0 < t := by rw [hte]; exact Nat.pow_pos (by omega)
    have ht9 : t ≤ 68719476736 := by rw [hte]; exact (Nat.pow_le_pow_right (by omega) h9H.out : 16 ^ p.ch.length ≤ 16 ^ 9)
    rw [← hte] at hl2
    obtain ⟨m, hm⟩ : ∃ m, m = milN l t := ⟨_, rfl⟩
    have CLP : Hid (∀ W B, PerM W B p → PTab 2 W → Calls Tryd.prog 14 #[prv p] W fun e w' => e = .returned (.tuple #[.int .i64 (l : Int), .int .i64 0]) ∧ Below W.heap.size W w') := fun W B m t => by
      have := rLoss_any p W m t
      rw [hz.out, if_pos rfl, hl1] at this
      exact this
    have CTP : Hid (∀ W B, PerM W B p → PTab 2 W → Calls Tryd.prog 12 #[prv p] W fun e w' => e = .returned (.tuple #[.int .i64 (t : Int), .int .i64 0]) ∧ Below W.heap.size W w') := fun W B m t => by
      have := rTotal_any p W m t
      rw [hz.out, if_pos rfl, ← hte] at this
      exact this
    have CMP : Hid (∀ W B, PerM W B p → PTab 2 W → Calls Tryd.prog 17 #[prv p] W fun e w' => e = .returned (.tuple #[.int .i64 (m : Int), .int .i64 0]) ∧ Below W.heap.size W w') := fun W B m t => by
      have := rMil_any p W m t h9H.out
      rw [hz.out, if_pos rfl, hl1, ← hte, Int.toNat_natCast, ← hm] at this
      exact this
    have CO : Hid (∀ W (s : Nat) (b : Bool), s < 2 ^ p.ch.length → (b = true ↔ LosP p s) → PerM W w.heap.size p → PTab 2 W → Calls Tryd.prog 13 #[prv p, .int .i64 s] W fun e w' => e = .returned (.tuple #[.bool b, .int .i64 0]) ∧ Below W.heap.size W w') := fun W s b hs hb m t => lost_eq hz.out hs (W := W) b hb (rLost_any p (s : Int) W m t)
    have hlH : Hid (lsum p (2 ^ p.ch.length) = l) := hl1
    have hteH := Lib.hid hte
    have hmH := Lib.hid hm
    have hl2H := Lib.hid hl2
    have htpH := Lib.hid htp
    have ht9H := Lib.hid ht9
    obtain ⟨U, V, e1, e2, e3, e4, e5, e6, e7, e8⟩ := mil_ints htp hl2 ht9 hm
    have e8H := Lib.hid e8
    have y1 : ¬ (t : Int) < 1 := by omega
    have y2 : ¬ (l : Int) < 0 := by omega
    have y3 : (decide (t < l)) = false := by simp; omega
    clear e8 hl1 hte hm hl2 htp hz
    have p4 := Xp.out.cell (j := 4) rfl
    go_wp2_with (first | (refine wpList_blk_load rfl 27 _ rfl 0 rfl Xp.out [_, _, _, _, _] rfl _ hun.out rfl hsz.out ?_) | fail)
    clear p4
    have C := CLP.out v2 _ Mp.out T.out
    rw [prv_eq12] at C
    refine C.mono ?_
    rintro e v3 ⟨rfl, hb⟩
    clear C T
    replace E : Hid (Below w.heap.size w v3) := E.out.trans (hb.mono E.out.size)
    have T := Lib.hid (hT.out.on E.out)
    replace Mp := Lib.hid (Mp.out.keep hb)
    replace Xp := Lib.hid (Xp.out.below hb Xp.out.lt)
    replace Xa := Lib.hid (Xa.out.below hb Xa.out.lt)
    replace Xs := Lib.hid (Xs.out.below hb Xs.out.lt)
    clear hb
    go_wp2_with (first | (refine wpList_blk_load rfl 27 _ rfl 0 rfl Xp.out [_, _, _, _, _] rfl _ hun.out rfl hsz.out ?_) | fail)
    have C := CTP.out v3 _ Mp.out T.out
    rw [prv_eq12] at C
    refine C.mono ?_
    rintro e v4 ⟨rfl, hb⟩
    clear C T
    replace E : Hid (Below w.heap.size w v4) := E.out.trans (hb.mono E.out.size)
    have T := Lib.hid (hT.out.on E.out)
    replace Mp := Lib.hid (Mp.out.keep hb)
    replace Xp := Lib.hid (Xp.out.below hb Xp.out.lt)
    replace Xa := Lib.hid (Xa.out.below hb Xa.out.lt)
    replace Xs := Lib.hid (Xs.out.below hb Xs.out.lt)
    clear hb
    go_wp2_with (first | (refine wpList_blk_load rfl 27 _ rfl 0 rfl Xp.out [_, _, _, _, _] rfl _ hun.out rfl hsz.out ?_) | fail)
    have C := CMP.out v4 _ Mp.out T.out
    rw [prv_eq12] at C
    refine C.mono ?_
    rintro e v5 ⟨rfl, hb⟩
    clear C T
    replace E : Hid (Below w.heap.size w v5) := E.out.trans (hb.mono E.out.size)
    have T := Lib.hid (hT.out.on E.out)
    replace Mp := Lib.hid (Mp.out.keep hb)
    replace Xp := Lib.hid (Xp.out.below hb Xp.out.lt)
    replace Xa := Lib.hid (Xa.out.below hb Xa.out.lt)
    replace Xs := Lib.hid (Xs.out.below hb Xs.out.lt)
    clear hb
    clear CLP CTP CMP
    go_upto_region 10 with fail
    clear y1 y2 y3 e6 e7 T
    go_cut [104] from 86 to 104 (fun v W => v = .bool false ∧ W = v5)
    case first =>
      by_cases hm0 : m = 0
      · have tm : ¬ (m : Int) > 0 := by omega
        have e5n : decide (V < U) = false := by simp; omega
        clear hm0
        go_wp2_with fail
        go_meet
        exact ⟨by first | rfl | (go_simp; done), rfl⟩
      · have tm : (m : Int) > 0 := by omega
        obtain ⟨m1, V1, k1, k2, k3, k4, k5⟩ := e8H.out (by omega)
        have e5n : decide (V < U) = false := by simp; omega
        have k5n : decide (U ≤ V1) = false := by simp; omega
        clear hm0
        go_wp2_with fail
        go_meet
        exact ⟨by first | rfl | (go_simp; done), rfl⟩
    case rest =>
    obtain ⟨rfl, hwc⟩ := hcut
    rw [hwc]
    clear hwc
    have T := Lib.hid (hT.out.on E.out)
    clear e1 e2 e3 e4 e5 e8H
    go_upto_region 12 with fail
    have Xn : Hid (Blk (v5.alloc (.cells #[.int .i64 0, .slice none 0 0, .int .i64 0, .slice none 0 0, .slice none 0 0] 27)) v5.heap.size [.int .i64 0, .slice none 0 0, .int .i64 0, .slice none 0 0, .slice none 0 0] 27) := Blk.new _ [_, _, _, _, _] _
    have hal : Hid (Below v5.heap.size v5 (v5.alloc (.cells #[.int .i64 0, .slice none 0 0, .int .i64 0, .slice none 0 0, .slice none 0 0] 27))) := (Below.refl _ _).alloc (Nat.le_refl _) _
    have lx0 := Lib.hid Xp.out.lt
    have la0 := Lib.hid Xa.out.lt
    have ls0 := Lib.hid Xs.out.lt
    go_upto_region 13 with (first | (refine wpList_blk_load rfl 27 _ rfl 0 rfl Xp.out [_, _, _, _, _] rfl _ hun.out rfl hsz.out ?_) | (refine wpList_row_store rfl 27 _ _ rfl [.int .i64 p.D, .slice p.A p.n p.c, .int .i64 p.G, .slice p.A1 p.n1 p.c1, .slice p.A2 p.n2 p.c2] rfl rfl Xn.out hsz.out rfl (five_one12 _ _ _ _ _ _ _ _ _ _ _) ?_; intro v6 hw ho))
    have hb : Below v5.heap.size v5 v6 := hal.out.trans (ho.below (Nat.le_refl _))
    clear T
    replace E : Hid (Below w.heap.size w v6) := E.out.trans (hb.mono E.out.size)
    have T := Lib.hid (hT.out.on E.out)
    replace Mp := Lib.hid (Mp.out.keep hb)
    replace Xp := Lib.hid (Xp.out.below hb Xp.out.lt)
    replace Xa := Lib.hid (Xa.out.below hb Xa.out.lt)
    replace Xs := Lib.hid (Xs.out.below hb Xs.out.lt)
    have XW := Lib.hid hw.out
    obtain ⟨gw, hgw⟩ : ∃ g, g = v5.heap.size := ⟨_, rfl⟩
    rw [← hgw] at XW lx0 la0 ls0 ⊢
    clear hb hw ho hal Xn hgw
    have fC : ∀ o, (v6.alloc o).cell? ⟨w.heap.size, 4, none⟩ = some (.slice p.A2 p.n2 p.c2) := fun o => (Xp.out.alloc o).cell (j := 4) rfl
    have hrC : Hid (Rds v6 w.heap.size p.A2 (p.ch.map iv)) := Mp.out.ch
    have hlenC : Hid (p.n2 = (p.ch.map iv).length) := by show _ = _; rw [List.length_map]; exact hn2.out
    have oneC : Hid (∀ u ∈ p.ch.map iv, u.oneCell' = true) := fun u hu => by obtain ⟨b, _, rfl⟩ := List.mem_map.1 hu; rfl
    have lXp := Lib.hid Xp.out.lt
    have lXa := Lib.hid Xa.out.lt
    have lXs := Lib.hid Xs.out.lt
    have lXW := Lib.hid XW.out.lt
    have hple := Lib.hid Mp.out.le
    have hl6C : p.n2 ≤ 1000000 := by omega
    go_upto_region 14 with (first | (at_builtin; go_must (refine push_vo (z := .int .i64 0) (bs := 8) Tryd.underlying25 infoI12 rfl (by decide) rfl _ _ rfl v6 _ w.heap.size p.A2 p.n2 p.c2 hlenC.out hkH.out.2.2 rfl rfl hrC.out hple.out oneC.out hl6C ?_); intro vC v7 ho4 hb4; obtain ⟨AC, cC, rfl, _, _, _, _⟩ := own_form ho4; have XB2 := Lib.hid (XW.out.below hb4 lXW.out)) | (refine wpList_blk_store rfl 25 _ _ rfl 4 (.slice AC p.n2 cC) rfl rfl XB2.out hints.out (by simp [Value.cells]) (slice_one12 _ _ _) ?_; intro v8 hw5 ho5))
    clear fC T
    replace XW : Hid (Blk v8 gw [.int .i64 p.D, .slice p.A p.n p.c, .int .i64 p.G, .slice p.A1 p.n1 p.c1, .slice AC p.n2 cC] 27) := hw5
    have OC : Hid (v8.ownsRow v6.heap.size 3 1 (.slice AC p.n2 cC) p.n2 (p.ch.map iv)) := own_only12 ho4 ho5 lXW.out
    replace E : Hid (Below w.heap.size w v8) := E.out.trans ((hb4.mono E.out.size).trans (ho5.below (Nat.le_of_lt lx0.out)))
    replace Xp := Lib.hid ((Xp.out.below hb4 lXp.out).only ho5 (Nat.ne_of_lt lx0.out))
    replace Xa := Lib.hid ((Xa.out.below hb4 lXa.out).only ho5 (Nat.ne_of_lt la0.out))
    replace Xs := Lib.hid ((Xs.out.below hb4 lXs.out).only ho5 (Nat.ne_of_lt ls0.out))
    replace Mp := Lib.hid ((Mp.out.below (hb4.mono hple.out)).below (ho5.below (Nat.le_of_lt lx0.out)))
    have hgwC : Hid (gw < v6.heap.size) := lXW.out
    clear hw5 ho5 hb4 ho4 XB2 hrC hlenC oneC lXp lXa lXs lXW hple
    have hCA : Hid (∀ g, (Value.slice AC p.n2 cC).ownBlock = some g → g < v8.heap.size) := fun g hg => (OC.out.lt g hg).2
    have fA : ∀ o, (v8.alloc o).cell? ⟨w.heap.size, 3, none⟩ = some (.slice p.A1 p.n1 p.c1) := fun o => (Xp.out.alloc o).cell (j := 3) rfl
    have hrA : Hid (Rds v8 w.heap.size p.A1 (p.al.map iv)) := Mp.out.al
    have hlenA : Hid (p.n1 = (p.al.map iv).length) := by show _ = _; rw [List.length_map]; exact hn1.out
    have oneA : Hid (∀ u ∈ p.al.map iv, u.oneCell' = true) := fun u hu => by obtain ⟨b, _, rfl⟩ := List.mem_map.1 hu; rfl
    have lXp := Lib.hid Xp.out.lt
    have lXa := Lib.hid Xa.out.lt
    have lXs := Lib.hid Xs.out.lt
    have lXW := Lib.hid XW.out.lt
    have hple := Lib.hid Mp.out.le
    have hl6A : p.n1 ≤ 1000000 := by omega
    go_upto_region 15 with (first | (at_builtin; go_must (refine push_vo (z := .int .i64 0) (bs := 8) Tryd.underlying25 infoI12 rfl (by decide) rfl _ _ rfl v8 _ w.heap.size p.A1 p.n1 p.c1 hlenA.out hkH.out.2.1 rfl rfl hrA.out hple.out oneA.out hl6A ?_); intro vA v9 ho4 hb4; obtain ⟨AA, cA, rfl, _, _, _, _⟩ := own_form ho4; have XB2 := Lib.hid (XW.out.below hb4 lXW.out)) | (refine wpList_blk_store rfl 25 _ _ rfl 3 (.slice AA p.n1 cA) rfl rfl XB2.out hints.out (by simp [Value.cells]) (slice_one12 _ _ _) ?_; intro v10 hw5 ho5))
    clear fA
    replace XW : Hid (Blk v10 gw [.int .i64 p.D, .slice p.A p.n p.c, .int .i64 p.G, .slice AA p.n1 cA, .slice AC p.n2 cC] 27) := hw5
    have OA : Hid (v10.ownsRow v8.heap.size 3 1 (.slice AA p.n1 cA) p.n1 (p.al.map iv)) := own_only12 ho4 ho5 lXW.out
    replace E : Hid (Below w.heap.size w v10) := E.out.trans ((hb4.mono E.out.size).trans (ho5.below (Nat.le_of_lt lx0.out)))
    replace Xp := Lib.hid ((Xp.out.below hb4 lXp.out).only ho5 (Nat.ne_of_lt lx0.out))
    replace Xa := Lib.hid ((Xa.out.below hb4 lXa.out).only ho5 (Nat.ne_of_lt la0.out))
    replace Xs := Lib.hid ((Xs.out.below hb4 lXs.out).only ho5 (Nat.ne_of_lt ls0.out))
    replace Mp := Lib.hid ((Mp.out.below (hb4.mono hple.out)).below (ho5.below (Nat.le_of_lt lx0.out)))
    replace OC : Hid (v10.ownsRow v6.heap.size 3 1 (.slice AC p.n2 cC) p.n2 (p.ch.map iv)) := own_only12 (own_keep12 OC.out hb4) ho5 hgwC.out
    have hgwA : Hid (gw < v8.heap.size) := lXW.out
    clear hw5 ho5 hb4 ho4 XB2 hrA hlenA oneA lXp lXa lXs lXW hple
    obtain ⟨gA, cA2, LA, hvA, hgA, hLA, hLAn, hLAt⟩ := own_open12 OA.out (by omega)
    have hAA : AA = some ⟨gA, 0, none⟩ := by injection hvA
    subst hAA
    have LAb := Lib.hid hLA
    have hgAH : Hid (v8.heap.size ≤ gA) := hgA
    have hLAnH := Lib.hid hLAn
    have hLAtH := Lib.hid hLAt
    have hCAg : Hid (∀ g, (Value.slice AC p.n2 cC).ownBlock = some g → g < gA ∧ gw < g) := fun g hg => ⟨Nat.lt_of_lt_of_le (hCA.out g hg) hgAH.out, Nat.lt_of_lt_of_le hgwC.out (OC.out.lt g hg).1⟩
    have hgwA2 : Hid (gw < gA) := Nat.lt_of_lt_of_le hgwA.out hgAH.out
    clear hvA hLA hgA hLAn hLAt OA hCA hgAH hgwA
    by_cases hn0 : p.n2 = 0
    · have t0 : ¬ (p.n2 : Int) > 0 := by omega
      have hch : p.ch = [] := List.eq_nil_of_length_eq_zero (by rw [← hn2.out]; exact hn0)
      have hRC : Hid (RdsP (fun b => b ≠ gA) v10 AC (p.ch.map iv)) := fun hn => absurd (by rw [hch]; rfl) hn
      have hWC := Lib.hid (WorseC.same OK.out)
      clear hn0 hch OC
      obtain ⟨k, hke, hkl, hrem, hnz, tz⟩ := rem12 a2 p.n1 (by omega)
      have hremH := Lib.hid hrem
      have hw2 := wrap_u8_12 ha2
      have tk : (k : Int) < (p.n1 : Int) := by omega
      have tk0 : 0 ≤ (k : Int) := by omega
      have hkLA : Hid (k < LA.length) := by show k < _; have := hLAnH.out; omega
      clear hke hrem
      go_upto_region 18 with fail
      refine wp_region_planM [10] [(true, 0), (true, 1), (true, 2), (true, 3), (true, 4), (true, 5), (true, 6), (true, 7), (true, 8), (true, 9), (false, 10)] (by decide) (by kernel_rfl) (by kernel_rfl) (by decide) (by intro c a d v w h; cases d <;> exact h) ?_
      change wpPlanM _ _ _ _ _ _ (World.drew _)
      have hb : Below v10.heap.size v10 v10.drew := (Below.refl _ _).drew
      generalize hgd : v10.drew = v11 at hb ⊢
      clear hgd
      replace Xp := Lib.hid (Xp.out.below hb Xp.out.lt)
      replace Xa := Lib.hid (Xa.out.below hb Xa.out.lt)
      replace Xs := Lib.hid (Xs.out.below hb Xs.out.lt)
      replace XW := Lib.hid (XW.out.below hb XW.out.lt)
      replace LAb := Lib.hid (LAb.out.below hb LAb.out.lt)
      replace Mp := Lib.hid (Mp.out.keep hb)
      replace hRC := Lib.hid (hRC.out.keep hb)
      replace E : Hid (Below w.heap.size w v11) := E.out.trans (hb.mono E.out.size)
      clear hb
      have q1 : ∀ x : ExtOf v11, x.world.cell? ⟨gw, 3, none⟩ = some (.slice (some ⟨gA, 0, none⟩) p.n1 cA) := fun x => (Blk.below XW.out x.ext XW.out.lt).cell (j := 3) rfl
      have q3 : ∀ x : ExtOf v11, x.world.cell? ⟨w.heap.size + 1, 2, none⟩ = some (.int .u8 a2) := fun x => (Blk.below Xa.out x.ext Xa.out.lt).cell (j := 2) rfl
      have hrem3 : Int.tmod (a2 : Int) (p.n1 : Int) = (k : Int) := by rw [Int.tmod_eq_emod_of_nonneg (Int.natCast_nonneg _)]; exact hremH.out
      have hn1z : ¬ p.n1 = 0 := by omega
      iterate 10 (refine wpPlanM_plain rfl (fun K hK => ?_); go_simp; refine hK _ ?_; clear hK K)
      clear q1 q3 hrem3
      refine wpPlanM_call rfl (fun K hK => ?_)
      refine wpList_blk_store rfl 3 _ _ rfl k (.int .i64 (-1)) rfl rfl LAb.out hii.out (by have := hkLA.out; show k + 1 ≤ _; omega) (one_int _ _) ?_
      intro v12 hw9 ho9
      refine wpList_end (planPostL_normal ⟨.inl (by simp), hK _ _ ?_⟩)
      clear hK K
      have hLA9 : Blk v12 gA (LA.set k (iv (-1))) 3 := by
        have h := hw9.out
        rw [show (Value.int .i64 (-1)).cells.toList = [iv (-1)] from rfl, splice_set _ _ _ hkLA.out] at h
        exact h
      have l0 := hgwA2.out
      have l1 := lx0.out
      have l2 := la0.out
      have l3 := ls0.out
      replace Xp := Lib.hid (Xp.out.only ho9 (by omega))
      replace Xa := Lib.hid (Xa.out.only ho9 (by omega))
      replace Xs := Lib.hid (Xs.out.only ho9 (by omega))
      replace XW := Lib.hid (XW.out.only ho9 (by omega))
      replace Mp := Lib.hid (Mp.out.below (ho9.below (by omega)))
      replace hRC := Lib.hid (hRC.out.only ho9 (fun b hb => hb))
      replace E : Hid (Below w.heap.size w v12) := E.out.trans (ho9.below (by omega))
      obtain ⟨q, hq⟩ : ∃ q : Prl, q = ⟨p.D, p.A, p.n, p.c, p.G, p.Gs, some ⟨gA, 0, none⟩, p.n1, cA, p.al.set k (-1), AC, p.n2, cC, p.ch⟩ := ⟨_, rfl⟩
      have Vq : Hid (prv q = .agg #[.int .i64 p.D, .slice p.A p.n p.c, .int .i64 p.G, .slice (some ⟨gA, 0, none⟩) p.n1 cA, .slice AC p.n2 cC]) := by show prv q = _; rw [hq]; rfl
      have hqal : Hid (q.al = p.al.set k (-1)) := by show q.al = _; rw [hq]
      have hqch : Hid (q.ch = p.ch) := by show q.ch = _; rw [hq]
      have hq3 : Hid (q.D = p.D ∧ q.G = p.G ∧ q.Gs = p.Gs) := by show _ ∧ _; rw [hq]; exact ⟨rfl, rfl, rfl⟩
      have MQ : Hid (PerM v12 v12.heap.size q) := by
        have h := hLA9.rds 0 p.n1
        rw [List.drop_zero, take_setm12 hLAtH.out] at h
        have c' := Mp.out.more Mp.out.le (Nat.le_refl _)
        show PerM _ _ q
        rw [hq]
        exact ⟨c'.cod, h, by rw [List.length_set]; exact hn1.out, c'.s1, hRC.out.rds, by rw [hWC.out.1]; exact hn2.out, c'.s2⟩
      clear hw9 ho9 hLA9 l0 l1 l2 l3 hq LAb
      refine wpPlanM_nil ?_
      obtain ⟨OKq, hle⟩ := WorseC.le (q := q) (by rw [hqch.out]; exact hWC.out) OK.out hq3.out.1 hq3.out.2.1 hq3.out.2.2 hqal.out
      have hq9 : q.ch.length ≤ 9 := by rw [hqch.out, hWC.out.1]; exact h9H.out
      obtain ⟨l', hl1, hl2, hl3⟩ := lsum_nat OKq hq9
      have htq : 16 ^ q.ch.length = t := by rw [hqch.out, hWC.out.1, hteH.out]
      rw [htq] at hl2
      rw [hl1, hlH.out] at hle
      obtain ⟨m', hm'⟩ : ∃ m', m' = milN l' t := ⟨_, rfl⟩
      have hmm : m ≤ m' := by rw [hmH.out, hm']; exact mil_mono htpH.out (by omega) hl2
      have y1 : ¬ (l' : Int) < (l : Int) := by omega
      have y2 : ¬ (m' : Int) < (m : Int) := by omega
      have hzq := chkP_ok.2 OKq
      have CLQ : Hid (∀ W B, PerM W B q → PTab 2 W → Calls Tryd.prog 14 #[prv q] W fun e w' => e = .returned (.tuple #[.int .i64 (l' : Int), .int .i64 0]) ∧ Below W.heap.size W w') := fun W B m t => by
        have := rLoss_any q W m t
        rw [hzq, if_pos rfl, hl1] at this
        exact this
      have CMQ : Hid (∀ W B, PerM W B q → PTab 2 W → Calls Tryd.prog 17 #[prv q] W fun e w' => e = .returned (.tuple #[.int .i64 (m' : Int), .int .i64 0]) ∧ Below W.heap.size W w') := fun W B m t => by
        have := rMil_any q W m t hq9
        rw [hzq, if_pos rfl, hl1, htq, Int.toNat_natCast, ← hm'] at this
        exact this
      clear hl1 hl2 hl3 hle hm' hmm OKq hzq htq hWC hRC hqal hqch hq3 hlH hmH hteH hq9
      have T := Lib.hid (hT.out.on E.out)
      go_wp2_with (first | (refine wpList_blk_load rfl 27 _ rfl 0 rfl Xp.out [_, _, _, _, _] rfl _ hun.out rfl hsz.out ?_) | (refine wpList_blk_load rfl 27 _ rfl 0 rfl XW.out [_, _, _, _, _] rfl _ hun.out rfl hsz.out ?_) | fail)
      have C := CLQ.out v12 _ MQ.out T.out
      rw [Vq.out] at C
      refine C.mono ?_
      rintro e v13 ⟨rfl, hb⟩
      clear C T
      replace E : Hid (Below w.heap.size w v13) := E.out.trans (hb.mono E.out.size)
      have T := Lib.hid (hT.out.on E.out)
      replace Mp := Lib.hid (Mp.out.keep hb)
      replace MQ := Lib.hid (MQ.out.keep hb)
      replace Xp := Lib.hid (Xp.out.below hb Xp.out.lt)
      replace Xs := Lib.hid (Xs.out.below hb Xs.out.lt)
      replace XW := Lib.hid (XW.out.below hb XW.out.lt)
      clear hb
      go_wp2_with (first | (refine wpList_blk_load rfl 27 _ rfl 0 rfl Xp.out [_, _, _, _, _] rfl _ hun.out rfl hsz.out ?_) | (refine wpList_blk_load rfl 27 _ rfl 0 rfl XW.out [_, _, _, _, _] rfl _ hun.out rfl hsz.out ?_) | fail)
      have C := CMQ.out v13 _ MQ.out T.out
      rw [Vq.out] at C
      refine C.mono ?_
      rintro e v14 ⟨rfl, hb⟩
      clear C T
      replace E : Hid (Below w.heap.size w v14) := E.out.trans (hb.mono E.out.size)
      have T := Lib.hid (hT.out.on E.out)
      replace Mp := Lib.hid (Mp.out.keep hb)
      replace MQ := Lib.hid (MQ.out.keep hb)
      replace Xp := Lib.hid (Xp.out.below hb Xp.out.lt)
      replace Xs := Lib.hid (Xs.out.below hb Xs.out.lt)
      replace XW := Lib.hid (XW.out.below hb XW.out.lt)
      clear hb
      clear MQ XW CLQ CMQ Vq
      obtain ⟨P, M1, a, b1, b2, hP1, hP2, eM, fM, k1, k3, hor, k2, hab, hsub⟩ := sets_facts12 hs0 hs1 hn9
      have v1n : ¬ (p.n2 : Int) < 0 := by omega
      have v0n : 0 ≤ (p.n2 : Int) := by omega
      have v2n : min p.n2 64 = p.n2 := by omega
      have hw3 := wrap_u16_12 hs0
      have hw4 := wrap_u16_12 hs1
      rw [hn2.out] at k2 hab
      have haH := Lib.hid k2
      have hbH := Lib.hid hab
      have hup : Hid (LosP p a → LosP p b2) := los_up OK.out hsub
      clear k2 hab hsub
      go_upto_region 23 with fail
      clear y1 y2
      refine wp_region_planM [] [(true, 0), (true, 1), (true, 2), (true, 3), (true, 4), (true, 5), (true, 6), (true, 7)] (by decide) (by kernel_rfl) (by kernel_rfl) (by decide) (by intro c a d v w h; cases d <;> exact h) ?_
      change wpPlanM _ _ _ _ _ _ v14.drew
      have hb : Below v14.heap.size v14 v14.drew := (Below.refl _ _).drew
      generalize hgd : v14.drew = v15 at hb ⊢
      clear hgd T
      replace E : Hid (Below w.heap.size w v15) := E.out.trans (hb.mono E.out.size)
      have T := Lib.hid (hT.out.on E.out)
      replace Mp := Lib.hid (Mp.out.keep hb)
      replace Xp := Lib.hid (Xp.out.below hb Xp.out.lt)
      replace Xs := Lib.hid (Xs.out.below hb Xs.out.lt)
      clear hb
      have q1 : ∀ x : ExtOf v15, x.world.cell? ⟨w.heap.size + 1 + 1, 0, none⟩ = some (.int .u16 s0) := fun x => (Blk.below Xs.out x.ext Xs.out.lt).cell (j := 0) rfl
      iterate 8 (refine wpPlanM_plain rfl (fun K hK => ?_); go_simp; refine hK _ ?_; clear hK K)
      refine wpPlanM_nil ?_
      clear q1
      go_upto_region 24 with fail
      refine wp_region_planM [] [(true, 0), (true, 1), (true, 2), (true, 3), (true, 4), (true, 5), (true, 6), (true, 7), (true, 8), (true, 9)] (by decide) (by kernel_rfl) (by kernel_rfl) (by decide) (by intro c a d v w h; cases d <;> exact h) ?_
      change wpPlanM _ _ _ _ _ _ v15.drew
      have hb : Below v15.heap.size v15 v15.drew := (Below.refl _ _).drew
      generalize hgd : v15.drew = v16 at hb ⊢
      clear hgd T
      replace E : Hid (Below w.heap.size w v16) := E.out.trans (hb.mono E.out.size)
      have T := Lib.hid (hT.out.on E.out)
      replace Mp := Lib.hid (Mp.out.keep hb)
      replace Xp := Lib.hid (Xp.out.below hb Xp.out.lt)
      replace Xs := Lib.hid (Xs.out.below hb Xs.out.lt)
      clear hb
      have q1 : ∀ x : ExtOf v16, x.world.cell? ⟨w.heap.size + 1 + 1, 1, none⟩ = some (.int .u16 s1) := fun x => (Blk.below Xs.out x.ext Xs.out.lt).cell (j := 1) rfl
      iterate 10 (refine wpPlanM_plain rfl (fun K hK => ?_); go_simp; refine hK _ ?_; clear hK K)
      refine wpPlanM_nil ?_
      clear q1
      clear k1 k3 hor hw3 hw4 eM fM hP1 hP2 v1n v0n v2n
      go_wp2_with (first | (refine wpList_blk_load rfl 27 _ rfl 0 rfl Xp.out [_, _, _, _, _] rfl _ hun.out rfl hsz.out ?_) | fail)
      obtain ⟨ba, hba⟩ : ∃ b : Bool, b = true ↔ LosP p a := by
        by_cases h : LosP p a
        · exact ⟨true, fun _ => h, fun _ => rfl⟩
        · exact ⟨false, fun hh => (by cases hh), fun hh => absurd hh h⟩
      obtain ⟨bb, hbb⟩ : ∃ b : Bool, b = true ↔ LosP p b2 := by
        by_cases h : LosP p b2
        · exact ⟨true, fun _ => h, fun _ => rfl⟩
        · exact ⟨false, fun hh => (by cases hh), fun hh => absurd hh h⟩
      have hbaH := Lib.hid hba
      have hbbH := Lib.hid hbb
      clear hba hbb
      have C := CO.out v16 a ba haH.out hbaH.out Mp.out T.out
      rw [prv_eq12] at C
      refine C.mono ?_
      rintro e v17 ⟨rfl, hb⟩
      clear C T
      replace E : Hid (Below w.heap.size w v17) := E.out.trans (hb.mono E.out.size)
      have T := Lib.hid (hT.out.on E.out)
      replace Mp := Lib.hid (Mp.out.keep hb)
      replace Xp := Lib.hid (Xp.out.below hb Xp.out.lt)
      replace Xs := Lib.hid (Xs.out.below hb Xs.out.lt)
      clear hb
      go_wp2_with (first | (refine wpList_blk_load rfl 27 _ rfl 0 rfl Xp.out [_, _, _, _, _] rfl _ hun.out rfl hsz.out ?_) | fail)
      have C := CO.out v17 b2 bb hbH.out hbbH.out Mp.out T.out
      rw [prv_eq12] at C
      refine C.mono ?_
      rintro e v18 ⟨rfl, hb⟩
      clear C T
      replace E : Hid (Below w.heap.size w v18) := E.out.trans (hb.mono E.out.size)
      have T := Lib.hid (hT.out.on E.out)
      replace Mp := Lib.hid (Mp.out.keep hb)
      replace Xp := Lib.hid (Xp.out.below hb Xp.out.lt)
      replace Xs := Lib.hid (Xs.out.below hb Xs.out.lt)
      clear hb
      go_wp2_with fail
      have C := sanity_any12 v18 T.out
      refine C.mono ?_
      rintro e v19 ⟨rfl, hb⟩
      clear C T
      replace E : Hid (Below w.heap.size w v19) := E.out.trans (hb.mono E.out.size)
      have T := Lib.hid (hT.out.on E.out)
      replace Mp := Lib.hid (Mp.out.keep hb)
      replace Xp := Lib.hid (Xp.out.below hb Xp.out.lt)
      replace Xs := Lib.hid (Xs.out.below hb Xs.out.lt)
      clear hb
      cases ba with
      | false =>
        go_wp2_with fail
        go_ret
        exact ⟨by first | rfl | (go_simp; done), E.out⟩
      | true =>
        obtain rfl : bb = true := hbbH.out.2 (hup.out (hbaH.out.1 rfl))
        go_wp2_with fail
        go_ret
        exact ⟨by first | rfl | (go_simp; done), E.out⟩
    · have t0 : (p.n2 : Int) > 0 := by omega
      obtain ⟨gC, cC2, LC, hvC, hgC, hLC, hLCn, hLCt⟩ := own_open12 OC.out (by omega)
      have hAC : AC = some ⟨gC, 0, none⟩ := by injection hvC
      subst hAC
      obtain ⟨h7, h8⟩ := hCAg.out gC rfl
      have h7H := Lib.hid h7
      have h8H := Lib.hid h8
      have LCb := Lib.hid hLC
      have hLCtH := Lib.hid hLCt
      obtain ⟨d, hde, hdl, hrem, hnz, tz⟩ := rem12 a0 p.n2 (by omega)
      have hdLC : Hid (d < LC.length) := by show d < _; omega
      have hdH : Hid (d < p.ch.length) := by show d < _; rw [← hn2.out]; exact hdl
      obtain ⟨cI, hc⟩ : ∃ c, p.ch[d]? = some c := ⟨_, List.getElem?_eq_getElem hdH.out⟩
      have hcr := OK.out.ch cI (List.mem_of_getElem? hc)
      obtain ⟨c, rfl⟩ : ∃ c : Nat, cI = c := ⟨cI.toNat, by omega⟩
      have hcH := Lib.hid hc
      have hdc : LC[d]? = some (.int .i64 c) := by
        have h : (LC.take p.n2)[d]? = some (iv c) := by rw [hLCtH.out, List.getElem?_map, hc]; rfl
        rw [List.getElem?_take_of_lt hdl] at h
        exact h
      obtain ⟨e, he⟩ : ∃ e, e = 17 - c := ⟨_, rfl⟩
      have ee : (17 : Int) - (c : Int) = (e : Int) := by omega
      have fe : IntKind.i64.wrap (e : Int) = (e : Int) := wrap12r (by omega) (by omega)
      obtain ⟨r, hre, hrl, hrem2, hez, tez⟩ := rem12 a1 e (by omega)
      obtain ⟨c', hc'⟩ : ∃ c', c' = c + r := ⟨_, rfl⟩
      have ec : (c : Int) + (r : Int) = (c' : Int) := by omega
      have fc : IntKind.i64.wrap (c' : Int) = (c' : Int) := wrap12r (by omega) (by omega)
      have hWC : Hid (WorseC p (p.ch.set d (c' : Int))) := WorseC.put OK.out hc (by omega) (by omega)
      have hw0 := wrap_u8_12 ha0
      have hw1 := wrap_u8_12 ha1
      have td : (d : Int) < (p.n2 : Int) := by omega
      have td0 : 0 ≤ (d : Int) := by omega
      have hez2 : ¬ e = 0 := by omega
      have hremH := Lib.hid hrem
      have hrem2H := Lib.hid hrem2
      have pa0 := Xa.out.cell (j := 0) rfl
      clear hde hrem hre hrem2 hc he hc' hvC hgC hLC hLCt h7 h8 hcr hn0 hLCn
      go_upto_region 17 with fail
      rw [hremH.out]
      clear pa0
      refine wp_region_planM [20] [(true, 0), (true, 1), (true, 2), (true, 3), (true, 4), (true, 5), (true, 6), (true, 7), (true, 8), (true, 9), (true, 10), (true, 11), (true, 12), (true, 13), (true, 14), (true, 15), (true, 16), (true, 17), (true, 18), (true, 19), (false, 20)] (by decide) (by kernel_rfl) (by kernel_rfl) (by decide) (by intro c a d v w h; cases d <;> exact h) ?_
      change wpPlanM _ _ _ _ _ _ v10.drew
      have hb : Below v10.heap.size v10 v10.drew := (Below.refl _ _).drew
      generalize hgd : v10.drew = v20 at hb ⊢
      clear hgd
      replace Xp := Lib.hid (Xp.out.below hb Xp.out.lt)
      replace Xa := Lib.hid (Xa.out.below hb Xa.out.lt)
      replace Xs := Lib.hid (Xs.out.below hb Xs.out.lt)
      replace XW := Lib.hid (XW.out.below hb XW.out.lt)
      replace LAb := Lib.hid (LAb.out.below hb LAb.out.lt)
      replace LCb := Lib.hid (LCb.out.below hb LCb.out.lt)
      replace Mp := Lib.hid (Mp.out.keep hb)
      replace E : Hid (Below w.heap.size w v20) := E.out.trans (hb.mono E.out.size)
      clear hb
      have q1 : ∀ x : ExtOf v20, x.world.cell? ⟨gw, 4, none⟩ = some (.slice (some ⟨gC, 0, none⟩) p.n2 cC) := fun x => (Blk.below XW.out x.ext XW.out.lt).cell (j := 4) rfl
      have q2 : ∀ x : ExtOf v20, x.world.cell? ⟨gC, d, none⟩ = some (.int .i64 c) := fun x => (Blk.below LCb.out x.ext LCb.out.lt).cell (j := d) hdc
      have q3 : ∀ x : ExtOf v20, x.world.cell? ⟨w.heap.size + 1, 1, none⟩ = some (.int .u8 a1) := fun x => (Blk.below Xa.out x.ext Xa.out.lt).cell (j := 1) rfl
      have hrem3 : Int.tmod (a1 : Int) (e : Int) = (r : Int) := by rw [Int.tmod_eq_emod_of_nonneg (Int.natCast_nonneg _)]; exact hrem2H.out
      iterate 20 (refine wpPlanM_plain rfl (fun K hK => ?_); go_simp; refine hK _ ?_; clear hK K)
      clear q1 q2 q3 hdc hrem3
      refine wpPlanM_call rfl (fun K hK => ?_)
      refine wpList_blk_store rfl 3 _ _ rfl d (.int .i64 c') rfl rfl LCb.out hii.out (by have := hdLC.out; show d + 1 ≤ _; omega) (one_int _ _) ?_
      intro v21 hw9 ho9
      refine wpList_end (planPostL_normal ⟨.inl (by simp), hK _ _ ?_⟩)
      clear hK K
      have hLC9 : Blk v21 gC (LC.set d (iv c')) 3 := by
        have h := hw9.out
        rw [show (Value.int .i64 c').cells.toList = [iv c'] from rfl, splice_set _ _ _ hdLC.out] at h
        exact h
      have h7 := h7H.out
      have h8 := h8H.out
      have l1 := lx0.out
      have l2 := la0.out
      have l3 := ls0.out
      have hRC : Hid (RdsP (fun b => b ≠ gA) v21 (some ⟨gC, 0, none⟩) ((p.ch.set d (c' : Int)).map iv)) := fun hn => by
        have h := hLC9.rds 0 p.n2
        rw [List.drop_zero, take_set12 hLCtH.out] at h
        obtain ⟨ad, e1, e2, e3⟩ := h hn
        cases e1
        exact ⟨_, rfl, (Nat.ne_of_lt h7H.out : gC ≠ gA), e2, e3⟩
      replace Xp := Lib.hid (Xp.out.only ho9 (by omega))
      replace Xa := Lib.hid (Xa.out.only ho9 (by omega))
      replace Xs := Lib.hid (Xs.out.only ho9 (by omega))
      replace XW := Lib.hid (XW.out.only ho9 (by omega))
      replace LAb := Lib.hid (LAb.out.only ho9 (by omega))
      replace Mp := Lib.hid (Mp.out.below (ho9.below (by omega)))
      replace E : Hid (Below w.heap.size w v21) := E.out.trans (ho9.below (by omega))
      clear hw9 ho9 hLC9 h7 h8 l1 l2 l3
      refine wpPlanM_nil ?_
      clear ee fe ec fc hw0 hw1 hez tez hez2 hrl td td0 hnz tz OC
      obtain ⟨k, hke, hkl, hrem, hnz, tz⟩ := rem12 a2 p.n1 (by omega)
      have hremH := Lib.hid hrem
      have hw2 := wrap_u8_12 ha2
      have tk : (k : Int) < (p.n1 : Int) := by omega
      have tk0 : 0 ≤ (k : Int) := by omega
      have hkLA : Hid (k < LA.length) := by show k < _; have := hLAnH.out; omega
      clear hke hrem
      go_upto_region 18 with fail
      refine wp_region_planM [10] [(true, 0), (true, 1), (true, 2), (true, 3), (true, 4), (true, 5), (true, 6), (true, 7), (true, 8), (true, 9), (false, 10)] (by decide) (by kernel_rfl) (by kernel_rfl) (by decide) (by intro c a d v w h; cases d <;> exact h) ?_
      change wpPlanM _ _ _ _ _ _ (World.drew _)
      have hb : Below v21.heap.size v21 v21.drew := (Below.refl _ _).drew
      generalize hgd : v21.drew = v22 at hb ⊢
      clear hgd
      replace Xp := Lib.hid (Xp.out.below hb Xp.out.lt)
      replace Xa := Lib.hid (Xa.out.below hb Xa.out.lt)
      replace Xs := Lib.hid (Xs.out.below hb Xs.out.lt)
      replace XW := Lib.hid (XW.out.below hb XW.out.lt)
      replace LAb := Lib.hid (LAb.out.below hb LAb.out.lt)
      replace Mp := Lib.hid (Mp.out.keep hb)
      replace hRC := Lib.hid (hRC.out.keep hb)
      replace E : Hid (Below w.heap.size w v22) := E.out.trans (hb.mono E.out.size)
      clear hb
      have q1 : ∀ x : ExtOf v22, x.world.cell? ⟨gw, 3, none⟩ = some (.slice (some ⟨gA, 0, none⟩) p.n1 cA) := fun x => (Blk.below XW.out x.ext XW.out.lt).cell (j := 3) rfl
      have q3 : ∀ x : ExtOf v22, x.world.cell? ⟨w.heap.size + 1, 2, none⟩ = some (.int .u8 a2) := fun x => (Blk.below Xa.out x.ext Xa.out.lt).cell (j := 2) rfl
      have hrem3 : Int.tmod (a2 : Int) (p.n1 : Int) = (k : Int) := by rw [Int.tmod_eq_emod_of_nonneg (Int.natCast_nonneg _)]; exact hremH.out
      have hn1z : ¬ p.n1 = 0 := by omega
      iterate 10 (refine wpPlanM_plain rfl (fun K hK => ?_); go_simp; refine hK _ ?_; clear hK K)
      clear q1 q3 hrem3
      refine wpPlanM_call rfl (fun K hK => ?_)
      refine wpList_blk_store rfl 3 _ _ rfl k (.int .i64 (-1)) rfl rfl LAb.out hii.out (by have := hkLA.out; show k + 1 ≤ _; omega) (one_int _ _) ?_
      intro v23 hw9 ho9
      refine wpList_end (planPostL_normal ⟨.inl (by simp), hK _ _ ?_⟩)
      clear hK K
      have hLA9 : Blk v23 gA (LA.set k (iv (-1))) 3 := by
        have h := hw9.out
        rw [show (Value.int .i64 (-1)).cells.toList = [iv (-1)] from rfl, splice_set _ _ _ hkLA.out] at h
        exact h
      have l0 := hgwA2.out
      have l1 := lx0.out
      have l2 := la0.out
      have l3 := ls0.out
      replace Xp := Lib.hid (Xp.out.only ho9 (by omega))
      replace Xa := Lib.hid (Xa.out.only ho9 (by omega))
      replace Xs := Lib.hid (Xs.out.only ho9 (by omega))
      replace XW := Lib.hid (XW.out.only ho9 (by omega))
      replace Mp := Lib.hid (Mp.out.below (ho9.below (by omega)))
      replace hRC := Lib.hid (hRC.out.only ho9 (fun b hb => hb))
      replace E : Hid (Below w.heap.size w v23) := E.out.trans (ho9.below (by omega))
      obtain ⟨q, hq⟩ : ∃ q : Prl, q = ⟨p.D, p.A, p.n, p.c, p.G, p.Gs, some ⟨gA, 0, none⟩, p.n1, cA, p.al.set k (-1), (some ⟨gC, 0, none⟩), p.n2, cC, (p.ch.set d (c' : Int))⟩ := ⟨_, rfl⟩
      have Vq : Hid (prv q = .agg #[.int .i64 p.D, .slice p.A p.n p.c, .int .i64 p.G, .slice (some ⟨gA, 0, none⟩) p.n1 cA, .slice (some ⟨gC, 0, none⟩) p.n2 cC]) := by show prv q = _; rw [hq]; rfl
      have hqal : Hid (q.al = p.al.set k (-1)) := by show q.al = _; rw [hq]
      have hqch : Hid (q.ch = (p.ch.set d (c' : Int))) := by show q.ch = _; rw [hq]
      have hq3 : Hid (q.D = p.D ∧ q.G = p.G ∧ q.Gs = p.Gs) := by show _ ∧ _; rw [hq]; exact ⟨rfl, rfl, rfl⟩
      have MQ : Hid (PerM v23 v23.heap.size q) := by
        have h := hLA9.rds 0 p.n1
        rw [List.drop_zero, take_setm12 hLAtH.out] at h
        have c' := Mp.out.more Mp.out.le (Nat.le_refl _)
        show PerM _ _ q
        rw [hq]
        exact ⟨c'.cod, h, by rw [List.length_set]; exact hn1.out, c'.s1, hRC.out.rds, by rw [hWC.out.1]; exact hn2.out, c'.s2⟩
      clear hw9 ho9 hLA9 l0 l1 l2 l3 hq LAb
      refine wpPlanM_nil ?_
      obtain ⟨OKq, hle⟩ := WorseC.le (q := q) (by rw [hqch.out]; exact hWC.out) OK.out hq3.out.1 hq3.out.2.1 hq3.out.2.2 hqal.out
      have hq9 : q.ch.length ≤ 9 := by rw [hqch.out, hWC.out.1]; exact h9H.out
      obtain ⟨l', hl1, hl2, hl3⟩ := lsum_nat OKq hq9
      have htq : 16 ^ q.ch.length = t := by rw [hqch.out, hWC.out.1, hteH.out]
      rw [htq] at hl2
      rw [hl1, hlH.out] at hle
      obtain ⟨m', hm'⟩ : ∃ m', m' = milN l' t := ⟨_, rfl⟩
      have hmm : m ≤ m' := by rw [hmH.out, hm']; exact mil_mono htpH.out (by omega) hl2
      have y1 : ¬ (l' : Int) < (l : Int) := by omega
      have y2 : ¬ (m' : Int) < (m : Int) := by omega
      have hzq := chkP_ok.2 OKq
      have CLQ : Hid (∀ W B, PerM W B q → PTab 2 W → Calls Tryd.prog 14 #[prv q] W fun e w' => e = .returned (.tuple #[.int .i64 (l' : Int), .int .i64 0]) ∧ Below W.heap.size W w') := fun W B m t => by
        have := rLoss_any q W m t
        rw [hzq, if_pos rfl, hl1] at this
        exact this
      have CMQ : Hid (∀ W B, PerM W B q → PTab 2 W → Calls Tryd.prog 17 #[prv q] W fun e w' => e = .returned (.tuple #[.int .i64 (m' : Int), .int .i64 0]) ∧ Below W.heap.size W w') := fun W B m t => by
        have := rMil_any q W m t hq9
        rw [hzq, if_pos rfl, hl1, htq, Int.toNat_natCast, ← hm'] at this
        exact this
      clear hl1 hl2 hl3 hle hm' hmm OKq hzq htq hWC hRC hqal hqch hq3 hlH hmH hteH hq9
      have T := Lib.hid (hT.out.on E.out)
      go_wp2_with (first | (refine wpList_blk_load rfl 27 _ rfl 0 rfl Xp.out [_, _, _, _, _] rfl _ hun.out rfl hsz.out ?_) | (refine wpList_blk_load rfl 27 _ rfl 0 rfl XW.out [_, _, _, _, _] rfl _ hun.out rfl hsz.out ?_) | fail)
      have C := CLQ.out v23 _ MQ.out T.out
      rw [Vq.out] at C
      refine C.mono ?_
      rintro e v24 ⟨rfl, hb⟩
      clear C T
      replace E : Hid (Below w.heap.size w v24) := E.out.trans (hb.mono E.out.size)
      have T := Lib.hid (hT.out.on E.out)
      replace Mp := Lib.hid (Mp.out.keep hb)
      replace MQ := Lib.hid (MQ.out.keep hb)
      replace Xp := Lib.hid (Xp.out.below hb Xp.out.lt)
      replace Xs := Lib.hid (Xs.out.below hb Xs.out.lt)
      replace XW := Lib.hid (XW.out.below hb XW.out.lt)
      clear hb
      go_wp2_with (first | (refine wpList_blk_load rfl 27 _ rfl 0 rfl Xp.out [_, _, _, _, _] rfl _ hun.out rfl hsz.out ?_) | (refine wpList_blk_load rfl 27 _ rfl 0 rfl XW.out [_, _, _, _, _] rfl _ hun.out rfl hsz.out ?_) | fail)
      have C := CMQ.out v24 _ MQ.out T.out
      rw [Vq.out] at C
      refine C.mono ?_
      rintro e v25 ⟨rfl, hb⟩
      clear C T
      replace E : Hid (Below w.heap.size w v25) := E.out.trans (hb.mono E.out.size)
      have T := Lib.hid (hT.out.on E.out)
      replace Mp := Lib.hid (Mp.out.keep hb)
      replace MQ := Lib.hid (MQ.out.keep hb)
      replace Xp := Lib.hid (Xp.out.below hb Xp.out.lt)
      replace Xs := Lib.hid (Xs.out.below hb Xs.out.lt)
      replace XW := Lib.hid (XW.out.below hb XW.out.lt)
      clear hb
      clear MQ XW CLQ CMQ Vq
      obtain ⟨P, M1, a, b1, b2, hP1, hP2, eM, fM, k1, k3, hor, k2, hab, hsub⟩ := sets_facts12 hs0 hs1 hn9
      have v1n : ¬ (p.n2 : Int) < 0 := by omega
      have v0n : 0 ≤ (p.n2 : Int) := by omega
      have v2n : min p.n2 64 = p.n2 := by omega
      have hw3 := wrap_u16_12 hs0
      have hw4 := wrap_u16_12 hs1
      rw [hn2.out] at k2 hab
      have haH := Lib.hid k2
      have hbH := Lib.hid hab
      have hup : Hid (LosP p a → LosP p b2) := los_up OK.out hsub
      clear k2 hab hsub
      go_upto_region 23 with fail
      clear y1 y2
      refine wp_region_planM [] [(true, 0), (true, 1), (true, 2), (true, 3), (true, 4), (true, 5), (true, 6), (true, 7)] (by decide) (by kernel_rfl) (by kernel_rfl) (by decide) (by intro c a d v w h; cases d <;> exact h) ?_
      change wpPlanM _ _ _ _ _ _ v25.drew
      have hb : Below v25.heap.size v25 v25.drew := (Below.refl _ _).drew
      generalize hgd : v25.drew = v26 at hb ⊢
      clear hgd T
      replace E : Hid (Below w.heap.size w v26) := E.out.trans (hb.mono E.out.size)
      have T := Lib.hid (hT.out.on E.out)
      replace Mp := Lib.hid (Mp.out.keep hb)
      replace Xp := Lib.hid (Xp.out.below hb Xp.out.lt)
      replace Xs := Lib.hid (Xs.out.below hb Xs.out.lt)
      clear hb
      have q1 : ∀ x : ExtOf v26, x.world.cell? ⟨w.heap.size + 1 + 1, 0, none⟩ = some (.int .u16 s0) := fun x => (Blk.below Xs.out x.ext Xs.out.lt).cell (j := 0) rfl
      iterate 8 (refine wpPlanM_plain rfl (fun K hK => ?_); go_simp; refine hK _ ?_; clear hK K)
      refine wpPlanM_nil ?_
      clear q1
      go_upto_region 24 with fail
      refine wp_region_planM [] [(true, 0), (true, 1), (true, 2), (true, 3), (true, 4), (true, 5), (true, 6), (true, 7), (true, 8), (true, 9)] (by decide) (by kernel_rfl) (by kernel_rfl) (by decide) (by intro c a d v w h; cases d <;> exact h) ?_
      change wpPlanM _ _ _ _ _ _ v26.drew
      have hb : Below v26.heap.size v26 v26.drew := (Below.refl _ _).drew
      generalize hgd : v26.drew = v27 at hb ⊢
      clear hgd T
      replace E : Hid (Below w.heap.size w v27) := E.out.trans (hb.mono E.out.size)
      have T := Lib.hid (hT.out.on E.out)
      replace Mp := Lib.hid (Mp.out.keep hb)
      replace Xp := Lib.hid (Xp.out.below hb Xp.out.lt)
      replace Xs := Lib.hid (Xs.out.below hb Xs.out.lt)
      clear hb
      have q1 : ∀ x : ExtOf v27, x.world.cell? ⟨w.heap.size + 1 + 1, 1, none⟩ = some (.int .u16 s1) := fun x => (Blk.below Xs.out x.ext Xs.out.lt).cell (j := 1) rfl
      iterate 10 (refine wpPlanM_plain rfl (fun K hK => ?_); go_simp; refine hK _ ?_; clear hK K)
      refine wpPlanM_nil ?_
      clear q1
      clear k1 k3 hor hw3 hw4 eM fM hP1 hP2 v1n v0n v2n
      go_wp2_with (first | (refine wpList_blk_load rfl 27 _ rfl 0 rfl Xp.out [_, _, _, _, _] rfl _ hun.out rfl hsz.out ?_) | fail)
      obtain ⟨ba, hba⟩ : ∃ b : Bool, b = true ↔ LosP p a := by
        by_cases h : LosP p a
        · exact ⟨true, fun _ => h, fun _ => rfl⟩
        · exact ⟨false, fun hh => (by cases hh), fun hh => absurd hh h⟩
      obtain ⟨bb, hbb⟩ : ∃ b : Bool, b = true ↔ LosP p b2 := by
        by_cases h : LosP p b2
        · exact ⟨true, fun _ => h, fun _ => rfl⟩
        · exact ⟨false, fun hh => (by cases hh), fun hh => absurd hh h⟩
      have hbaH := Lib.hid hba
      have hbbH := Lib.hid hbb
      clear hba hbb
      have C := CO.out v27 a ba haH.out hbaH.out Mp.out T.out
      rw [prv_eq12] at C
      refine C.mono ?_
      rintro e v28 ⟨rfl, hb⟩
      clear C T
      replace E : Hid (Below w.heap.size w v28) := E.out.trans (hb.mono E.out.size)
      have T := Lib.hid (hT.out.on E.out)
      replace Mp := Lib.hid (Mp.out.keep hb)
      replace Xp := Lib.hid (Xp.out.below hb Xp.out.lt)
      replace Xs := Lib.hid (Xs.out.below hb Xs.out.lt)
      clear hb
      go_wp2_with (first | (refine wpList_blk_load rfl 27 _ rfl 0 rfl Xp.out [_, _, _, _, _] rfl _ hun.out rfl hsz.out ?_) | fail)
      have C := CO.out v28 b2 bb hbH.out hbbH.out Mp.out T.out
      rw [prv_eq12] at C
      refine C.mono ?_
      rintro e v29 ⟨rfl, hb⟩
      clear C T
      replace E : Hid (Below w.heap.size w v29) := E.out.trans (hb.mono E.out.size)
      have T := Lib.hid (hT.out.on E.out)
      replace Mp := Lib.hid (Mp.out.keep hb)
      replace Xp := Lib.hid (Xp.out.below hb Xp.out.lt)
      replace Xs := Lib.hid (Xs.out.below hb Xs.out.lt)
      clear hb
      go_wp2_with fail
      have C := sanity_any12 v29 T.out
      refine C.mono ?_
      rintro e v30 ⟨rfl, hb⟩
      clear C T
      replace E : Hid (Below w.heap.size w v30) := E.out.trans (hb.mono E.out.size)
      have T := Lib.hid (hT.out.on E.out)
      replace Mp := Lib.hid (Mp.out.keep hb)
      replace Xp := Lib.hid (Xp.out.below hb Xp.out.lt)
      replace Xs := Lib.hid (Xs.out.below hb Xs.out.lt)
      clear hb
      cases ba with
      | false =>
        go_wp2_with fail
        go_ret
        exact ⟨by first | rfl | (go_simp; done), E.out⟩
      | true =>
        obtain rfl : bb = true := hbbH.out.2 (hup.out (hbaH.out.1 rfl))
        go_wp2_with fail
        go_ret
        exact ⟨by first | rfl | (go_simp; done), E.out⟩
end Go.Proofs.YtgajlgnniidgmaaDoor
