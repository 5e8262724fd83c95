/-
  Stage 12: the walk of RiskMatchesSpec. (Written by tools/genyo.py.)
-/
import Derived.Test.YtgajlgnniidgmaaDoorYm
import Derived.Test.YtgajlgnniidgmaaDoorYn
import Derived.Test.YtgajlgnniidgmaaDoorYd
namespace Go.Proofs.YtgajlgnniidgmaaDoor
set_option linter.unusedVariables false
set_option linter.unusedSimpArgs false
open Go.RowKit Go.Maps

set_option maxRecDepth 100000 in
set_option maxHeartbeats 3000000 in
theorem spec_walk12 (p q : Prl) (s : Int) (w : World) (hMp : PerM w w.heap.size p) (hkp : CapP p) (hMq : PerM w w.heap.size q) (hkq : CapP q) (hs : -9223372036854775808 ≤ s ∧ s ≤ 9223372036854775807) (ht : PTab 2 w) :
    Calls Tryd.prog 3 #[prv p, prv q, .int .i64 s] w fun e w' => e = .returned (.bool true) ∧ Below w.heap.size w w' := by
  have hn2 : Hid (p.n2 = p.ch.length) := hMp.n2
  have huc : Hid (Tryd.prog.underlying 38 = _) := Tryd.underlying38
  clear hkp hkq hs
  have hsz := Lib.hid size_prl
  have hun : Hid (Tryd.prog.underlying 27 = _) := Tryd.underlying27
  have hii := Lib.hid size_int12
  have hT := Lib.hid ht
  obtain ⟨W1, hW1⟩ : ∃ x, x = w.alloc (.cells #[.int .i64 p.D, .slice p.A p.n p.c, .int .i64 p.G, .slice p.A1 p.n1 p.c1, .slice p.A2 p.n2 p.c2] 27) := ⟨_, rfl⟩
  have sW1 : Hid (W1.heap.size = w.heap.size + 1) := by show _ = _; rw [hW1]; simp
  have bW1 : Hid (Below w.heap.size w W1) := by show Below _ _ _; rw [hW1]; exact (Below.refl _ _).alloc (Nat.le_refl _) _
  have Xp : Hid (Blk W1 (w.heap.size) [.int .i64 p.D, .slice p.A p.n p.c, .int .i64 p.G, .slice p.A1 p.n1 p.c1, .slice p.A2 p.n2 p.c2] 27) := by show Blk _ _ _ _; rw [hW1]; exact Blk.new _ [_, _, _, _, _] _
  have E : Hid (Below w.heap.size w W1) := bW1.out
  obtain ⟨W2, hW2⟩ : ∃ x, x = W1.alloc (.cells #[.int .i64 q.D, .slice q.A q.n q.c, .int .i64 q.G, .slice q.A1 q.n1 q.c1, .slice q.A2 q.n2 q.c2] 27) := ⟨_, rfl⟩
  have sW2 : Hid (W2.heap.size = w.heap.size + 1 + 1) := by show _ = _; rw [hW2]; simp [sW1.out]
  have bW2 : Hid (Below W1.heap.size W1 W2) := by show Below _ _ _; rw [hW2]; exact (Below.refl _ _).alloc (Nat.le_refl _) _
  have Xq : Hid (Blk W2 (w.heap.size + 1) [.int .i64 q.D, .slice q.A q.n q.c, .int .i64 q.G, .slice q.A1 q.n1 q.c1, .slice q.A2 q.n2 q.c2] 27) := by show Blk _ _ _ _; rw [hW2, ← sW1.out]; exact Blk.new _ [_, _, _, _, _] _
  replace Xp := Lib.hid (Xp.out.below bW2.out Xp.out.lt)
  replace E : Hid (Below w.heap.size w W2) := E.out.trans (bW2.out.mono E.out.size)
  have Mp := Lib.hid (hMp.keep E.out)
  have Mq := Lib.hid (hMq.keep E.out)
  have T := Lib.hid (hT.out.on E.out)
  have hWW : Hid (((w).alloc (.cells #[.int .i64 p.D, .slice p.A p.n p.c, .int .i64 p.G, .slice p.A1 p.n1 p.c1, .slice p.A2 p.n2 p.c2] 27)).alloc (.cells #[.int .i64 q.D, .slice q.A q.n q.c, .int .i64 q.G, .slice q.A1 q.n1 q.c1, .slice q.A2 q.n2 q.c2] 27) = W2) := by show _ = _; rw [hW2, hW1]
  clear hW1 bW1 sW1 hW2 bW2 sW2 ht hMp hMq
  rw [prv_eq12]
  rw [prv_eq12]
  go_enter Tryd.func3, Tryd.ntmps3
  go_upto_region 1 with fail
  generalize hg : ((w).alloc _).alloc _ = Wg
  have hgW : W2 = Wg := by rw [← hg, hWW.out]
  clear hg hWW
  subst hgW
  go_wp2_with (first | (refine wpList_blk_load rfl 27 _ rfl 0 rfl Xp.out [_, _, _, _, _] rfl _ hun.out rfl hsz.out ?_) | (refine wpList_blk_load rfl 27 _ rfl 0 rfl Xq.out [_, _, _, _, _] rfl _ hun.out rfl hsz.out ?_) | fail)
  have C := few12_any p 9 W2 Mp.out
  rw [prv_eq12] at C
  refine C.mono ?_
  rintro e v1 ⟨⟨b1, rfl, hbf⟩, hb⟩
  clear C T
  replace E : Hid (Below w.heap.size w v1) := E.out.trans (hb.mono E.out.size)
  have T := Lib.hid (hT.out.on E.out)
  replace Mp := Lib.hid (Mp.out.keep hb)
  replace Xp := Lib.hid (Xp.out.below hb Xp.out.lt)
  replace Mq := Lib.hid (Mq.out.keep hb)
  replace Xq := Lib.hid (Xq.out.below hb Xq.out.lt)
  clear hb
  have hb1H := Lib.hid hbf
  clear hbf
  go_wp2_with (first | (refine wpList_blk_load rfl 27 _ rfl 0 rfl Xp.out [_, _, _, _, _] rfl _ hun.out rfl hsz.out ?_) | (refine wpList_blk_load rfl 27 _ rfl 0 rfl Xq.out [_, _, _, _, _] rfl _ hun.out rfl hsz.out ?_) | fail)
  have C := few12_any q 9 v1 Mq.out
  rw [prv_eq12] at C
  refine C.mono ?_
  rintro e v2 ⟨⟨b2, rfl, hbf⟩, hb⟩
  clear C T
  replace E : Hid (Below w.heap.size w v2) := E.out.trans (hb.mono E.out.size)
  have T := Lib.hid (hT.out.on E.out)
  replace Mp := Lib.hid (Mp.out.keep hb)
  replace Xp := Lib.hid (Xp.out.below hb Xp.out.lt)
  replace Mq := Lib.hid (Mq.out.keep hb)
  replace Xq := Lib.hid (Xq.out.below hb Xq.out.lt)
  clear hb
  have hb2H := Lib.hid hbf
  clear hbf
  cases b1 with
  | false =>
    go_wp2_with fail
    have C := sanity_any12 v2 T.out
    refine C.mono ?_
    rintro e v3 ⟨rfl, hb⟩
    clear C T
    replace E : Hid (Below w.heap.size w v3) := E.out.trans (hb.mono E.out.size)
    have T := Lib.hid (hT.out.on E.out)
    replace Mp := Lib.hid (Mp.out.keep hb)
    replace Xp := Lib.hid (Xp.out.below hb Xp.out.lt)
    replace Mq := Lib.hid (Mq.out.keep hb)
    replace Xq := Lib.hid (Xq.out.below hb Xq.out.lt)
    clear hb
    go_wp2_with fail
    go_ret
    exact ⟨by first | rfl | (go_simp; done), E.out⟩
  | true =>
  cases b2 with
  | false =>
    go_wp2_with fail
    have C := sanity_any12 v2 T.out
    refine C.mono ?_
    rintro e v3 ⟨rfl, hb⟩
    clear C T
    replace E : Hid (Below w.heap.size w v3) := E.out.trans (hb.mono E.out.size)
    have T := Lib.hid (hT.out.on E.out)
    replace Mp := Lib.hid (Mp.out.keep hb)
    replace Xp := Lib.hid (Xp.out.below hb Xp.out.lt)
    replace Mq := Lib.hid (Mq.out.keep hb)
    replace Xq := Lib.hid (Xq.out.below hb Xq.out.lt)
    clear hb
    go_wp2_with fail
    go_ret
    exact ⟨by first | rfl | (go_simp; done), E.out⟩
  | true =>
    have hF := hb1H.out.1 rfl
    have hFq := hb2H.out.1 rfl
    have h9 : p.ch.length ≤ 9 := by have := hF.1; omega
    have h9H := Lib.hid h9
    have hsp := Lib.hid hF.sh
    have hsq := Lib.hid hFq.sh
    have hn9 : p.n2 ≤ 9 := by rw [hn2.out]; exact h9
    clear hF hFq hb1H hb2H h9
    obtain ⟨Z, hZ⟩ : ∃ x : Int, x = chkP p := ⟨_, rfl⟩
    obtain ⟨Tt, hTt⟩ : ∃ x : Int, x = (if Z = 0 then ((16 ^ p.ch.length : Nat) : Int) else 0) := ⟨_, rfl⟩
    obtain ⟨Ls, hLs⟩ : ∃ x : Int, x = (if Z = 0 then lsum p (2 ^ p.ch.length) else 0) := ⟨_, rfl⟩
    obtain ⟨Le, hLe⟩ : ∃ x : Int, x = (if Z = 0 then (lstV p : Int) else 0) := ⟨_, rfl⟩
    obtain ⟨Ce, hCe⟩ : ∃ x : Int, x = cmpE p q := ⟨_, rfl⟩
    obtain ⟨Cc, hCc⟩ : ∃ x : Int, x = (if Ce = 0 then cmpI (scl p) (scl q) else 0) := ⟨_, rfl⟩
    obtain ⟨Mm, hMm⟩ : ∃ x : Int, x = (if Z = 0 then ((milN (lsum p (2 ^ p.ch.length)).toNat (16 ^ p.ch.length) : Nat) : Int) else 0) := ⟨_, rfl⟩
    obtain ⟨Ge, hGe⟩ : ∃ x : Int, x = (if Z ≠ 0 then Z else if 0 ≤ s ∧ s < 2 ^ p.ch.length then 0 else 1) := ⟨_, rfl⟩
    have CRC : Hid (∀ W, PerM W w.heap.size p → PTab 2 W → Calls Tryd.prog 11 #[prv p] W fun e w' => e = .returned (.int .i64 Z) ∧ Below W.heap.size W w') := fun W m t => by
      rw [hZ]
      exact refCheck12_any p W m hsp.out
    have CKC : Hid (∀ W, PerM W w.heap.size p → PTab 2 W → Calls Tryd.prog 22 #[prv p] W fun e w' => e = .returned (.int .i64 Z) ∧ Below W.heap.size W w') := fun W m t => by
      rw [hZ]
      exact rcheck_any p W m
    have CTO : Hid (∀ W, PerM W w.heap.size p → PTab 2 W → Calls Tryd.prog 12 #[prv p] W fun e w' => e = .returned (.tuple #[.int .i64 Tt, .int .i64 Z]) ∧ Below W.heap.size W w') := fun W m t => by
      rw [hTt, hZ]
      exact rTotal_any p W m t
    have CLS : Hid (∀ W, PerM W w.heap.size p → PTab 2 W → Calls Tryd.prog 14 #[prv p] W fun e w' => e = .returned (.tuple #[.int .i64 Ls, .int .i64 Z]) ∧ Below W.heap.size W w') := fun W m t => by
      rw [hLs, hZ]
      exact rLoss_any p W m t
    have CLE : Hid (∀ W, PerM W w.heap.size p → PTab 2 W → Calls Tryd.prog 15 #[prv p] W fun e w' => e = .returned (.tuple #[.int .i64 Le, .int .i64 Z]) ∧ Below W.heap.size W w') := fun W m t => by
      rw [hLe, hZ]
      exact rLeast_any p W m t
    have CCO : Hid (∀ W, PerM W w.heap.size p → PerM W w.heap.size q → PTab 2 W → Calls Tryd.prog 16 #[prv p, prv q] W fun e w' => e = .returned (.tuple #[.int .i64 Cc, .int .i64 Ce]) ∧ Below W.heap.size W w') := fun W m m2 t => by
      rw [hCc, hCe]
      exact rCompare_any p q W m m2 t
    have CMI : Hid (∀ W, PerM W w.heap.size p → PTab 2 W → Calls Tryd.prog 17 #[prv p] W fun e w' => e = .returned (.tuple #[.int .i64 Mm, .int .i64 Z]) ∧ Below W.heap.size W w') := fun W m t => by
      rw [hMm, hZ]
      exact rMil_any p W m t h9H.out
    have RLS : Hid (∀ W, PerM W w.heap.size p → PTab 2 W → Calls Tryd.prog 18 #[prv p] W fun e w' => e = .returned (.agg #[.int .i64 Ls, .int .i64 Z]) ∧ Below W.heap.size W w') := fun W m t => by
      rw [hLs, hZ]
      exact refLoss12_any p W m hsp.out
    have RLE : Hid (∀ W, PerM W w.heap.size p → PTab 2 W → Calls Tryd.prog 19 #[prv p] W fun e w' => e = .returned (.agg #[.int .i64 Le, .int .i64 Z]) ∧ Below W.heap.size W w') := fun W m t => by
      rw [hLe, hZ]
      exact refLeast12_any p W m hsp.out
    have RCO : Hid (∀ W, PerM W w.heap.size p → PerM W w.heap.size q → PTab 2 W → Calls Tryd.prog 20 #[prv p, prv q] W fun e w' => e = .returned (.agg #[.int .i64 Cc, .int .i64 Ce]) ∧ Below W.heap.size W w') := fun W m m2 t => by
      rw [hCc, hCe]
      exact refCompare12_any p q W m m2 hsp.out hsq.out
    have RMI : Hid (∀ W, PerM W w.heap.size p → PTab 2 W → Calls Tryd.prog 21 #[prv p] W fun e w' => e = .returned (.agg #[.int .i64 Mm, .int .i64 Z]) ∧ Below W.heap.size W w') := fun W m t => by
      rw [hMm, hZ]
      exact refMil12_any p W m hsp.out h9H.out
    have CLO : Hid (∀ W, PerM W w.heap.size p → PTab 2 W → Calls Tryd.prog 13 #[prv p, .int .i64 s] W fun e w' => (∃ b, e = .returned (.tuple #[.bool b, .int .i64 Ge]) ∧ (b = true ↔ Z = 0 ∧ 0 ≤ s ∧ s < 2 ^ p.ch.length ∧ LosP p s.toNat)) ∧ Below W.heap.size W w') := fun W m t => by
      rw [hGe, hZ]
      exact rLost_any p s W m t
    have hZH := Lib.hid hZ
    have hTH := Lib.hid hTt
    have hGH := Lib.hid hGe
    clear hZ hTt hLs hLe hCe hCc hMm hGe
    go_wp2_with (first | (refine wpList_blk_load rfl 27 _ rfl 0 rfl Xp.out [_, _, _, _, _] rfl _ hun.out rfl hsz.out ?_) | (refine wpList_blk_load rfl 27 _ rfl 0 rfl Xq.out [_, _, _, _, _] rfl _ hun.out rfl hsz.out ?_) | fail)
    have C := CRC.out v2 Mp.out T.out
    rw [prv_eq12] at C
    refine C.mono ?_
    rintro e v3 ⟨rfl, hb⟩
    clear C T
    replace E : Hid (Below w.heap.size w v3) := E.out.trans (hb.mono E.out.size)
    have T := Lib.hid (hT.out.on E.out)
    replace Mp := Lib.hid (Mp.out.keep hb)
    replace Xp := Lib.hid (Xp.out.below hb Xp.out.lt)
    replace Mq := Lib.hid (Mq.out.keep hb)
    replace Xq := Lib.hid (Xq.out.below hb Xq.out.lt)
    clear hb
    go_wp2_with (first | (refine wpList_blk_load rfl 27 _ rfl 0 rfl Xp.out [_, _, _, _, _] rfl _ hun.out rfl hsz.out ?_) | (refine wpList_blk_load rfl 27 _ rfl 0 rfl Xq.out [_, _, _, _, _] rfl _ hun.out rfl hsz.out ?_) | fail)
    have C := CTO.out v3 Mp.out T.out
    rw [prv_eq12] at C
    refine C.mono ?_
    rintro e v4 ⟨rfl, hb⟩
    clear C T
    replace E : Hid (Below w.heap.size w v4) := E.out.trans (hb.mono E.out.size)
    have T := Lib.hid (hT.out.on E.out)
    replace Mp := Lib.hid (Mp.out.keep hb)
    replace Xp := Lib.hid (Xp.out.below hb Xp.out.lt)
    replace Mq := Lib.hid (Mq.out.keep hb)
    replace Xq := Lib.hid (Xq.out.below hb Xq.out.lt)
    clear hb
    go_wp2_with (first | (refine wpList_blk_load rfl 27 _ rfl 0 rfl Xp.out [_, _, _, _, _] rfl _ hun.out rfl hsz.out ?_) | (refine wpList_blk_load rfl 27 _ rfl 0 rfl Xq.out [_, _, _, _, _] rfl _ hun.out rfl hsz.out ?_) | fail)
    have C := CLO.out v4 Mp.out T.out
    rw [prv_eq12] at C
    refine C.mono ?_
    rintro e v5 ⟨⟨lo, rfl, hlo⟩, hb⟩
    clear C T
    replace E : Hid (Below w.heap.size w v5) := E.out.trans (hb.mono E.out.size)
    have T := Lib.hid (hT.out.on E.out)
    replace Mp := Lib.hid (Mp.out.keep hb)
    replace Xp := Lib.hid (Xp.out.below hb Xp.out.lt)
    replace Mq := Lib.hid (Mq.out.keep hb)
    replace Xq := Lib.hid (Xq.out.below hb Xq.out.lt)
    clear hb
    have hloH := Lib.hid hlo
    clear hlo
    go_wp2_with (first | (refine wpList_blk_load rfl 27 _ rfl 0 rfl Xp.out [_, _, _, _, _] rfl _ hun.out rfl hsz.out ?_) | (refine wpList_blk_load rfl 27 _ rfl 0 rfl Xq.out [_, _, _, _, _] rfl _ hun.out rfl hsz.out ?_) | fail)
    have C := CLS.out v5 Mp.out T.out
    rw [prv_eq12] at C
    refine C.mono ?_
    rintro e v6 ⟨rfl, hb⟩
    clear C T
    replace E : Hid (Below w.heap.size w v6) := E.out.trans (hb.mono E.out.size)
    have T := Lib.hid (hT.out.on E.out)
    replace Mp := Lib.hid (Mp.out.keep hb)
    replace Xp := Lib.hid (Xp.out.below hb Xp.out.lt)
    replace Mq := Lib.hid (Mq.out.keep hb)
    replace Xq := Lib.hid (Xq.out.below hb Xq.out.lt)
    clear hb
    go_wp2_with (first | (refine wpList_blk_load rfl 27 _ rfl 0 rfl Xp.out [_, _, _, _, _] rfl _ hun.out rfl hsz.out ?_) | (refine wpList_blk_load rfl 27 _ rfl 0 rfl Xq.out [_, _, _, _, _] rfl _ hun.out rfl hsz.out ?_) | fail)
    have C := CLE.out v6 Mp.out T.out
    rw [prv_eq12] at C
    refine C.mono ?_
    rintro e v7 ⟨rfl, hb⟩
    clear C T
    replace E : Hid (Below w.heap.size w v7) := E.out.trans (hb.mono E.out.size)
    have T := Lib.hid (hT.out.on E.out)
    replace Mp := Lib.hid (Mp.out.keep hb)
    replace Xp := Lib.hid (Xp.out.below hb Xp.out.lt)
    replace Mq := Lib.hid (Mq.out.keep hb)
    replace Xq := Lib.hid (Xq.out.below hb Xq.out.lt)
    clear hb
    go_wp2_with (first | (refine wpList_blk_load rfl 27 _ rfl 0 rfl Xp.out [_, _, _, _, _] rfl _ hun.out rfl hsz.out ?_) | (refine wpList_blk_load rfl 27 _ rfl 0 rfl Xq.out [_, _, _, _, _] rfl _ hun.out rfl hsz.out ?_) | fail)
    have C := CCO.out v7 Mp.out Mq.out T.out
    rw [prv_eq12] at C
    rw [prv_eq12] at C
    refine C.mono ?_
    rintro e v8 ⟨rfl, hb⟩
    clear C T
    replace E : Hid (Below w.heap.size w v8) := E.out.trans (hb.mono E.out.size)
    have T := Lib.hid (hT.out.on E.out)
    replace Mp := Lib.hid (Mp.out.keep hb)
    replace Xp := Lib.hid (Xp.out.below hb Xp.out.lt)
    replace Mq := Lib.hid (Mq.out.keep hb)
    replace Xq := Lib.hid (Xq.out.below hb Xq.out.lt)
    clear hb
    go_wp2_with (first | (refine wpList_blk_load rfl 27 _ rfl 0 rfl Xp.out [_, _, _, _, _] rfl _ hun.out rfl hsz.out ?_) | (refine wpList_blk_load rfl 27 _ rfl 0 rfl Xq.out [_, _, _, _, _] rfl _ hun.out rfl hsz.out ?_) | fail)
    have C := CMI.out v8 Mp.out T.out
    rw [prv_eq12] at C
    refine C.mono ?_
    rintro e v9 ⟨rfl, hb⟩
    clear C T
    replace E : Hid (Below w.heap.size w v9) := E.out.trans (hb.mono E.out.size)
    have T := Lib.hid (hT.out.on E.out)
    replace Mp := Lib.hid (Mp.out.keep hb)
    replace Xp := Lib.hid (Xp.out.below hb Xp.out.lt)
    replace Mq := Lib.hid (Mq.out.keep hb)
    replace Xq := Lib.hid (Xq.out.below hb Xq.out.lt)
    clear hb
    clear CRC CTO CLO CLS CLE CCO CMI
    go_wp2_with (first | (refine wpList_blk_load rfl 27 _ rfl 0 rfl Xp.out [_, _, _, _, _] rfl _ hun.out rfl hsz.out ?_) | (refine wpList_blk_load rfl 27 _ rfl 0 rfl Xq.out [_, _, _, _, _] rfl _ hun.out rfl hsz.out ?_) | fail)
    have C := RLS.out v9 Mp.out T.out
    rw [prv_eq12] at C
    refine C.mono ?_
    rintro e v10 ⟨rfl, hb⟩
    clear C T
    replace E : Hid (Below w.heap.size w v10) := E.out.trans (hb.mono E.out.size)
    have T := Lib.hid (hT.out.on E.out)
    replace Mp := Lib.hid (Mp.out.keep hb)
    replace Xp := Lib.hid (Xp.out.below hb Xp.out.lt)
    replace Mq := Lib.hid (Mq.out.keep hb)
    replace Xq := Lib.hid (Xq.out.below hb Xq.out.lt)
    clear hb
    have Bx : Hid (Blk (v10.alloc (.cells #[.int .i64 Ls, .int .i64 Z] 38)) v10.heap.size [.int .i64 Ls, .int .i64 Z] 38) := Blk.new _ [_, _] _
    have hb : Below v10.heap.size v10 (v10.alloc (.cells #[.int .i64 Ls, .int .i64 Z] 38)) := (Below.refl _ _).alloc (Nat.le_refl _) _
    clear T
    replace E : Hid (Below w.heap.size w (v10.alloc (.cells #[.int .i64 Ls, .int .i64 Z] 38))) := E.out.trans (hb.mono E.out.size)
    have T := Lib.hid (hT.out.on E.out)
    replace Mp := Lib.hid (Mp.out.keep hb)
    replace Xp := Lib.hid (Xp.out.below hb Xp.out.lt)
    replace Mq := Lib.hid (Mq.out.keep hb)
    replace Xq := Lib.hid (Xq.out.below hb Xq.out.lt)
    clear hb
    go_wp2_with (first | (refine wpList_blk_load rfl 27 _ rfl 0 rfl Xp.out [_, _, _, _, _] rfl _ hun.out rfl hsz.out ?_) | (refine wpList_blk_load rfl 27 _ rfl 0 rfl Xq.out [_, _, _, _, _] rfl _ hun.out rfl hsz.out ?_) | fail)
    generalize v10.alloc (.cells #[.int .i64 Ls, .int .i64 Z] 38) = v11 at *
    obtain ⟨gBx, hgBx⟩ : ∃ g, g = v10.heap.size := ⟨_, rfl⟩
    rw [← hgBx] at Bx ⊢
    clear hgBx
    have C := RLE.out v11 Mp.out T.out
    rw [prv_eq12] at C
    refine C.mono ?_
    rintro e v12 ⟨rfl, hb⟩
    clear C T
    replace E : Hid (Below w.heap.size w v12) := E.out.trans (hb.mono E.out.size)
    have T := Lib.hid (hT.out.on E.out)
    replace Mp := Lib.hid (Mp.out.keep hb)
    replace Xp := Lib.hid (Xp.out.below hb Xp.out.lt)
    replace Mq := Lib.hid (Mq.out.keep hb)
    replace Xq := Lib.hid (Xq.out.below hb Xq.out.lt)
    replace Bx := Lib.hid (Bx.out.below hb Bx.out.lt)
    clear hb
    have By : Hid (Blk (v12.alloc (.cells #[.int .i64 Le, .int .i64 Z] 38)) v12.heap.size [.int .i64 Le, .int .i64 Z] 38) := Blk.new _ [_, _] _
    have hb : Below v12.heap.size v12 (v12.alloc (.cells #[.int .i64 Le, .int .i64 Z] 38)) := (Below.refl _ _).alloc (Nat.le_refl _) _
    clear T
    replace E : Hid (Below w.heap.size w (v12.alloc (.cells #[.int .i64 Le, .int .i64 Z] 38))) := E.out.trans (hb.mono E.out.size)
    have T := Lib.hid (hT.out.on E.out)
    replace Mp := Lib.hid (Mp.out.keep hb)
    replace Xp := Lib.hid (Xp.out.below hb Xp.out.lt)
    replace Mq := Lib.hid (Mq.out.keep hb)
    replace Xq := Lib.hid (Xq.out.below hb Xq.out.lt)
    replace Bx := Lib.hid (Bx.out.below hb Bx.out.lt)
    clear hb
    go_wp2_with (first | (refine wpList_blk_load rfl 27 _ rfl 0 rfl Xp.out [_, _, _, _, _] rfl _ hun.out rfl hsz.out ?_) | (refine wpList_blk_load rfl 27 _ rfl 0 rfl Xq.out [_, _, _, _, _] rfl _ hun.out rfl hsz.out ?_) | fail)
    generalize v12.alloc (.cells #[.int .i64 Le, .int .i64 Z] 38) = v13 at *
    obtain ⟨gBy, hgBy⟩ : ∃ g, g = v12.heap.size := ⟨_, rfl⟩
    rw [← hgBy] at By ⊢
    clear hgBy
    have C := RCO.out v13 Mp.out Mq.out T.out
    rw [prv_eq12] at C
    rw [prv_eq12] at C
    refine C.mono ?_
    rintro e v14 ⟨rfl, hb⟩
    clear C T
    replace E : Hid (Below w.heap.size w v14) := E.out.trans (hb.mono E.out.size)
    have T := Lib.hid (hT.out.on E.out)
    replace Mp := Lib.hid (Mp.out.keep hb)
    replace Xp := Lib.hid (Xp.out.below hb Xp.out.lt)
    replace Mq := Lib.hid (Mq.out.keep hb)
    replace Xq := Lib.hid (Xq.out.below hb Xq.out.lt)
    replace Bx := Lib.hid (Bx.out.below hb Bx.out.lt)
    replace By := Lib.hid (By.out.below hb By.out.lt)
    clear hb
    have Bz : Hid (Blk (v14.alloc (.cells #[.int .i64 Cc, .int .i64 Ce] 38)) v14.heap.size [.int .i64 Cc, .int .i64 Ce] 38) := Blk.new _ [_, _] _
    have hb : Below v14.heap.size v14 (v14.alloc (.cells #[.int .i64 Cc, .int .i64 Ce] 38)) := (Below.refl _ _).alloc (Nat.le_refl _) _
    clear T
    replace E : Hid (Below w.heap.size w (v14.alloc (.cells #[.int .i64 Cc, .int .i64 Ce] 38))) := E.out.trans (hb.mono E.out.size)
    have T := Lib.hid (hT.out.on E.out)
    replace Mp := Lib.hid (Mp.out.keep hb)
    replace Xp := Lib.hid (Xp.out.below hb Xp.out.lt)
    replace Mq := Lib.hid (Mq.out.keep hb)
    replace Xq := Lib.hid (Xq.out.below hb Xq.out.lt)
    replace Bx := Lib.hid (Bx.out.below hb Bx.out.lt)
    replace By := Lib.hid (By.out.below hb By.out.lt)
    clear hb
    go_wp2_with (first | (refine wpList_blk_load rfl 27 _ rfl 0 rfl Xp.out [_, _, _, _, _] rfl _ hun.out rfl hsz.out ?_) | (refine wpList_blk_load rfl 27 _ rfl 0 rfl Xq.out [_, _, _, _, _] rfl _ hun.out rfl hsz.out ?_) | fail)
    generalize v14.alloc (.cells #[.int .i64 Cc, .int .i64 Ce] 38) = v15 at *
    obtain ⟨gBz, hgBz⟩ : ∃ g, g = v14.heap.size := ⟨_, rfl⟩
    rw [← hgBz] at Bz ⊢
    clear hgBz
    have C := RMI.out v15 Mp.out T.out
    rw [prv_eq12] at C
    refine C.mono ?_
    rintro e v16 ⟨rfl, hb⟩
    clear C T
    replace E : Hid (Below w.heap.size w v16) := E.out.trans (hb.mono E.out.size)
    have T := Lib.hid (hT.out.on E.out)
    replace Mp := Lib.hid (Mp.out.keep hb)
    replace Xp := Lib.hid (Xp.out.below hb Xp.out.lt)
    replace Mq := Lib.hid (Mq.out.keep hb)
    replace Xq := Lib.hid (Xq.out.below hb Xq.out.lt)
    replace Bx := Lib.hid (Bx.out.below hb Bx.out.lt)
    replace By := Lib.hid (By.out.below hb By.out.lt)
    replace Bz := Lib.hid (Bz.out.below hb Bz.out.lt)
    clear hb
    have Bw : Hid (Blk (v16.alloc (.cells #[.int .i64 Mm, .int .i64 Z] 38)) v16.heap.size [.int .i64 Mm, .int .i64 Z] 38) := Blk.new _ [_, _] _
    have hb : Below v16.heap.size v16 (v16.alloc (.cells #[.int .i64 Mm, .int .i64 Z] 38)) := (Below.refl _ _).alloc (Nat.le_refl _) _
    clear T
    replace E : Hid (Below w.heap.size w (v16.alloc (.cells #[.int .i64 Mm, .int .i64 Z] 38))) := E.out.trans (hb.mono E.out.size)
    have T := Lib.hid (hT.out.on E.out)
    replace Mp := Lib.hid (Mp.out.keep hb)
    replace Xp := Lib.hid (Xp.out.below hb Xp.out.lt)
    replace Mq := Lib.hid (Mq.out.keep hb)
    replace Xq := Lib.hid (Xq.out.below hb Xq.out.lt)
    replace Bx := Lib.hid (Bx.out.below hb Bx.out.lt)
    replace By := Lib.hid (By.out.below hb By.out.lt)
    replace Bz := Lib.hid (Bz.out.below hb Bz.out.lt)
    clear hb
    go_wp2_with (first | (refine wpList_blk_load rfl 27 _ rfl 0 rfl Xp.out [_, _, _, _, _] rfl _ hun.out rfl hsz.out ?_) | (refine wpList_blk_load rfl 27 _ rfl 0 rfl Xq.out [_, _, _, _, _] rfl _ hun.out rfl hsz.out ?_) | fail)
    generalize v16.alloc (.cells #[.int .i64 Mm, .int .i64 Z] 38) = v17 at *
    obtain ⟨gBw, hgBw⟩ : ∃ g, g = v16.heap.size := ⟨_, rfl⟩
    rw [← hgBw] at Bw ⊢
    clear hgBw
    clear RLS RLE RCO RMI
    have C := CKC.out v17 Mp.out T.out
    rw [prv_eq12] at C
    refine C.mono ?_
    rintro e v18 ⟨rfl, hb⟩
    clear C T
    replace E : Hid (Below w.heap.size w v18) := E.out.trans (hb.mono E.out.size)
    have T := Lib.hid (hT.out.on E.out)
    replace Mp := Lib.hid (Mp.out.keep hb)
    replace Xp := Lib.hid (Xp.out.below hb Xp.out.lt)
    replace Mq := Lib.hid (Mq.out.keep hb)
    replace Xq := Lib.hid (Xq.out.below hb Xq.out.lt)
    replace Bx := Lib.hid (Bx.out.below hb Bx.out.lt)
    replace By := Lib.hid (By.out.below hb By.out.lt)
    replace Bz := Lib.hid (Bz.out.below hb Bz.out.lt)
    replace Bw := Lib.hid (Bw.out.below hb Bw.out.lt)
    clear hb
    clear CKC
    have x0 := Bx.out.cell (j := 0) rfl
    have x1 := Bx.out.cell (j := 1) rfl
    have y0 := By.out.cell (j := 0) rfl
    have y1 := By.out.cell (j := 1) rfl
    have z0 := Bz.out.cell (j := 0) rfl
    have z1 := Bz.out.cell (j := 1) rfl
    have u0 := Bw.out.cell (j := 0) rfl
    have u1 := Bw.out.cell (j := 1) rfl
    go_upto_region 18 with fail
    clear x0 x1 y0 y1 z0 z1 u0 u1 Bx By Bz Bw
    by_cases h0 : Z = 0
    rotate_left
    · have t0 : (Z == 0) = false := by simpa using h0
      have hT0 : Tt = 0 := by rw [hTH.out, if_neg h0]
      have hG0 : Ge = Z := by rw [hGH.out, if_pos h0]
      have hl0 : lo = false := by
        cases hh : lo with
        | false => rfl
        | true => exact absurd (hloH.out.1 hh).1 h0
      subst hT0
      subst hG0
      subst hl0
      clear h0 hTH hGH hloH hZH
      go_wp2_with fail
      have C := sanity_any12 v18 T.out
      refine C.mono ?_
      rintro e v19 ⟨rfl, hb⟩
      clear C T
      replace E : Hid (Below w.heap.size w v19) := E.out.trans (hb.mono E.out.size)
      have T := Lib.hid (hT.out.on E.out)
      replace Mp := Lib.hid (Mp.out.keep hb)
      replace Xp := Lib.hid (Xp.out.below hb Xp.out.lt)
      replace Mq := Lib.hid (Mq.out.keep hb)
      replace Xq := Lib.hid (Xq.out.below hb Xq.out.lt)
      clear hb
      go_wp2_with fail
      go_ret
      exact ⟨by first | rfl | (go_simp; done), E.out⟩
    have OK := Lib.hid (chkP_ok.1 (hZH.out.symm.trans h0))
    obtain ⟨R, hR⟩ : ∃ R, R = 16 ^ p.ch.length := ⟨_, rfl⟩
    have hT0 : Tt = (R : Int) := by rw [hTH.out, if_pos h0, hR]
    have CP := refPower_any p.n2
    rw [hn2.out, ← hR, ← hn2.out] at CP
    have hGe : Ge = if 0 ≤ s ∧ s < 2 ^ p.ch.length then 0 else 1 := by rw [hGH.out, if_neg (fun h => h h0)]
    have hlo : lo = true ↔ 0 ≤ s ∧ s < 2 ^ p.ch.length ∧ LosP p s.toNat := by rw [hloH.out]; exact ⟨fun h => h.2, fun h => ⟨h0, h⟩⟩
    subst hT0
    subst h0
    obtain ⟨P, hP, hP4, hP1, hP2⟩ := pow_facts12 (d := p.n2) (by omega)
    have hPI : (2 : Int) ^ p.ch.length = (P : Int) := by rw [hP, ← hn2.out, Int.natCast_pow]; rfl
    rw [hPI] at hGe hlo
    have v1n : ¬ (p.n2 : Int) < 0 := by omega
    have v0n : 0 ≤ (p.n2 : Int) := by omega
    have v2n : min p.n2 64 = p.n2 := by omega
    have hn12 : p.n2 ≤ 12 := by omega
    have hPH := Lib.hid hP
    have hloH2 := Lib.hid hlo
    clear hTH hGH hloH hZH hR hPI hP hlo
    have p4 := Xp.out.cell (j := 4) rfl
    by_cases hneg : s < 0
    · have e1 : Ge = 1 := by rw [hGe, if_neg (by omega)]
      have e2 : lo = false := by
        cases hh : lo with
        | false => rfl
        | true => have := hloH2.out.1 hh; omega
      clear hGe
      subst e1
      subst e2
      go_wp2_with fail
      clear p4
      have C := sanity_any12 v18 T.out
      refine C.mono ?_
      rintro e v19 ⟨rfl, hb⟩
      clear C T
      replace E : Hid (Below w.heap.size w v19) := E.out.trans (hb.mono E.out.size)
      have T := Lib.hid (hT.out.on E.out)
      replace Mp := Lib.hid (Mp.out.keep hb)
      replace Xp := Lib.hid (Xp.out.below hb Xp.out.lt)
      replace Mq := Lib.hid (Mq.out.keep hb)
      replace Xq := Lib.hid (Xq.out.below hb Xq.out.lt)
      clear hb
      have p4 := Xp.out.cell (j := 4) rfl
      go_wp2_with fail
      refine (CP _ hn12).mono ?_
      rintro e wz ⟨rfl, rfl⟩
      go_wp2_with fail
      go_ret
      exact ⟨by first | rfl | (go_simp; done), E.out⟩
    by_cases hbig : (P : Int) ≤ s
    · have e1 : Ge = 1 := by rw [hGe, if_neg (by omega)]
      have e2 : lo = false := by
        cases hh : lo with
        | false => rfl
        | true => have := hloH2.out.1 hh; omega
      have tb : s ≥ (P : Int) := hbig
      clear hGe
      subst e1
      subst e2
      go_wp2_with fail
      clear p4
      have C := sanity_any12 v18 T.out
      refine C.mono ?_
      rintro e v19 ⟨rfl, hb⟩
      clear C T
      replace E : Hid (Below w.heap.size w v19) := E.out.trans (hb.mono E.out.size)
      have T := Lib.hid (hT.out.on E.out)
      replace Mp := Lib.hid (Mp.out.keep hb)
      replace Xp := Lib.hid (Xp.out.below hb Xp.out.lt)
      replace Mq := Lib.hid (Mq.out.keep hb)
      replace Xq := Lib.hid (Xq.out.below hb Xq.out.lt)
      clear hb
      have p4 := Xp.out.cell (j := 4) rfl
      go_wp2_with fail
      refine (CP _ hn12).mono ?_
      rintro e wz ⟨rfl, rfl⟩
      go_wp2_with fail
      go_ret
      exact ⟨by first | rfl | (go_simp; done), E.out⟩
    have e1 : Ge = 0 := by rw [hGe, if_pos (by omega)]
    obtain ⟨f, rfl⟩ : ∃ f : Nat, s = f := ⟨s.toNat, by omega⟩
    have tb : ¬ (f : Int) ≥ (P : Int) := hbig
    have hlof : Hid (lo = true ↔ LosP p f) := by show _ ↔ _; rw [hloH2.out, Int.toNat_natCast]; exact ⟨fun h => h.2.2, fun h => ⟨by omega, by omega, h⟩⟩
    clear hGe hloH2
    subst e1
    go_wp2_with fail
    clear p4
    have C := sanity_any12 v18 T.out
    refine C.mono ?_
    rintro e v19 ⟨rfl, hb⟩
    clear C T
    replace E : Hid (Below w.heap.size w v19) := E.out.trans (hb.mono E.out.size)
    have T := Lib.hid (hT.out.on E.out)
    replace Mp := Lib.hid (Mp.out.keep hb)
    replace Xp := Lib.hid (Xp.out.below hb Xp.out.lt)
    replace Mq := Lib.hid (Mq.out.keep hb)
    replace Xq := Lib.hid (Xq.out.below hb Xq.out.lt)
    clear hb
    have p0 := Xp.out.cell (j := 0) rfl
    have p1 := Xp.out.cell (j := 1) rfl
    have p2 := Xp.out.cell (j := 2) rfl
    have p3 := Xp.out.cell (j := 3) rfl
    have p4 := Xp.out.cell (j := 4) rfl
    go_wp2_with fail
    refine (CP _ hn12).mono ?_
    rintro e wz ⟨rfl, rfl⟩
    go_wp2_with fail
    have C := refLoses_any p f wz Mp.out OK.out.l24 OK.out.a60 hsp.out
    rw [prv_eq12] at C
    refine C.mono ?_
    rintro e we ⟨⟨bb, rfl, hbb⟩, hb⟩
    obtain rfl : bb = lo := by
      cases hh : lo with
      | true => exact hbb.2 (hlof.out.1 hh)
      | false =>
        cases hk : bb with
        | false => rfl
        | true => have := hlof.out.2 (hbb.1 hk); rw [hh] at this; cases this
    replace E : Hid (Below w.heap.size w we) := E.out.trans (hb.mono E.out.size)
    clear hb hbb C
    clear p0 p1 p2 p3 p4
    go_wp2_with fail
    go_ret
    exact ⟨by first | rfl | (go_simp; done), E.out⟩
end Go.Proofs.YtgajlgnniidgmaaDoor
