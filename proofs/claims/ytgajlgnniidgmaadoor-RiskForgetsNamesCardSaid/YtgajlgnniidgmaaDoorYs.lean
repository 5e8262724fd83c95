/-
  Stage 12: the walk of RiskForgetsNames. (Written by tools/genys.py.)
-/
import Derived.Test.YtgajlgnniidgmaaDoorYr
namespace Go.Proofs.YtgajlgnniidgmaaDoor
set_option linter.unusedVariables false
set_option linter.unusedSimpArgs false
open Go.RowKit Go.Maps

section
variable {ops : Array Oper} {rest : List Oper} {o : Oper} {a : Act} {Q : Exit → Act → World → Prop}
/-- A list appended to an empty list of the call's own. -/
theorem push_vg {t e : TypeId} {z : Value} {bs : Nat} (ht : Tryd.prog.underlying t = some (.slice e)) (hinf : (Tryd.prog.info? e).map (fun i => (i.zero, i.size, i.bytes)) = some (some z, 1, bs)) (hzc : z.cells.size = 1) (hbs : bs ≤ 24)
    (hgd : o.guard = none) (sl x : Operand)
    (ho : o.op = .call { callee := .builtin .append, args := #[sl, x], argTypes := #[t, t] })
    (w : World) (base : Nat) (v : Value) (vs : List Value) (B : Nat) (A : Option Addr) (ad : Addr) (hA : A = some ad) (n c : Nat) (hn : n = vs.length) (hs : a.eval sl = v) (hx : a.eval x = .slice A n c)
    (hr : Rds w B (some ad) vs) (hown : w.ownsRow base e 1 v 0 []) (hbase : base ≤ w.heap.size) (h1 : ∀ u ∈ vs, u.oneCell' = true) (hlen : n ≤ 1000000)
    (h : ∀ v' w', w'.ownsRow base e 1 v' n vs → w.grownBy w' v.ownBlock → (v'.ownBlock = v.ownBlock ∨ v'.ownBlock = some w.heap.size) → wpList Tryd.prog ops Q rest (a.put o.dst v') w') :
    wpList Tryd.prog ops Q (o :: rest) a w := by
  subst hn
  subst hA
  obtain ⟨i0, hi, hz0, hz1, hz2⟩ := info_parts hinf
  refine wpList_append_own_at _ hgd sl x t ho base e i0 z 1 bs ht hi hz0 hz1 hz2 hzc (by decide) _ 0 [] hs hown ad vs.length c vs hx (by omega) (fun j u hu => ?_) h1 (by unfold maxLen; omega) ?_ hbase ?_
  · obtain ⟨ad', e, hb, hc⟩ := hr.look hu
    cases e
    exact hc
  · rw [Nat.zero_add]
    have := Nat.mul_le_mul hlen hbs
    omega
  · intro v' w' g1 g2 g3 g4
    rw [Nat.zero_add, List.nil_append] at g1
    exact h v' w' g1 g2 g4
end
section
variable {ops : Array Oper} {rest : List Oper} {o : Oper} {a : Act} {Q : Exit → Act → World → Prop}
theorem push_i12 {w0 : World} (hgd : o.guard = none) (s x : Operand) (ho : o.op = .call { callee := .builtin .append, args := #[s, x], argTypes := #[25, 25] })
    (base : Nat) (v : Value) (n : Nat) (xs : List Value) (b : Int) (hs : a.eval s = v) (hx : a.eval x = .slice (some ⟨w0.heap.size, 0, none⟩) 1 1)
    (hown : w0.ownsRow base 3 1 v n xs) (hlen : n ≤ 1000000) (hbase : base ≤ w0.heap.size)
    (h : ∀ v' w', w'.ownsRow base 3 1 v' (n + 1) (xs ++ [iv b]) → w0.grownBy w' v.ownBlock → wpList Tryd.prog ops Q rest (a.put o.dst v') w') :
    wpList Tryd.prog ops Q (o :: rest) a (w0.alloc (.cells #[.int .i64 b] 3)) := by
  obtain ⟨i0, hi, hz0, hz1, hz2⟩ := info_parts infoI12
  refine wpList_push hgd s x 25 ho base 3 i0 (.int .i64 0) 8 Tryd.underlying25 hi hz0 hz1 hz2 rfl v n xs (iv b) hs hx rfl hown (by omega) (by unfold maxLen; omega) hbase ?_
  intro v' w' h1 h2
  exact h v' w' h1 h2.1
end
theorem own_rdsi12 {w : World} {base n m c : Nat} {A : Option Addr} {xs : List Value} (h : w.ownsRow base 3 1 (.slice A m c) n xs) : m = n ∧ Rds w w.heap.size A xs := by
  obtain ⟨A', c', hv, _, _, _, hr⟩ := own_form h
  injection hv with h1 h2 h3
  rw [h1]
  exact ⟨h2, hr⟩
/-- The peril that the law makes, before anything is exchanged. -/
def ForA (w1 : World) (p : Prl) (v : Value) (W : World) : Prop := ∃ (g gC cC : Nat) (LB : List Value), v = .pointer (some ⟨g, 0, none⟩) ∧ w1.heap.size ≤ g ∧ w1.heap.size ≤ gC ∧ gC ≠ g ∧ Blk W g [.int .i64 p.D, .slice p.A p.n p.c, .int .i64 p.G, .slice none 0 0, .slice (some ⟨gC, 0, none⟩) p.n2 cC] 27 ∧ Blk W gC LB 3 ∧ p.n2 ≤ LB.length ∧ LB.take p.n2 = p.ch.map iv ∧ Below w1.heap.size w1 W
set_option maxRecDepth 100000 in
set_option maxHeartbeats 16000000 in
theorem names_walk12 (p q : Prl) (a0 a1 : Nat) (w : World) (hMp : PerM w w.heap.size p) (hkp : CapP p) (hMq : PerM w w.heap.size q) (hkq : CapP q) (ha0 : a0 < 256) (ha1 : a1 < 256) (ht : PTab 2 w) :
    Calls Tryd.prog 8 #[prv p, prv q, .agg #[.int .u8 a0, .int .u8 a1]] w fun e w' => e = .returned (.bool true) ∧ Below w.heap.size w w' := by
  have hn2 : Hid (p.n2 = p.ch.length) := hMp.n2
  have hn1 : Hid (p.n1 = p.al.length) := hMp.n1
  have hkH := Lib.hid hkp
  clear hkp hkq
  have hsz := Lib.hid size_prl
  have hun : Hid (Tryd.prog.underlying 27 = _) := Tryd.underlying27
  have hii := Lib.hid size_int12
  have hints := Lib.hid size_ints12
  have hT := Lib.hid ht
  obtain ⟨W1, hW1⟩ : ∃ x, x = w.alloc (.cells #[.int .i64 p.D, .slice p.A p.n p.c, .int .i64 p.G, .slice p.A1 p.n1 p.c1, .slice p.A2 p.n2 p.c2] 27) := ⟨_, rfl⟩
  have sW1 : Hid (W1.heap.size = w.heap.size + 1) := by show _ = _; rw [hW1]; simp
  have bW1 : Hid (Below w.heap.size w W1) := by show Below _ _ _; rw [hW1]; exact (Below.refl _ _).alloc (Nat.le_refl _) _
  have Xp : Hid (Blk W1 (w.heap.size) [.int .i64 p.D, .slice p.A p.n p.c, .int .i64 p.G, .slice p.A1 p.n1 p.c1, .slice p.A2 p.n2 p.c2] 27) := by show Blk _ _ _ _; rw [hW1]; exact Blk.new _ [.int .i64 p.D, .slice p.A p.n p.c, .int .i64 p.G, .slice p.A1 p.n1 p.c1, .slice p.A2 p.n2 p.c2] _
  have E : Hid (Below w.heap.size w W1) := bW1.out
  obtain ⟨W2, hW2⟩ : ∃ x, x = W1.alloc (.cells #[.int .i64 q.D, .slice q.A q.n q.c, .int .i64 q.G, .slice q.A1 q.n1 q.c1, .slice q.A2 q.n2 q.c2] 27) := ⟨_, rfl⟩
  have sW2 : Hid (W2.heap.size = w.heap.size + 1 + 1) := by show _ = _; rw [hW2]; simp [sW1.out]
  have bW2 : Hid (Below W1.heap.size W1 W2) := by show Below _ _ _; rw [hW2]; exact (Below.refl _ _).alloc (Nat.le_refl _) _
  have Xq : Hid (Blk W2 (w.heap.size + 1) [.int .i64 q.D, .slice q.A q.n q.c, .int .i64 q.G, .slice q.A1 q.n1 q.c1, .slice q.A2 q.n2 q.c2] 27) := by show Blk _ _ _ _; rw [hW2, ← sW1.out]; exact Blk.new _ [.int .i64 q.D, .slice q.A q.n q.c, .int .i64 q.G, .slice q.A1 q.n1 q.c1, .slice q.A2 q.n2 q.c2] _
  replace Xp := Lib.hid (Xp.out.below bW2.out Xp.out.lt)
  replace E : Hid (Below w.heap.size w W2) := E.out.trans (bW2.out.mono E.out.size)
  obtain ⟨W3, hW3⟩ : ∃ x, x = W2.alloc (.cells #[.int .u8 a0, .int .u8 a1] 54) := ⟨_, rfl⟩
  have sW3 : Hid (W3.heap.size = w.heap.size + 1 + 1 + 1) := by show _ = _; rw [hW3]; simp [sW2.out]
  have bW3 : Hid (Below W2.heap.size W2 W3) := by show Below _ _ _; rw [hW3]; exact (Below.refl _ _).alloc (Nat.le_refl _) _
  have Xa : Hid (Blk W3 (w.heap.size + 1 + 1) [.int .u8 a0, .int .u8 a1] 54) := by show Blk _ _ _ _; rw [hW3, ← sW2.out]; exact Blk.new _ [.int .u8 a0, .int .u8 a1] _
  replace Xp := Lib.hid (Xp.out.below bW3.out Xp.out.lt)
  replace Xq := Lib.hid (Xq.out.below bW3.out Xq.out.lt)
  replace E : Hid (Below w.heap.size w W3) := E.out.trans (bW3.out.mono E.out.size)
  have Mp := Lib.hid (hMp.keep E.out)
  have Mq := Lib.hid (hMq.keep E.out)
  have T := Lib.hid (hT.out.on E.out)
  have hWW : Hid ((((w).alloc (.cells #[.int .i64 p.D, .slice p.A p.n p.c, .int .i64 p.G, .slice p.A1 p.n1 p.c1, .slice p.A2 p.n2 p.c2] 27)).alloc (.cells #[.int .i64 q.D, .slice q.A q.n q.c, .int .i64 q.G, .slice q.A1 q.n1 q.c1, .slice q.A2 q.n2 q.c2] 27)).alloc (.cells #[.int .u8 a0, .int .u8 a1] 54) = W3) := by show _ = _; rw [hW3, hW2, hW1]
  clear hW1 hW2 hW3 bW1 bW2 bW3 sW1 sW2 sW3 ht hMp hMq
  rw [prv_eq12, prv_eq12]
  go_enter Tryd.func8, Tryd.ntmps8
  go_upto_region 1 with fail
  generalize hg : (((w).alloc _).alloc _).alloc _ = Wg
  have hgW : W3 = Wg := by rw [← hg, hWW.out]
  clear hg hWW
  subst hgW
  go_wp2_with (first | (refine wpList_blk_load rfl 27 _ rfl 0 rfl Xp.out [_, _, _, _, _] rfl _ hun.out rfl hsz.out ?_) | (refine wpList_blk_load rfl 27 _ rfl 0 rfl Xq.out [_, _, _, _, _] rfl _ hun.out rfl hsz.out ?_) | fail)
  have C := few12_any p 9 W3 Mp.out
  rw [prv_eq12] at C
  refine C.mono ?_
  rintro e v1 ⟨⟨b1, rfl, hbf⟩, hb⟩
  clear C T
  replace E : Hid (Below w.heap.size w v1) := E.out.trans (hb.mono E.out.size)
  have T := Lib.hid (hT.out.on E.out)
  replace Mp := Lib.hid (Mp.out.keep hb)
  replace Mq := Lib.hid (Mq.out.keep hb)
  replace Xp := Lib.hid (Xp.out.below hb Xp.out.lt)
  replace Xq := Lib.hid (Xq.out.below hb Xq.out.lt)
  replace Xa := Lib.hid (Xa.out.below hb Xa.out.lt)
  clear hb
  have hb1H := Lib.hid hbf
  clear hbf
  go_wp2_with (first | (refine wpList_blk_load rfl 27 _ rfl 0 rfl Xp.out [_, _, _, _, _] rfl _ hun.out rfl hsz.out ?_) | (refine wpList_blk_load rfl 27 _ rfl 0 rfl Xq.out [_, _, _, _, _] rfl _ hun.out rfl hsz.out ?_) | fail)
  have C := few12_any q 9 v1 Mq.out
  rw [prv_eq12] at C
  refine C.mono ?_
  rintro e v2 ⟨⟨b2, rfl, hbf⟩, hb⟩
  clear C T
  replace E : Hid (Below w.heap.size w v2) := E.out.trans (hb.mono E.out.size)
  have T := Lib.hid (hT.out.on E.out)
  replace Mp := Lib.hid (Mp.out.keep hb)
  replace Mq := Lib.hid (Mq.out.keep hb)
  replace Xp := Lib.hid (Xp.out.below hb Xp.out.lt)
  replace Xq := Lib.hid (Xq.out.below hb Xq.out.lt)
  replace Xa := Lib.hid (Xa.out.below hb Xa.out.lt)
  clear hb
  clear hbf
  cases b1 with
  | false =>
    go_wp2_with fail
    have C := sanity_any12 v2 T.out
    refine C.mono ?_
    rintro e v3 ⟨rfl, hb⟩
    clear C T
    replace E : Hid (Below w.heap.size w v3) := E.out.trans (hb.mono E.out.size)
    have T := Lib.hid (hT.out.on E.out)
    replace Mp := Lib.hid (Mp.out.keep hb)
    replace Mq := Lib.hid (Mq.out.keep hb)
    replace Xp := Lib.hid (Xp.out.below hb Xp.out.lt)
    replace Xq := Lib.hid (Xq.out.below hb Xq.out.lt)
    replace Xa := Lib.hid (Xa.out.below hb Xa.out.lt)
    clear hb
    go_wp2_with fail
    go_ret
    exact ⟨by first | rfl | (go_simp; done), E.out⟩
  | true =>
  cases b2 with
  | false =>
    go_wp2_with fail
    have C := sanity_any12 v2 T.out
    refine C.mono ?_
    rintro e v3 ⟨rfl, hb⟩
    clear C T
    replace E : Hid (Below w.heap.size w v3) := E.out.trans (hb.mono E.out.size)
    have T := Lib.hid (hT.out.on E.out)
    replace Mp := Lib.hid (Mp.out.keep hb)
    replace Mq := Lib.hid (Mq.out.keep hb)
    replace Xp := Lib.hid (Xp.out.below hb Xp.out.lt)
    replace Xq := Lib.hid (Xq.out.below hb Xq.out.lt)
    replace Xa := Lib.hid (Xa.out.below hb Xa.out.lt)
    clear hb
    go_wp2_with fail
    go_ret
    exact ⟨by first | rfl | (go_simp; done), E.out⟩
  | true =>
    have hF := hb1H.out.1 rfl
    have h9 : p.ch.length ≤ 9 := by have := hF.1; omega
    have h9H := Lib.hid h9
    have hn9 : p.n2 ≤ 9 := by rw [hn2.out]; exact h9
    clear hF hb1H h9
    have p0 := Xp.out.cell (j := 0) rfl
    have p1 := Xp.out.cell (j := 1) rfl
    have p2 := Xp.out.cell (j := 2) rfl
    have p3 := Xp.out.cell (j := 3) rfl
    have p4 := Xp.out.cell (j := 4) rfl
    go_wp2_with fail
    clear p0 p1 p2 p3 p4
    obtain ⟨Z, hZ⟩ : ∃ z, z = chkP p := ⟨_, rfl⟩
    have CK := rcheck_any p v2 Mp.out
    rw [← hZ] at CK
    have hZH := Lib.hid hZ
    clear hZ
    have C := CK
    rw [prv_eq12] at C
    refine C.mono ?_
    rintro e v3 ⟨rfl, hb⟩
    clear C T CK
    replace E : Hid (Below w.heap.size w v3) := E.out.trans (hb.mono E.out.size)
    have T := Lib.hid (hT.out.on E.out)
    replace Mp := Lib.hid (Mp.out.keep hb)
    replace Mq := Lib.hid (Mq.out.keep hb)
    replace Xp := Lib.hid (Xp.out.below hb Xp.out.lt)
    replace Xq := Lib.hid (Xq.out.below hb Xq.out.lt)
    replace Xa := Lib.hid (Xa.out.below hb Xa.out.lt)
    clear hb
    by_cases h0 : Z = 0
    rotate_left
    · have t0 : (Z == 0) = false := by simpa using h0
      go_wp2_with fail
      have C := sanity_any12 v3 T.out
      refine C.mono ?_
      rintro e v4 ⟨rfl, hb⟩
      clear C T
      replace E : Hid (Below w.heap.size w v4) := E.out.trans (hb.mono E.out.size)
      have T := Lib.hid (hT.out.on E.out)
      replace Mp := Lib.hid (Mp.out.keep hb)
      replace Mq := Lib.hid (Mq.out.keep hb)
      replace Xp := Lib.hid (Xp.out.below hb Xp.out.lt)
      replace Xq := Lib.hid (Xq.out.below hb Xq.out.lt)
      replace Xa := Lib.hid (Xa.out.below hb Xa.out.lt)
      clear hb
      go_wp2_with fail
      go_ret
      exact ⟨by first | rfl | (go_simp; done), E.out⟩
    have hz : Hid (chkP p = 0) := hZH.out.symm.trans h0
    subst h0
    have OK := Lib.hid (chkP_ok.1 hz.out)
    clear hZH
    have p4 := Xp.out.cell (j := 4) rfl
    by_cases he : p.n2 = 0
    · have te : ((p.n2 : Int) == 0) = true := by simp [he]
      clear he
      go_wp2_with fail
      clear p4
      have C := sanity_any12 v3 T.out
      refine C.mono ?_
      rintro e v4 ⟨rfl, hb⟩
      clear C T
      replace E : Hid (Below w.heap.size w v4) := E.out.trans (hb.mono E.out.size)
      have T := Lib.hid (hT.out.on E.out)
      replace Mp := Lib.hid (Mp.out.keep hb)
      replace Mq := Lib.hid (Mq.out.keep hb)
      replace Xp := Lib.hid (Xp.out.below hb Xp.out.lt)
      replace Xq := Lib.hid (Xq.out.below hb Xq.out.lt)
      replace Xa := Lib.hid (Xa.out.below hb Xa.out.lt)
      clear hb
      go_wp2_with fail
      go_ret
      exact ⟨by first | rfl | (go_simp; done), E.out⟩
    have te : ((p.n2 : Int) == 0) = false := by simpa using he
    have hpos : Hid (0 < p.n2) := Nat.pos_of_ne_zero he
    obtain ⟨x, hxe, hxl, hxr, hnz, tz⟩ := rem12 a0 p.n2 hpos.out
    obtain ⟨y, hye, hyl, hyr, _, _⟩ := rem12 a1 p.n2 hpos.out
    have k0 := Xa.out.cell (j := 0) rfl
    have k1 := Xa.out.cell (j := 1) rfl
    have hw0 := wrap_b8_12 ha0
    have hw1 := wrap_b8_12 ha1
    have hxrH := Lib.hid hxr
    have hyrH := Lib.hid hyr
    clear hxe hye hxr hyr he
    have hpc : 0 < p.ch.length := by have := hn2.out; have := hpos.out; omega
    obtain ⟨cx, hcx⟩ : ∃ c, p.ch[x]? = some c := ⟨_, List.getElem?_eq_getElem (by rw [← hn2.out]; exact hxl)⟩
    obtain ⟨cy, hcy⟩ : ∃ c, p.ch[y]? = some c := ⟨_, List.getElem?_eq_getElem (by rw [← hn2.out]; exact hyl)⟩
    obtain ⟨ad, hA2, hab, hcadx⟩ := Mp.out.look2 hcx
    obtain ⟨ad2, e2, _, hcady⟩ := Mp.out.look2 hcy
    obtain rfl : ad = ad2 := Option.some.inj (hA2.symm.trans e2)
    have hA2H := Lib.hid hA2
    have hcxH := Lib.hid hcx
    have hcyH := Lib.hid hcy
    have habH := Lib.hid hab
    clear e2 hA2 hcx hcy hab hcadx hcady hpc
    go_upto_region 7 with fail
    clear k0 k1 hw0 hw1 hnz tz te p4
    have hunc : Hid (Tryd.prog.underlying 24 = _) := Tryd.underlying24
    have hszc := Lib.hid size_cod
    have CM : Hid (∀ W, Below v3.heap.size v3 W → Rds W w.heap.size (some ad) (p.ch.map iv)) := fun W hW => by
      have h := (Mp.out.below (hW.mono Mp.out.le)).ch
      rw [hA2H.out] at h
      exact h
    have hwle : Hid (w.heap.size ≤ v3.heap.size) := E.out.size
    have hlen : Hid (p.n2 = (p.ch.map iv).length) := by show _ = _; rw [List.length_map]; exact hn2.out
    have one_ch : Hid (∀ u ∈ p.ch.map iv, u.oneCell' = true) := fun u hu => by obtain ⟨b, _, rfl⟩ := List.mem_map.1 hu; rfl
    rw [hxrH.out, hyrH.out]
    go_cut [11] from 64 to 70 (fun v W => Hid (ForA v3 p v W))
    case first J KK hJ hKK =>
      refine wp_region_planH (fun W => Below v3.heap.size v3 W) [0, 1, 3, 4] 5 (by kernel_rfl) (by kernel_rfl) (by kernel_rfl) (by kernel_rfl) (by intro c a d v w h; cases d <;> exact h) ((Below.refl _ _).drew) ?_
      change wpPlanH _ _ _ _ _ _ _ _ _ v3.drew
      have q4 : ∀ x : SOf (fun W : World => Below v3.heap.size v3 W), x.world.cell? ⟨w.heap.size, 4, none⟩ = some (.slice p.A2 p.n2 p.c2) := fun x => (Blk.below Xp.out x.meets Xp.out.lt).cell (j := 4) rfl
      skip
      iterate 1 (refine wpPlanH_plain rfl (fun K hK => ?_); go_simp; first | refine hK _ ?_ | refine ⟨_, fun _ => rfl, hK _ ?_⟩; clear hK K)
      refine wpPlanH_runW rfl (by rfl) _ (fun q => load_run 24 _ rfl w.heap.size 0 rfl [.int .i64 p.D, .slice p.A p.n p.c, .int .i64 p.G] _ hunc.out rfl hszc.out q.world ((Blk.below Xp.out q.meets Xp.out.lt).range 0 _ rfl)) ?_
      iterate 2 (refine wpPlanH_plain rfl (fun K hK => ?_); go_simp; first | refine hK _ ?_ | refine ⟨_, fun _ => rfl, hK _ ?_⟩; clear hK K)
      clear q4
      have F0 : Hid (Below v3.heap.size v3 v3.drew) := (Below.refl _ _).drew
      generalize v3.drew = u0 at F0 ⊢
      refine wpAnyH_each (rs := [2, 7]) (by kernel_rfl) (by decide) (fun K hK i hi => ?_)
      simp only [List.mem_cons, List.not_mem_nil, or_false] at hi
      rcases hi with rfl | rfl
      · skip
        refine wpOp_listed rfl ?_
        go_wp2_with fail
        have hO : Hid ((u0.alloc (.cells #[] 3)).ownsRow v3.heap.size 3 1 (.slice (some ⟨u0.heap.size, 0, none⟩) 0 0) 0 []) := World.ownsRow_made u0 #[] 0 F0.out.size (by unfold maxLen; omega) rfl
        have hb : Below u0.heap.size u0 (u0.alloc (.cells #[] 3)) := (Below.refl _ _).alloc (Nat.le_refl _) _
        have hlt : Hid (u0.heap.size < (u0.alloc (.cells #[] 3)).heap.size) := by show _ < _; simp
        obtain ⟨gC, hgC⟩ : ∃ g, g = u0.heap.size := ⟨_, rfl⟩
        have hCge : Hid (v3.heap.size ≤ gC) := by show _ ≤ _; rw [hgC]; exact F0.out.size
        rw [← hgC] at hO hlt ⊢
        replace F0 : Hid (Below v3.heap.size v3 (u0.alloc (.cells #[] 3))) := F0.out.trans (hb.mono F0.out.size)
        refine postH_normal (hK _ _ _ F0.out ?_)
        clear hK K hb hgC
        generalize u0.alloc (.cells #[] 3) = u1 at *
        refine wpAnyH_each (rs := [5, 7]) (by kernel_rfl) (by decide) (fun K hK i hi => ?_)
        simp only [List.mem_cons, List.not_mem_nil, or_false] at hi
        rcases hi with rfl | rfl
        · skip
          refine wpOp_listed rfl ?_
          refine push_vg (z := .int .i64 0) (bs := 8) Tryd.underlying25 infoI12 rfl (by decide) rfl _ _ rfl u1 v3.heap.size (.slice (some ⟨gC, 0, none⟩) 0 0) (p.ch.map iv) w.heap.size p.A2 ad hA2H.out p.n2 p.c2 hlen.out rfl rfl (CM.out _ F0.out) hO.out F0.out.size one_ch.out (by omega) ?_
          intro v' u2 ho4 hg4 hor
          obtain ⟨gB, cB, LB, rfl, hgB0, HB0, HBl0, HBt0⟩ := own_open12 ho4 hpos.out
          have hgB := Lib.hid hgB0
          have HB := Lib.hid HB0
          have HBl := Lib.hid HBl0
          have HBt := Lib.hid HBt0
          replace F0 : Hid (Below v3.heap.size v3 u2) := F0.out.grown hg4 F0.out.size (fun k hk => by have h1 := Option.some.inj hk; have h2 := hCge.out; simp only at h1; omega)
          refine wpList_end (postH_normal (hK _ _ _ F0.out ?_))
          clear hK K ho4 hg4 hor hO hgB0 HB0 HBl0 HBt0 hlt hCge
          refine wpAnyH_each (rs := [6, 7]) (by kernel_rfl) (by decide) (fun K hK i hi => ?_)
          simp only [List.mem_cons, List.not_mem_nil, or_false] at hi
          rcases hi with rfl | rfl
          · skip
            refine wpOp_listed rfl ?_
            go_wp2_with fail
            refine postH_normal (hK _ _ _ F0.out ?_)
            clear hK K
            refine wpAnyH_each (rs := [7]) (by kernel_rfl) (by decide) (fun K hK i hi => ?_)
            obtain rfl := List.mem_singleton.1 hi
            refine wpOp_listed rfl ?_
            go_wp2_with fail
            have XB : Hid (Blk (u2.alloc (.cells #[.int .i64 0, .slice none 0 0, .int .i64 0, .slice none 0 0, .slice none 0 0] 27)) u2.heap.size [.int .i64 0, .slice none 0 0, .int .i64 0, .slice none 0 0, .slice none 0 0] 27) := Blk.new _ [_, _, _, _, _] _
            have hb : Below u2.heap.size u2 (u2.alloc (.cells #[.int .i64 0, .slice none 0 0, .int .i64 0, .slice none 0 0, .slice none 0 0] 27)) := (Below.refl _ _).alloc (Nat.le_refl _) _
            obtain ⟨gX, hgXe⟩ : ∃ g, g = u2.heap.size := ⟨_, rfl⟩
            have hgX : Hid (v3.heap.size ≤ gX) := by show _ ≤ _; rw [hgXe]; exact F0.out.size
            have hne : Hid (gB ≠ gX) := by show _ ≠ _; rw [hgXe]; exact Nat.ne_of_lt HB.out.lt
            replace HB := Lib.hid (HB.out.below hb HB.out.lt)
            rw [← hgXe] at XB ⊢
            replace F0 : Hid (Below v3.heap.size v3 (u2.alloc (.cells #[.int .i64 0, .slice none 0 0, .int .i64 0, .slice none 0 0, .slice none 0 0] 27))) := F0.out.trans (hb.mono F0.out.size)
            refine postH_normal (hK _ _ _ F0.out ?_)
            clear hK K hb hgXe
            generalize u2.alloc (.cells #[.int .i64 0, .slice none 0 0, .int .i64 0, .slice none 0 0, .slice none 0 0] 27) = u4 at *
            refine wpAnyH_each (rs := [8]) (by kernel_rfl) (by decide) (fun K hK i hi => ?_)
            obtain rfl := List.mem_singleton.1 hi
            refine wpOp_listed rfl ?_
            refine wpList_row_store rfl 27 _ _ rfl [.int .i64 p.D, .slice p.A p.n p.c, .int .i64 p.G, .slice none 0 0, .slice (some ⟨gB, 0, none⟩) p.n2 cB] rfl rfl XB.out hsz.out rfl (five_one12 _ _ _ _ _ _ _ _ _ _ _) ?_
            intro u5 hw6 ho6
            replace XB : Hid (Blk u5 gX [.int .i64 p.D, .slice p.A p.n p.c, .int .i64 p.G, .slice none 0 0, .slice (some ⟨gB, 0, none⟩) p.n2 cB] 27) := hw6.out
            replace HB := Lib.hid (HB.out.only ho6 hne.out)
            replace F0 : Hid (Below v3.heap.size v3 u5) := F0.out.trans (ho6.below hgX.out)
            refine wpList_end (postH_normal (hK _ _ _ F0.out ?_))
            clear hK K hw6 ho6
            refine wpAnyH_done (by kernel_rfl) ?_ _
            try go_wp2_with fail
            go_meet
            exact ⟨gX, gB, cB, LB, by first | rfl | (go_simp; done), hgX.out, hgB.out, hne.out, XB.out, HB.out, HBl.out, HBt.out, F0.out⟩
          · skip
            refine wpOp_listed rfl ?_
            go_wp2_with fail
            have XB : Hid (Blk (u2.alloc (.cells #[.int .i64 0, .slice none 0 0, .int .i64 0, .slice none 0 0, .slice none 0 0] 27)) u2.heap.size [.int .i64 0, .slice none 0 0, .int .i64 0, .slice none 0 0, .slice none 0 0] 27) := Blk.new _ [_, _, _, _, _] _
            have hb : Below u2.heap.size u2 (u2.alloc (.cells #[.int .i64 0, .slice none 0 0, .int .i64 0, .slice none 0 0, .slice none 0 0] 27)) := (Below.refl _ _).alloc (Nat.le_refl _) _
            obtain ⟨gX, hgXe⟩ : ∃ g, g = u2.heap.size := ⟨_, rfl⟩
            have hgX : Hid (v3.heap.size ≤ gX) := by show _ ≤ _; rw [hgXe]; exact F0.out.size
            have hne : Hid (gB ≠ gX) := by show _ ≠ _; rw [hgXe]; exact Nat.ne_of_lt HB.out.lt
            replace HB := Lib.hid (HB.out.below hb HB.out.lt)
            rw [← hgXe] at XB ⊢
            replace F0 : Hid (Below v3.heap.size v3 (u2.alloc (.cells #[.int .i64 0, .slice none 0 0, .int .i64 0, .slice none 0 0, .slice none 0 0] 27))) := F0.out.trans (hb.mono F0.out.size)
            refine postH_normal (hK _ _ _ F0.out ?_)
            clear hK K hb hgXe
            generalize u2.alloc (.cells #[.int .i64 0, .slice none 0 0, .int .i64 0, .slice none 0 0, .slice none 0 0] 27) = u6 at *
            refine wpAnyH_each (rs := [6]) (by kernel_rfl) (by decide) (fun K hK i hi => ?_)
            obtain rfl := List.mem_singleton.1 hi
            refine wpOp_listed rfl ?_
            go_wp2_with fail
            refine postH_normal (hK _ _ _ F0.out ?_)
            clear hK K
            refine wpAnyH_each (rs := [8]) (by kernel_rfl) (by decide) (fun K hK i hi => ?_)
            obtain rfl := List.mem_singleton.1 hi
            refine wpOp_listed rfl ?_
            refine wpList_row_store rfl 27 _ _ rfl [.int .i64 p.D, .slice p.A p.n p.c, .int .i64 p.G, .slice none 0 0, .slice (some ⟨gB, 0, none⟩) p.n2 cB] rfl rfl XB.out hsz.out rfl (five_one12 _ _ _ _ _ _ _ _ _ _ _) ?_
            intro u8 hw6 ho6
            replace XB : Hid (Blk u8 gX [.int .i64 p.D, .slice p.A p.n p.c, .int .i64 p.G, .slice none 0 0, .slice (some ⟨gB, 0, none⟩) p.n2 cB] 27) := hw6.out
            replace HB := Lib.hid (HB.out.only ho6 hne.out)
            replace F0 : Hid (Below v3.heap.size v3 u8) := F0.out.trans (ho6.below hgX.out)
            refine wpList_end (postH_normal (hK _ _ _ F0.out ?_))
            clear hK K hw6 ho6
            refine wpAnyH_done (by kernel_rfl) ?_ _
            try go_wp2_with fail
            go_meet
            exact ⟨gX, gB, cB, LB, by first | rfl | (go_simp; done), hgX.out, hgB.out, hne.out, XB.out, HB.out, HBl.out, HBt.out, F0.out⟩
        · skip
          refine wpOp_listed rfl ?_
          go_wp2_with fail
          have XB : Hid (Blk (u1.alloc (.cells #[.int .i64 0, .slice none 0 0, .int .i64 0, .slice none 0 0, .slice none 0 0] 27)) u1.heap.size [.int .i64 0, .slice none 0 0, .int .i64 0, .slice none 0 0, .slice none 0 0] 27) := Blk.new _ [_, _, _, _, _] _
          have hb : Below u1.heap.size u1 (u1.alloc (.cells #[.int .i64 0, .slice none 0 0, .int .i64 0, .slice none 0 0, .slice none 0 0] 27)) := (Below.refl _ _).alloc (Nat.le_refl _) _
          obtain ⟨gX, hgXe⟩ : ∃ g, g = u1.heap.size := ⟨_, rfl⟩
          have hgX : Hid (v3.heap.size ≤ gX) := by show _ ≤ _; rw [hgXe]; exact F0.out.size
          have hne : Hid (gC ≠ gX) := by show _ ≠ _; rw [hgXe]; exact Nat.ne_of_lt hlt.out
          replace hO := Lib.hid (own_keep12 hO.out hb)
          replace hlt : Hid (gC < (u1.alloc (.cells #[.int .i64 0, .slice none 0 0, .int .i64 0, .slice none 0 0, .slice none 0 0] 27)).heap.size) := Nat.lt_of_lt_of_le hlt.out hb.size
          rw [← hgXe] at XB ⊢
          replace F0 : Hid (Below v3.heap.size v3 (u1.alloc (.cells #[.int .i64 0, .slice none 0 0, .int .i64 0, .slice none 0 0, .slice none 0 0] 27))) := F0.out.trans (hb.mono F0.out.size)
          refine postH_normal (hK _ _ _ F0.out ?_)
          clear hK K hb hgXe
          generalize u1.alloc (.cells #[.int .i64 0, .slice none 0 0, .int .i64 0, .slice none 0 0, .slice none 0 0] 27) = u9 at *
          refine wpAnyH_each (rs := [5]) (by kernel_rfl) (by decide) (fun K hK i hi => ?_)
          obtain rfl := List.mem_singleton.1 hi
          refine wpOp_listed rfl ?_
          refine push_vg (z := .int .i64 0) (bs := 8) Tryd.underlying25 infoI12 rfl (by decide) rfl _ _ rfl u9 v3.heap.size (.slice (some ⟨gC, 0, none⟩) 0 0) (p.ch.map iv) w.heap.size p.A2 ad hA2H.out p.n2 p.c2 hlen.out rfl rfl (CM.out _ F0.out) hO.out F0.out.size one_ch.out (by omega) ?_
          intro v' u10 ho4 hg4 hor
          obtain ⟨gB, cB, LB, rfl, hgB0, HB0, HBl0, HBt0⟩ := own_open12 ho4 hpos.out
          have hgB := Lib.hid hgB0
          have HB := Lib.hid HB0
          have HBl := Lib.hid HBl0
          have HBt := Lib.hid HBt0
          have hne0 := hne
          replace hne : Hid (gB ≠ gX) := by
            show _ ≠ _
            have h1 := hne.out
            have h2 := XB.out.lt
            rcases hor with h | h
            · have := Option.some.inj h; simp only at this; omega
            · have := Option.some.inj h; simp only at this; omega
          replace XB := Lib.hid (XB.out.grown12 hg4 (fun h => by have h1 := Option.some.inj h; have h2 := hne0.out; simp only at h1; omega))
          replace F0 : Hid (Below v3.heap.size v3 u10) := F0.out.grown hg4 F0.out.size (fun k hk => by have h1 := Option.some.inj hk; have h2 := hCge.out; simp only at h1; omega)
          refine wpList_end (postH_normal (hK _ _ _ F0.out ?_))
          clear hK K ho4 hg4 hor hO hgB0 HB0 HBl0 HBt0 hlt hCge
          refine wpAnyH_each (rs := [6]) (by kernel_rfl) (by decide) (fun K hK i hi => ?_)
          obtain rfl := List.mem_singleton.1 hi
          refine wpOp_listed rfl ?_
          go_wp2_with fail
          refine postH_normal (hK _ _ _ F0.out ?_)
          clear hK K
          refine wpAnyH_each (rs := [8]) (by kernel_rfl) (by decide) (fun K hK i hi => ?_)
          obtain rfl := List.mem_singleton.1 hi
          refine wpOp_listed rfl ?_
          refine wpList_row_store rfl 27 _ _ rfl [.int .i64 p.D, .slice p.A p.n p.c, .int .i64 p.G, .slice none 0 0, .slice (some ⟨gB, 0, none⟩) p.n2 cB] rfl rfl XB.out hsz.out rfl (five_one12 _ _ _ _ _ _ _ _ _ _ _) ?_
          intro u12 hw6 ho6
          replace XB : Hid (Blk u12 gX [.int .i64 p.D, .slice p.A p.n p.c, .int .i64 p.G, .slice none 0 0, .slice (some ⟨gB, 0, none⟩) p.n2 cB] 27) := hw6.out
          replace HB := Lib.hid (HB.out.only ho6 hne.out)
          replace F0 : Hid (Below v3.heap.size v3 u12) := F0.out.trans (ho6.below hgX.out)
          refine wpList_end (postH_normal (hK _ _ _ F0.out ?_))
          clear hK K hw6 ho6
          refine wpAnyH_done (by kernel_rfl) ?_ _
          try go_wp2_with fail
          go_meet
          exact ⟨gX, gB, cB, LB, by first | rfl | (go_simp; done), hgX.out, hgB.out, hne.out, XB.out, HB.out, HBl.out, HBt.out, F0.out⟩
      · skip
        refine wpOp_listed rfl ?_
        go_wp2_with fail
        have XB : Hid (Blk (u0.alloc (.cells #[.int .i64 0, .slice none 0 0, .int .i64 0, .slice none 0 0, .slice none 0 0] 27)) u0.heap.size [.int .i64 0, .slice none 0 0, .int .i64 0, .slice none 0 0, .slice none 0 0] 27) := Blk.new _ [_, _, _, _, _] _
        have hb : Below u0.heap.size u0 (u0.alloc (.cells #[.int .i64 0, .slice none 0 0, .int .i64 0, .slice none 0 0, .slice none 0 0] 27)) := (Below.refl _ _).alloc (Nat.le_refl _) _
        obtain ⟨gX, hgXe⟩ : ∃ g, g = u0.heap.size := ⟨_, rfl⟩
        have hgX : Hid (v3.heap.size ≤ gX) := by show _ ≤ _; rw [hgXe]; exact F0.out.size
        rw [← hgXe] at XB ⊢
        replace F0 : Hid (Below v3.heap.size v3 (u0.alloc (.cells #[.int .i64 0, .slice none 0 0, .int .i64 0, .slice none 0 0, .slice none 0 0] 27))) := F0.out.trans (hb.mono F0.out.size)
        refine postH_normal (hK _ _ _ F0.out ?_)
        clear hK K hb hgXe
        generalize u0.alloc (.cells #[.int .i64 0, .slice none 0 0, .int .i64 0, .slice none 0 0, .slice none 0 0] 27) = u13 at *
        refine wpAnyH_each (rs := [2]) (by kernel_rfl) (by decide) (fun K hK i hi => ?_)
        obtain rfl := List.mem_singleton.1 hi
        refine wpOp_listed rfl ?_
        go_wp2_with fail
        have hO : Hid ((u13.alloc (.cells #[] 3)).ownsRow v3.heap.size 3 1 (.slice (some ⟨u13.heap.size, 0, none⟩) 0 0) 0 []) := World.ownsRow_made u13 #[] 0 F0.out.size (by unfold maxLen; omega) rfl
        have hb : Below u13.heap.size u13 (u13.alloc (.cells #[] 3)) := (Below.refl _ _).alloc (Nat.le_refl _) _
        have hlt : Hid (u13.heap.size < (u13.alloc (.cells #[] 3)).heap.size) := by show _ < _; simp
        obtain ⟨gC, hgC⟩ : ∃ g, g = u13.heap.size := ⟨_, rfl⟩
        have hne : Hid (gC ≠ gX) := by show _ ≠ _; rw [hgC]; exact Nat.ne_of_gt XB.out.lt
        replace XB := Lib.hid (XB.out.below hb XB.out.lt)
        have hCge : Hid (v3.heap.size ≤ gC) := by show _ ≤ _; rw [hgC]; exact F0.out.size
        rw [← hgC] at hO hlt ⊢
        replace F0 : Hid (Below v3.heap.size v3 (u13.alloc (.cells #[] 3))) := F0.out.trans (hb.mono F0.out.size)
        refine postH_normal (hK _ _ _ F0.out ?_)
        clear hK K hb hgC
        generalize u13.alloc (.cells #[] 3) = u14 at *
        refine wpAnyH_each (rs := [5]) (by kernel_rfl) (by decide) (fun K hK i hi => ?_)
        obtain rfl := List.mem_singleton.1 hi
        refine wpOp_listed rfl ?_
        refine push_vg (z := .int .i64 0) (bs := 8) Tryd.underlying25 infoI12 rfl (by decide) rfl _ _ rfl u14 v3.heap.size (.slice (some ⟨gC, 0, none⟩) 0 0) (p.ch.map iv) w.heap.size p.A2 ad hA2H.out p.n2 p.c2 hlen.out rfl rfl (CM.out _ F0.out) hO.out F0.out.size one_ch.out (by omega) ?_
        intro v' u15 ho4 hg4 hor
        obtain ⟨gB, cB, LB, rfl, hgB0, HB0, HBl0, HBt0⟩ := own_open12 ho4 hpos.out
        have hgB := Lib.hid hgB0
        have HB := Lib.hid HB0
        have HBl := Lib.hid HBl0
        have HBt := Lib.hid HBt0
        have hne0 := hne
        replace hne : Hid (gB ≠ gX) := by
          show _ ≠ _
          have h1 := hne.out
          have h2 := XB.out.lt
          rcases hor with h | h
          · have := Option.some.inj h; simp only at this; omega
          · have := Option.some.inj h; simp only at this; omega
        replace XB := Lib.hid (XB.out.grown12 hg4 (fun h => by have h1 := Option.some.inj h; have h2 := hne0.out; simp only at h1; omega))
        replace F0 : Hid (Below v3.heap.size v3 u15) := F0.out.grown hg4 F0.out.size (fun k hk => by have h1 := Option.some.inj hk; have h2 := hCge.out; simp only at h1; omega)
        refine wpList_end (postH_normal (hK _ _ _ F0.out ?_))
        clear hK K ho4 hg4 hor hO hgB0 HB0 HBl0 HBt0 hlt hCge
        refine wpAnyH_each (rs := [6]) (by kernel_rfl) (by decide) (fun K hK i hi => ?_)
        obtain rfl := List.mem_singleton.1 hi
        refine wpOp_listed rfl ?_
        go_wp2_with fail
        refine postH_normal (hK _ _ _ F0.out ?_)
        clear hK K
        refine wpAnyH_each (rs := [8]) (by kernel_rfl) (by decide) (fun K hK i hi => ?_)
        obtain rfl := List.mem_singleton.1 hi
        refine wpOp_listed rfl ?_
        refine wpList_row_store rfl 27 _ _ rfl [.int .i64 p.D, .slice p.A p.n p.c, .int .i64 p.G, .slice none 0 0, .slice (some ⟨gB, 0, none⟩) p.n2 cB] rfl rfl XB.out hsz.out rfl (five_one12 _ _ _ _ _ _ _ _ _ _ _) ?_
        intro u17 hw6 ho6
        replace XB : Hid (Blk u17 gX [.int .i64 p.D, .slice p.A p.n p.c, .int .i64 p.G, .slice none 0 0, .slice (some ⟨gB, 0, none⟩) p.n2 cB] 27) := hw6.out
        replace HB := Lib.hid (HB.out.only ho6 hne.out)
        replace F0 : Hid (Below v3.heap.size v3 u17) := F0.out.trans (ho6.below hgX.out)
        refine wpList_end (postH_normal (hK _ _ _ F0.out ?_))
        clear hK K hw6 ho6
        refine wpAnyH_done (by kernel_rfl) ?_ _
        try go_wp2_with fail
        go_meet
        exact ⟨gX, gB, cB, LB, by first | rfl | (go_simp; done), hgX.out, hgB.out, hne.out, XB.out, HB.out, HBl.out, HBt.out, F0.out⟩
    case rest =>
      obtain ⟨g, gC, cC, LB, rfl, hg0, hgC0, hne0, XO0, HL0, HLl0, HLt0, E0⟩ := hcut.out
      have F : Hid (Below v3.heap.size v3 wc) := E0
      have XO := Lib.hid XO0
      have HL := Lib.hid HL0
      have HLl := Lib.hid HLl0
      have HLt := Lib.hid HLt0
      have hg := Lib.hid hg0
      have hgC := Lib.hid hgC0
      have hne := Lib.hid hne0
      clear hcut E0 XO0 HL0 HLl0 HLt0 hg0 hgC0 hne0
      have txl : (x : Int) < (p.n2 : Int) := by omega
      have tyl : (y : Int) < (p.n2 : Int) := by omega
      have tx0 : 0 ≤ (x : Int) := by omega
      have ty0 : 0 ≤ (y : Int) := by omega
      go_upto_region 8 with fail
      refine wp_region_planM [9] [(true, 0), (true, 1), (true, 2), (true, 3), (true, 4), (true, 5), (true, 6), (true, 7), (true, 8), (false, 9)] (by decide) (by kernel_rfl) (by kernel_rfl) (by decide) (by intro c a d v w h; cases d <;> exact h) ?_
      change wpPlanM _ _ _ _ _ _ (World.drew _)
      have hb : Below wc.heap.size wc wc.drew := (Below.refl _ _).drew
      generalize wc.drew = n1d at hb ⊢
      replace XO := Lib.hid (XO.out.below hb XO.out.lt)
      replace HL := Lib.hid (HL.out.below hb HL.out.lt)
      replace F : Hid (Below v3.heap.size v3 n1d) := F.out.trans (hb.mono F.out.size)
      clear hb
      have q1 : ∀ z : ExtOf n1d, z.world.cell? ⟨w.heap.size, 4, none⟩ = some (.slice (some ad) p.n2 p.c2) := fun z => by rw [← hA2H.out]; exact (Blk.below (Blk.below Xp.out F.out Xp.out.lt) z.ext (Blk.below Xp.out F.out Xp.out.lt).lt).cell (j := 4) rfl
      have q2 : ∀ z : ExtOf n1d, z.world.cell? ⟨g, 4, none⟩ = some (.slice (some ⟨gC, 0, none⟩) p.n2 cC) := fun z => (Blk.below XO.out z.ext XO.out.lt).cell (j := 4) rfl
      have q3 : ∀ z : ExtOf n1d, z.world.cell? (ad.add y) = some (.int .i64 cy) := fun z => by
        have hm := (Mp.out.below (F.out.mono Mp.out.le)).below (z.ext.mono (Nat.le_trans hwle.out F.out.size))
        obtain ⟨ad2, e2, _, hc⟩ := hm.look2 hcyH.out
        obtain rfl : ad = ad2 := Option.some.inj (hA2H.out.symm.trans e2)
        exact hc
      iterate 9 (refine wpPlanM_plain rfl (fun K hK => ?_); go_simp; refine hK _ ?_; clear hK K)
      clear q1 q2 q3
      have hfit : Hid (x + (Value.int .i64 cy).cells.size ≤ (LB).length) := by show x + 1 ≤ _; have := HLl.out; omega
      refine wpPlanM_call rfl (fun K hK => ?_)
      refine wpList_blk_store rfl 3 _ _ rfl x (.int .i64 cy) rfl rfl HL.out hii.out hfit.out (one_int _ _) ?_
      intro n1 hw6 ho6
      refine wpList_end (planPostL_normal ⟨.inl (by simp), hK _ _ ?_⟩)
      clear hK K
      replace HL : Hid (Blk n1 gC ((LB).set x (iv cy)) 3) := by
        have h := hw6
        rw [show (Value.int .i64 cy).cells.toList = [iv cy] from rfl, splice_set _ _ _ (show x + 1 ≤ _ from hfit.out)] at h
        exact h
      replace XO := Lib.hid (XO.out.only ho6 hne.out.symm)
      replace F : Hid (Below v3.heap.size v3 n1) := F.out.trans (ho6.below hgC.out)
      clear hw6 ho6 hfit
      refine wpPlanM_nil ?_
      go_upto_region 9 with fail
      refine wp_region_planM [9] [(true, 0), (true, 1), (true, 2), (true, 3), (true, 4), (true, 5), (true, 6), (true, 7), (true, 8), (false, 9)] (by decide) (by kernel_rfl) (by kernel_rfl) (by decide) (by intro c a d v w h; cases d <;> exact h) ?_
      change wpPlanM _ _ _ _ _ _ (World.drew _)
      have hb : Below n1.heap.size n1 n1.drew := (Below.refl _ _).drew
      generalize n1.drew = n2d at hb ⊢
      replace XO := Lib.hid (XO.out.below hb XO.out.lt)
      replace HL := Lib.hid (HL.out.below hb HL.out.lt)
      replace F : Hid (Below v3.heap.size v3 n2d) := F.out.trans (hb.mono F.out.size)
      clear hb
      have q1 : ∀ z : ExtOf n2d, z.world.cell? ⟨w.heap.size, 4, none⟩ = some (.slice (some ad) p.n2 p.c2) := fun z => by rw [← hA2H.out]; exact (Blk.below (Blk.below Xp.out F.out Xp.out.lt) z.ext (Blk.below Xp.out F.out Xp.out.lt).lt).cell (j := 4) rfl
      have q2 : ∀ z : ExtOf n2d, z.world.cell? ⟨g, 4, none⟩ = some (.slice (some ⟨gC, 0, none⟩) p.n2 cC) := fun z => (Blk.below XO.out z.ext XO.out.lt).cell (j := 4) rfl
      have q3 : ∀ z : ExtOf n2d, z.world.cell? (ad.add x) = some (.int .i64 cx) := fun z => by
        have hm := (Mp.out.below (F.out.mono Mp.out.le)).below (z.ext.mono (Nat.le_trans hwle.out F.out.size))
        obtain ⟨ad2, e2, _, hc⟩ := hm.look2 hcxH.out
        obtain rfl : ad = ad2 := Option.some.inj (hA2H.out.symm.trans e2)
        exact hc
      iterate 9 (refine wpPlanM_plain rfl (fun K hK => ?_); go_simp; refine hK _ ?_; clear hK K)
      clear q1 q2 q3
      have hfit : Hid (y + (Value.int .i64 cx).cells.size ≤ ((LB).set x (iv cy)).length) := by show y + 1 ≤ _; have := HLl.out; rw [List.length_set]; omega
      refine wpPlanM_call rfl (fun K hK => ?_)
      refine wpList_blk_store rfl 3 _ _ rfl y (.int .i64 cx) rfl rfl HL.out hii.out hfit.out (one_int _ _) ?_
      intro n2 hw6 ho6
      refine wpList_end (planPostL_normal ⟨.inl (by simp), hK _ _ ?_⟩)
      clear hK K
      replace HL : Hid (Blk n2 gC (((LB).set x (iv cy)).set y (iv cx)) 3) := by
        have h := hw6
        rw [show (Value.int .i64 cx).cells.toList = [iv cx] from rfl, splice_set _ _ _ (show y + 1 ≤ _ from hfit.out)] at h
        exact h
      replace XO := Lib.hid (XO.out.only ho6 hne.out.symm)
      replace F : Hid (Below v3.heap.size v3 n2) := F.out.trans (ho6.below hgC.out)
      clear hw6 ho6 hfit
      refine wpPlanM_nil ?_
      have HCh : Hid ((((LB).set x (iv cy)).set y (iv cx)).take p.n2 = ((p.ch.set x cy).set y cx).map iv) := take_set12 (take_set12 HLt.out)
      go_upto_region 10 with fail
      have hneC : Hid (gC ≠ g) := hne.out
      clear hne
      have hn24 : p.n1 ≤ 24 := by rw [hn1.out]; exact OK.out.l24
      obtain ⟨bo, hbo⟩ : ∃ b, b = n2.heap.size := ⟨_, rfl⟩
      have hbg : Hid (g < bo) := by show _ < _; rw [hbo]; exact XO.out.lt
      have hbC : Hid (gC < bo) := by show _ < _; rw [hbo]; exact HL.out.lt
      have hb6 : Hid (v3.heap.size ≤ bo) := by show _ ≤ _; rw [hbo]; exact F.out.size
      have hO0 : Hid (n2.ownsRow bo 3 1 (.slice none 0 0) 0 ((p.al.take 0).map fun d => iv (tau x y d))) := World.ownsRow_nil n2 bo 3 1
      have hbs : Hid (bo ≤ n2.heap.size) := Nat.le_of_eq hbo
      clear hbo
      go_wp2_with fail
      generalize hLB2 : ((LB).set x (iv cy)).set y (iv cx) = LB2 at *
      clear hLB2 HLl HLt txl tyl tx0 ty0
      go_loopw [12] (fun i wr => ∃ (k : Nat) (Av : Option Addr) (cv : Nat), k ≤ p.n1 ∧ i = .int .i64 k ∧ Hid (Blk wr g [.int .i64 p.D, .slice p.A p.n p.c, .int .i64 p.G, .slice Av k cv, .slice (some ⟨gC, 0, none⟩) p.n2 cC] 27) ∧ Hid (wr.ownsRow bo 3 1 (.slice Av k cv) k ((p.al.take k).map fun d => iv (tau x y d))) ∧ Hid (Blk wr gC LB2 3) ∧ Hid (Below v3.heap.size v3 wr) ∧ Hid (bo ≤ wr.heap.size)) (fun i _ => p.n1 - (intOf i).toNat)
      case atStart => exact ⟨0, none, 0, Nat.zero_le _, rfl, XO, hO0, HL, F, hbs⟩
      case round =>
        clear XO HL F hO0 hbs
        obtain ⟨k, Av, cv, hk, rfl, XO, OA, HL, F, hbs⟩ := hrel
        have Xp' := Lib.hid (Xp.out.below F.out Xp.out.lt)
        have Mp' := Lib.hid (Mp.out.below (F.out.mono Mp.out.le))
        by_cases hlt : k < p.n1
        · have t : (k : Int) < (p.n1 : Int) := by omega
          have t0 : 0 ≤ (k : Int) := by omega
          obtain ⟨d, hd⟩ : ∃ d, p.al[k]? = some d := ⟨_, List.getElem?_eq_getElem (by rw [← hn1.out]; exact hlt)⟩
          obtain ⟨ad1, hA1, _h1, hcd⟩ := Mp'.out.look1 hd
          clear _h1
          have hA1H := Lib.hid hA1
          have p3 := Xp'.out.cell (j := 3) rfl
          rw [hA1] at p3
          clear hA1
          have hk24 : Hid (k ≤ 1000000) := by show k ≤ _; have h1 := OK.out.l24; have h2 := hn1.out; omega
          have hnx : Hid (((p.al.take k).map fun d => iv (tau x y d)) ++ [iv (tau x y d)] = (p.al.take (k + 1)).map fun d => iv (tau x y d)) := by show _ = _; rw [List.take_add_one, hd, List.map_append]; rfl
          clear hd
          have o3 := XO.out.cell (j := 3) rfl
          obtain ⟨td, htd⟩ : ∃ v, v = tau x y d := ⟨_, rfl⟩
          rw [← htd] at hnx
          by_cases e1 : d = (x : Int)
          · obtain rfl : td = (y : Int) := by rw [htd]; unfold tau; rw [if_pos e1]
            have te1 : (d == (x : Int)) = true := by simp [e1]
            clear htd e1
            go_upto_region 18 with fail
            clear p3 hcd
            go_upto_region 12 with (first | (at_builtin; go_must (refine push_i12 rfl _ _ rfl bo (.slice Av k cv) k _ (y : Int) rfl rfl OA.out hk24.out hbs.out ?_); intro v' w6x ho6 hg6; obtain ⟨A6, c6, rfl, _, _, _, _⟩ := own_form ho6; have hneg : ∀ g', g' < bo → (Value.slice Av k cv).ownBlock ≠ some g' := fun g' hg' h => (by have := (OA.out.lt _ h).1; omega); have Xa6 := Lib.hid (XO.out.grown12 hg6 (hneg _ hbg.out))) | (refine wpList_blk_store rfl 25 _ _ rfl 3 (.slice A6 (k + 1) c6) rfl rfl Xa6.out hints.out (by simp [Value.cells]) (slice_one12 _ _ _) ?_; intro w7 hw7 ho7))
            have Xa7 : Hid (Blk w7 g [.int .i64 p.D, .slice p.A p.n p.c, .int .i64 p.G, .slice A6 (k + 1) c6, .slice (some ⟨gC, 0, none⟩) p.n2 cC] 27) := hw7
            have HL7 := Lib.hid ((HL.out.grown12 hg6 (hneg _ hbC.out)).only ho7 hneC.out)
            have F7 : Hid (Below v3.heap.size v3 w7) := (F.out.grown hg6 F.out.size (fun g' hg' => by have h1 := (OA.out.lt _ hg').1; have h2 := hb6.out; omega)).trans (ho7.below hg.out)
            have O7 : Hid (w7.ownsRow bo 3 1 (.slice A6 (k + 1) c6) (k + 1) ((p.al.take (k + 1)).map fun d => iv (tau x y d))) := by
              show World.ownsRow _ _ _ _ _ _ _
              rw [← hnx.out]
              exact own_only12 ho6 ho7 hbg.out
            have S7 : Hid (bo ≤ w7.heap.size) := by show bo ≤ _; have h1 := ho7.size; have h2 := hg6.size; have h3 := hbs.out; omega
            clear hw7 ho7 ho6 hg6 Xa6 hneg XO HL F OA hbs o3
            go_wp2_with fail
            go_roundw
            case rel => exact ⟨k + 1, A6, c6, by omega, by go_num, Xa7, O7, HL7, F7, S7⟩
            case measure => simp [intOf]; omega
          have te1 : (d == (x : Int)) = false := by simpa using e1
          by_cases e2 : d = (y : Int)
          · obtain rfl : td = (x : Int) := by rw [htd]; unfold tau; rw [if_neg e1, if_pos e2]
            have te2 : (d == (y : Int)) = true := by simp [e2]
            clear htd e1 e2
            go_upto_region 18 with fail
            clear p3 hcd
            go_upto_region 12 with (first | (at_builtin; go_must (refine push_i12 rfl _ _ rfl bo (.slice Av k cv) k _ (x : Int) rfl rfl OA.out hk24.out hbs.out ?_); intro v' w6x ho6 hg6; obtain ⟨A6, c6, rfl, _, _, _, _⟩ := own_form ho6; have hneg : ∀ g', g' < bo → (Value.slice Av k cv).ownBlock ≠ some g' := fun g' hg' h => (by have := (OA.out.lt _ h).1; omega); have Xa6 := Lib.hid (XO.out.grown12 hg6 (hneg _ hbg.out))) | (refine wpList_blk_store rfl 25 _ _ rfl 3 (.slice A6 (k + 1) c6) rfl rfl Xa6.out hints.out (by simp [Value.cells]) (slice_one12 _ _ _) ?_; intro w7 hw7 ho7))
            have Xa7 : Hid (Blk w7 g [.int .i64 p.D, .slice p.A p.n p.c, .int .i64 p.G, .slice A6 (k + 1) c6, .slice (some ⟨gC, 0, none⟩) p.n2 cC] 27) := hw7
            have HL7 := Lib.hid ((HL.out.grown12 hg6 (hneg _ hbC.out)).only ho7 hneC.out)
            have F7 : Hid (Below v3.heap.size v3 w7) := (F.out.grown hg6 F.out.size (fun g' hg' => by have h1 := (OA.out.lt _ hg').1; have h2 := hb6.out; omega)).trans (ho7.below hg.out)
            have O7 : Hid (w7.ownsRow bo 3 1 (.slice A6 (k + 1) c6) (k + 1) ((p.al.take (k + 1)).map fun d => iv (tau x y d))) := by
              show World.ownsRow _ _ _ _ _ _ _
              rw [← hnx.out]
              exact own_only12 ho6 ho7 hbg.out
            have S7 : Hid (bo ≤ w7.heap.size) := by show bo ≤ _; have h1 := ho7.size; have h2 := hg6.size; have h3 := hbs.out; omega
            clear hw7 ho7 ho6 hg6 Xa6 hneg XO HL F OA hbs o3
            go_wp2_with fail
            go_roundw
            case rel => exact ⟨k + 1, A6, c6, by omega, by go_num, Xa7, O7, HL7, F7, S7⟩
            case measure => simp [intOf]; omega
          have te2 : (d == (y : Int)) = false := by simpa using e2
          obtain rfl : td = d := by rw [htd]; unfold tau; rw [if_neg e1, if_neg e2]
          clear htd e1 e2
          go_upto_region 18 with fail
          clear p3 hcd
          go_upto_region 12 with (first | (at_builtin; go_must (refine push_i12 rfl _ _ rfl bo (.slice Av k cv) k _ td rfl rfl OA.out hk24.out hbs.out ?_); intro v' w6x ho6 hg6; obtain ⟨A6, c6, rfl, _, _, _, _⟩ := own_form ho6; have hneg : ∀ g', g' < bo → (Value.slice Av k cv).ownBlock ≠ some g' := fun g' hg' h => (by have := (OA.out.lt _ h).1; omega); have Xa6 := Lib.hid (XO.out.grown12 hg6 (hneg _ hbg.out))) | (refine wpList_blk_store rfl 25 _ _ rfl 3 (.slice A6 (k + 1) c6) rfl rfl Xa6.out hints.out (by simp [Value.cells]) (slice_one12 _ _ _) ?_; intro w7 hw7 ho7))
          have Xa7 : Hid (Blk w7 g [.int .i64 p.D, .slice p.A p.n p.c, .int .i64 p.G, .slice A6 (k + 1) c6, .slice (some ⟨gC, 0, none⟩) p.n2 cC] 27) := hw7
          have HL7 := Lib.hid ((HL.out.grown12 hg6 (hneg _ hbC.out)).only ho7 hneC.out)
          have F7 : Hid (Below v3.heap.size v3 w7) := (F.out.grown hg6 F.out.size (fun g' hg' => by have h1 := (OA.out.lt _ hg').1; have h2 := hb6.out; omega)).trans (ho7.below hg.out)
          have O7 : Hid (w7.ownsRow bo 3 1 (.slice A6 (k + 1) c6) (k + 1) ((p.al.take (k + 1)).map fun d => iv (tau x y d))) := by
            show World.ownsRow _ _ _ _ _ _ _
            rw [← hnx.out]
            exact own_only12 ho6 ho7 hbg.out
          have S7 : Hid (bo ≤ w7.heap.size) := by show bo ≤ _; have h1 := ho7.size; have h2 := hg6.size; have h3 := hbs.out; omega
          clear hw7 ho7 ho6 hg6 Xa6 hneg XO HL F OA hbs o3
          go_wp2_with fail
          go_roundw
          case rel => exact ⟨k + 1, A6, c6, by omega, by go_num, Xa7, O7, HL7, F7, S7⟩
          case measure => simp [intOf]; omega
        · have t : ¬ (k : Int) < (p.n1 : Int) := by omega
          obtain rfl : k = p.n1 := by omega
          have hwM : Hid (w.heap.size ≤ wr.heap.size) := Nat.le_trans hwle.out F.out.size
          replace Xp := Lib.hid Xp'.out
          replace Mp := Lib.hid Mp'.out
          replace Xq := Lib.hid (Xq.out.below F.out Xq.out.lt)
          replace Mq := Lib.hid (Mq.out.below (F.out.mono Mq.out.le))
          replace E : Hid (Below w.heap.size w wr) := E.out.trans (F.out.mono E.out.size)
          clear T Xp' Mp' hlt hk
          have T := Lib.hid (hT.out.on E.out)
          have htk : (p.al.take p.n1).map (fun d => iv (tau x y d)) = (p.al.map (tau x y)).map iv := by rw [List.take_of_length_le (Nat.le_of_eq hn1.out.symm), List.map_map]; rfl
          obtain ⟨o, ho⟩ : ∃ o : Prl, o = ⟨p.D, p.A, p.n, p.c, p.G, p.Gs, Av, p.n1, cv, p.al.map (tau x y), some ⟨gC, 0, none⟩, p.n2, cC, (p.ch.set x cy).set y cx⟩ := ⟨_, rfl⟩
          have Vo : Hid (prv o = .agg #[.int .i64 p.D, .slice p.A p.n p.c, .int .i64 p.G, .slice Av p.n1 cv, .slice (some ⟨gC, 0, none⟩) p.n2 cC]) := by show prv o = _; rw [ho]; rfl
          have No : Hid (NamP p o x y) := by
            show NamP p o x y
            rw [ho]
            exact ⟨rfl, rfl, rfl, rfl, cx, cy, hcxH.out, hcyH.out, rfl⟩
          have MO : Hid (PerM wr wr.heap.size o) := by
            show PerM _ _ o
            rw [ho]
            have m := Mp.out.more hwM.out (Nat.le_refl _)
            have hr := (own_rdsi12 OA.out).2
            rw [htk] at hr
            have hc := HL.out.rds 0 p.n2
            rw [List.drop_zero, HCh.out] at hc
            exact ⟨m.cod, hr, (by show p.n1 = _; rw [List.length_map]; exact hn1.out), m.s1, hc, (by show p.n2 = _; rw [List.length_set, List.length_set]; exact hn2.out), m.s2⟩
          have OKo := Lib.hid (No.out.ok OK.out)
          clear htk ho OA HL HCh hbs F t
          obtain ⟨L, hL⟩ : ∃ L : Int, L = lsum p (2 ^ p.ch.length) := ⟨_, rfl⟩
          obtain ⟨la, hla⟩ : ∃ n : Nat, n = lstV p := ⟨_, rfl⟩
          obtain ⟨lb, hlb⟩ : ∃ n : Nat, n = lstV o := ⟨_, rfl⟩
          obtain ⟨cn, hcn⟩ : ∃ n : Nat, n = cnt7 (lstV p) := ⟨_, rfl⟩
          obtain ⟨K2, hK2⟩ : ∃ K : Int, K = if cmpE q p = 0 then cmpI (scl q) (scl p) else 0 := ⟨_, rfl⟩
          obtain ⟨Ce, hCe⟩ : ∃ K : Int, K = cmpE p q := ⟨_, rfl⟩
          have hKr : -1 ≤ K2 ∧ K2 ≤ 1 := by
            rw [hK2]
            unfold cmpI
            repeat' split
            all_goals omega
          have hKn : IntKind.i64.wrap (-K2) = -K2 := by rw [IntKind.wrap_i64]; omega
          have f512 : 2 ^ p.ch.length ≤ 512 := Nat.pow_le_pow_right (by omega) h9H.out
          have CLp : Hid (∀ W B, PerM W B p → PTab 2 W → Calls Tryd.prog 14 #[prv p] W fun e w' => e = .returned (.tuple #[.int .i64 L, .int .i64 0]) ∧ Below W.heap.size W w') := fun W B mp t => by
            have h := rLoss_any p W mp t
            rw [hz.out, if_pos rfl, ← hL] at h
            exact h
          have CLo : Hid (∀ W B, PerM W B o → PTab 2 W → Calls Tryd.prog 14 #[prv o] W fun e w' => e = .returned (.tuple #[.int .i64 L, .int .i64 0]) ∧ Below W.heap.size W w') := fun W B mo t => by
            have h := rLoss_any o W mo t
            rw [chkP_ok.2 OKo.out, if_pos rfl, No.out.sum OK.out, ← hL] at h
            exact h
          have CEp : Hid (∀ W B, PerM W B p → PTab 2 W → Calls Tryd.prog 15 #[prv p] W fun e w' => e = .returned (.tuple #[.int .i64 (la : Int), .int .i64 0]) ∧ Below W.heap.size W w') := fun W B mp t => by
            have h := rLeast_any p W mp t
            rw [hz.out, if_pos rfl, ← hla] at h
            exact h
          have CEo : Hid (∀ W B, PerM W B o → PTab 2 W → Calls Tryd.prog 15 #[prv o] W fun e w' => e = .returned (.tuple #[.int .i64 (lb : Int), .int .i64 0]) ∧ Below W.heap.size W w') := fun W B mo t => by
            have h := rLeast_any o W mo t
            rw [chkP_ok.2 OKo.out, if_pos rfl, ← hlb] at h
            exact h
          have CCo : Hid (∀ W B, PerM W B p → PerM W B o → PTab 2 W → Calls Tryd.prog 16 #[prv p, prv o] W fun e w' => e = .returned (.tuple #[.int .i64 0, .int .i64 0]) ∧ Below W.heap.size W w') := fun W B mp mo t => by
            have h := rCompare_any p o W mp mo t
            rw [(cmp_same No.out OK.out).2, (cmp_same No.out OK.out).1] at h
            exact h
          have CC1 : Hid (∀ W B, PerM W B p → PerM W B q → PTab 2 W → Calls Tryd.prog 16 #[prv p, prv q] W fun e w' => e = .returned (.tuple #[.int .i64 (-K2), .int .i64 Ce]) ∧ Below W.heap.size W w') := fun W B mp mq t => by
            have h := rCompare_any p q W mp mq t
            rw [(cmp_turned (q := q) hz.out).2, ← hK2, ← hCe] at h
            exact h
          have CC2 : Hid (∀ W B, PerM W B q → PerM W B p → PTab 2 W → Calls Tryd.prog 16 #[prv q, prv p] W fun e w' => e = .returned (.tuple #[.int .i64 K2, .int .i64 Ce]) ∧ Below W.heap.size W w') := fun W B mq mp t => by
            have h := rCompare_any q p W mq mp t
            rw [← hK2, (cmp_turned (q := q) hz.out).1, ← hCe] at h
            exact h
          have CN1 : Hid (∀ W, Calls Tryd.prog 27 #[.int .i64 (la : Int)] W fun e w' => e = .returned (.int .i64 (cn : Int)) ∧ w' = W) := fun W => by
            have h := count12_any la W (by have := (lst_facts OK.out).2.1; omega)
            rw [hla, ← hcn, ← hla] at h
            exact h
          have CN2 : Hid (∀ W, Calls Tryd.prog 27 #[.int .i64 (lb : Int)] W fun e w' => e = .returned (.int .i64 (cn : Int)) ∧ w' = W) := fun W => by
            have h := count12_any lb W (by have := (lst_facts OKo.out).2.1; rw [No.out.len] at this; omega)
            rw [hlb, No.out.lst OK.out, ← hcn, ← hlb] at h
            exact h
          clear hL hla hlb hcn hK2 hCe f512 No OKo
          have p3 := Xp.out.cell (j := 3) rfl
          have tz : ¬ (p.n1 : Int) < (p.n1 : Int) := Int.lt_irrefl _
          go_upto_region 19 with fail
          clear p3 tz
          go_wp2_with (first | (refine wpList_blk_load rfl 27 _ rfl 0 rfl Xp.out [_, _, _, _, _] rfl _ hun.out rfl hsz.out ?_) | (refine wpList_blk_load rfl 27 _ rfl 0 rfl Xq.out [_, _, _, _, _] rfl _ hun.out rfl hsz.out ?_) | (refine wpList_blk_load rfl 27 _ rfl 0 rfl XO.out [_, _, _, _, _] rfl _ hun.out rfl hsz.out ?_) | fail)
          have C := CLp.out _ _ Mp.out T.out
          rw [prv_eq12] at C
          refine C.mono ?_
          rintro e v4 ⟨rfl, hb⟩
          clear C T
          replace E : Hid (Below w.heap.size w v4) := E.out.trans (hb.mono E.out.size)
          have T := Lib.hid (hT.out.on E.out)
          replace Mp := Lib.hid (Mp.out.keep hb)
          replace Mq := Lib.hid (Mq.out.keep hb)
          replace MO := Lib.hid (MO.out.keep hb)
          replace Xp := Lib.hid (Xp.out.below hb Xp.out.lt)
          replace Xq := Lib.hid (Xq.out.below hb Xq.out.lt)
          replace XO := Lib.hid (XO.out.below hb XO.out.lt)
          clear hb
          go_wp2_with (first | (refine wpList_blk_load rfl 27 _ rfl 0 rfl Xp.out [_, _, _, _, _] rfl _ hun.out rfl hsz.out ?_) | (refine wpList_blk_load rfl 27 _ rfl 0 rfl Xq.out [_, _, _, _, _] rfl _ hun.out rfl hsz.out ?_) | (refine wpList_blk_load rfl 27 _ rfl 0 rfl XO.out [_, _, _, _, _] rfl _ hun.out rfl hsz.out ?_) | fail)
          have C := CLo.out _ _ MO.out T.out
          rw [Vo.out] at C
          refine C.mono ?_
          rintro e v5 ⟨rfl, hb⟩
          clear C T
          replace E : Hid (Below w.heap.size w v5) := E.out.trans (hb.mono E.out.size)
          have T := Lib.hid (hT.out.on E.out)
          replace Mp := Lib.hid (Mp.out.keep hb)
          replace Mq := Lib.hid (Mq.out.keep hb)
          replace MO := Lib.hid (MO.out.keep hb)
          replace Xp := Lib.hid (Xp.out.below hb Xp.out.lt)
          replace Xq := Lib.hid (Xq.out.below hb Xq.out.lt)
          replace XO := Lib.hid (XO.out.below hb XO.out.lt)
          clear hb
          go_wp2_with (first | (refine wpList_blk_load rfl 27 _ rfl 0 rfl Xp.out [_, _, _, _, _] rfl _ hun.out rfl hsz.out ?_) | (refine wpList_blk_load rfl 27 _ rfl 0 rfl Xq.out [_, _, _, _, _] rfl _ hun.out rfl hsz.out ?_) | (refine wpList_blk_load rfl 27 _ rfl 0 rfl XO.out [_, _, _, _, _] rfl _ hun.out rfl hsz.out ?_) | fail)
          have C := CEp.out _ _ Mp.out T.out
          rw [prv_eq12] at C
          refine C.mono ?_
          rintro e v6 ⟨rfl, hb⟩
          clear C T
          replace E : Hid (Below w.heap.size w v6) := E.out.trans (hb.mono E.out.size)
          have T := Lib.hid (hT.out.on E.out)
          replace Mp := Lib.hid (Mp.out.keep hb)
          replace Mq := Lib.hid (Mq.out.keep hb)
          replace MO := Lib.hid (MO.out.keep hb)
          replace Xp := Lib.hid (Xp.out.below hb Xp.out.lt)
          replace Xq := Lib.hid (Xq.out.below hb Xq.out.lt)
          replace XO := Lib.hid (XO.out.below hb XO.out.lt)
          clear hb
          go_wp2_with (first | (refine wpList_blk_load rfl 27 _ rfl 0 rfl Xp.out [_, _, _, _, _] rfl _ hun.out rfl hsz.out ?_) | (refine wpList_blk_load rfl 27 _ rfl 0 rfl Xq.out [_, _, _, _, _] rfl _ hun.out rfl hsz.out ?_) | (refine wpList_blk_load rfl 27 _ rfl 0 rfl XO.out [_, _, _, _, _] rfl _ hun.out rfl hsz.out ?_) | fail)
          have C := CEo.out _ _ MO.out T.out
          rw [Vo.out] at C
          refine C.mono ?_
          rintro e v7 ⟨rfl, hb⟩
          clear C T
          replace E : Hid (Below w.heap.size w v7) := E.out.trans (hb.mono E.out.size)
          have T := Lib.hid (hT.out.on E.out)
          replace Mp := Lib.hid (Mp.out.keep hb)
          replace Mq := Lib.hid (Mq.out.keep hb)
          replace MO := Lib.hid (MO.out.keep hb)
          replace Xp := Lib.hid (Xp.out.below hb Xp.out.lt)
          replace Xq := Lib.hid (Xq.out.below hb Xq.out.lt)
          replace XO := Lib.hid (XO.out.below hb XO.out.lt)
          clear hb
          go_wp2_with (first | (refine wpList_blk_load rfl 27 _ rfl 0 rfl Xp.out [_, _, _, _, _] rfl _ hun.out rfl hsz.out ?_) | (refine wpList_blk_load rfl 27 _ rfl 0 rfl Xq.out [_, _, _, _, _] rfl _ hun.out rfl hsz.out ?_) | (refine wpList_blk_load rfl 27 _ rfl 0 rfl XO.out [_, _, _, _, _] rfl _ hun.out rfl hsz.out ?_) | fail)
          have C := CCo.out _ _ (Mp.out.more hwM.out MO.out.le) MO.out T.out
          rw [Vo.out] at C
          rw [prv_eq12] at C
          refine C.mono ?_
          rintro e v8 ⟨rfl, hb⟩
          clear C T
          replace E : Hid (Below w.heap.size w v8) := E.out.trans (hb.mono E.out.size)
          have T := Lib.hid (hT.out.on E.out)
          replace Mp := Lib.hid (Mp.out.keep hb)
          replace Mq := Lib.hid (Mq.out.keep hb)
          replace MO := Lib.hid (MO.out.keep hb)
          replace Xp := Lib.hid (Xp.out.below hb Xp.out.lt)
          replace Xq := Lib.hid (Xq.out.below hb Xq.out.lt)
          replace XO := Lib.hid (XO.out.below hb XO.out.lt)
          clear hb
          clear CLp CLo CEp CEo CCo
          go_wp2_with fail
          refine (CN1.out _).mono ?_
          rintro e wz ⟨rfl, rfl⟩
          go_wp2_with fail
          refine (CN2.out _).mono ?_
          rintro e wy ⟨rfl, rfl⟩
          clear CN1 CN2
          go_wp2_with (first | (refine wpList_blk_load rfl 27 _ rfl 0 rfl Xp.out [_, _, _, _, _] rfl _ hun.out rfl hsz.out ?_) | (refine wpList_blk_load rfl 27 _ rfl 0 rfl Xq.out [_, _, _, _, _] rfl _ hun.out rfl hsz.out ?_) | (refine wpList_blk_load rfl 27 _ rfl 0 rfl XO.out [_, _, _, _, _] rfl _ hun.out rfl hsz.out ?_) | fail)
          have C := CC1.out _ _ Mp.out Mq.out T.out
          rw [prv_eq12] at C
          rw [prv_eq12] at C
          refine C.mono ?_
          rintro e v9 ⟨rfl, hb⟩
          clear C T
          replace E : Hid (Below w.heap.size w v9) := E.out.trans (hb.mono E.out.size)
          have T := Lib.hid (hT.out.on E.out)
          replace Mp := Lib.hid (Mp.out.keep hb)
          replace Mq := Lib.hid (Mq.out.keep hb)
          replace MO := Lib.hid (MO.out.keep hb)
          replace Xp := Lib.hid (Xp.out.below hb Xp.out.lt)
          replace Xq := Lib.hid (Xq.out.below hb Xq.out.lt)
          replace XO := Lib.hid (XO.out.below hb XO.out.lt)
          clear hb
          go_wp2_with (first | (refine wpList_blk_load rfl 27 _ rfl 0 rfl Xp.out [_, _, _, _, _] rfl _ hun.out rfl hsz.out ?_) | (refine wpList_blk_load rfl 27 _ rfl 0 rfl Xq.out [_, _, _, _, _] rfl _ hun.out rfl hsz.out ?_) | (refine wpList_blk_load rfl 27 _ rfl 0 rfl XO.out [_, _, _, _, _] rfl _ hun.out rfl hsz.out ?_) | fail)
          have C := CC2.out _ _ Mq.out Mp.out T.out
          rw [prv_eq12] at C
          rw [prv_eq12] at C
          refine C.mono ?_
          rintro e v10 ⟨rfl, hb⟩
          clear C T
          replace E : Hid (Below w.heap.size w v10) := E.out.trans (hb.mono E.out.size)
          have T := Lib.hid (hT.out.on E.out)
          replace Mp := Lib.hid (Mp.out.keep hb)
          replace Mq := Lib.hid (Mq.out.keep hb)
          replace MO := Lib.hid (MO.out.keep hb)
          replace Xp := Lib.hid (Xp.out.below hb Xp.out.lt)
          replace Xq := Lib.hid (Xq.out.below hb Xq.out.lt)
          replace XO := Lib.hid (XO.out.below hb XO.out.lt)
          clear hb
          go_wp2_with (first | (refine wpList_blk_load rfl 27 _ rfl 0 rfl Xp.out [_, _, _, _, _] rfl _ hun.out rfl hsz.out ?_) | (refine wpList_blk_load rfl 27 _ rfl 0 rfl Xq.out [_, _, _, _, _] rfl _ hun.out rfl hsz.out ?_) | (refine wpList_blk_load rfl 27 _ rfl 0 rfl XO.out [_, _, _, _, _] rfl _ hun.out rfl hsz.out ?_) | fail)
          have C := sanity_any12 v10 T.out
          refine C.mono ?_
          rintro e v11 ⟨rfl, hb⟩
          clear C T
          replace E : Hid (Below w.heap.size w v11) := E.out.trans (hb.mono E.out.size)
          have T := Lib.hid (hT.out.on E.out)
          replace Mp := Lib.hid (Mp.out.keep hb)
          replace Mq := Lib.hid (Mq.out.keep hb)
          replace MO := Lib.hid (MO.out.keep hb)
          replace Xp := Lib.hid (Xp.out.below hb Xp.out.lt)
          replace Xq := Lib.hid (Xq.out.below hb Xq.out.lt)
          replace XO := Lib.hid (XO.out.below hb XO.out.lt)
          clear hb
          go_wp2_with fail
          go_ret
          exact ⟨by first | rfl | (go_simp; done), E.out⟩
end Go.Proofs.YtgajlgnniidgmaaDoor
