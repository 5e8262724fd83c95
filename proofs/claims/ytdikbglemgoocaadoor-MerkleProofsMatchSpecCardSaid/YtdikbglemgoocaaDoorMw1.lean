/-
  MerkleProofsMatchSpec: the walk. (Written by tools/genm1.py.)
-/
import Derived.Test.YtdikbglemgoocaaDoorSn3
import Derived.Test.YtdikbglemgoocaaDoorOmk
namespace Go.Proofs.YtdikbglemgoocaaDoor
set_option linter.unusedVariables false
set_option linter.unusedSimpArgs false
open Go.RowKit


section
variable {W : World} {A : Option Addr} {n c : Nat} {L : List (List UInt8)}
theorem pe_v {P : List (List UInt8)} {E : Int} {e : Ending} {w' : World} (hd : D16 P) (h : PathEnd P E W e w') : ∃ A n c, e = .returned (.agg #[.slice A n c, .int .i64 E]) ∧ DV w' A n c P ∧ Below W.heap.size W w' := by
  obtain ⟨A, c, h1, h2, h3⟩ := h
  exact ⟨A, P.length, c, h1, DV.of h2 hd, h3⟩
theorem rincl_v (h : DV W A n c L) (hl : n ≤ 1000000) (ht : Tbs W) (i : Int) (Q : List (List UInt8)) (E : Int) (hQ : Q = inQ L i) (hE : E = inE L i) : Calls Tryd.prog 12 #[.slice A n c, .int .i64 i] W fun e w' => ∃ A n c, e = .returned (.agg #[.slice A n c, .int .i64 E]) ∧ DV w' A n c Q ∧ Below W.heap.size W w' := by
  have hd := inQ_d16 h.d16 i
  obtain ⟨rfl, h1, h2, h3, h4, h5⟩ := h
  subst hQ hE
  unfold inQ inE at *
  by_cases hi : 0 ≤ i ∧ i < L.length
  · rw [if_pos hi] at hd ⊢
    rw [if_pos hi]
    obtain ⟨k, rfl⟩ := Int.eq_ofNat_of_zero_le hi.1
    exact (refInclusion_ok L A c k W (by omega) h5 h2 h3 hl h1 ht.k).mono fun e w' h => pe_v hd h
  · rw [if_neg hi, if_neg hi]
    exact (refInclusion_no L.length c A i W (by omega)).mono fun e w' h => pe_v d16_nil h
theorem rcons_v (h : DV W A n c L) (hl : n ≤ 1000000) (ht : Tbs W) (m : Int) (Q : List (List UInt8)) (E : Int) (hQ : Q = csQ L m) (hE : E = csE L m) : Calls Tryd.prog 13 #[.slice A n c, .int .i64 m] W fun e w' => ∃ A n c, e = .returned (.agg #[.slice A n c, .int .i64 E]) ∧ DV w' A n c Q ∧ Below W.heap.size W w' := by
  have hd := csQ_d16 h.d16 m
  obtain ⟨rfl, h1, h2, h3, h4, h5⟩ := h
  subst hQ hE
  unfold csQ csE at *
  by_cases h0 : m = 0
  · subst h0
    rw [if_neg (show ¬ (1 ≤ (0 : Int) ∧ (0 : Int) ≤ L.length) by omega), if_pos (show 0 ≤ (0 : Int) ∧ (0 : Int) ≤ L.length by omega)]
    exact (refConsistency_end L.length c 0 A W (.inl rfl)).mono fun e w' h => pe_v d16_nil h
  by_cases hi : 1 ≤ m ∧ m ≤ L.length
  · rw [if_pos hi] at hd ⊢
    rw [if_pos (by omega)]
    obtain ⟨k, rfl⟩ := Int.eq_ofNat_of_zero_le (show 0 ≤ m by omega)
    by_cases hk : k = L.length
    · have hc : cs L (Int.toNat (Int.ofNat k)) true = [] := Mk.cons_all nd emp hk true
      have hc' : cs L ((k : Int).toNat) true = [] := hc
      rw [hc']
      exact (refConsistency_end L.length c k A W (.inr hk)).mono fun e w' h => pe_v d16_nil h
    · exact (refConsistency_ok L A c k W (by omega) (by omega) h5 h2 h3 hl h1 ht.k).mono fun e w' h => pe_v hd h
  · rw [if_neg hi, if_neg (by omega)]
    exact (refConsistency_no L.length c A m W (by omega)).mono fun e w' h => pe_v d16_nil h
end

set_option maxRecDepth 100000 in
set_option maxHeartbeats 8000000 in
theorem walk_proofs (A0 : Option Addr) (c0 : Nat) (L : List (List UInt8)) (i m : Int) (s : List UInt8) (w : World) (H0 : SlA 16 w A0 L.length c0 L) (hi : -9223372036854775808 ≤ i ∧ i ≤ 9223372036854775807) (hm : -9223372036854775808 ≤ m ∧ m ≤ 9223372036854775807) (hs : s.length ≤ 140737488351232) (ht : Tbs w) :
    Calls Tryd.prog 3 #[.slice A0 L.length c0, .int .i64 i, .int .i64 m, sv s] w fun e w' => e = .returned (.bool true) ∧ Below w.heap.size w w' := by
  have R0 := Lib.hid (slA_dv H0)
  have hr0 := H0.reach
  have SA := Lib.hid (fun W (h : Tbs W) => sanity_any3 W h)
  have E : Hid (Below w.heap.size w w) := Below.refl _ _
  have T : Hid (Tbs w) := ht
  have hsz : (bs s).size = s.length := by simp [bs, ByteArray.size]
  obtain ⟨n0, hn0⟩ : ∃ n, n = L.length := ⟨_, rfl⟩
  rw [← hn0] at R0 hr0 ⊢
  obtain ⟨ns, hns⟩ : ∃ n, n = s.length := ⟨_, rfl⟩
  rw [← hns] at hsz hs
  by_cases hb0 : 40 < n0
  · have t0 : (40 : Int) < (n0 : Int) := by omega
    have S0 := Lib.hid hsz
    unfold sv
    generalize bs s = sb at S0 ⊢
    clear hb0 H0 ht hn0 hns hs hsz
    go_enter Tryd.func3, Tryd.ntmps3
    go_wp2_with fail
    refine (SA.out _ T.out).mono ?_
    rintro e v1 ⟨rfl, hb⟩
    replace E := Lib.hid (E.out.trans (hb.mono E.out.size))
    replace T := Lib.hid (T.out.keep hb)
    clear hb
    go_wp2_with fail
    go_ret
    exact ⟨by first | rfl | (go_simp; done), E.out⟩
  by_cases hb1 : 200 < ns
  · have t0 : ¬ (40 : Int) < (n0 : Int) := by omega
    unfold sv
    generalize bs s = sb at hsz ⊢
    have t1 : (200 : Int) < (sb.size : Int) := by omega
    clear hb0 hb1 H0 ht hn0 hns hs hsz
    go_enter Tryd.func3, Tryd.ntmps3
    go_wp2_with fail
    refine (SA.out _ T.out).mono ?_
    rintro e v1 ⟨rfl, hb⟩
    replace E := Lib.hid (E.out.trans (hb.mono E.out.size))
    replace T := Lib.hid (T.out.keep hb)
    clear hb
    go_wp2_with fail
    go_ret
    exact ⟨by first | rfl | (go_simp; done), E.out⟩
  have t0 : ¬ (40 : Int) < (n0 : Int) := by omega
  have hl0 : n0 ≤ 40 := by omega
  have hs2 : s.length ≤ 100000 := by omega
  obtain ⟨X, hX⟩ : ∃ X, X = inQ L i := ⟨_, rfl⟩
  obtain ⟨xe, hx⟩ : ∃ x, x = inE L i := ⟨_, rfl⟩
  obtain ⟨Y, hY⟩ : ∃ Y, Y = csQ L m := ⟨_, rfl⟩
  obtain ⟨ye, hy⟩ : ∃ y, y = csE L m := ⟨_, rfl⟩
  have hXl : X.length ≤ 1000000 ∧ Y.length ≤ 1000000 := by
    constructor
    · rw [hX]; unfold inQ; split
      · exact Nat.le_trans (inc_len L.length L _ (Nat.le_refl _)) (by omega)
      · simp
    · rw [hY]; unfold csQ; split
      · exact Nat.le_trans (cs_len L.length L _ _ (Nat.le_refl _)) (by omega)
      · simp
  obtain ⟨d, hd⟩ : ∃ d, d = lf s := ⟨_, rfl⟩
  obtain ⟨r, hr⟩ : ∃ r, r = rt L := ⟨_, rfl⟩
  obtain ⟨p, hp⟩ : ∃ p, p = nd d r := ⟨_, rfl⟩
  have zd : Hid (d.length = 16) := (by show _ = _; rw [hd]; exact lf_len s)
  have ld : Hid ((d.map bv).length = 16) := by show _ = _; rw [List.length_map, zd.out]
  have sd := Lib.hid (size_dig16 (d.map bv) ld.out)
  have od := av_one d
  have zr : Hid (r.length = 16) := (by show _ = _; rw [hr]; exact rt_len R0.out.d16)
  have lr : Hid ((r.map bv).length = 16) := by show _ = _; rw [List.length_map, zr.out]
  have sr := Lib.hid (size_dig16 (r.map bv) lr.out)
  have or := av_one r
  have zp : Hid (p.length = 16) := (by show _ = _; rw [hp]; exact nd_len _ _)
  have lp : Hid ((p.map bv).length = 16) := by show _ = _; rw [List.length_map, zp.out]
  have sp := Lib.hid (size_dig16 (p.map bv) lp.out)
  have op := av_one p
  have HI := Lib.hid (fun W (h : DV W A0 n0 c0 L) (ht : Tbs W) => incl_v h (by omega) ht i X xe hX hx)
  have HC := Lib.hid (fun W (h : DV W A0 n0 c0 L) (ht : Tbs W) => cons_v h (by omega) ht m Y ye hY hy)
  have RI := Lib.hid (fun W (h : DV W A0 n0 c0 L) (ht : Tbs W) => rincl_v h (by omega) ht i X xe hX hx)
  have RC := Lib.hid (fun W (h : DV W A0 n0 c0 L) (ht : Tbs W) => rcons_v h (by omega) ht m Y ye hY hy)
  have HL := Lib.hid (fun W (ht : Tbs W) => leaf_v s hs2 ht d hd)
  have RL : Hid (∀ W, Tbs W → Calls Tryd.prog 18 #[sv s] W fun e w' => e = .returned (av d) ∧ Below W.heap.size W w') := fun W h => by rw [hd]; exact refLeaf_any s W hs2 h.k
  have HR := Lib.hid (fun W (h : DV W A0 n0 c0 L) (ht : Tbs W) => root_v h (by omega) ht r hr)
  have RR := Lib.hid (fun W (h : DV W A0 n0 c0 L) (ht : Tbs W) => rroot_v h (by omega) ht r hr)
  have HN := Lib.hid (fun W (ht : Tbs W) => node_v d r zd.out zr.out ht p hp)
  have RN := Lib.hid (fun W (ht : Tbs W) => rnode_v d r zd.out zr.out ht p hp)
  have SM := Lib.hid (fun W A n c' A' n' c'' (Q : List (List UInt8)) (h : DV W A n c' Q) (h' : DV W A' n' c'' Q) (hl : n ≤ 1000000) => same_v h h' hl true (by simp))
  have hXL := Lib.hid hXl
  obtain ⟨dp, hdp, hdpr⟩ := row_path
  have e1 : (xe == xe) = true := by simp
  have e2 : (ye == ye) = true := by simp
  unfold av at HL RL HR RR HN RN
  unfold sv at HL RL ⊢
  generalize bs s = sb at hsz HL RL ⊢
  have t1 : ¬ (200 : Int) < (sb.size : Int) := by omega
  clear hb0 hb1 H0 ht hn0 hns hs hsz hs2 hX hx hY hy hd hr hp hXl
  go_enter Tryd.func3, Tryd.ntmps3
  go_wp2_with fail
  refine (HI.out _ R0.out T.out).mono ?_
  rintro e v1 ⟨Aa, na, ca, rfl, h0, hb⟩
  have Ra := Lib.hid h0
  clear h0
  replace R0 := Lib.hid (R0.out.keep hb)
  replace E := Lib.hid (E.out.trans (hb.mono E.out.size))
  replace T := Lib.hid (T.out.keep hb)
  clear hb
  go_wp2_with fail
  refine (HC.out _ R0.out T.out).mono ?_
  rintro e v2 ⟨Ab, nb, cb, rfl, h0, hb⟩
  have Rb := Lib.hid h0
  clear h0
  replace R0 := Lib.hid (R0.out.keep hb)
  replace Ra := Lib.hid (Ra.out.keep hb)
  replace E := Lib.hid (E.out.trans (hb.mono E.out.size))
  replace T := Lib.hid (T.out.keep hb)
  clear hb
  go_wp2_with fail
  refine (RI.out _ R0.out T.out).mono ?_
  rintro e v3 ⟨Ax, nx0, cx, rfl, h0, hb⟩
  have Rx := Lib.hid h0
  clear h0
  replace R0 := Lib.hid (R0.out.keep hb)
  replace Ra := Lib.hid (Ra.out.keep hb)
  replace Rb := Lib.hid (Rb.out.keep hb)
  replace E := Lib.hid (E.out.trans (hb.mono E.out.size))
  replace T := Lib.hid (T.out.keep hb)
  clear hb
  go_wp2_with fail
  generalize hgu : v3.alloc _ = u3
  have hb : Below v3.heap.size v3 u3 := by rw [← hgu]; exact (Below.refl _ _).alloc (Nat.le_refl _) _
  have Bx : Hid (Blk u3 v3.heap.size [.slice Ax nx0 cx, .int .i64 xe] 28) := by rw [← hgu]; exact Blk.new _ [.slice Ax nx0 cx, .int .i64 xe] _
  clear hgu
  replace R0 := Lib.hid (R0.out.keep hb)
  replace Ra := Lib.hid (Ra.out.keep hb)
  replace Rb := Lib.hid (Rb.out.keep hb)
  replace Rx := Lib.hid (Rx.out.keep hb)
  replace E := Lib.hid (E.out.trans (hb.mono E.out.size))
  replace T := Lib.hid (T.out.keep hb)
  clear hb
  obtain ⟨gBx, hgBx⟩ : ∃ g, g = v3.heap.size := ⟨_, rfl⟩
  rw [← hgBx] at Bx ⊢
  clear hgBx
  refine (RC.out _ R0.out T.out).mono ?_
  rintro e v4 ⟨Ay, ny, cy, rfl, h0, hb⟩
  have Ry := Lib.hid h0
  clear h0
  replace Bx := Lib.hid (Bx.out.below hb Bx.out.lt)
  replace R0 := Lib.hid (R0.out.keep hb)
  replace Ra := Lib.hid (Ra.out.keep hb)
  replace Rb := Lib.hid (Rb.out.keep hb)
  replace Rx := Lib.hid (Rx.out.keep hb)
  replace E := Lib.hid (E.out.trans (hb.mono E.out.size))
  replace T := Lib.hid (T.out.keep hb)
  clear hb
  go_wp2_with fail
  generalize hgu : v4.alloc _ = u4
  have hb : Below v4.heap.size v4 u4 := by rw [← hgu]; exact (Below.refl _ _).alloc (Nat.le_refl _) _
  have By : Hid (Blk u4 v4.heap.size [.slice Ay ny cy, .int .i64 ye] 28) := by rw [← hgu]; exact Blk.new _ [.slice Ay ny cy, .int .i64 ye] _
  clear hgu
  replace Bx := Lib.hid (Bx.out.below hb Bx.out.lt)
  replace R0 := Lib.hid (R0.out.keep hb)
  replace Ra := Lib.hid (Ra.out.keep hb)
  replace Rb := Lib.hid (Rb.out.keep hb)
  replace Rx := Lib.hid (Rx.out.keep hb)
  replace Ry := Lib.hid (Ry.out.keep hb)
  replace E := Lib.hid (E.out.trans (hb.mono E.out.size))
  replace T := Lib.hid (T.out.keep hb)
  clear hb
  obtain ⟨gBy, hgBy⟩ : ∃ g, g = v4.heap.size := ⟨_, rfl⟩
  rw [← hgBy] at By ⊢
  clear hgBy
  refine (HL.out _ T.out).mono ?_
  rintro e v5 ⟨rfl, hb⟩
  replace Bx := Lib.hid (Bx.out.below hb Bx.out.lt)
  replace By := Lib.hid (By.out.below hb By.out.lt)
  replace R0 := Lib.hid (R0.out.keep hb)
  replace Ra := Lib.hid (Ra.out.keep hb)
  replace Rb := Lib.hid (Rb.out.keep hb)
  replace Rx := Lib.hid (Rx.out.keep hb)
  replace Ry := Lib.hid (Ry.out.keep hb)
  replace E := Lib.hid (E.out.trans (hb.mono E.out.size))
  replace T := Lib.hid (T.out.keep hb)
  clear hb
  go_wp2_with (refine wpList_row_store rfl 31 _ _ rfl (d.map bv) rfl rfl (Blk.new v5 (bz 16) 31) sd.out (by rw [ld.out]; rfl) od ?_; intro u5 hu5 ho5)
  have hb : Below v5.heap.size v5 u5 := ((Below.refl _ _).alloc (Nat.le_refl _) _).trans (ho5.below (Nat.le_refl _))
  have Bd : Hid (Blk u5 v5.heap.size (d.map bv) 31) := hu5
  clear hu5 ho5
  replace Bx := Lib.hid (Bx.out.below hb Bx.out.lt)
  replace By := Lib.hid (By.out.below hb By.out.lt)
  replace R0 := Lib.hid (R0.out.keep hb)
  replace Ra := Lib.hid (Ra.out.keep hb)
  replace Rb := Lib.hid (Rb.out.keep hb)
  replace Rx := Lib.hid (Rx.out.keep hb)
  replace Ry := Lib.hid (Ry.out.keep hb)
  replace E := Lib.hid (E.out.trans (hb.mono E.out.size))
  replace T := Lib.hid (T.out.keep hb)
  clear hb
  obtain ⟨gBd, hgBd⟩ : ∃ g, g = v5.heap.size := ⟨_, rfl⟩
  rw [← hgBd] at Bd ⊢
  clear hgBd
  refine (HR.out _ R0.out T.out).mono ?_
  rintro e v6 ⟨rfl, hb⟩
  replace Bx := Lib.hid (Bx.out.below hb Bx.out.lt)
  replace By := Lib.hid (By.out.below hb By.out.lt)
  replace Bd := Lib.hid (Bd.out.below hb Bd.out.lt)
  replace R0 := Lib.hid (R0.out.keep hb)
  replace Ra := Lib.hid (Ra.out.keep hb)
  replace Rb := Lib.hid (Rb.out.keep hb)
  replace Rx := Lib.hid (Rx.out.keep hb)
  replace Ry := Lib.hid (Ry.out.keep hb)
  replace E := Lib.hid (E.out.trans (hb.mono E.out.size))
  replace T := Lib.hid (T.out.keep hb)
  clear hb
  go_wp2_with (refine wpList_row_store rfl 31 _ _ rfl (r.map bv) rfl rfl (Blk.new v6 (bz 16) 31) sr.out (by rw [lr.out]; rfl) or ?_; intro u6 hu6 ho6)
  have hb : Below v6.heap.size v6 u6 := ((Below.refl _ _).alloc (Nat.le_refl _) _).trans (ho6.below (Nat.le_refl _))
  have Br : Hid (Blk u6 v6.heap.size (r.map bv) 31) := hu6
  clear hu6 ho6
  replace Bx := Lib.hid (Bx.out.below hb Bx.out.lt)
  replace By := Lib.hid (By.out.below hb By.out.lt)
  replace Bd := Lib.hid (Bd.out.below hb Bd.out.lt)
  replace R0 := Lib.hid (R0.out.keep hb)
  replace Ra := Lib.hid (Ra.out.keep hb)
  replace Rb := Lib.hid (Rb.out.keep hb)
  replace Rx := Lib.hid (Rx.out.keep hb)
  replace Ry := Lib.hid (Ry.out.keep hb)
  replace E := Lib.hid (E.out.trans (hb.mono E.out.size))
  replace T := Lib.hid (T.out.keep hb)
  clear hb
  obtain ⟨gBr, hgBr⟩ : ∃ g, g = v6.heap.size := ⟨_, rfl⟩
  rw [← hgBr] at Br ⊢
  clear hgBr
  have hS0 : Below u6.heap.size u6 u6.drew := (Below.refl _ _).drew
  have hne : Nonempty (SOf (fun W => Below u6.heap.size u6 W)) := ⟨⟨_, hS0⟩⟩
  have qx0 : ∀ x : SOf (fun W => Below u6.heap.size u6 W), x.world.cell? ⟨gBx, 0, none⟩ = some (.slice Ax nx0 cx) := fun x => by have hb : Below u6.heap.size u6 x.world := x.meets; exact (Bx.out.below hb Bx.out.lt).cell (j := 0) rfl
  have qx1 : ∀ x : SOf (fun W => Below u6.heap.size u6 W), x.world.cell? ⟨gBx, 1, none⟩ = some (.int .i64 xe) := fun x => by have hb : Below u6.heap.size u6 x.world := x.meets; exact (Bx.out.below hb Bx.out.lt).cell (j := 1) rfl
  have qy0 : ∀ x : SOf (fun W => Below u6.heap.size u6 W), x.world.cell? ⟨gBy, 0, none⟩ = some (.slice Ay ny cy) := fun x => by have hb : Below u6.heap.size u6 x.world := x.meets; exact (By.out.below hb By.out.lt).cell (j := 0) rfl
  have qy1 : ∀ x : SOf (fun W => Below u6.heap.size u6 W), x.world.cell? ⟨gBy, 1, none⟩ = some (.int .i64 ye) := fun x => by have hb : Below u6.heap.size u6 x.world := x.meets; exact (By.out.below hb By.out.lt).cell (j := 1) rfl
  refine wp_region_planH (fun W => Below u6.heap.size u6 W) [] 47 (by kernel_rfl) (by kernel_rfl) (by kernel_rfl) (by kernel_rfl) (by intro c a d v w h; cases d <;> exact h) hS0 ?_
  change wpPlanH _ _ _ _ _ _ _ _ _ u6.drew
  have hS := Lib.hid hS0
  clear hS0
  generalize u6.drew = x0 at hS ⊢
  refine wpAnyH_each (rs := [0]) (by kernel_rfl) (by decide) (fun K hK q hq => ?_)
  obtain rfl := List.mem_singleton.1 hq
  refine wpOp_listed rfl ?_
  go_wp2_with fail
  refine (SA.out _ (T.out.keep hS.out)).mono ?_
  rintro e x7 ⟨rfl, hbx⟩
  go_wp2_with fail
  have hbn := hS.out.trans (hbx.mono hS.out.size)
  refine postH_normal (hK _ _ _ hbn ?_)
  replace hS := Lib.hid hbn
  clear hK K hbx hbn
  refine wpAnyH_of_plan (by kernel_rfl) (by intro c a d v w h; cases d <;> exact h) [1, 2, 3] 43 _ _ _ hS.out (by kernel_rfl) ?_
  refine wpPlanH_plain rfl (fun K hK => ?_); go_simp; refine hK _ ?_; clear hK K
  refine wpPlanH_runW rfl (by rfl) _ (fun x => load_run 31 _ rfl gBr 0 rfl (r.map bv) (.array 16 5) arr_dig rfl sr.out x.world ((Br.out.below (show Below u6.heap.size u6 x.world from x.meets) Br.out.lt).range 0 _ (take_all0 _))) ?_
  refine wpPlanH_plain rfl (fun K hK => ?_); go_simp; refine hK _ ?_; clear hK K
  refine wpAnyH_each (rs := [4]) (by kernel_rfl) (by decide) (fun K hK q hq => ?_)
  obtain rfl := List.mem_singleton.1 hq
  refine wpOp_listed rfl ?_
  go_wp2_with fail
  refine (RR.out _ (R0.out.keep hS.out) (T.out.keep hS.out)).mono ?_
  rintro e x8 ⟨rfl, hbx⟩
  go_wp2_with fail
  have hbn := hS.out.trans (hbx.mono hS.out.size)
  refine postH_normal (hK _ _ _ hbn ?_)
  replace hS := Lib.hid hbn
  clear hK K hbx hbn
  refine wpAnyH_of_plan (by kernel_rfl) (by intro c a d v w h; cases d <;> exact h) [5, 6, 7, 8, 9, 10] 36 _ _ _ hS.out (by kernel_rfl) ?_
  refine wpPlanH_runW rfl (by rfl) _ (fun x => eql_run 31 _ _ _ rfl 16 arr_dig (by kernel_rfl) r r zr.out zr.out rfl rfl true (by simp) x.world) ?_
  refine wpPlanH_plain rfl (fun K hK => ?_); go_simp; refine hK _ ?_; clear hK K
  refine wpPlanH_plain rfl (fun K hK => ?_); go_simp; refine hK _ ?_; clear hK K
  refine wpPlanH_plain rfl (fun K hK => ?_); go_simp; refine hK _ ?_; clear hK K
  refine wpPlanH_plain rfl (fun K hK => ?_); go_simp; refine hK _ ?_; clear hK K
  refine wpPlanH_plain rfl (fun K hK => ?_); go_simp; refine hK _ ?_; clear hK K
  refine wpAnyH_each (rs := [11]) (by kernel_rfl) (by decide) (fun K hK q hq => ?_)
  obtain rfl := List.mem_singleton.1 hq
  refine wpOp_listed rfl ?_
  go_wp2_with fail
  refine (SM.out _ _ _ _ _ _ _ X (Ra.out.keep hS.out) (Rx.out.keep hS.out) (by rw [Ra.out.len]; exact hXL.out.1)).mono ?_
  rintro e x9 ⟨rfl, hbx⟩
  go_wp2_with fail
  have hbn := hS.out.trans (hbx.mono hS.out.size)
  refine postH_normal (hK _ _ _ hbn ?_)
  replace hS := Lib.hid hbn
  clear hK K hbx hbn
  refine wpAnyH_of_plan (by kernel_rfl) (by intro c a d v w h; cases d <;> exact h) [12, 13, 14, 15, 16, 17, 18, 19, 20, 21, 22] 24 _ _ _ hS.out (by kernel_rfl) ?_
  refine wpPlanH_plain rfl (fun K hK => ?_); go_simp; refine hK _ ?_; clear hK K
  refine wpPlanH_plain rfl (fun K hK => ?_); go_simp; refine hK _ ?_; clear hK K
  refine wpPlanH_plain rfl (fun K hK => ?_); go_simp; refine hK _ ?_; clear hK K
  refine wpPlanH_plain rfl (fun K hK => ?_); go_simp; refine hK _ ?_; clear hK K
  refine wpPlanH_plain rfl (fun K hK => ?_); go_simp; refine hK _ ?_; clear hK K
  refine wpPlanH_plain rfl (fun K hK => ?_); go_simp; refine hK _ ?_; clear hK K
  refine wpPlanH_plain rfl (fun K hK => ?_); go_simp; refine hK _ ?_; clear hK K
  refine wpPlanH_plain rfl (fun K hK => ?_); go_simp; refine hK _ ?_; clear hK K
  refine wpPlanH_plain rfl (fun K hK => ?_); go_simp; refine hK _ ?_; clear hK K
  refine wpPlanH_plain rfl (fun K hK => ?_); go_simp; refine hK _ ?_; clear hK K
  refine wpPlanH_plain rfl (fun K hK => ?_); go_simp; refine hK _ ?_; clear hK K
  refine wpAnyH_each (rs := [23]) (by kernel_rfl) (by decide) (fun K hK q hq => ?_)
  obtain rfl := List.mem_singleton.1 hq
  refine wpOp_listed rfl ?_
  go_wp2_with fail
  refine (SM.out _ _ _ _ _ _ _ Y (Rb.out.keep hS.out) (Ry.out.keep hS.out) (by rw [Rb.out.len]; exact hXL.out.2)).mono ?_
  rintro e x10 ⟨rfl, hbx⟩
  go_wp2_with fail
  have hbn := hS.out.trans (hbx.mono hS.out.size)
  refine postH_normal (hK _ _ _ hbn ?_)
  replace hS := Lib.hid hbn
  clear hK K hbx hbn
  refine wpAnyH_of_plan (by kernel_rfl) (by intro c a d v w h; cases d <;> exact h) [24, 25, 26, 27, 28, 29, 30, 31, 32, 33] 13 _ _ _ hS.out (by kernel_rfl) ?_
  refine wpPlanH_plain rfl (fun K hK => ?_); go_simp; refine hK _ ?_; clear hK K
  refine wpPlanH_plain rfl (fun K hK => ?_); go_simp; refine hK _ ?_; clear hK K
  refine wpPlanH_plain rfl (fun K hK => ?_); go_simp; refine hK _ ?_; clear hK K
  refine wpPlanH_plain rfl (fun K hK => ?_); go_simp; refine hK _ ?_; clear hK K
  refine wpPlanH_plain rfl (fun K hK => ?_); go_simp; refine hK _ ?_; clear hK K
  refine wpPlanH_plain rfl (fun K hK => ?_); go_simp; refine hK _ ?_; clear hK K
  refine wpPlanH_plain rfl (fun K hK => ?_); go_simp; refine hK _ ?_; clear hK K
  refine wpPlanH_plain rfl (fun K hK => ?_); go_simp; refine hK _ ?_; clear hK K
  refine wpPlanH_runW rfl (by rfl) _ (fun x => load_run 31 _ rfl gBd 0 rfl (d.map bv) (.array 16 5) arr_dig rfl sd.out x.world ((Bd.out.below (show Below u6.heap.size u6 x.world from x.meets) Bd.out.lt).range 0 _ (take_all0 _))) ?_
  refine wpPlanH_plain rfl (fun K hK => ?_); go_simp; refine hK _ ?_; clear hK K
  refine wpAnyH_each (rs := [34]) (by kernel_rfl) (by decide) (fun K hK q hq => ?_)
  obtain rfl := List.mem_singleton.1 hq
  refine wpOp_listed rfl ?_
  go_wp2_with fail
  refine (RL.out _ (T.out.keep hS.out)).mono ?_
  rintro e x11 ⟨rfl, hbx⟩
  go_wp2_with fail
  have hbn := hS.out.trans (hbx.mono hS.out.size)
  refine postH_normal (hK _ _ _ hbn ?_)
  replace hS := Lib.hid hbn
  clear hK K hbx hbn
  refine wpAnyH_of_plan (by kernel_rfl) (by intro c a d v w h; cases d <;> exact h) [35, 36, 37, 38, 39, 41, 42] 5 _ _ _ hS.out (by kernel_rfl) ?_
  refine wpPlanH_runW rfl (by rfl) _ (fun x => eql_run 31 _ _ _ rfl 16 arr_dig (by kernel_rfl) d d zd.out zd.out rfl rfl true (by simp) x.world) ?_
  refine wpPlanH_plain rfl (fun K hK => ?_); go_simp; refine hK _ ?_; clear hK K
  refine wpPlanH_plain rfl (fun K hK => ?_); go_simp; refine hK _ ?_; clear hK K
  refine wpPlanH_runW rfl (by rfl) _ (fun x => load_run 31 _ rfl gBd 0 rfl (d.map bv) (.array 16 5) arr_dig rfl sd.out x.world ((Bd.out.below (show Below u6.heap.size u6 x.world from x.meets) Bd.out.lt).range 0 _ (take_all0 _))) ?_
  refine wpPlanH_runW rfl (by rfl) _ (fun x => load_run 31 _ rfl gBr 0 rfl (r.map bv) (.array 16 5) arr_dig rfl sr.out x.world ((Br.out.below (show Below u6.heap.size u6 x.world from x.meets) Br.out.lt).range 0 _ (take_all0 _))) ?_
  refine wpPlanH_runW rfl (by rfl) _ (fun x => load_run 31 _ rfl gBd 0 rfl (d.map bv) (.array 16 5) arr_dig rfl sd.out x.world ((Bd.out.below (show Below u6.heap.size u6 x.world from x.meets) Bd.out.lt).range 0 _ (take_all0 _))) ?_
  refine wpPlanH_runW rfl (by rfl) _ (fun x => load_run 31 _ rfl gBr 0 rfl (r.map bv) (.array 16 5) arr_dig rfl sr.out x.world ((Br.out.below (show Below u6.heap.size u6 x.world from x.meets) Br.out.lt).range 0 _ (take_all0 _))) ?_
  refine wpAnyH_each (rs := [40]) (by kernel_rfl) (by decide) (fun K hK q hq => ?_)
  obtain rfl := List.mem_singleton.1 hq
  refine wpOp_listed rfl ?_
  go_wp2_with fail
  refine (HN.out _ (T.out.keep hS.out)).mono ?_
  rintro e x12 ⟨rfl, hbx⟩
  go_wp2_with fail
  have hbn := hS.out.trans (hbx.mono hS.out.size)
  refine postH_normal (hK _ _ _ hbn ?_)
  replace hS := Lib.hid hbn
  clear hK K hbx hbn
  refine wpAnyH_each (rs := [43]) (by kernel_rfl) (by decide) (fun K hK q hq => ?_)
  obtain rfl := List.mem_singleton.1 hq
  refine wpOp_listed rfl ?_
  go_wp2_with fail
  refine (RN.out _ (T.out.keep hS.out)).mono ?_
  rintro e x13 ⟨rfl, hbx⟩
  go_wp2_with fail
  have hbn := hS.out.trans (hbx.mono hS.out.size)
  refine postH_normal (hK _ _ _ hbn ?_)
  replace hS := Lib.hid hbn
  clear hK K hbx hbn
  refine wpAnyH_of_plan (by kernel_rfl) (by intro c a d v w h; cases d <;> exact h) [44, 45, 46] 0 _ _ _ hS.out (by kernel_rfl) ?_
  refine wpPlanH_runW rfl (by rfl) _ (fun x => eql_run 31 _ _ _ rfl 16 arr_dig (by kernel_rfl) p p zp.out zp.out rfl rfl true (by simp) x.world) ?_
  refine wpPlanH_plain rfl (fun K hK => ?_); go_simp; refine hK _ ?_; clear hK K
  refine wpPlanH_plain rfl (fun K hK => ?_); go_simp; refine hK _ ?_; clear hK K
  refine wpAnyH_done (by kernel_rfl) ?_ _
  have hb := hS.out
  clear hS hne
  replace Bx := Lib.hid (Bx.out.below hb Bx.out.lt)
  replace By := Lib.hid (By.out.below hb By.out.lt)
  replace Bd := Lib.hid (Bd.out.below hb Bd.out.lt)
  replace Br := Lib.hid (Br.out.below hb Br.out.lt)
  replace R0 := Lib.hid (R0.out.keep hb)
  replace Ra := Lib.hid (Ra.out.keep hb)
  replace Rb := Lib.hid (Rb.out.keep hb)
  replace Rx := Lib.hid (Rx.out.keep hb)
  replace Ry := Lib.hid (Ry.out.keep hb)
  replace E := Lib.hid (E.out.trans (hb.mono E.out.size))
  replace T := Lib.hid (T.out.keep hb)
  clear hb
  go_wp2_with fail
  go_ret
  exact ⟨by first | rfl | (go_simp; done), E.out⟩
end Go.Proofs.YtdikbglemgoocaaDoor
