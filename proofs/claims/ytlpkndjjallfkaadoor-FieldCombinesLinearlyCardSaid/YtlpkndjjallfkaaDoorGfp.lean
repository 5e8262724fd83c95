/-
  The law that combinations are linear: its walk.
-/
import Derived.Test.YtlpkndjjallfkaaDoorGfz
import Derived.Test.YtlpkndjjallfkaaDoorGfl
import Derived.Test.YtlpkndjjallfkaaDoorGfw
import Derived.Test.YtlpkndjjallfkaaDoorOpa
import Derived.Test.YtlpkndjjallfkaaDoorMch
import Derived.Deep.CutRange
import Derived.Deep.QuietTactic
import Derived.BigQuiet
namespace Go.Proofs.YtlpkndjjallfkaaDoor
set_option linter.unusedVariables false
set_option linter.unusedSimpArgs false
open Go.RowKit

theorem arr_pair : Tryd.prog.underlying 27 = some (.array 2 5) := Tryd.underlying27
theorem size_pair : (Tryd.prog.info? 27).map (·.size) = some 2 := by kernel_rfl
theorem infoStr : (Tryd.prog.info? 9).map (fun i => (i.zero, i.size, i.bytes)) = some (some (.string ⟨#[]⟩), 1, 16) := by kernel_rfl
/-- The cells of the k-th pair. -/
theorem pair_at {w : World} {B : Nat} {A : Option Addr} {P : List (List UInt8)} (hr : Rds w B A ((P.flatMap id).map bv)) (hs : ∀ d ∈ P, d.length = 2) {k : Nat} (hk : k < P.length) :
    ∃ ad a b, A = some ad ∧ ad.block < B ∧ P[k]? = some [a, b] ∧ ∀ j v, [bv a, bv b][j]? = some v → w.cell? ((ad.add (k * 2)).add j) = some v := by
  obtain ⟨d, hd⟩ : ∃ d, P[k]? = some d := ⟨_, List.getElem?_eq_getElem hk⟩
  have hl := hs d (List.mem_of_getElem? hd)
  match d, hl with
  | [a, b], _ =>
    have hP : P = P.take k ++ [a, b] :: P.drop (k + 1) := by
      obtain ⟨h1, h2⟩ := List.getElem?_eq_some_iff.1 hd
      rw [← h2, List.getElem_cons_drop h1, List.take_append_drop]
    have hfl : ((P.take k).flatMap id).length = k * 2 := by
      rw [flat_arr (N := 2) fun d hd => hs d (List.mem_of_mem_take hd), List.length_take]
      congr 1
      omega
    have hat : ∀ j v, [bv a, bv b][j]? = some v → ((P.flatMap id).map bv)[k * 2 + j]? = some v := fun j v hv => by
      rw [hP, List.flatMap_append, List.flatMap_cons, List.map_append, List.getElem?_append_right (by rw [List.length_map, hfl]; omega), List.length_map, hfl, Nat.add_sub_cancel_left, List.map_append]
      have hj : j < 2 := by
        rcases Nat.lt_or_ge j 2 with h | h
        · exact h
        · rw [List.getElem?_eq_none (by simpa using h)] at hv; cases hv
      rw [List.getElem?_append_left (by simpa using hj)]
      exact hv
    obtain ⟨ad, rfl, hb, hc⟩ := hr.look (hat 0 _ rfl)
    refine ⟨ad, a, b, rfl, hb, hd, fun j v hv => ?_⟩
    obtain ⟨ad2, h2, _, hc2⟩ := hr.look (hat j v hv)
    obtain rfl := Option.some.inj h2
    rw [add_twice]
    exact hc2

/-- The rows of the round, as far as its operations have come up. -/
def rows11 (A B C D E : Value) (la lb lc ld le : List Value) (x0 x1 x2 x3 : Value) (g : Nat) (c : Nat → Bool) (vals : Nat → Value) : List (Value × TypeId × List Value) :=
  [(if c 4 then vals 4 else A, 5, if c 4 then la ++ [x0] else la), (if c 9 then vals 9 else B, 5, if c 9 then lb ++ [x1] else lb), (if c 17 then vals 17 else C, 5, if c 17 then lc ++ [x2] else lc), (if c 24 then vals 24 else D, 5, if c 24 then ld ++ [x3] else ld), (E, 9, le),
   (.slice (some ⟨g, 0, none⟩) 2 2, 27, [x0, x1]), (if c 3 then vals 3 else .slice none 0 0, 5, if c 3 then [x0] else []), (if c 8 then vals 8 else .slice none 0 0, 5, if c 8 then [x1] else []), (if c 16 then vals 16 else .slice none 0 0, 5, if c 16 then [x2] else []), (if c 23 then vals 23 else .slice none 0 0, 5, if c 23 then [x3] else [])]
set_option maxRecDepth 100000 in
set_option maxHeartbeats 8000000 in
theorem walk_linear (A0 : Option Addr) (c0 : Nat) (P : List (List UInt8)) (A1 : Option Addr) (c1 : Nat) (x : List (List UInt8)) (A2 : Option Addr) (c2 : Nat) (y : List (List UInt8)) (cc : UInt8) (w : World)
    (H0 : SlA 2 w A0 P.length c0 P) (H1 : SlT w A1 x.length c1 x) (H2 : SlT w A2 y.length c2 y) (ht : PTab 0 w) :
    Calls Tryd.prog 3 #[.slice A0 P.length c0, .agg #[.slice A1 x.length c1, .slice A2 y.length c2], bv cc] w (OkEnd true w) := by
  obtain ⟨W1, hW1⟩ : ∃ W1, W1 = w.alloc (.cells #[.slice A1 x.length c1, .slice A2 y.length c2] 24) := ⟨_, rfl⟩
  have hB1 : Hid (Below w.heap.size w W1) := by show Below _ _ _; rw [hW1]; exact (Below.refl _ _).alloc (Nat.le_refl _) _
  have hK1 : Hid (Blk W1 w.heap.size [.slice A1 x.length c1, .slice A2 y.length c2] 24) := by show Blk _ _ _ _; rw [hW1]; exact Blk.new _ [_, _] _
  have hs1 : Hid (W1.heap.size = w.heap.size + 1) := by show _ = _; rw [hW1]; simp
  have q1 : ∀ z : ExtOf W1.drew, z.world.cell? ⟨w.heap.size, 0, none⟩ = some (.slice A1 x.length c1) := fun z => (hK1.out.drew.below z.ext hK1.out.drew.lt).cell rfl
  have q2 : ∀ z : ExtOf W1.drew, z.world.cell? ⟨w.heap.size, 1, none⟩ = some (.slice A2 y.length c2) := fun z => (hK1.out.drew.below z.ext hK1.out.drew.lt).cell rfl
  have hBd : Hid (Below w.heap.size w W1.drew) := hB1.out.drew
  have hT1 : Hid (PTab 0 W1.drew) := ht.on hBd.out
  have hW1' := Lib.hid hW1
  have HS : Hid (Calls Tryd.prog 11 #[] W1.drew fun e w' => e = .returned (.bool true) ∧ Below W1.drew.heap.size W1.drew w') := sanity_any _ hT1.out
  have h0m := H0.max
  have h0c := H0.cap
  have h1m := H1.max
  have h1c := H1.cap
  have h2m := H2.max
  have h2c := H2.cap
  unfold maxLen at h0m h1m h2m
  have r0 := Lib.hid (H0.rds.below hBd.out)
  have r1 := Lib.hid (H1.rds.below hBd.out)
  have r2 := Lib.hid (H2.rds.below hBd.out)
  have s0 := Lib.hid H0.size
  clear hW1 ht H0 H1 H2
  by_cases t0 : (8 : Int) < (P.length : Int)
  · unfold bv
    go_enter Tryd.func3, Tryd.ntmps3
    go_wp2_with fail
    generalize hg : w.alloc _ = Wg
    have hgW : W1 = Wg := by rw [← hg, hW1'.out]
    clear hg hW1'
    subst hgW
    refine wp_region_planL 99 [(true, 0), (true, 1), (true, 2), (true, 3), (true, 4), (true, 5)] (by kernel_rfl) (by decide) (by kernel_rfl) (by kernel_rfl) (by kernel_rfl) (by decide) (by intro c a d v w h; cases d <;> exact h) ?_
    change wpPlanL _ _ _ _ _ _ W1.drew
    iterate 6 (refine wpPlanL_plain rfl (fun K hK => ?_); go_simp; refine hK _ ?_; clear hK K)
    refine wpPlanL_nil ?_
    clear q1 q2
    go_wp2_with fail
    refine HS.out.mono ?_
    rintro e w' ⟨rfl, hb⟩
    go_wp2_with fail
    go_ret
    exact ⟨rfl, hBd.out.trans (hb.mono hBd.out.size)⟩
  by_cases t1 : x.length = P.length
  · by_cases t2 : y.length = P.length
    · have t1' : ((x.length : Int) != (P.length : Int)) = false := by simp only [bne_eq_false_iff_eq]; omega
      have t2' : ((y.length : Int) != (P.length : Int)) = false := by simp only [bne_eq_false_iff_eq]; omega
      have hx' := Lib.hid t1
      have hy' := Lib.hid t2
      have xl1 : x.length ≤ P.length := by omega
      have xl2 : P.length ≤ x.length := by omega
      have yl1 : y.length ≤ P.length := by omega
      have yl2 : P.length ≤ y.length := by omega
      have hP8 : P.length ≤ 8 := by omega
      clear t1 t2
      obtain ⟨Pa, hPa⟩ : ∃ l, l = P.map (fun d => d.getD 0 0) := ⟨_, rfl⟩
      obtain ⟨Pb, hPb⟩ : ∃ l, l = P.map (fun d => d.getD 1 0) := ⟨_, rfl⟩
      obtain ⟨Pc, hPc⟩ : ∃ l, l = List.zipWith (· ^^^ ·) Pa Pb := ⟨_, rfl⟩
      obtain ⟨Pd, hPd⟩ : ∃ l, l = Pa.map (Gf.mul cc) := ⟨_, rfl⟩
      obtain ⟨Ps, hPs⟩ : ∃ l, l = List.zipWith Gf.vsum x y := ⟨_, rfl⟩
      obtain ⟨L, hL⟩ : ∃ L, L = (x.headD []).length := ⟨_, rfl⟩
      have hdef := Lib.hid (And.intro hPa (And.intro hPb (And.intro hPc (And.intro hPd (And.intro hPs hL)))))
      clear hPa hPb hPc hPd hPs hL
      unfold bv
      go_enter Tryd.func3, Tryd.ntmps3
      go_wp2_with fail
      generalize hg : w.alloc _ = Wg
      have hgW : W1 = Wg := by rw [← hg, hW1'.out]
      clear hg hW1'
      subst hgW
      refine wp_region_planL 99 [(true, 0), (true, 1), (true, 2), (true, 3), (true, 4), (true, 5)] (by kernel_rfl) (by decide) (by kernel_rfl) (by kernel_rfl) (by kernel_rfl) (by decide) (by intro c a d v w h; cases d <;> exact h) ?_
      change wpPlanL _ _ _ _ _ _ W1.drew
      iterate 6 (refine wpPlanL_plain rfl (fun K hK => ?_); go_simp; refine hK _ ?_; clear hK K)
      refine wpPlanL_nil ?_
      clear q1 q2
      have hbase : Hid (W1.heap.size ≤ W1.drew.heap.size) := Nat.le_refl W1.heap.size
      have hBW : Hid (Below W1.heap.size W1 W1.drew) := (Below.refl _ _).drew
      go_wp2_with fail
      go_loopw [9, 10, 11, 12, 13, 52] (fun va vb vc vd ve i wr => ∃ k : Nat, k ≤ P.length ∧ i = .int .i64 k ∧ Below W1.heap.size W1 wr ∧ Rws W1.heap.size wr [(va, 5, (Pa.take k).map bv), (vb, 5, (Pb.take k).map bv), (vc, 5, (Pc.take k).map bv), (vd, 5, (Pd.take k).map bv), (ve, 9, (Ps.take k).map sv)] ∧ Hid (∀ j, j < k → (x.getD j []).length = L ∧ (y.getD j []).length = L ∧ L ≤ 100)) (fun _ _ _ _ _ i _ => P.length - (intOf i).toNat)
      case atStart =>
        refine ⟨0, by omega, rfl, hBW.out, Rws.start hbase.out (fun r hr => ?_), fun j hj => by omega⟩
        simp only [List.take_zero, List.map_nil, List.mem_cons, List.not_mem_nil, or_false] at hr
        rcases hr with rfl | rfl | rfl | rfl | rfl <;> exact ⟨rfl, rfl⟩
      case round =>
        obtain ⟨k, hk, rfl, hbw, hR0, hall⟩ := hrel
        have hR := Lib.hid hR0
        clear hR0
        by_cases hlt : k < P.length
        · have hle : w.heap.size ≤ W1.heap.size := by rw [hs1.out]; omega
          have hbw1 := hbw.mono hle
          have hbw0 : Below w.heap.size W1.drew wr := ⟨hbw1.os, hbw1.tape, hbw1.output, hbw1.size, hbw1.block⟩
          obtain ⟨ad, p0, p1, rfl, hab, hPk0, hpc⟩ := pair_at (r0.out.below hbw0) s0.out hlt
          have hPk := Lib.hid hPk0
          have hpc' := Lib.hid hpc
          clear hPk0 hpc
          have hW8 := Blk.new wr [.int .u8 0, .int .u8 0] 27
          go_wp2_with (first | (refine wpList_load_arr rfl 27 _ rfl (ad.add (k * 2)) rfl [bv p0, bv p1] 2 5 hpc'.out arr_pair size_pair ?_) | (refine wpList_row_store rfl 27 _ _ rfl [bv p0, bv p1] rfl rfl hW8 size_pair rfl (by intro u hu; simp only [List.mem_cons, List.not_mem_nil, or_false] at hu; rcases hu with rfl | rfl <;> rfl) ?_; intro w8 hw8 ho8))
          have hb8 : Below wr.heap.size wr w8 := ((Below.refl _ _).alloc (Nat.le_refl _) _).trans (ho8.below (Nat.le_refl _))
          have hR8 := Lib.hid ((hR.out.keep hb8).drew)
          have hR10 := Lib.hid (((((hR.out.take_in hb8 hw8 (show (2 : Nat) ≤ maxLen by unfold maxLen; decide)).more 5).more 5).more 5).more 5)
          have hT8 : Hid (PTab 0 w8.drew) := (hT1.out.below hbw0 (by have := hT1.out.1; have : W1.drew.heap.size = W1.heap.size := rfl; omega)).on hb8.drew
          have hBn : Hid (Below w.heap.size w w8) := hB1.out.trans (hbw1.trans (hb8.mono (Nat.le_trans hle hbw.size)))
          have hBw8 : Hid (Below w.heap.size w w8.drew) := (hB1.out.trans (hbw1.trans (hb8.mono (Nat.le_trans hle hbw.size)))).drew
          have hB18 : Hid (Below W1.heap.size W1 w8.drew) := (hbw.trans (hb8.mono hbw.size)).drew
          have hTW : Hid (∀ W, Below W1.heap.size W1 W → PTab 0 W) := fun W hB => hT1.out.below (Below.mono (show Below W1.heap.size W1.drew W from ⟨hB.os, hB.tape, hB.output, hB.size, hB.block⟩) (Nat.le_refl _)) hT1.out.1
          have hW8d : Hid (Blk w8.drew wr.heap.size [bv p0, bv p1] 27) := hw8.out
          have hwr := hbw.size
          have k1 : k < x.length := by omega
          have k2 : k < y.length := by omega
          have k3 : 0 < x.length := by omega
          obtain ⟨xd, hxde, hxdb, hxc⟩ := (r1.out.below hbw0).look (k := k) (u := sv x[k]) (by simp [k1])
          obtain ⟨xd0, hxde0, hxdb0, hxc0⟩ := (r1.out.below hbw0).look (k := 0) (u := sv x[0]) (by simp [k3])
          obtain ⟨yd, hyde, hydb, hyc⟩ := (r2.out.below hbw0).look (k := k) (u := sv y[k]) (by simp [k2])
          have gx : Hid (x[k]? = some x[k]) := List.getElem?_eq_getElem k1
          have gy : Hid (y[k]? = some y[k]) := List.getElem?_eq_getElem k2
          have gL : Hid (L = x[0].length) := by
            show _ = _
            rw [hdef.out.2.2.2.2.2, List.headD_eq_head?_getD, List.head?_eq_getElem?, List.getElem?_eq_getElem k3]
            rfl
          generalize hxk : x[k] = xk at hxc gx
          generalize hyk : y[k] = yk at hyc gy
          generalize hx0 : x[0] = x0 at hxc0 gL
          have qx : ∀ W, Below wr.heap.size wr W → W.cell? (xd.add k) = some (sv xk) := fun W hB => (hB.cell (by rw [add_block]; omega)).trans hxc
          have qx0 : ∀ W, Below wr.heap.size wr W → W.cell? xd = some (sv x0) := fun W hB => by
            have e0 : xd = xd0 := by rw [hxde] at hxde0; exact Option.some.inj hxde0
            have e1 : xd.add 0 = xd := by unfold Addr.add; simp
            rw [← e0, e1] at hxc0
            exact (hB.cell (by omega)).trans hxc0
          have qy : ∀ W, Below wr.heap.size wr W → W.cell? (yd.add k) = some (sv yk) := fun W hB => (hB.cell (by rw [add_block]; omega)).trans hyc
          have hxlt : (xd.add k).block < W1.heap.size := by rw [add_block]; omega
          have hylt : (yd.add k).block < W1.heap.size := by rw [add_block]; omega
          have qX := Lib.hid (fun W (hB : Below W1.heap.size W1 W) => (hB.cell hxlt).trans ((hbw.cell hxlt).symm.trans hxc))
          have qY := Lib.hid (fun W (hB : Below W1.heap.size W1 W) => (hB.cell hylt).trans ((hbw.cell hylt).symm.trans hyc))
          clear hxlt hylt
          have z1 : w8.cell? (xd.add k) = some (sv xk) := qx _ hb8
          have z2 : w8.cell? xd = some (sv x0) := qx0 _ hb8
          have z3 : w8.cell? (yd.add k) = some (sv yk) := qy _ hb8
          subst hxde
          subst hyde
          have sx := bs_size xk
          have sx0 := bs_size x0
          have sy := bs_size yk
          have n1 : (k : Int) < (x.length : Int) := by omega
          have n2 : (k : Int) < (y.length : Int) := by omega
          have n3 : 0 < (x.length : Int) := by omega
          have n0 : 0 ≤ (k : Int) := by omega
          clear hxc hxc0 hyc qx qx0 qy hxde0 hxdb hxdb0 hydb hxk hyk hx0 ho8 hw8 hR hab hb8
          simp only [Act.put]
          have hHS := Lib.hid (fun W (hB : Below w8.heap.size w8 W) => sanity_any W (hT8.out.below (Below.mono (show Below w8.drew.heap.size w8.drew W from ⟨hB.os, hB.tape, hB.output, hB.size, hB.block⟩) (Nat.le_refl _)) hT8.out.1))
          by_cases c1' : xk.length = x0.length
          · have u1 : (((bs xk).size : Int) != ((bs x0).size : Int)) = false := by simp only [bne_eq_false_iff_eq]; omega
            by_cases c2' : yk.length = x0.length
            · have u2 : (((bs yk).size : Int) != ((bs x0).size : Int)) = false := by simp only [bne_eq_false_iff_eq]; omega
              by_cases c3' : 100 < xk.length
              · have u3 : decide ((100 : Int) < ((bs xk).size : Int)) = true := by simp only [decide_eq_true_eq]; omega
                unfold sv at z1 z2 z3
                generalize bs xk = SX at *
                generalize bs yk = SY at *
                generalize bs x0 = S0 at *
                clear sx sx0 sy c1' c2' c3'
                go_quiet (fail)
                go_wp2_with fail
                refine (hHS.out _ (below_drewN (Below.refl _ _) _)).mono ?_
                rintro e w' ⟨rfl, hb⟩
                go_wp2_with fail
                go_ret
                exact ⟨rfl, (below_drewN hBn.out _).trans (hb.mono hBn.out.size)⟩
              · have u3 : decide ((100 : Int) < ((bs xk).size : Int)) = false := by simp only [decide_eq_false_iff_not]; omega
                have hok : Hid (xk.length = L ∧ yk.length = L ∧ L ≤ 100) := ⟨by rw [gL.out]; exact c1', by rw [gL.out]; exact c2', by rw [gL.out]; omega⟩
                unfold sv at z1 z2 z3
                generalize hSX : bs xk = SX at *
                generalize hSY : bs yk = SY at *
                generalize bs x0 = S0 at *
                have hSX' := Lib.hid hSX
                have hSY' := Lib.hid hSY
                clear sx sx0 sy c1' c2' c3' hSX hSY
                go_quiet (fail)
                go_wp2_with fail
                obtain ⟨w9, hw9⟩ : ∃ w9, w9 = w8.drewN nq := ⟨_, rfl⟩
                have hB9 : Hid (Below W1.heap.size W1 w9) := by show Below _ _ _; rw [hw9]; exact ⟨hB18.out.os, hB18.out.tape, hB18.out.output, hB18.out.size, hB18.out.block⟩
                have hR9 : Hid (Rws W1.heap.size w9.drew [(u9, 5, (Pa.take k).map bv), (u10, 5, (Pb.take k).map bv), (u11, 5, (Pc.take k).map bv), (u12, 5, (Pd.take k).map bv), (u13, 9, (Ps.take k).map sv), (.slice (some ⟨wr.heap.size, 0, none⟩) 2 2, 27, [bv p0, bv p1]), (.slice none 0 0, 5, []), (.slice none 0 0, 5, []), (.slice none 0 0, 5, []), (.slice none 0 0, 5, [])]) := by
                  show Rws _ _ _
                  rw [hw9]
                  exact hR10.out.keep (below_drewN (Below.refl _ _) nq).drew
                rw [← hw9]
                clear hw9 hHS hR8 hW8d hB18 hBw8 hT8 hR10
                go_cut [9, 10, 11, 12] from 88 to 112 (fun va vb vc vd W => Below W1.heap.size W1 W ∧ Rws W1.heap.size W [(va, 5, (Pa.take k).map bv ++ [bv p0]), (vb, 5, (Pb.take k).map bv ++ [bv p1]), (vc, 5, (Pc.take k).map bv ++ [bv (p0 ^^^ p1)]), (vd, 5, (Pd.take k).map bv ++ [bv (Gf.mul cc p0)]), (u13, 9, (Ps.take k).map sv)])
                case first J KK hJ hKK =>
                  have SS : ∀ W rows, Rws W1.heap.size W rows → rows[5]? = some (Value.slice (some ⟨wr.heap.size, 0, none⟩) 2 2, 27, [bv p0, bv p1]) → W.cell? ⟨wr.heap.size, 0, none⟩ = some (bv p0) ∧ W.cell? ⟨wr.heap.size, 1, none⟩ = some (bv p1) := fun W rows hR h5 => ⟨hR.cell 5 h5 0 rfl, hR.cell 5 h5 1 rfl⟩
                  obtain ⟨SP, hSP⟩ : ∃ SP : World → Prop, ∀ W, (SP W ↔ W.cell? ⟨wr.heap.size, 0, none⟩ = some (bv p0) ∧ W.cell? ⟨wr.heap.size, 1, none⟩ = some (bv p1)) := ⟨_, fun W => Iff.rfl⟩
                  have MUL : ∀ W, Below W1.heap.size W1 W → Calls Tryd.prog 12 #[.int .u8 cc.toNat, .int .u8 p0.toNat] W fun e w' => e = .returned (bv (Gf.mul cc p0)) ∧ ∃ n, w' = W.drewN n := fun W hB => mul_any cc p0 W (hTW.out W hB)
                  have ONE : ∀ (x : UInt8), ∀ y ∈ [bv x], y.oneCell' = true := fun x y hy => by rw [List.mem_singleton.1 hy]; rfl
                  have LEN : ∀ (l : List UInt8) (x : UInt8), ((l.take k).map bv).length + ([bv x]).length ≤ maxLen ∧ (((l.take k).map bv).length + ([bv x]).length) * 1 ≤ 140737488355328 := fun l x => by simp only [List.length_map, List.length_take, List.length_singleton]; unfold maxLen; omega
                  have hxo := u8_xor_bv p0 p1
                  have hne : Nonempty (SOf SP) := ⟨⟨_, (hSP _).2 (SS _ _ hR9.out rfl)⟩⟩
                  have g0 : ∀ x : SOf SP, x.world.cell? ⟨wr.heap.size, 0, none⟩ = some (bv p0) := fun x => ((hSP _).1 x.meets).1
                  have g1 : ∀ x : SOf SP, x.world.cell? ⟨wr.heap.size, 1, none⟩ = some (bv p1) := fun x => ((hSP _).1 x.meets).2
                  have hSS := Lib.hid (fun W rows h1 h2 => (hSP W).2 (SS W rows h1 h2))
                  clear hSP SS
                  refine wp_region_planH SP [0, 1, 2, 5, 6, 7, 10, 11, 12, 13, 14, 15, 18, 19, 20, 21] 13 (by kernel_rfl) (by kernel_rfl) (by kernel_rfl) (by kernel_rfl) (by intro c a d v w h; cases d <;> exact h) (hSS.out _ _ hR9.out rfl) ?_
                  change wpPlanH _ _ _ _ _ _ _ _ _ w9.drew
                  unfold bv at g0 g1
                  iterate 16 (refine wpPlanH_plain rfl (fun K hK => ?_); go_simp; refine hK _ ?_; clear hK K)
                  clear g0 g1 hxo hne
                  have hR := hR9.out
                  have hB := hB9.out.drew
                  generalize w9.drew = W0 at hR hB ⊢
                  refine wpAnyH_machine (js := [3, 4, 8, 9, 16, 17, 22, 23, 24, 25, 26, 27, 28]) [some 91, some 92, some 96, some 97, some 104, some 105, some 110, some 111, some 112, some 9, some 10, some 11, some 12] (by kernel_rfl) (by kernel_rfl) (by kernel_rfl) (fun c vals W => Below W1.heap.size W1 W ∧ Rws W1.heap.size W (rows11 u9 u10 u11 u12 u13 ((Pa.take k).map bv) ((Pb.take k).map bv) ((Pc.take k).map bv) ((Pd.take k).map bv) ((Ps.take k).map sv) (bv p0) (bv p1) (bv (p0 ^^^ p1)) (bv (Gf.mul cc p0)) wr.heap.size c vals) ∧ (c 22 = true → vals 22 = bv (Gf.mul cc p0)) ∧ (c 25 = true → c 4 = true ∧ vals 25 = vals 4) ∧ (c 26 = true → c 9 = true ∧ vals 26 = vals 9) ∧ (c 27 = true → c 17 = true ∧ vals 27 = vals 17) ∧ (c 28 = true → c 24 = true ∧ vals 28 = vals 24)) (fun c vals W h => hSS.out _ _ h.2.1 rfl) 13 (by decide) ⟨hB, hR, (fun h => by cases h), (fun h => by cases h), (fun h => by cases h), (fun h => by cases h), (fun h => by cases h)⟩ ?_ ?_
                  · intro i hi c vals a W hRR hc hw hst K hK
                    obtain ⟨hB, hR, h22, h25, h26, h27, h28⟩ := hRR
                    simp only [List.mem_cons, List.not_mem_nil, or_false] at hi
                    rcases hi with rfl | rfl | rfl | rfl | rfl | rfl | rfl | rfl | rfl | rfl | rfl | rfl | rfl
                    · refine wpOp_listed rfl ?_
                      refine build_rws rfl _ 26 rfl W1.heap.size 5 (.int .u8 0) 1 Tryd.underlying26 infoByte 6 _ hR 5 [] (by simp [rows11, hc]) (bv p0) (eval_tmp ((hst.other 90 (by kernel_rfl)).trans rfl)) rfl (fun v' w' hR' hB' => ?_)
                      exact wpList_end (postH_normal (hK v' w' ⟨hB.trans (hB'.mono hB.size), by simpa [rows11, updC, updV, hc] using hR', by simpa [updC, updV] using h22, (fun h => by have h' := h25 (by simpa [updC] using h); revert h'; simp +contextual [updC, updV, hc]), (fun h => by have h' := h26 (by simpa [updC] using h); revert h'; simp +contextual [updC, updV, hc]), (fun h => by have h' := h27 (by simpa [updC] using h); revert h'; simp +contextual [updC, updV, hc]), (fun h => by have h' := h28 (by simpa [updC] using h); revert h'; simp +contextual [updC, updV, hc])⟩))
                    · have hd := hw 3 (by kernel_rfl)
                      refine wpOp_listed rfl ?_
                      refine push_rws rfl _ _ 26 rfl W1.heap.size 5 (.int .u8 0) 1 Tryd.underlying26 infoByte rfl 0 6 _ hR u9 ((Pa.take k).map bv) (by simp [rows11, hc]) (vals 3) [bv p0] (by simp [rows11, hd]) (by simp) (eval_tmp ((hst.other 88 (by kernel_rfl)).trans rfl)) (eval_tmp (hst.at_ 3 91 (by kernel_rfl) (by kernel_rfl) hd (by kernel_rfl))) (ONE _) (LEN _ _).1 (LEN _ _).2 (fun v' w' hR' hB' => ?_)
                      exact wpList_end (postH_normal (hK v' w' ⟨hB.trans hB', by simpa [rows11, updC, updV, hc] using hR', by simpa [updC, updV] using h22, (fun h => by have h' := h25 (by simpa [updC] using h); revert h'; simp +contextual [updC, updV, hc]), (fun h => by have h' := h26 (by simpa [updC] using h); revert h'; simp +contextual [updC, updV, hc]), (fun h => by have h' := h27 (by simpa [updC] using h); revert h'; simp +contextual [updC, updV, hc]), (fun h => by have h' := h28 (by simpa [updC] using h); revert h'; simp +contextual [updC, updV, hc])⟩))
                    · refine wpOp_listed rfl ?_
                      refine build_rws rfl _ 26 rfl W1.heap.size 5 (.int .u8 0) 1 Tryd.underlying26 infoByte 7 _ hR 5 [] (by simp [rows11, hc]) (bv p1) (eval_tmp ((hst.other 95 (by kernel_rfl)).trans rfl)) rfl (fun v' w' hR' hB' => ?_)
                      exact wpList_end (postH_normal (hK v' w' ⟨hB.trans (hB'.mono hB.size), by simpa [rows11, updC, updV, hc] using hR', by simpa [updC, updV] using h22, (fun h => by have h' := h25 (by simpa [updC] using h); revert h'; simp +contextual [updC, updV, hc]), (fun h => by have h' := h26 (by simpa [updC] using h); revert h'; simp +contextual [updC, updV, hc]), (fun h => by have h' := h27 (by simpa [updC] using h); revert h'; simp +contextual [updC, updV, hc]), (fun h => by have h' := h28 (by simpa [updC] using h); revert h'; simp +contextual [updC, updV, hc])⟩))
                    · have hd := hw 8 (by kernel_rfl)
                      refine wpOp_listed rfl ?_
                      refine push_rws rfl _ _ 26 rfl W1.heap.size 5 (.int .u8 0) 1 Tryd.underlying26 infoByte rfl 1 7 _ hR u10 ((Pb.take k).map bv) (by simp [rows11, hc]) (vals 8) [bv p1] (by simp [rows11, hd]) (by simp) (eval_tmp ((hst.other 93 (by kernel_rfl)).trans rfl)) (eval_tmp (hst.at_ 8 96 (by kernel_rfl) (by kernel_rfl) hd (by kernel_rfl))) (ONE _) (LEN _ _).1 (LEN _ _).2 (fun v' w' hR' hB' => ?_)
                      exact wpList_end (postH_normal (hK v' w' ⟨hB.trans hB', by simpa [rows11, updC, updV, hc] using hR', by simpa [updC, updV] using h22, (fun h => by have h' := h25 (by simpa [updC] using h); revert h'; simp +contextual [updC, updV, hc]), (fun h => by have h' := h26 (by simpa [updC] using h); revert h'; simp +contextual [updC, updV, hc]), (fun h => by have h' := h27 (by simpa [updC] using h); revert h'; simp +contextual [updC, updV, hc]), (fun h => by have h' := h28 (by simpa [updC] using h); revert h'; simp +contextual [updC, updV, hc])⟩))
                    · refine wpOp_listed rfl ?_
                      refine build_rws rfl _ 26 rfl W1.heap.size 5 (.int .u8 0) 1 Tryd.underlying26 infoByte 8 _ hR 5 [] (by simp [rows11, hc]) (bv (p0 ^^^ p1)) (eval_tmp ((hst.other 103 (by kernel_rfl)).trans rfl)) rfl (fun v' w' hR' hB' => ?_)
                      exact wpList_end (postH_normal (hK v' w' ⟨hB.trans (hB'.mono hB.size), by simpa [rows11, updC, updV, hc] using hR', by simpa [updC, updV] using h22, (fun h => by have h' := h25 (by simpa [updC] using h); revert h'; simp +contextual [updC, updV, hc]), (fun h => by have h' := h26 (by simpa [updC] using h); revert h'; simp +contextual [updC, updV, hc]), (fun h => by have h' := h27 (by simpa [updC] using h); revert h'; simp +contextual [updC, updV, hc]), (fun h => by have h' := h28 (by simpa [updC] using h); revert h'; simp +contextual [updC, updV, hc])⟩))
                    · have hd := hw 16 (by kernel_rfl)
                      refine wpOp_listed rfl ?_
                      refine push_rws rfl _ _ 26 rfl W1.heap.size 5 (.int .u8 0) 1 Tryd.underlying26 infoByte rfl 2 8 _ hR u11 ((Pc.take k).map bv) (by simp [rows11, hc]) (vals 16) [bv (p0 ^^^ p1)] (by simp [rows11, hd]) (by simp) (eval_tmp ((hst.other 98 (by kernel_rfl)).trans rfl)) (eval_tmp (hst.at_ 16 104 (by kernel_rfl) (by kernel_rfl) hd (by kernel_rfl))) (ONE _) (LEN _ _).1 (LEN _ _).2 (fun v' w' hR' hB' => ?_)
                      exact wpList_end (postH_normal (hK v' w' ⟨hB.trans hB', by simpa [rows11, updC, updV, hc] using hR', by simpa [updC, updV] using h22, (fun h => by have h' := h25 (by simpa [updC] using h); revert h'; simp +contextual [updC, updV, hc]), (fun h => by have h' := h26 (by simpa [updC] using h); revert h'; simp +contextual [updC, updV, hc]), (fun h => by have h' := h27 (by simpa [updC] using h); revert h'; simp +contextual [updC, updV, hc]), (fun h => by have h' := h28 (by simpa [updC] using h); revert h'; simp +contextual [updC, updV, hc])⟩))
                    · refine wpOp_call rfl rfl rfl (enter_of Tryd.func12 (by kernel_rfl) (by kernel_rfl)) #[.int .u8 cc.toNat, .int .u8 p0.toNat] ?_ ((MUL _ hB).mono ?_)
                      · have x1 : a.eval (.tmp 107) = .int .u8 cc.toNat := eval_tmp ((hst.other 107 (by kernel_rfl)).trans rfl)
                        have x2 : a.eval (.tmp 109) = .int .u8 p0.toNat := eval_tmp ((hst.other 109 (by kernel_rfl)).trans rfl)
                        simp only [List.map_toArray, List.map_cons, List.map_nil, x1, x2]
                      · rintro e w' ⟨rfl, n, rfl⟩
                        exact ⟨_, rfl, hK _ _ ⟨below_drewN hB n, by simpa [rows11, updC, updV] using hR.keep (below_drewN (Below.refl _ _) n), by simp [updC, updV], (fun h => by have h' := h25 (by simpa [updC] using h); revert h'; simp +contextual [updC, updV, hc]), (fun h => by have h' := h26 (by simpa [updC] using h); revert h'; simp +contextual [updC, updV, hc]), (fun h => by have h' := h27 (by simpa [updC] using h); revert h'; simp +contextual [updC, updV, hc]), (fun h => by have h' := h28 (by simpa [updC] using h); revert h'; simp +contextual [updC, updV, hc])⟩⟩
                    · refine wpOp_listed rfl ?_
                      refine build_rws rfl _ 26 rfl W1.heap.size 5 (.int .u8 0) 1 Tryd.underlying26 infoByte 9 _ hR 5 [] (by simp [rows11, hc]) (bv (Gf.mul cc p0)) ((eval_tmp (hst.at_ 22 110 (by kernel_rfl) (by kernel_rfl) (hw 22 (by kernel_rfl)) (by kernel_rfl))).trans (h22 (hw 22 (by kernel_rfl)))) rfl (fun v' w' hR' hB' => ?_)
                      exact wpList_end (postH_normal (hK v' w' ⟨hB.trans (hB'.mono hB.size), by simpa [rows11, updC, updV, hc] using hR', by simpa [updC, updV] using h22, (fun h => by have h' := h25 (by simpa [updC] using h); revert h'; simp +contextual [updC, updV, hc]), (fun h => by have h' := h26 (by simpa [updC] using h); revert h'; simp +contextual [updC, updV, hc]), (fun h => by have h' := h27 (by simpa [updC] using h); revert h'; simp +contextual [updC, updV, hc]), (fun h => by have h' := h28 (by simpa [updC] using h); revert h'; simp +contextual [updC, updV, hc])⟩))
                    · have hd := hw 23 (by kernel_rfl)
                      refine wpOp_listed rfl ?_
                      refine push_rws rfl _ _ 26 rfl W1.heap.size 5 (.int .u8 0) 1 Tryd.underlying26 infoByte rfl 3 9 _ hR u12 ((Pd.take k).map bv) (by simp [rows11, hc]) (vals 23) [bv (Gf.mul cc p0)] (by simp [rows11, hd]) (by simp) (eval_tmp ((hst.other 106 (by kernel_rfl)).trans rfl)) (eval_tmp (hst.at_ 23 111 (by kernel_rfl) (by kernel_rfl) hd (by kernel_rfl))) (ONE _) (LEN _ _).1 (LEN _ _).2 (fun v' w' hR' hB' => ?_)
                      exact wpList_end (postH_normal (hK v' w' ⟨hB.trans hB', by simpa [rows11, updC, updV, hc] using hR', by simpa [updC, updV] using h22, (fun h => by have h' := h25 (by simpa [updC] using h); revert h'; simp +contextual [updC, updV, hc]), (fun h => by have h' := h26 (by simpa [updC] using h); revert h'; simp +contextual [updC, updV, hc]), (fun h => by have h' := h27 (by simpa [updC] using h); revert h'; simp +contextual [updC, updV, hc]), (fun h => by have h' := h28 (by simpa [updC] using h); revert h'; simp +contextual [updC, updV, hc])⟩))
                    · refine wpOp_move rfl rfl _ (.inl rfl) (vals 4) (eval_tmp (hst.at_ 4 92 (by kernel_rfl) (by kernel_rfl) (hw 4 (by kernel_rfl)) (by kernel_rfl))) (hK _ _ ⟨hB, by simpa [rows11, updC, updV] using hR, by simpa [updC, updV] using h22, (fun _ => ⟨by simp [updC, hw 4 (by kernel_rfl)], by simp [updV]⟩), (fun h => by have h' := h26 (by simpa [updC] using h); revert h'; simp +contextual [updC, updV, hc]), (fun h => by have h' := h27 (by simpa [updC] using h); revert h'; simp +contextual [updC, updV, hc]), (fun h => by have h' := h28 (by simpa [updC] using h); revert h'; simp +contextual [updC, updV, hc])⟩)
                    · refine wpOp_move rfl rfl _ (.inl rfl) (vals 9) (eval_tmp (hst.at_ 9 97 (by kernel_rfl) (by kernel_rfl) (hw 9 (by kernel_rfl)) (by kernel_rfl))) (hK _ _ ⟨hB, by simpa [rows11, updC, updV] using hR, by simpa [updC, updV] using h22, (fun h => by have h' := h25 (by simpa [updC] using h); revert h'; simp +contextual [updC, updV, hc]), (fun _ => ⟨by simp [updC, hw 9 (by kernel_rfl)], by simp [updV]⟩), (fun h => by have h' := h27 (by simpa [updC] using h); revert h'; simp +contextual [updC, updV, hc]), (fun h => by have h' := h28 (by simpa [updC] using h); revert h'; simp +contextual [updC, updV, hc])⟩)
                    · refine wpOp_move rfl rfl _ (.inl rfl) (vals 17) (eval_tmp (hst.at_ 17 105 (by kernel_rfl) (by kernel_rfl) (hw 17 (by kernel_rfl)) (by kernel_rfl))) (hK _ _ ⟨hB, by simpa [rows11, updC, updV] using hR, by simpa [updC, updV] using h22, (fun h => by have h' := h25 (by simpa [updC] using h); revert h'; simp +contextual [updC, updV, hc]), (fun h => by have h' := h26 (by simpa [updC] using h); revert h'; simp +contextual [updC, updV, hc]), (fun _ => ⟨by simp [updC, hw 17 (by kernel_rfl)], by simp [updV]⟩), (fun h => by have h' := h28 (by simpa [updC] using h); revert h'; simp +contextual [updC, updV, hc])⟩)
                    · refine wpOp_move rfl rfl _ (.inl rfl) (vals 24) (eval_tmp (hst.at_ 24 112 (by kernel_rfl) (by kernel_rfl) (hw 24 (by kernel_rfl)) (by kernel_rfl))) (hK _ _ ⟨hB, by simpa [rows11, updC, updV] using hR, by simpa [updC, updV] using h22, (fun h => by have h' := h25 (by simpa [updC] using h); revert h'; simp +contextual [updC, updV, hc]), (fun h => by have h' := h26 (by simpa [updC] using h); revert h'; simp +contextual [updC, updV, hc]), (fun h => by have h' := h27 (by simpa [updC] using h); revert h'; simp +contextual [updC, updV, hc]), (fun _ => ⟨by simp [updC, hw 24 (by kernel_rfl)], by simp [updV]⟩)⟩)
                  · intro c vals W hc hRR
                    obtain ⟨hB, hR, _, h25, h26, h27, h28⟩ := hRR
                    have c3 := hc 3 (by decide)
                    have c4 := hc 4 (by decide)
                    have c8 := hc 8 (by decide)
                    have c9 := hc 9 (by decide)
                    have c16 := hc 16 (by decide)
                    have c17 := hc 17 (by decide)
                    have c23 := hc 23 (by decide)
                    have c24 := hc 24 (by decide)
                    replace hR : Rws W1.heap.size W [(vals 25, 5, (Pa.take k).map bv ++ [bv p0]), (vals 26, 5, (Pb.take k).map bv ++ [bv p1]), (vals 27, 5, (Pc.take k).map bv ++ [bv (p0 ^^^ p1)]), (vals 28, 5, (Pd.take k).map bv ++ [bv (Gf.mul cc p0)]), (u13, 9, (Ps.take k).map sv)] := by
                      rw [(h25 (hc 25 (by decide))).2, (h26 (hc 26 (by decide))).2, (h27 (hc 27 (by decide))).2, (h28 (hc 28 (by decide))).2]
                      refine Rws.front (extra := [(.slice (some ⟨wr.heap.size, 0, none⟩) 2 2, 27, [bv p0, bv p1]), (vals 3, 5, [bv p0]), (vals 8, 5, [bv p1]), (vals 16, 5, [bv (p0 ^^^ p1)]), (vals 23, 5, [bv (Gf.mul cc p0)])]) ?_
                      simpa [rows11, c3, c4, c8, c9, c16, c17, c23, c24] using hR
                    clear h25 h26 h27 h28 hc c3 c4 c8 c9 c16 c17 c23 c24
                    simp only [framedAll, List.map_cons, List.map_nil, Act.put, List.setIfInBounds_toArray, List.set_cons_zero, List.set_cons_succ]
                    show KK _ W
                    refine hKK _ _ (Met.intro (hJ _ _ ?_))
                    repeat apply Exists.intro
                    exact ⟨⟨hB, hR⟩, rfl⟩
                case rest =>
                  obtain ⟨hBc0, hRc0⟩ := hcut
                  have hBc := Lib.hid hBc0
                  have hRc := Lib.hid (hRc0.more 9)
                  clear hBc0 hRc0
                  obtain ⟨SP, hSP⟩ : ∃ SP : World → Prop, ∀ W, (SP W ↔ W.cell? (xd.add k) = some (.string SX) ∧ W.cell? (yd.add k) = some (.string SY)) := ⟨_, fun W => Iff.rfl⟩
                  have hSS := Lib.hid (fun W (hB : Below W1.heap.size W1 W) => (hSP W).2 (by
                    have a1 := qX.out W hB
                    have a2 := qY.out W hB
                    unfold sv at a1 a2
                    rw [hSX'.out] at a1
                    rw [hSY'.out] at a2
                    exact ⟨a1, a2⟩))
                  have zx : ∀ z : SOf SP, z.world.cell? (xd.add k) = some (.string SX) := fun z => ((hSP _).1 z.meets).1
                  have zy : ∀ z : SOf SP, z.world.cell? (yd.add k) = some (.string SY) := fun z => ((hSP _).1 z.meets).2
                  have hne : Nonempty (SOf SP) := ⟨⟨_, hSS.out _ hBc.out⟩⟩
                  clear hSP
                  have SUM : Hid (∀ W, Calls Tryd.prog 13 #[.string SX, .string SY] W fun e w' => e = .returned (sv (Gf.vsum xk yk)) ∧ Below W.heap.size W w') := fun W => by
                    have := sum_any xk yk W (by have := hok.out; omega) (by have := hok.out; omega)
                    unfold sv at this ⊢
                    rw [hSX'.out, hSY'.out] at this
                    exact this
                  have hrow : Hid (∀ (l : List Value) (v : Value), True) := fun _ _ => trivial
                  clear z1 z2 z3
                  go_wp2_with fail
                  refine wp_region_planH SP [0, 1, 2, 3, 4, 5, 6, 7, 8] 4 (by kernel_rfl) (by kernel_rfl) (by kernel_rfl) (by kernel_rfl) (by intro c a d v w h; cases d <;> exact h) (hSS.out _ hBc.out.drew) ?_
                  change wpPlanH _ _ _ _ _ _ _ _ _ wc.drew
                  iterate 9 (refine wpPlanH_plain rfl (fun K hK => ?_); go_simp; refine hK _ ?_; clear hK K)
                  clear zx zy hne
                  refine wpAnyH_each (rs := [9]) (by kernel_rfl) (by decide) (fun K hK i hi => ?_)
                  obtain rfl := List.mem_singleton.1 hi
                  refine wpOp_listed rfl ?_
                  go_wp2_with fail
                  refine (SUM.out _).mono ?_
                  rintro e w10 ⟨rfl, hb10⟩
                  have hR10' := hRc.out.keep (drewBelow hb10)
                  have hB10 := hBc.out.trans ((drewBelow hb10).mono hBc.out.size)
                  go_wp2_with fail
                  refine postH_normal (hK _ _ _ (hSS.out _ hB10) ?_)
                  clear hK K
                  refine wpAnyH_each (rs := [10]) (by kernel_rfl) (by decide) (fun K hK i hi => ?_)
                  obtain rfl := List.mem_singleton.1 hi
                  refine wpOp_listed rfl ?_
                  refine build_rws rfl _ 23 rfl W1.heap.size 9 (.string ⟨#[]⟩) 16 Tryd.underlying23 infoStr 5 _ hR10' 9 [] rfl (sv (Gf.vsum xk yk)) rfl rfl ?_
                  intro v11 w11 hR11 hb11
                  have hB11 := hB10.trans (hb11.mono hB10.size)
                  refine wpList_end (postH_normal (hK _ _ _ (hSS.out _ hB11) ?_))
                  clear hK K
                  refine wpAnyH_each (rs := [11]) (by kernel_rfl) (by decide) (fun K hK i hi => ?_)
                  obtain rfl := List.mem_singleton.1 hi
                  refine wpOp_listed rfl ?_
                  refine push_rws rfl _ _ 23 rfl W1.heap.size 9 (.string ⟨#[]⟩) 16 Tryd.underlying23 infoStr rfl 4 5 _ hR11 u13 ((Ps.take k).map sv) rfl v11 [sv (Gf.vsum xk yk)] rfl (by simp) rfl rfl (by intro q hq; rw [List.mem_singleton.1 hq]; rfl) (by simp only [List.length_map, List.length_take, List.length_singleton]; unfold maxLen; omega) (by simp only [List.length_map, List.length_take, List.length_singleton]; omega) ?_
                  intro v12 w12 hR12 hb12
                  refine wpList_end (postH_normal (hK _ _ _ (hSS.out _ (hB11.trans hb12)) ?_))
                  clear hK K
                  have hB12 := Lib.hid (hB11.trans hb12)
                  have hRn : Hid (Rws W1.heap.size w12 [(u9, 5, (Pa.take (k + 1)).map bv), (u10, 5, (Pb.take (k + 1)).map bv), (u11, 5, (Pc.take (k + 1)).map bv), (u12, 5, (Pd.take (k + 1)).map bv), (v12, 9, (Ps.take (k + 1)).map sv)]) := by
                    show Rws _ _ _
                    have ea : Pa[k]? = some p0 := by rw [hdef.out.1, List.getElem?_map, hPk.out]; rfl
                    have eb : Pb[k]? = some p1 := by rw [hdef.out.2.1, List.getElem?_map, hPk.out]; rfl
                    have ec : Pc[k]? = some (p0 ^^^ p1) := by rw [hdef.out.2.2.1, List.getElem?_zipWith, ea, eb]
                    have ed : Pd[k]? = some (Gf.mul cc p0) := by rw [hdef.out.2.2.2.1, List.getElem?_map, ea]; rfl
                    have es : Ps[k]? = some (Gf.vsum xk yk) := by rw [hdef.out.2.2.2.2.1, List.getElem?_zipWith, gx.out, gy.out]
                    rw [List.take_add_one, List.take_add_one, List.take_add_one, List.take_add_one, List.take_add_one, ea, eb, ec, ed, es]
                    simp only [Option.toList_some, List.map_append, List.map_cons, List.map_nil]
                    exact Rws.front (extra := [(v11, 9, [sv (Gf.vsum xk yk)])]) hR12
                  have hnext : Hid (∀ j, j < k + 1 → (x.getD j []).length = L ∧ (y.getD j []).length = L ∧ L ≤ 100) := fun j hj => by
                    by_cases hjk : j = k
                    · subst hjk
                      rw [List.getD_eq_getElem?_getD, List.getD_eq_getElem?_getD, gx.out, gy.out]
                      exact hok.out
                    · exact hall.out j (by omega)
                  clear hR10' hB10 hR11 hB11 hR12 hb10 hb11 hb12 hRc hBc SUM qX qY
                  refine wpAnyH_each (rs := [12]) (by kernel_rfl) (by decide) (fun K hK i hi => ?_)
                  obtain rfl := List.mem_singleton.1 hi
                  refine wpOp_listed rfl ?_
                  go_wp2_with fail
                  refine postH_normal (hK _ _ _ (hSS.out _ hB12.out) ?_)
                  clear hK K hSS
                  refine wpAnyH_done (by kernel_rfl) ?_ _
                  go_wp2_with fail
                  go_roundw
                  case rel => exact ⟨k + 1, by omega, by go_num, hB12.out, hRn.out, hnext⟩
                  case measure => simp [intOf]; omega
            · have u2 : (((bs yk).size : Int) != ((bs x0).size : Int)) = true := by simp only [bne_iff_ne, ne_eq]; omega
              unfold sv at z1 z2 z3
              generalize bs xk = SX at *
              generalize bs yk = SY at *
              generalize bs x0 = S0 at *
              clear sx sx0 sy c1' c2'
              go_quiet (fail)
              go_wp2_with fail
              refine (hHS.out _ (below_drewN (Below.refl _ _) _)).mono ?_
              rintro e w' ⟨rfl, hb⟩
              go_wp2_with fail
              go_ret
              exact ⟨rfl, (below_drewN hBn.out _).trans (hb.mono hBn.out.size)⟩
          · have u1 : (((bs xk).size : Int) != ((bs x0).size : Int)) = true := by simp only [bne_iff_ne, ne_eq]; omega
            unfold sv at z1 z2 z3
            generalize bs xk = SX at *
            generalize bs yk = SY at *
            generalize bs x0 = S0 at *
            clear sx sx0 sy c1'
            go_quiet (fail)
            go_wp2_with fail
            refine (hHS.out _ (below_drewN (Below.refl _ _) _)).mono ?_
            rintro e w' ⟨rfl, hb⟩
            go_wp2_with fail
            go_ret
            exact ⟨rfl, (below_drewN hBn.out _).trans (hb.mono hBn.out.size)⟩
        · have t : ¬ (k : Int) < (P.length : Int) := by omega
          have hkP : k = P.length := by omega
          have la : Pa.length = P.length := by rw [hdef.out.1, List.length_map]
          have lb : Pb.length = P.length := by rw [hdef.out.2.1, List.length_map]
          have lc : Pc.length = P.length := by rw [hdef.out.2.2.1, List.length_zipWith, la, lb]; omega
          have ld : Pd.length = P.length := by rw [hdef.out.2.2.2.1, List.length_map, la]
          have ls : Ps.length = P.length := by rw [hdef.out.2.2.2.2.1, List.length_zipWith]; omega
          have hRR := hR.out
          rw [List.take_of_length_le (by omega), List.take_of_length_le (by omega), List.take_of_length_le (by omega), List.take_of_length_le (by omega), List.take_of_length_le (by omega)] at hRR
          obtain ⟨A3, c3, e3, _, _, _, ra⟩ := own_form (hRR.row 0 rfl)
          obtain ⟨A4, c4, e4, _, _, _, rb⟩ := own_form (hRR.row 1 rfl)
          obtain ⟨A5, c5, e5, _, _, _, rc⟩ := own_form (hRR.row 2 rfl)
          obtain ⟨A6, c6, e6, _, _, _, rd⟩ := own_form (hRR.row 3 rfl)
          obtain ⟨A7, c7, e7, _, _, _, rs⟩ := own_form (hRR.row 4 rfl)
          rw [List.length_map] at e3 e4 e5 e6 e7
          subst e3 e4 e5 e6 e7
          have hL : L ≤ 100 := by
            by_cases h0 : 0 < P.length
            · exact (hall.out 0 (by omega)).2.2
            · have hx0 : x = [] := List.eq_nil_of_length_eq_zero (by omega)
              rw [hdef.out.2.2.2.2.2, hx0]
              simp
          have hAx : Gf.All L x := fun q hq => by
            obtain ⟨j, hj⟩ := List.getElem?_of_mem hq
            have hjl := (List.getElem?_eq_some_iff.1 hj).1
            have := (hall.out j (by omega)).1
            rw [List.getD_eq_getElem?_getD, hj] at this
            exact this
          have hAy : Gf.All L y := fun q hq => by
            obtain ⟨j, hj⟩ := List.getElem?_of_mem hq
            have hjl := (List.getElem?_eq_some_iff.1 hj).1
            have := (hall.out j (by omega)).2.1
            rw [List.getD_eq_getElem?_getD, hj] at this
            exact this
          have hAs : Gf.All L Ps := by rw [hdef.out.2.2.2.2.1]; exact Gf.all_sums hAx hAy
          have hTW : ∀ W, Below wr.heap.size wr W → PTab 0 W := fun W hB => by
            have hB2 := hbw.trans (hB.mono hbw.size)
            exact hT1.out.below (Below.mono (show Below W1.heap.size W1.drew W from ⟨hB2.os, hB2.tape, hB2.output, hB2.size, hB2.block⟩) (Nat.le_refl _)) hT1.out.1
          have hwle : w.heap.size ≤ W1.heap.size := by rw [hs1.out]; omega
          have hWx : ∀ W, Below wr.heap.size wr W → Below w.heap.size W1.drew W := fun W hB => by
            have hB2 := (hbw.trans (hB.mono hbw.size)).mono hwle
            exact ⟨hB2.os, hB2.tape, hB2.output, hB2.size, hB2.block⟩
          have CM : ∀ (coef : List UInt8) (parts : List (List UInt8)) (A A' : Option Addr) (c c' : Nat) (V : List UInt8), coef.length = P.length → parts.length = P.length → Gf.All L parts → Gf.comb coef parts = V → (∀ W, Below wr.heap.size wr W → Rds W W.heap.size A (coef.map bv)) → (∀ W, Below wr.heap.size wr W → Rds W W.heap.size A' (parts.map sv)) →
              Hid (∀ W, Below wr.heap.size wr W → Calls Tryd.prog 14 #[.slice A coef.length c, .slice A' parts.length c'] W fun e w' => e = .returned (.tuple #[.string (bs V), .int .i64 0]) ∧ Below W.heap.size W w') := fun coef parts A A' c c' V h1 h2 h3 h4 h5 h6 W hB => by
            have := combine_ok coef parts A A' c c' W (by omega) (fun q hq => by rw [h3 q hq]; omega) (h5 W hB) (h6 W hB) (Gf.fit_of (by omega) h3) (hTW W hB)
            rw [h4] at this
            exact this
          have hWs : ∀ W, Below wr.heap.size wr W → w.heap.size ≤ W.heap.size := fun W hB => Nat.le_trans hwle (Nat.le_trans hbw.size hB.size)
          have Rx : ∀ W, Below wr.heap.size wr W → Rds W W.heap.size A1 (x.map sv) := fun W hB => Rds.more (r1.out.below (hWx W hB)) (hWs W hB)
          have Ry : ∀ W, Below wr.heap.size wr W → Rds W W.heap.size A2 (y.map sv) := fun W hB => Rds.more (r2.out.below (hWx W hB)) (hWs W hB)
          have Ra : ∀ W, Below wr.heap.size wr W → Rds W W.heap.size A3 (Pa.map bv) := fun W hB => Rds.more (ra.below hB) hB.size
          have hlx : (x.headD []).length = L := by rw [← hdef.out.2.2.2.2.2]
          have hly : (y.headD []).length = L := Gf.head_len hAy fun h0 => by
            have h00 : y.length = 0 := by rw [h0]; rfl
            have hx0 : x = [] := List.eq_nil_of_length_eq_zero (by omega)
            rw [hdef.out.2.2.2.2.2, hx0]
            rfl
          obtain ⟨V1, hV1⟩ : ∃ V, V = Gf.comb Pa x := ⟨_, rfl⟩
          obtain ⟨V2, hV2⟩ : ∃ V, V = Gf.comb Pb x := ⟨_, rfl⟩
          obtain ⟨V4, hV4⟩ : ∃ V, V = Gf.comb Pa y := ⟨_, rfl⟩
          have len1 : V1.length = L := by rw [hV1, Gf.comb_len, hlx]
          have len2 : V2.length = L := by rw [hV2, Gf.comb_len, hlx]
          have len4 : V4.length = L := by rw [hV4, Gf.comb_len, hly]
          have C1 := CM Pa x A3 A1 c3 c1 V1 la (by omega) hAx hV1.symm Ra Rx
          have C2 := CM Pb x A4 A1 c4 c1 V2 lb (by omega) hAx hV2.symm (fun W hB => Rds.more (rb.below hB) hB.size) Rx
          have C3 := CM Pc x A5 A1 c5 c1 (Gf.vsum V1 V2) lc (by omega) hAx (by rw [hdef.out.2.2.1, hV1, hV2]; exact Gf.comb_both (n := L) (by omega) (by omega) hAx) (fun W hB => Rds.more (rc.below hB) hB.size) Rx
          have C4 := CM Pa y A3 A2 c3 c2 V4 la (by omega) hAy hV4.symm Ra Ry
          have C5 := CM Pa Ps A3 A7 c3 c7 (Gf.vsum V1 V4) la ls hAs (by rw [hdef.out.2.2.2.2.1, hV1, hV4]; exact Gf.comb_sums (n := L) (by omega) (by omega) hAx hAy) Ra (fun W hB => Rds.more (rs.below hB) hB.size)
          have C6 := CM Pd x A6 A1 c6 c1 (Gf.scale cc V1) ld (by omega) hAx (by rw [hdef.out.2.2.2.1, hV1]; exact Gf.comb_scale (n := L) cc (by omega) hAx) (fun W hB => Rds.more (rd.below hB) hB.size) Rx
          have D1 : Hid (∀ W, Calls Tryd.prog 13 #[.string (bs V1), .string (bs V2)] W fun e w' => e = .returned (.string (bs (Gf.vsum V1 V2))) ∧ Below W.heap.size W w') := fun W => sum_any V1 V2 W (by omega) (by omega)
          have D2 : Hid (∀ W, Calls Tryd.prog 13 #[.string (bs V1), .string (bs V4)] W fun e w' => e = .returned (.string (bs (Gf.vsum V1 V4))) ∧ Below W.heap.size W w') := fun W => sum_any V1 V4 W (by omega) (by omega)
          have D3 : Hid (∀ W, Below wr.heap.size wr W → Calls Tryd.prog 15 #[.int .u8 cc.toNat, .string (bs V1)] W fun e w' => e = .returned (.string (bs (Gf.scale cc V1))) ∧ Below W.heap.size W w') := fun W hB => scale_any cc V1 W (by omega) (hTW W hB)
          have HS2 : Hid (∀ W, Below wr.heap.size wr W → Calls Tryd.prog 11 #[] W fun e w' => e = .returned (.bool true) ∧ Below W.heap.size W w') := fun W hB => sanity_any W (hTW W hB)
          have hBe : Hid (Below w.heap.size w wr) := hB1.out.trans (hbw.mono hwle)
          generalize bs (Gf.vsum V1 V2) = S3 at C3 D1
          generalize bs (Gf.vsum V1 V4) = S5 at C5 D2
          generalize bs (Gf.scale cc V1) = S6 at C6 D3
          generalize bs V1 = S1 at C1 D1 D2 D3
          generalize bs V2 = S2 at C2 D1
          generalize bs V4 = S4 at C4 D2
          have hb0 := Lib.hid (Below.refl wr.heap.size wr)
          clear hWs hV1 hV2 hV4 len1 len2 len4 hRR hR ra rb rc rd rs Rx Ry Ra CM hWx hTW hAx hAy hAs hL hlx hly la lb lc ld ls hall hbw hwle r0 r1 r2 s0 hdef hkP hx' hy' xl1 xl2 yl1 yl2
          go_wp2_with fail
          refine (C1.out _ hb0.out).mono ?_
          rintro e w1 ⟨rfl, hb⟩
          have hb1 := Lib.hid (hb0.out.trans (hb.mono hb0.out.size))
          clear hb
          go_wp2_with fail
          refine (C2.out _ hb1.out).mono ?_
          rintro e w2 ⟨rfl, hb⟩
          have hb2 := Lib.hid (hb1.out.trans (hb.mono hb1.out.size))
          clear hb
          go_wp2_with fail
          refine (C3.out _ hb2.out).mono ?_
          rintro e w3 ⟨rfl, hb⟩
          have hb3 := Lib.hid (hb2.out.trans (hb.mono hb2.out.size))
          clear hb
          go_wp2_with fail
          refine (C4.out _ hb3.out).mono ?_
          rintro e w4 ⟨rfl, hb⟩
          have hb4 := Lib.hid (hb3.out.trans (hb.mono hb3.out.size))
          clear hb
          go_wp2_with fail
          refine (C5.out _ hb4.out).mono ?_
          rintro e w5 ⟨rfl, hb⟩
          have hb5 := Lib.hid (hb4.out.trans (hb.mono hb4.out.size))
          clear hb
          go_wp2_with fail
          refine (C6.out _ hb5.out).mono ?_
          rintro e w6 ⟨rfl, hb⟩
          have hb6 := Lib.hid (hb5.out.trans (hb.mono hb5.out.size))
          clear hb
          go_wp2_with fail
          refine (HS2.out _ hb6.out).mono ?_
          rintro e w7 ⟨rfl, hb⟩
          have hb7 := Lib.hid (hb6.out.trans (hb.mono hb6.out.size))
          clear hb
          go_wp2_with fail
          refine (D1.out _).mono ?_
          rintro e w8 ⟨rfl, hb⟩
          have hb8 := Lib.hid (hb7.out.trans (hb.mono hb7.out.size))
          clear hb
          go_wp2_with fail
          refine (D2.out _).mono ?_
          rintro e w9 ⟨rfl, hb⟩
          have hb9 := Lib.hid (hb8.out.trans (hb.mono hb8.out.size))
          clear hb
          go_wp2_with fail
          refine (D3.out _ hb9.out).mono ?_
          rintro e w10 ⟨rfl, hb⟩
          have hb10 := Lib.hid (hb9.out.trans (hb.mono hb9.out.size))
          clear hb
          go_wp2_with fail
          go_ret
          exact ⟨rfl, hBe.out.trans (hb10.out.mono hBe.out.size)⟩
    · have t2' : ((y.length : Int) != (P.length : Int)) = true := by simp only [bne_iff_ne, ne_eq]; omega
      have t1' : ((x.length : Int) != (P.length : Int)) = false := by simp only [bne_eq_false_iff_eq]; omega
      clear t1
      unfold bv
      go_enter Tryd.func3, Tryd.ntmps3
      go_wp2_with fail
      generalize hg : w.alloc _ = Wg
      have hgW : W1 = Wg := by rw [← hg, hW1'.out]
      clear hg hW1'
      subst hgW
      refine wp_region_planL 99 [(true, 0), (true, 1), (true, 2), (true, 3), (true, 4), (true, 5)] (by kernel_rfl) (by decide) (by kernel_rfl) (by kernel_rfl) (by kernel_rfl) (by decide) (by intro c a d v w h; cases d <;> exact h) ?_
      change wpPlanL _ _ _ _ _ _ W1.drew
      iterate 6 (refine wpPlanL_plain rfl (fun K hK => ?_); go_simp; refine hK _ ?_; clear hK K)
      refine wpPlanL_nil ?_
      clear q1 q2
      go_wp2_with fail
      refine HS.out.mono ?_
      rintro e w' ⟨rfl, hb⟩
      go_wp2_with fail
      go_ret
      exact ⟨rfl, hBd.out.trans (hb.mono hBd.out.size)⟩
  · have t1' : ((x.length : Int) != (P.length : Int)) = true := by simp only [bne_iff_ne, ne_eq]; omega
    clear t1
    unfold bv
    go_enter Tryd.func3, Tryd.ntmps3
    go_wp2_with fail
    generalize hg : w.alloc _ = Wg
    have hgW : W1 = Wg := by rw [← hg, hW1'.out]
    clear hg hW1'
    subst hgW
    refine wp_region_planL 99 [(true, 0), (true, 1), (true, 2), (true, 3), (true, 4), (true, 5)] (by kernel_rfl) (by decide) (by kernel_rfl) (by kernel_rfl) (by kernel_rfl) (by decide) (by intro c a d v w h; cases d <;> exact h) ?_
    change wpPlanL _ _ _ _ _ _ W1.drew
    iterate 6 (refine wpPlanL_plain rfl (fun K hK => ?_); go_simp; refine hK _ ?_; clear hK K)
    refine wpPlanL_nil ?_
    clear q1 q2
    go_wp2_with fail
    refine HS.out.mono ?_
    rintro e w' ⟨rfl, hb⟩
    go_wp2_with fail
    go_ret
    exact ⟨rfl, hBd.out.trans (hb.mono hBd.out.size)⟩
theorem walk_linear_n (A0 : Option Addr) (c0 : Nat) (P : List (List UInt8)) (A1 : Option Addr) (c1 : Nat) (x : List (List UInt8)) (A2 : Option Addr) (c2 : Nat) (y : List (List UInt8)) (cc : Nat) (w : World)
    (H0 : SlA 2 w A0 P.length c0 P) (H1 : SlT w A1 x.length c1 x) (H2 : SlT w A2 y.length c2 y) (hc : cc < 256) (ht : PTab 0 w) :
    Calls Tryd.prog 3 #[.slice A0 P.length c0, .agg #[.slice A1 x.length c1, .slice A2 y.length c2], .int .u8 cc] w (OkEnd true w) := by
  have h := walk_linear A0 c0 P A1 c1 x A2 c2 y (UInt8.ofNat cc) w H0 H1 H2 ht
  rw [bv_ofNat hc] at h
  exact h
end Go.Proofs.YtlpkndjjallfkaaDoor
