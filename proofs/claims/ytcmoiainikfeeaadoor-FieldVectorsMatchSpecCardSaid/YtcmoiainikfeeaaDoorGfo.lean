/-
  The law on vectors: its walk.
-/
import Derived.Test.YtcmoiainikfeeaaDoorGfy
import Derived.Test.YtcmoiainikfeeaaDoorGfs
import Derived.Test.YtcmoiainikfeeaaDoorOpn
namespace Go.Proofs.YtcmoiainikfeeaaDoor
set_option linter.unusedVariables false
set_option linter.unusedSimpArgs false
open Go.RowKit

theorem both_comb (coef : List UInt8) (parts : List (List UInt8)) : ∃ (V : List UInt8) (E : Int), cres coef parts = [sv V, .int .i64 E] ∧ ∀ (A A' : Option Addr) (c c' : Nat) (w : World), parts.length ≤ 140737488351232 → coef.length ≤ 140737488351232 → (∀ x ∈ parts, x.length ≤ 140737488355328) →
    Rds w w.heap.size A (coef.map bv) → Rds w w.heap.size A' (parts.map sv) → PTab 0 w →
    Calls Tryd.prog 19 #[.slice A coef.length c, .slice A' parts.length c'] w fun e w' => e = .returned (.tuple #[sv V, .int .i64 E]) ∧ Below w.heap.size w w' := by
  by_cases hf : Gf.Fit coef parts
  · exact ⟨Gf.comb coef parts, 0, by unfold cres; rw [if_pos hf], fun A A' c c' w h1 _ h3 hr hs ht => combine_ok coef parts A A' c c' w h1 h3 hr hs hf ht⟩
  · exact ⟨[], 1, by unfold cres; rw [if_neg hf], fun A A' c c' w h1 h2 _ _ hs _ => combine_no coef parts A A' c c' w h1 h2 hs hf⟩

set_option maxRecDepth 100000 in
set_option maxHeartbeats 8000000 in
theorem walk_vectors (a b : List UInt8) (A2 : Option Addr) (c2 : Nat) (coef : List UInt8) (A3 : Option Addr) (c3 : Nat) (parts : List (List UInt8)) (w : World) (ha : a.length ≤ 140737488351232) (hb : b.length ≤ 140737488351232)
    (H2 : SlB w A2 coef.length c2 coef) (H3 : SlS w A3 parts.length c3 parts) (ht : PTab 0 w) :
    Calls Tryd.prog 6 #[sv a, sv b, .slice A2 coef.length c2, .slice A3 parts.length c3] w (OkEnd true w) := by
  have HS : Hid (Calls Tryd.prog 10 #[] w fun e w' => e = .returned (.bool true) ∧ Below w.heap.size w w') := sanity_any w ht
  have sa := bs_size a
  have sb := bs_size b
  have HA := Lib.hid (rfl : bs a = bs a)
  have HB := Lib.hid (rfl : bs b = bs b)
  by_cases q0 : 200 < a.length
  · have t0 : (200 : Int) < (bs a).size := by omega
    unfold sv
    generalize bs a = SA at *
    generalize bs b = SB at *
    clear H2 H3 ht sa sb ha hb q0
    go_enter Tryd.func6, Tryd.ntmps6
    go_wp2_with fail
    refine HS.out.mono ?_
    rintro e w' ⟨rfl, hb⟩
    go_wp2_with fail
    go_ret
    exact ⟨rfl, hb⟩
  have t0 : ¬ (200 : Int) < (bs a).size := by omega
  by_cases q1 : 200 < b.length
  · have t1 : (200 : Int) < (bs b).size := by omega
    unfold sv
    generalize bs a = SA at *
    generalize bs b = SB at *
    clear H2 H3 ht sa sb ha hb q1
    go_enter Tryd.func6, Tryd.ntmps6
    go_wp2_with fail
    refine HS.out.mono ?_
    rintro e w' ⟨rfl, hb⟩
    go_wp2_with fail
    go_ret
    exact ⟨rfl, hb⟩
  have t1 : ¬ (200 : Int) < (bs b).size := by omega
  by_cases q2 : 8 < coef.length
  · have t2 : (8 : Int) < (coef.length : Int) := by omega
    unfold sv
    generalize bs a = SA at *
    generalize bs b = SB at *
    clear H2 H3 ht sa sb ha hb q2
    go_enter Tryd.func6, Tryd.ntmps6
    go_wp2_with fail
    refine HS.out.mono ?_
    rintro e w' ⟨rfl, hb⟩
    go_wp2_with fail
    go_ret
    exact ⟨rfl, hb⟩
  have t2 : ¬ (8 : Int) < (coef.length : Int) := by omega
  by_cases q3 : 8 < parts.length
  · have t3 : (8 : Int) < (parts.length : Int) := by omega
    unfold sv
    generalize bs a = SA at *
    generalize bs b = SB at *
    clear H2 H3 ht sa sb ha hb q3
    go_enter Tryd.func6, Tryd.ntmps6
    go_wp2_with fail
    refine HS.out.mono ?_
    rintro e w' ⟨rfl, hb⟩
    go_wp2_with fail
    go_ret
    exact ⟨rfl, hb⟩
  have t3 : ¬ (8 : Int) < (parts.length : Int) := by omega
  obtain ⟨V, E, hcr, hC⟩ := both_comb coef parts
  have hcr' := Lib.hid hcr
  have r2 := Lib.hid H2.rds
  have r3 := Lib.hid H3.rds
  have n2 := H2.reach
  have n3 := H3.reach
  have hT := Lib.hid ht
  have hC' := Lib.hid hC
  have hq0 : a.length ≤ 200 := by omega
  have hq1 : b.length ≤ 200 := by omega
  have q0' := Lib.hid hq0
  have q1' := Lib.hid hq1
  have hTB : Hid (∀ W, Below w.heap.size w W → PTab 0 W) := fun W h => ht.on h
  have G1 : Hid (∀ W, Calls Tryd.prog 21 #[sv a, sv b] W fun e w' => e = .returned (sv (Gf.vsum a b)) ∧ Below W.heap.size W w') := fun W => sum_any a b W (by omega) (by omega)
  have G1' : Hid (∀ W, Calls Tryd.prog 22 #[sv a, sv b] W fun e w' => e = .returned (sv (Gf.vsum a b)) ∧ Below W.heap.size W w') := fun W => refSum_any a b W (by omega) (by omega)
  have G2 : Hid (∀ (cc : UInt8) W, PTab 0 W → Calls Tryd.prog 23 #[bv cc, sv a] W fun e w' => e = .returned (sv (Gf.scale cc a)) ∧ Below W.heap.size W w') := fun cc W h => scale_any cc a W (by omega) h
  have G2' : Hid (∀ (cc : UInt8) W, Calls Tryd.prog 24 #[bv cc, sv a] W fun e w' => e = .returned (sv (Gf.scale cc a)) ∧ Below W.heap.size W w') := fun cc W => refScale_any cc a W (by omega)
  have hbm : Hid (((bs b).size : Int) = ((UInt8.ofNat b.length).toNat : Int)) := by
    show _ = _
    rw [UInt8.toNat_ofNat', sb]
    omega
  unfold sv at G1 G1' G2 G2'
  unfold sv
  generalize Gf.vsum a b = VS at G1 G1'
  generalize bs a = SA at *
  generalize hSB : bs b = SB at *
  generalize hbb : UInt8.ofNat b.length = bb at hbm
  clear hSB hbb hcr ht sa sb ha hb q0 q1 q2 q3 hq0 hq1 hC H2 H3 HA HB
  go_enter Tryd.func6, Tryd.ntmps6
  go_wp2_with fail
  go_loopw [36] (fun i wr => ∃ k : Nat, k ≤ parts.length ∧ i = .int .i64 k ∧ w = wr ∧ ∀ x ∈ parts.take k, x.length ≤ 200) (fun i _ => parts.length - (intOf i).toNat)
  case atStart => exact ⟨0, by omega, rfl, rfl, fun x hx => by cases hx⟩
  case round =>
    obtain ⟨k, hk, rfl, rfl, hall0⟩ := hrel
    have hall := Lib.hid hall0
    clear hall0
    by_cases hlt : k < parts.length
    · obtain ⟨ad, rfl, hab, hcell⟩ := r3.out.look (k := k) (u := sv parts[k]) (by simp [hlt])
      have hx := Lib.hid (List.getElem?_eq_getElem hlt)
      have HX := Lib.hid (bs_size parts[k])
      unfold sv at hcell
      generalize bs parts[k] = S at hcell HX
      generalize parts[k] = x at hx HX
      have tk : (k : Int) < (parts.length : Int) := by omega
      by_cases hbx : 200 < x.length
      · have t5 : (200 : Int) < (S.size : Int) := by rw [HX.out]; omega
        clear hbx
        go_wp2_with fail
        refine HS.out.mono ?_
        rintro e w' ⟨rfl, hb⟩
        go_wp2_with fail
        go_ret
        exact ⟨rfl, hb⟩
      · have t5 : ¬ (200 : Int) < (S.size : Int) := by rw [HX.out]; omega
        have hn : Hid (∀ y ∈ parts.take (k + 1), y.length ≤ 200) := fun y hy => by
          rw [List.take_add_one, hx.out] at hy
          rcases List.mem_append.1 hy with h | h
          · exact hall.out y h
          · simp at h; subst h; omega
        clear hbx
        go_wp2_with fail
        go_roundw
        case rel => exact ⟨k + 1, by omega, by go_num, trivial, hn.out⟩
        case measure => simp [intOf]; omega
    · have tk : ¬ (k : Int) < (parts.length : Int) := by omega
      have hsm : ∀ x ∈ parts, x.length ≤ 200 := by
        have := hall.out
        rw [List.take_of_length_le (by omega)] at this
        exact this
      have CC := Lib.hid (hC'.out A2 A3 c2 c3 w n3 n2 (fun x hx => by have := hsm x hx; omega) r2.out r3.out hT.out)
      have RC : Hid (∀ W, Below w.heap.size w W → Calls Tryd.prog 20 #[.slice A2 coef.length c2, .slice A3 parts.length c3] W fun e w' => e = .returned (.agg [sv V, .int .i64 E].toArray) ∧ Below W.heap.size W w') := fun W hB => by
        have h := refCombine_any coef parts A2 A3 c2 c3 W n3 (fun x hx => by have := hsm x hx; omega) (Rds.more (r2.out.below hB) hB.size) (Rds.more (r3.out.below hB) hB.size)
        rw [hcr'.out] at h
        exact h
      unfold sv at CC RC
      clear hsm hall hk hlt
      have hone := two_one (bs V) E
      generalize bs V = SV at CC RC hone
      generalize bs VS = SVS at G1 G1'
      by_cases hce : 0 < coef.length
      · obtain ⟨ad, rfl, hab, hcell⟩ := r2.out.look (k := 0) (u := bv coef[0]) (by simp [hce])
        have hcz : w.cell? ad = some (bv coef[0]) := by
          have : ad.add 0 = ad := by unfold Addr.add; simp
          rw [this] at hcell
          exact hcell
        have tc : 0 < (coef.length : Int) := by omega
        have F2 := Lib.hid (G2.out coef[0])
        have F2' := Lib.hid (G2'.out coef[0])
        generalize bs (Gf.scale coef[0] a) = SS at F2 F2'
        generalize coef[0] = x0 at hcz F2 F2'
        unfold bv at hcz F2 F2'
        clear hcell
        go_wp2_with fail
        refine CC.out.mono ?_
        rintro e w1 ⟨rfl, hb1⟩
        have hb1' := Lib.hid hb1
        go_wp2_with fail
        refine (RC.out _ hb1'.out).mono ?_
        rintro e w2 ⟨rfl, hb2⟩
        have hB2 := Lib.hid (hb1'.out.trans (hb2.mono hb1'.out.size))
        clear hb1 hb2
        go_wp2_with (refine wpList_row_store rfl 41 _ _ rfl [.string SV, .int .i64 E] rfl rfl (Blk.new w2 [.string ⟨#[]⟩, .int .i64 0] 41) size_comb rfl hone ?_; intro w3 hw3 ho3)
        have hB3 := Lib.hid ((hB2.out.alloc hB2.out.size _).trans (ho3.below hB2.out.size))
        clear ho3
        refine (sanity_any _ (hTB.out _ hB3.out)).mono ?_
        rintro e w4 ⟨rfl, hb4⟩
        have hw4 := Lib.hid (hw3.out.below hb4 hw3.out.lt)
        have hB4 := Lib.hid (hB3.out.trans (hb4.mono hB3.out.size))
        clear hb4 hw3
        go_wp2_with fail
        refine (G1.out _).mono ?_
        rintro e w5 ⟨rfl, hb5⟩
        have hw5 := Lib.hid (hw4.out.below hb5 hw4.out.lt)
        have hB5 := Lib.hid (hB4.out.trans (hb5.mono hB4.out.size))
        clear hb5 hw4
        go_wp2_with fail
        refine (G1'.out _).mono ?_
        rintro e w6 ⟨rfl, hb6⟩
        have hw6 := Lib.hid (hw5.out.below hb6 hw5.out.lt)
        have hB6 := Lib.hid (hB5.out.trans (hb6.mono hB5.out.size))
        clear hb6 hw5
        go_wp2_with fail
        refine (F2.out _ (hTB.out _ hB6.out)).mono ?_
        rintro e w7 ⟨rfl, hb7⟩
        have hw7 := Lib.hid (hw6.out.below hb7 hw6.out.lt)
        have hB7 := Lib.hid (hB6.out.trans (hb7.mono hB6.out.size))
        clear hb7 hw6
        go_wp2_with fail
        refine (F2'.out _).mono ?_
        rintro e w8 ⟨rfl, hb8⟩
        have hw8 := hw7.out.below hb8 hw7.out.lt
        have hB8 := Lib.hid (hB7.out.trans (hb8.mono hB7.out.size))
        have z1 : w8.cell? ⟨w2.heap.size, 0, none⟩ = some (.string SV) := hw8.cell rfl
        have z2 : w8.cell? ⟨w2.heap.size, 1, none⟩ = some (.int .i64 E) := hw8.cell rfl
        clear hb8 hw7 hw8
        go_wp2_with fail
        go_ret
        exact ⟨rfl, hB8.out⟩
      · have tc : ¬ 0 < (coef.length : Int) := by omega
        have F2 := Lib.hid (G2.out bb)
        have F2' := Lib.hid (G2'.out bb)
        generalize bs (Gf.scale bb a) = SS at F2 F2'
        unfold bv at F2 F2'
        rw [← hbm.out] at F2 F2'
        go_wp2_with fail
        refine CC.out.mono ?_
        rintro e w1 ⟨rfl, hb1⟩
        have hb1' := Lib.hid hb1
        go_wp2_with fail
        refine (RC.out _ hb1'.out).mono ?_
        rintro e w2 ⟨rfl, hb2⟩
        have hB2 := Lib.hid (hb1'.out.trans (hb2.mono hb1'.out.size))
        clear hb1 hb2
        go_wp2_with (refine wpList_row_store rfl 41 _ _ rfl [.string SV, .int .i64 E] rfl rfl (Blk.new w2 [.string ⟨#[]⟩, .int .i64 0] 41) size_comb rfl hone ?_; intro w3 hw3 ho3)
        have hB3 := Lib.hid ((hB2.out.alloc hB2.out.size _).trans (ho3.below hB2.out.size))
        clear ho3
        refine (sanity_any _ (hTB.out _ hB3.out)).mono ?_
        rintro e w4 ⟨rfl, hb4⟩
        have hw4 := Lib.hid (hw3.out.below hb4 hw3.out.lt)
        have hB4 := Lib.hid (hB3.out.trans (hb4.mono hB3.out.size))
        clear hb4 hw3
        go_wp2_with fail
        refine (G1.out _).mono ?_
        rintro e w5 ⟨rfl, hb5⟩
        have hw5 := Lib.hid (hw4.out.below hb5 hw4.out.lt)
        have hB5 := Lib.hid (hB4.out.trans (hb5.mono hB4.out.size))
        clear hb5 hw4
        go_wp2_with fail
        refine (G1'.out _).mono ?_
        rintro e w6 ⟨rfl, hb6⟩
        have hw6 := Lib.hid (hw5.out.below hb6 hw5.out.lt)
        have hB6 := Lib.hid (hB5.out.trans (hb6.mono hB5.out.size))
        clear hb6 hw5
        go_wp2_with fail
        refine (F2.out _ (hTB.out _ hB6.out)).mono ?_
        rintro e w7 ⟨rfl, hb7⟩
        have hw7 := Lib.hid (hw6.out.below hb7 hw6.out.lt)
        have hB7 := Lib.hid (hB6.out.trans (hb7.mono hB6.out.size))
        clear hb7 hw6
        go_wp2_with fail
        refine (F2'.out _).mono ?_
        rintro e w8 ⟨rfl, hb8⟩
        have hw8 := hw7.out.below hb8 hw7.out.lt
        have hB8 := Lib.hid (hB7.out.trans (hb8.mono hB7.out.size))
        have z1 : w8.cell? ⟨w2.heap.size, 0, none⟩ = some (.string SV) := hw8.cell rfl
        have z2 : w8.cell? ⟨w2.heap.size, 1, none⟩ = some (.int .i64 E) := hw8.cell rfl
        clear hb8 hw7 hw8
        go_wp2_with fail
        go_ret
        exact ⟨rfl, hB8.out⟩
end Go.Proofs.YtcmoiainikfeeaaDoor
