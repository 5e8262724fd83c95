/-
  WireLengths, WireIntRoundTrip: the walks.
-/
import Derived.Test.YthnbiegpfjnadaaSan
import Derived.Test.YthnbiegpfjnadaaReg
import Derived.Deep.Cut
import Derived.Deep.CutBlock
namespace Go.Proofs.Ythnbiegpfjnadaa
open Go.RowKit
set_option maxRecDepth 100000 in
set_option maxHeartbeats 1000000 in
theorem walk_lengths (m n : Int) (w : World) (hm : Wm.Fits m) (hn : Wm.Fits n) :
    Calls Try.prog 5 #[.int .i64 m, .int .i64 n] w (OkEnd true w) := by
  have H1 := Lib.hid (fun W => int_any m W hm)
  have H2 := Lib.hid (fun W => int_any n W hn)
  obtain ⟨m1, m2⟩ := hm
  obtain ⟨n1, n2⟩ := hn
  go_enter Try.func5, Try.ntmps5
  go_wp2_with fail
  refine (H1.out _).mono ?_
  intro e w1 h1
  obtain ⟨A1, c1, rfl, hl1, _, _, hr1, hb1⟩ := NewEnd.slice h1
  clear h1
  go_wp2_with fail
  refine (H2.out _).mono ?_
  intro e w2 h2
  obtain ⟨A2, c2, rfl, hl2, _, _, hr2, hb2⟩ := NewEnd.slice h2
  clear h2
  go_upto_region 3 with (fail)
  have em : (if m < -1 - m then -1 - m else m) = Wm.far m := by unfold Wm.far; split <;> split <;> omega
  have en : (if n < -1 - n then -1 - n else n) = Wm.far n := by unfold Wm.far; split <;> split <;> omega
  rw [em, en]
  clear em en
  have p1 := Wm.enc_pos m
  have p2 := Wm.enc_pos n
  have q1 := Wm.enc_len m
  have o1 := Wm.enc_one m
  have le1 : Wm.far m ≤ Wm.far n → (Wm.enc m).length ≤ (Wm.enc n).length := fun h => Wm.enc_mono h
  have le2 : Wm.far n ≤ Wm.far m → (Wm.enc n).length ≤ (Wm.enc m).length := fun h => Wm.enc_mono h
  generalize hL1 : (Wm.enc m).length = L1 at p1 q1 o1 le1 le2 hl1 ⊢
  generalize hL2 : (Wm.enc n).length = L2 at p2 le1 le2 hl2 ⊢
  generalize Wm.far m = fm at o1 le1 le2 ⊢
  generalize Wm.far n = fn at le1 le2 ⊢
  have HL1 := Lib.hid hL1
  have HL2 := Lib.hid hL2
  have O1 := Lib.hid o1
  have LE1 := Lib.hid le1
  have LE2 := Lib.hid le2
  clear hL1 hL2 o1 le1 le2
  have tz1 : ((L1 : Int) == 0) = false := by simp; omega
  have tz2 : ((L2 : Int) == 0) = false := by simp; omega
  go_cut [66] from 22 to 66 (fun c wx => c = .bool false ∧ w2 = wx)
  case first =>
    by_cases h1 : L1 = 1
    · have t1 : ((L1 : Int) == 1) = true := by simp; omega
      have f1 : fm < 64 := O1.out.1 h1
      clear h1
      by_cases hle : fm ≤ fn
      · have x1 := LE1.out hle
        by_cases hge : fn ≤ fm
        · have x2 := LE2.out hge
          go_wp2_with fail
          go_meet
          exact ⟨by congr 1; simp; omega, rfl⟩
        · go_wp2_with fail
          go_meet
          exact ⟨by congr 1; simp; omega, rfl⟩
      · have x2 := LE2.out (by omega)
        go_wp2_with fail
        go_meet
        exact ⟨by congr 1; simp; omega, rfl⟩
    · have t1 : ((L1 : Int) == 1) = false := by simp; omega
      have f1 : ¬ fm < 64 := fun h => h1 (O1.out.2 h)
      clear h1
      by_cases hle : fm ≤ fn
      · have x1 := LE1.out hle
        by_cases hge : fn ≤ fm
        · have x2 := LE2.out hge
          go_wp2_with fail
          go_meet
          exact ⟨by congr 1; simp; omega, rfl⟩
        · go_wp2_with fail
          go_meet
          exact ⟨by congr 1; simp; omega, rfl⟩
      · have x2 := LE2.out (by omega)
        go_wp2_with fail
        go_meet
        exact ⟨by congr 1; simp; omega, rfl⟩
  case rest =>
    obtain ⟨rfl, rfl⟩ := hcut
    clear O1 LE1 LE2 tz1 tz2
    obtain ⟨lst, hl0⟩ : ∃ k, k = min L1 L2 := ⟨_, rfl⟩
    have HLST := Lib.hid hl0
    have ls1 : lst ≤ L1 := by omega
    have ls2 : lst ≤ L2 := by omega
    clear hl0
    go_upto_region 5 with (fail)
    go_cut [9] from 67 to 71 (fun c wx => c = .int .i64 (lst : Int) ∧ w2 = wx)
    case first =>
      by_cases hmin : L2 < L1
      · have := HLST.out
        go_wp2_with fail
        go_meet
        exact ⟨by congr 1; omega, rfl⟩
      · have := HLST.out
        go_wp2_with fail
        go_meet
        exact ⟨by congr 1; omega, rfl⟩
    case rest =>
    obtain ⟨rfl, rfl⟩ := hcut
    have H3 : Hid (∀ W, Calls Try.prog 14 #[.int .i64 (-1 - m)] W fun e w' => ∃ A c, e = .returned (.slice A L1 c) ∧ Below W.heap.size W w') := by
      intro W
      refine (int_any (-1 - m) W ⟨by omega, by omega⟩).mono ?_
      intro e w' h
      obtain ⟨A, c, h1, _, _, _, _, h2⟩ := NewEnd.slice h
      rw [Wm.enc_neg, HL1.out] at h1
      exact ⟨A, c, h1, h2⟩
    have hk1 : Hid (∀ W, Below w2.heap.size w2 W → (convert 28 9 (.slice A1 lst c1)).run Try.prog W = .ok (.string (bs ((Wm.enc m).take lst))) W) := by
      intro W hW
      have h := ((hr1.below hb2).below (hW.mono hb2.size)).take lst
      rw [← List.map_take] at h
      have := run_bytes_bs (P := Try.prog) W 28 9 5 Try.underlying28 Try.underlying5 Try.underlying9 c1 h
      rwa [List.length_take, HL1.out, Nat.min_eq_left ls1] at this
    have hk2 : Hid (∀ W, Below w2.heap.size w2 W → (convert 28 9 (.slice A2 lst c2)).run Try.prog W = .ok (.string (bs ((Wm.enc n).take lst))) W) := by
      intro W hW
      have h := (hr2.below hW).take lst
      rw [← List.map_take] at h
      have := run_bytes_bs (P := Try.prog) W 28 9 5 Try.underlying28 Try.underlying5 Try.underlying9 c2 h
      rwa [List.length_take, HL2.out, Nat.min_eq_left ls2] at this
    have hpre : Hid (((Wm.enc m).take lst == (Wm.enc n).take lst) = (m == n)) := by
      have := HLST.out
      show _ = _
      rw [Bool.eq_iff_iff, beq_iff_eq, beq_iff_eq]
      constructor
      · intro h
        by_cases hle : L1 ≤ L2
        · rw [List.take_of_length_le (by rw [HL1.out]; omega)] at h
          refine Wm.enc_inj ⟨m1, m2⟩ ⟨n1, n2⟩ (s := (Wm.enc n).drop lst) (t := []) ?_
          rw [h, List.take_append_drop, List.append_nil]
        · rw [List.take_of_length_le (l := Wm.enc n) (by rw [HL2.out]; omega)] at h
          refine Wm.enc_inj ⟨m1, m2⟩ ⟨n1, n2⟩ (s := []) (t := (Wm.enc m).drop lst) ?_
          rw [← h, List.take_append_drop, List.append_nil]
      · intro h; rw [h]
    have S1 := Lib.hid (bs_toList ((Wm.enc m).take lst))
    have S2 := Lib.hid (bs_toList ((Wm.enc n).take lst))
    generalize bs ((Wm.enc m).take lst) = X at hk1 S1
    generalize bs ((Wm.enc n).take lst) = Y at hk2 S2
    have t : Hid ((X.toList == Y.toList) = (m == n)) := by show _ = _; rw [S1.out, S2.out, hpre.out]
    have hbw : Below w.heap.size w w2 := hb1.trans (hb2.mono hb1.size)
    have e1 : lst ≤ c1 := by omega
    have e2 : lst ≤ c2 := by omega
    clear hpre S1 S2 HLST H1 H2
    by_cases hmn : m = n
    · have t1 : (X.toList == Y.toList) = true := by rw [t.out]; simp [hmn]
      have t2 : (m == n) = true := by simp [hmn]
      have hwr : IntKind.i64.wrap (-1 - m) = -1 - m := by rw [IntKind.wrap_i64]; omega
      clear hmn t
      go_wp2_with fail
      refine wp_region_plan [(false, 0), (true, 1), (true, 2), (true, 3), (true, 6), (true, 7), (false, 4), (true, 5), (true, 8), (true, 9), (true, 10), (true, 11), (true, 12), (true, 13), (true, 14), (true, 15), (true, 16), (true, 17), (true, 18), (true, 19), (true, 20), (true, 21), (true, 22), (true, 23), (true, 24), (true, 25)] (by kernel_rfl) (by kernel_rfl) (by kernel_rfl) (by decide) (by intro c a d v w h; cases d <;> exact h) ?_
      change wpPlan _ _ _ _ _ w2.drew
      refine wpPlan_call rfl (fun K hK => ?_)
      go_wp2_with fail
      refine (sanity_any _).mono ?_
      rintro e w3 ⟨rfl, hb3⟩
      go_wp2_with fail
      refine planPost_normal ⟨hb3, hK _ _ ?_⟩
      clear hK K
      repeat (refine wpPlan_plain rfl (fun K hK => ?_); go_simp; refine hK _ ?_; clear hK K)
      refine wpPlan_call rfl (fun K hK => ?_)
      go_wp2_with fail
      refine (H3.out _).mono ?_
      rintro e w4 ⟨A4, c4, rfl, hb4⟩
      go_wp2_with fail
      refine planPost_normal ⟨hb4, hK _ _ ?_⟩
      clear hK K
      have hq : Below w2.heap.size w2 w4 := (((Below.refl w2.heap.size w2).drew).trans hb3).trans (hb4.mono hb3.size)
      have k1 := fun x : ExtOf w4 => hk1.out x.world (hq.trans (x.ext.mono hq.size))
      have k2 := fun x : ExtOf w4 => hk2.out x.world (hq.trans (x.ext.mono hq.size))
      repeat (refine wpPlan_plain rfl (fun K hK => ?_); go_simp; refine hK _ ?_; clear hK K)
      refine wpPlan_nil ?_
      go_wp2
      go_ret
      exact ⟨rfl, hbw.trans (hq.mono hbw.size)⟩
    · have t1 : (X.toList == Y.toList) = false := by rw [t.out]; simp [hmn]
      have t2 : (m == n) = false := by simp [hmn]
      have hwr : IntKind.i64.wrap (-1 - m) = -1 - m := by rw [IntKind.wrap_i64]; omega
      clear hmn t
      go_wp2_with fail
      refine wp_region_plan [(false, 0), (true, 1), (true, 2), (true, 3), (true, 6), (true, 7), (false, 4), (true, 5), (true, 8), (true, 9), (true, 10), (true, 11), (true, 12), (true, 13), (true, 14), (true, 15), (true, 16), (true, 17), (true, 18), (true, 19), (true, 20), (true, 21), (true, 22), (true, 23), (true, 24), (true, 25)] (by kernel_rfl) (by kernel_rfl) (by kernel_rfl) (by decide) (by intro c a d v w h; cases d <;> exact h) ?_
      change wpPlan _ _ _ _ _ w2.drew
      refine wpPlan_call rfl (fun K hK => ?_)
      go_wp2_with fail
      refine (sanity_any _).mono ?_
      rintro e w3 ⟨rfl, hb3⟩
      go_wp2_with fail
      refine planPost_normal ⟨hb3, hK _ _ ?_⟩
      clear hK K
      repeat (refine wpPlan_plain rfl (fun K hK => ?_); go_simp; refine hK _ ?_; clear hK K)
      refine wpPlan_call rfl (fun K hK => ?_)
      go_wp2_with fail
      refine (H3.out _).mono ?_
      rintro e w4 ⟨A4, c4, rfl, hb4⟩
      go_wp2_with fail
      refine planPost_normal ⟨hb4, hK _ _ ?_⟩
      clear hK K
      have hq : Below w2.heap.size w2 w4 := (((Below.refl w2.heap.size w2).drew).trans hb3).trans (hb4.mono hb3.size)
      have k1 := fun x : ExtOf w4 => hk1.out x.world (hq.trans (x.ext.mono hq.size))
      have k2 := fun x : ExtOf w4 => hk2.out x.world (hq.trans (x.ext.mono hq.size))
      repeat (refine wpPlan_plain rfl (fun K hK => ?_); go_simp; refine hK _ ?_; clear hK K)
      refine wpPlan_nil ?_
      go_wp2
      go_ret
      exact ⟨rfl, hbw.trans (hq.mono hbw.size)⟩
end Go.Proofs.Ythnbiegpfjnadaa
