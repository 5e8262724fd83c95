/-
  The statements' own check of the examples of stage 4.
-/
import Derived.Test.YtlpkndjjallfkaaDoorGfw
namespace Go.Proofs.YtlpkndjjallfkaaDoor
set_option linter.unusedVariables false
set_option linter.unusedSimpArgs false
open Go.RowKit

theorem comb_ex : Gf.comb [1, 2] [[5, 6], [128, 1]] = [24, 4] := by decide +kernel
theorem vsum_ex : Gf.vsum [97, 98] [97] = [0, 98] := by decide +kernel

set_option maxRecDepth 100000 in
set_option maxHeartbeats 2000000 in
theorem sanity_any (w : World) (ht : PTab 0 w) : Calls Tryd.prog 11 #[] w (OkEnd true w) := by
  have hT := Lib.hid ht
  have I2 : Hid (Calls Tryd.prog 41 #[.int .u8 2] w fun e w' => e = .returned (.tuple #[.int .u8 142, .int .i64 0]) ∧ w = w') := by
    have := inv_any 2 w (by decide) ht
    rw [show Gf.inv 2 = 142 from by decide +kernel] at this
    exact this
  have I1 : Hid (Calls Tryd.prog 41 #[.int .u8 1] w fun e w' => e = .returned (.tuple #[.int .u8 1, .int .i64 0]) ∧ w = w') := by
    have := inv_any 1 w (by decide) ht
    rw [show Gf.inv 1 = 1 from by decide +kernel] at this
    exact this
  have I0 : Hid (Calls Tryd.prog 41 #[.int .u8 0] w fun e w' => e = .returned (.tuple #[.int .u8 0, .int .i64 1]) ∧ w = w') := inv_zero w
  have L1 : Hid (Calls Tryd.prog 42 #[.int .u8 29] w fun e w' => e = .returned (.tuple #[.int .i64 8, .int .i64 0]) ∧ w = w') := by
    have := log_any 29 w (by decide)
    rw [show Gf.lg 29 = 8 from by decide +kernel] at this
    exact this
  have L2 : Hid (Calls Tryd.prog 42 #[.int .u8 3] w fun e w' => e = .returned (.tuple #[.int .i64 25, .int .i64 0]) ∧ w = w') := by
    have := log_any 3 w (by decide)
    rw [show Gf.lg 3 = 25 from by decide +kernel] at this
    exact this
  obtain ⟨W2, hW2⟩ : ∃ W2, W2 = (w.alloc (.cells #[.int .u8 1, .int .u8 2] 5)).alloc (.cells #[.string ⟨#[5, 6]⟩, .string ⟨#[128, 1]⟩] 9) := ⟨_, rfl⟩
  have hB2 : Below w.heap.size w W2 := by rw [hW2]; exact ((Below.refl _ _).alloc (Nat.le_refl _) _).alloc (by simp) _
  have HC : Hid (Calls Tryd.prog 14 #[.slice (some ⟨w.heap.size, 0, none⟩) 2 2, .slice (some ⟨w.heap.size + 1, 0, none⟩) 2 2] W2 fun e w' => e = .returned (.tuple #[.string ⟨#[24, 4]⟩, .int .i64 0]) ∧ Below W2.heap.size W2 w') := by
    have b1 : Blk W2 w.heap.size [bv 1, bv 2] 5 := by rw [hW2]; exact (Blk.new _ [_, _] _).alloc _
    have b2 : Blk W2 (w.heap.size + 1) [sv [5, 6], sv [128, 1]] 9 := by rw [hW2]; exact (Blk.new _ [_, _] _).at (by simp)
    have := combine_ok [1, 2] [[5, 6], [128, 1]] (some ⟨w.heap.size, 0, none⟩) (some ⟨w.heap.size + 1, 0, none⟩) 2 2 W2 (by decide) (by decide) (b1.rds 0 2) (b2.rds 0 2) (by decide) (ht.on hB2)
    rw [comb_ex] at this
    exact this
  have hB2' := Lib.hid hB2
  have hW2' := Lib.hid hW2
  have M1 : Hid (∀ W, PTab 0 W → Calls Tryd.prog 12 #[.int .u8 2, .int .u8 128] W fun e w' => e = .returned (.int .u8 29) ∧ ∃ n, w' = W.drewN n) := fun W h => by
    have := mul_any 2 128 W h
    rw [show Gf.mul 2 128 = 29 from by decide +kernel] at this
    exact this
  have M2 : Hid (∀ W, PTab 0 W → Calls Tryd.prog 12 #[.int .u8 3, .int .u8 7] W fun e w' => e = .returned (.int .u8 9) ∧ ∃ n, w' = W.drewN n) := fun W h => by
    have := mul_any 3 7 W h
    rw [show Gf.mul 3 7 = 9 from by decide +kernel] at this
    exact this
  have E1 : Hid (∀ W, PTab 0 W → Calls Tryd.prog 43 #[.int .i64 8] W fun e w' => e = .returned (.int .u8 29) ∧ W = w') := fun W h => by
    have := exp_any 8 W h
    rw [show Gf.exi 8 = 29 from by decide +kernel] at this
    exact this
  have E2 : Hid (∀ W, PTab 0 W → Calls Tryd.prog 43 #[.int .i64 (-1)] W fun e w' => e = .returned (.int .u8 142) ∧ W = w') := fun W h => by
    have := exp_any (-1) W h
    rw [show Gf.exi (-1) = 142 from by decide +kernel] at this
    exact this
  have E3 : Hid (∀ W, PTab 0 W → Calls Tryd.prog 43 #[.int .i64 255] W fun e w' => e = .returned (.int .u8 1) ∧ W = w') := fun W h => by
    have := exp_any 255 W h
    rw [show Gf.exi 255 = 1 from by decide +kernel] at this
    exact this
  have P1 : Hid (∀ W, PTab 0 W → Calls Tryd.prog 44 #[.int .u8 3, .int .i64 2] W fun e w' => e = .returned (.int .u8 5) ∧ W = w') := fun W h => by
    have := pow_any 3 2 W (by decide) h
    rw [show Gf.pw 3 2 = 5 from by decide +kernel] at this
    exact this
  have P2 : Hid (∀ W, PTab 0 W → Calls Tryd.prog 44 #[.int .u8 0, .int .i64 0] W fun e w' => e = .returned (.int .u8 1) ∧ W = w') := fun W h => by
    have := pow_any 0 0 W (by decide) h
    rw [show Gf.pw 0 0 = 1 from by decide +kernel] at this
    exact this
  have P3 : Hid (∀ W, PTab 0 W → Calls Tryd.prog 44 #[.int .u8 0, .int .i64 (-5)] W fun e w' => e = .returned (.int .u8 0) ∧ W = w') := fun W h => by
    have := pow_any 0 (-5) W (by decide) h
    rw [show Gf.pw 0 (-5) = 0 from by decide +kernel] at this
    exact this
  have S1 : Hid (∀ W, Calls Tryd.prog 13 #[.string ⟨#[97, 98]⟩, .string ⟨#[97]⟩] W fun e w' => e = .returned (.string ⟨#[0, 98]⟩) ∧ Below W.heap.size W w') := fun W => by
    have := sum_any [97, 98] [97] W (by decide) (by decide)
    rw [vsum_ex] at this
    exact this
  clear ht hB2 hW2
  go_enter Tryd.func11, Tryd.ntmps11
  go_wp2_with fail
  refine I2.out.mono ?_
  rintro e w1 ⟨rfl, rfl⟩
  go_wp2_with fail
  refine I1.out.mono ?_
  rintro e w1 ⟨rfl, rfl⟩
  go_wp2_with fail
  refine I0.out.mono ?_
  rintro e w1 ⟨rfl, rfl⟩
  go_wp2_with fail
  refine L1.out.mono ?_
  rintro e w1 ⟨rfl, rfl⟩
  go_wp2_with fail
  refine L2.out.mono ?_
  rintro e w1 ⟨rfl, rfl⟩
  go_wp2_with fail
  generalize hg : (w.alloc _).alloc _ = Wg
  have hgW : W2 = Wg := by rw [← hg, hW2'.out]
  clear hg hW2'
  subst hgW
  refine HC.out.mono ?_
  rintro e w3 ⟨rfl, hb3⟩
  have hB3 : Hid (Below w.heap.size w w3) := hB2'.out.trans (hb3.mono hB2'.out.size)
  clear hb3
  have hT3 := Lib.hid (hT.out.on hB3.out)
  go_wp2_with fail
  refine (M1.out _ hT3.out).mono ?_
  rintro e w4 ⟨rfl, n1, rfl⟩
  go_wp2_with fail
  refine (M2.out (w3.drewN n1) hT3.out).mono ?_
  rintro e w5 ⟨rfl, n2, rfl⟩
  have hB5 : Hid (Below w.heap.size w ((w3.drewN n1).drewN n2)) := below_drewN (below_drewN hB3.out n1) n2
  have hT5 : Hid (PTab 0 ((w3.drewN n1).drewN n2)) := hT3.out
  generalize (w3.drewN n1).drewN n2 = w6 at hB5 hT5 ⊢
  go_wp2_with fail
  refine (E1.out _ hT5.out).mono ?_
  rintro e w7 ⟨rfl, rfl⟩
  go_wp2_with fail
  refine (E2.out _ hT5.out).mono ?_
  rintro e w7 ⟨rfl, rfl⟩
  go_wp2_with fail
  refine (E3.out _ hT5.out).mono ?_
  rintro e w7 ⟨rfl, rfl⟩
  go_wp2_with fail
  refine (P1.out _ hT5.out).mono ?_
  rintro e w7 ⟨rfl, rfl⟩
  go_wp2_with fail
  refine (P2.out _ hT5.out).mono ?_
  rintro e w7 ⟨rfl, rfl⟩
  go_wp2_with fail
  refine (P3.out _ hT5.out).mono ?_
  rintro e w7 ⟨rfl, rfl⟩
  go_wp2_with fail
  refine (S1.out _).mono ?_
  rintro e w8 ⟨rfl, hb8⟩
  have hB8 : Below w.heap.size w w8 := hB5.out.trans (hb8.mono hB5.out.size)
  go_wp2_with fail
  go_ret
  exact ⟨rfl, hB8⟩
end Go.Proofs.YtlpkndjjallfkaaDoor
