/-
  The law that the field is as specified: its walk.
-/
import Derived.Test.YtcmoiainikfeeaaDoorGfl
import Derived.Test.YtcmoiainikfeeaaDoorGfr
namespace Go.Proofs.YtcmoiainikfeeaaDoor
set_option linter.unusedVariables false
set_option linter.unusedSimpArgs false
open Go.RowKit

set_option maxRecDepth 100000 in
set_option maxHeartbeats 4000000 in
theorem walk_spec (a b : UInt8) (n : Int) (w : World) (hn : -9223372036854775808 ≤ n ∧ n ≤ 9223372036854775807) (ht : PTab 0 w) : Calls Tryd.prog 3 #[bv a, bv b, .int .i64 n] w (OkEnd true w) := by
  have HS : Hid (Calls Tryd.prog 10 #[] w fun e w' => e = .returned (.bool true) ∧ Below w.heap.size w w') := sanity_any w ht
  have fin : ∀ W, Below w.heap.size w W → ∀ n, Below w.heap.size w (W.drewN n) := fun W h n => below_drewN h n
  have hTB : Hid (∀ W, Below w.heap.size w W → PTab 0 W) := fun W h => ht.on h
  obtain ⟨z, hz⟩ : ∃ z, Gf.mul a b = z := ⟨_, rfl⟩
  obtain ⟨p, hp⟩ : ∃ p, Gf.pw a n = p := ⟨_, rfl⟩
  obtain ⟨q, hq⟩ : ∃ q, Gf.exi n = q := ⟨_, rfl⟩
  have M := mul_to a b z hz
  have P : Hid (∀ W, PTab 0 W → Calls Tryd.prog 12 #[.int .u8 a.toNat, .int .i64 n] W fun e w' => e = .returned (.int .u8 p.toNat) ∧ W = w') := fun W h => by rw [← hp]; exact pow_any a n W hn h
  have P' : Hid (∀ W, Calls Tryd.prog 13 #[.int .u8 a.toNat, .int .i64 n] W fun e w' => e = .returned (.int .u8 p.toNat) ∧ W = w') := fun W => by rw [← hp]; exact refPow_any a n W
  have E : Hid (∀ W, PTab 0 W → Calls Tryd.prog 14 #[.int .i64 n] W fun e w' => e = .returned (.int .u8 q.toNat) ∧ W = w') := fun W h => by rw [← hq]; exact exp_any n W h
  have E' : Hid (∀ W, Calls Tryd.prog 15 #[.int .i64 n] W fun e w' => e = .returned (.int .u8 q.toNat) ∧ W = w') := fun W => by rw [← hq]; exact refExp_any n W
  by_cases ha : a = 0
  · have I : Hid (Calls Tryd.prog 8 #[.int .u8 a.toNat] w fun e w' => e = .returned (.tuple #[.int .u8 0, .int .i64 1]) ∧ w = w') := by rw [ha]; exact inv_zero w
    have L : Hid (Calls Tryd.prog 9 #[.int .u8 a.toNat] w fun e w' => e = .returned (.tuple #[.int .i64 0, .int .i64 1]) ∧ w = w') := by rw [ha]; exact log_zero w
    have hz0 : (z.toNat : Int) = 0 := zero_int (by rw [← hz, ha, Gf.zero_mul])
    have ta : (a.toNat : Int) = 0 := zero_int ha
    unfold bv
    clear hz hp hq ha ht hn
    generalize (a.toNat : Int) = A at *
    generalize (z.toNat : Int) = Z at *
    subst ta
    subst hz0
    go_enter Tryd.func3, Tryd.ntmps3
    go_wp2_with fail
    refine I.out.mono ?_
    rintro e w' ⟨rfl, rfl⟩
    go_wp2_with fail
    refine L.out.mono ?_
    rintro e w' ⟨rfl, rfl⟩
    go_wp2_with fail
    refine HS.out.mono ?_
    rintro e W1 ⟨rfl, hb1⟩
    have hT1 := Lib.hid (hTB.out _ hb1)
    have hb1' := Lib.hid hb1
    clear hb1
    go_wp2_with fail
    refine (M.out _ ?_).mono ?_
    · exact hT1.out
    rintro e w' ⟨rfl, m, rfl⟩
    go_wp2_with fail
    refine (P.out _ ?_).mono ?_
    · exact hT1.out
    rintro e w' ⟨rfl, rfl⟩
    go_wp2_with fail
    refine (P'.out _).mono ?_
    rintro e w' ⟨rfl, rfl⟩
    go_wp2_with fail
    refine (E.out _ ?_).mono ?_
    · exact hT1.out
    rintro e w' ⟨rfl, rfl⟩
    go_wp2_with fail
    refine (E'.out _).mono ?_
    rintro e w' ⟨rfl, rfl⟩
    go_wp2_with fail
    have hB := fin _ hb1'.out m
    go_ret
    exact ⟨rfl, hB⟩
  · obtain ⟨x, hx⟩ : ∃ x, Gf.inv a = x := ⟨_, rfl⟩
    obtain ⟨l, hl⟩ : ∃ l, Gf.lg a = l := ⟨_, rfl⟩
    have I : Hid (Calls Tryd.prog 8 #[.int .u8 a.toNat] w fun e w' => e = .returned (.tuple #[.int .u8 x.toNat, .int .i64 0]) ∧ w = w') := by rw [← hx]; exact inv_any a w ha ht
    have L : Hid (Calls Tryd.prog 9 #[.int .u8 a.toNat] w fun e w' => e = .returned (.tuple #[.int .i64 l, .int .i64 0]) ∧ w = w') := by rw [← hl]; exact log_any a w ha
    have M' : Hid (∀ W, Calls Tryd.prog 16 #[.int .u8 a.toNat, .int .u8 b.toNat] W fun e w' => e = .returned (.int .u8 z.toNat) ∧ W = w') := fun W => by rw [← hz]; exact refMul_any a b W
    have I' : Hid (∀ W, Calls Tryd.prog 17 #[.int .u8 a.toNat] W fun e w' => e = .returned (.int .u8 x.toNat) ∧ W = w') := fun W => by rw [← hx]; exact refInv_any a W ha
    have L' : Hid (∀ W, Calls Tryd.prog 18 #[.int .u8 a.toNat] W fun e w' => e = .returned (.int .i64 l) ∧ W = w') := fun W => by rw [← hl]; exact refLog_any a W ha
    have ta := ne_zero_int ha
    unfold bv
    clear hz hp hq hx hl ha ht hn
    generalize (a.toNat : Int) = A at *
    generalize (z.toNat : Int) = Z at *
    generalize (x.toNat : Int) = X at *
    go_enter Tryd.func3, Tryd.ntmps3
    go_wp2_with fail
    refine I.out.mono ?_
    rintro e w' ⟨rfl, rfl⟩
    go_wp2_with fail
    refine L.out.mono ?_
    rintro e w' ⟨rfl, rfl⟩
    go_wp2_with fail
    refine HS.out.mono ?_
    rintro e W1 ⟨rfl, hb1⟩
    have hT1 := Lib.hid (hTB.out _ hb1)
    have hb1' := Lib.hid hb1
    clear hb1
    go_wp2_with fail
    refine (M.out _ ?_).mono ?_
    · exact hT1.out
    rintro e w' ⟨rfl, m, rfl⟩
    go_wp2_with fail
    refine (M'.out _).mono ?_
    rintro e w' ⟨rfl, rfl⟩
    go_wp2_with fail
    refine (I'.out _).mono ?_
    rintro e w' ⟨rfl, rfl⟩
    go_wp2_with fail
    refine (L'.out _).mono ?_
    rintro e w' ⟨rfl, rfl⟩
    go_wp2_with fail
    refine (P.out _ ?_).mono ?_
    · exact hT1.out
    rintro e w' ⟨rfl, rfl⟩
    go_wp2_with fail
    refine (P'.out _).mono ?_
    rintro e w' ⟨rfl, rfl⟩
    go_wp2_with fail
    refine (E.out _ ?_).mono ?_
    · exact hT1.out
    rintro e w' ⟨rfl, rfl⟩
    go_wp2_with fail
    refine (E'.out _).mono ?_
    rintro e w' ⟨rfl, rfl⟩
    go_wp2_with fail
    have hB := fin _ hb1'.out m
    go_ret
    exact ⟨rfl, hB⟩

theorem walk_spec_n (a b : Nat) (n : Int) (w : World) (ha : a < 256) (hb : b < 256) (hn : -9223372036854775808 ≤ n ∧ n ≤ 9223372036854775807) (ht : PTab 0 w) : Calls Tryd.prog 3 #[.int .u8 a, .int .u8 b, .int .i64 n] w (OkEnd true w) := by
  have h := walk_spec (UInt8.ofNat a) (UInt8.ofNat b) n w hn ht
  rw [bv_ofNat ha, bv_ofNat hb] at h
  exact h
end Go.Proofs.YtcmoiainikfeeaaDoor
