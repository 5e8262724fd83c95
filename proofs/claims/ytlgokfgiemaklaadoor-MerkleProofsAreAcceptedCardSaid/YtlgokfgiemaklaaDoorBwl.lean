/-
  Contracts of the library: bits.OnesCount64, OnesCount, TrailingZeros64, TrailingZeros. Contracts of stage 3: wellFormed.
-/
import Derived.Test.YtlgokfgiemaklaaDoorPop
import Derived.Test.YtlgokfgiemaklaaDoorKb
import Derived.Lib.TrailingZeros
import Derived.Laws.Bits64b
import Derived.Test.YtlgokfgiemaklaaDoorRwf
namespace Go.Proofs.YtlgokfgiemaklaaDoor
set_option linter.unusedVariables false
set_option linter.unusedSimpArgs false
open Go.RowKit

theorem i64_and (a b : Nat) (ha : a < 9223372036854775808) (hb : b < 9223372036854775808) : bits BinOp.and IntKind.i64 (a : Int) (b : Int) = ((a &&& b : Nat) : Int) := by
  have hx : a &&& b < 9223372036854775808 := Nat.lt_of_le_of_lt Nat.and_le_left ha
  have h1 : (BitVec.ofInt 64 (a : Int)).toNat = a := by
    rw [BitVec.ofInt_natCast, BitVec.toNat_ofNat]; exact Nat.mod_eq_of_lt (by omega)
  have h2 : (BitVec.ofInt 64 (b : Int)).toNat = b := by
    rw [BitVec.ofInt_natCast, BitVec.toNat_ofNat]; exact Nat.mod_eq_of_lt (by omega)
  show IntKind.i64.wrap ((BitVec.ofInt 64 (a : Int) &&& BitVec.ofInt 64 (b : Int)).toNat : Int) = _
  rw [BitVec.toNat_and, h1, h2, IntKind.wrap_i64]
  omega

set_option maxRecDepth 100000 in
set_option maxHeartbeats 2000000 in
theorem onesCount64_any (x : Nat) (hx : x < 18446744073709551616) (w : World) :
    Calls Tryd.prog 89 #[.int .u64 x] w fun e w' => e = .returned (.int .i64 (Pop.ones 64 x)) ∧ w' = w := by
  obtain ⟨y1, h1⟩ : ∃ y, y = ((x / 2) &&& 6148914691236517205) + (x &&& 6148914691236517205) := ⟨_, rfl⟩
  obtain ⟨y2, h2⟩ : ∃ y, y = ((y1 / 4) &&& 3689348814741910323) + (y1 &&& 3689348814741910323) := ⟨_, rfl⟩
  obtain ⟨y3, h3⟩ : ∃ y, y = (y2 / 16 + y2) &&& 1085102592571150095 := ⟨_, rfl⟩
  obtain ⟨y4, h4⟩ : ∃ y, y = y3 + y3 / 256 := ⟨_, rfl⟩
  obtain ⟨y5, h5⟩ : ∃ y, y = y4 + y4 / 65536 := ⟨_, rfl⟩
  obtain ⟨y6, h6⟩ : ∃ y, y = y5 + y5 / 4294967296 := ⟨_, rfl⟩
  obtain ⟨hr, l1, l2, l3, l4, l5, l6⟩ := Pop.swar x hx y1 y2 y3 y4 y5 y6 h1 h2 h3 h4 h5 h6
  have hr' := Lib.hid hr
  have hones : Hid (y6 % 128 = Pop.ones 64 x) := hr
  clear hr hr'
  generalize Pop.ones 64 x = r at hones ⊢
  have k1 : IntKind.u64.wrap (bits BinOp.and IntKind.u64 ((x : Int) / 2) 6148914691236517205 + bits BinOp.and IntKind.u64 (x : Int) 6148914691236517205) = (y1 : Int) := by
    rw [show (x : Int) / 2 = ((x / 2 : Nat) : Int) by omega, show (6148914691236517205 : Int) = ((6148914691236517205 : Nat) : Int) from rfl, bits_and_u64_nat _ _ (by omega) (by omega), bits_and_u64_nat _ _ hx (by omega), IntKind.wrap_u64]
    omega
  have k2 : IntKind.u64.wrap (bits BinOp.and IntKind.u64 ((y1 : Int) / 4) 3689348814741910323 + bits BinOp.and IntKind.u64 (y1 : Int) 3689348814741910323) = (y2 : Int) := by
    rw [show (y1 : Int) / 4 = ((y1 / 4 : Nat) : Int) by omega, show (3689348814741910323 : Int) = ((3689348814741910323 : Nat) : Int) from rfl, bits_and_u64_nat _ _ (by omega) (by omega), bits_and_u64_nat _ _ l1 (by omega), IntKind.wrap_u64]
    omega
  have k3 : bits BinOp.and IntKind.u64 (IntKind.u64.wrap ((y2 : Int) / 16 + (y2 : Int))) 1085102592571150095 = (y3 : Int) := by
    rw [show IntKind.u64.wrap ((y2 : Int) / 16 + (y2 : Int)) = ((y2 / 16 + y2 : Nat) : Int) by rw [IntKind.wrap_u64]; omega, show (1085102592571150095 : Int) = ((1085102592571150095 : Nat) : Int) from rfl, bits_and_u64_nat _ _ l3 (by omega), h3]
  have k4 : IntKind.u64.wrap ((y3 : Int) + (y3 : Int) / 256) = (y4 : Int) := by rw [IntKind.wrap_u64]; omega
  have k5 : IntKind.u64.wrap ((y4 : Int) + (y4 : Int) / 65536) = (y5 : Int) := by rw [IntKind.wrap_u64]; omega
  have k6 : IntKind.u64.wrap ((y5 : Int) + (y5 : Int) / 4294967296) = (y6 : Int) := by rw [IntKind.wrap_u64]; omega
  clear h1 h2 h3 h4 h5 h6 l1 l2 l3 l4 l5 hx
  go_enter Tryd.func89, Tryd.ntmps89
  go_wp2_with (first | simp only [k1] | simp only [k2] | simp only [k3] | simp only [k4] | simp only [k5] | simp only [k6])
  go_ret
  refine ⟨?_, rfl⟩
  rw [← hones.out]
  show Ending.returned (Value.int IntKind.i64 (bits BinOp.and IntKind.i64 (y6 : Int) 127)) = _
  rw [show (127 : Int) = ((127 : Nat) : Int) from rfl, i64_and _ _ l6 (by omega), Nat.and_two_pow_sub_one_eq_mod y6 7]
theorem onesCount_any (x : Nat) (hx : x < 18446744073709551616) (w : World) :
    Calls Tryd.prog 74 #[.int .u64 x] w fun e w' => e = .returned (.int .i64 (Pop.ones 64 x)) ∧ w' = w := by
  have H := Lib.hid (onesCount64_any x hx w)
  generalize Pop.ones 64 x = r at H ⊢
  go_enter Tryd.func74, Tryd.ntmps74
  go_wp2_with fail
  refine H.out.mono ?_
  rintro e w' ⟨rfl, rfl⟩
  go_wp2_with fail
  go_ret
  exact ⟨rfl, rfl⟩

/-- A table of bytes in its variable. -/
def TabU (g : Nat) (tab : List Nat) (w : World) : Prop := ∀ j, j < tab.length → w.cell? ⟨g, j, none⟩ = some (.int .u8 (tab.getD j 0))

theorem tz_key (x a : Nat) (hx : x < 18446744073709551616) (hx0 : x ≠ 0) (hlow : x &&& (18446744073709551616 - x) = a) :
    IntKind.u64.wrap (bits BinOp.and IntKind.u64 (x : Int) (IntKind.u64.wrap (-(x : Int))) * 285870213051353865) / 288230376151711744 = ((a * 285870213051353865 % 18446744073709551616 / 288230376151711744 : Nat) : Int) := by
  have e1 : IntKind.u64.wrap (-(x : Int)) = ((18446744073709551616 - x : Nat) : Int) := by rw [IntKind.wrap_u64]; omega
  rw [e1, bits_and_u64_nat x _ hx (by omega), hlow, IntKind.wrap_u64]
  omega

set_option maxRecDepth 100000 in
set_option maxHeartbeats 1000000 in
theorem tz64_core (x k idx : Nat) (w : World) (t0 : ((x : Int) == 0) = false)
    (key : IntKind.u64.wrap (bits BinOp.and IntKind.u64 (x : Int) (IntKind.u64.wrap (-(x : Int))) * 285870213051353865) / 288230376151711744 = (idx : Int))
    (hi : idx < 64) (hk : k < 64) (hcell : w.cell? ⟨1, idx, none⟩ = some (.int .u8 k)) :
    Calls Tryd.prog 76 #[.int .u64 x] w fun e w' => e = .returned (.int .i64 k) ∧ w' = w := by
  have i1 : (idx : Int) < 64 := by omega
  go_enter Tryd.func76, Tryd.ntmps76
  go_wp2_with (simp only [key])
  go_ret
  exact ⟨rfl, rfl⟩
theorem tz64_any (x : Nat) (hx : x < 18446744073709551616) (hx0 : x ≠ 0) (w : World) (hT : TabU 1 Lib.deBruijn64tab w) :
    Calls Tryd.prog 76 #[.int .u64 x] w fun e w' => e = .returned (.int .i64 (Lib.ctz 64 x)) ∧ w' = w := by
  obtain ⟨hlow, hk⟩ := Lib.lowest_bit 64 x hx0 hx
  obtain ⟨hi, htab⟩ := Lib.deBruijn64_at _ hk
  have hcell := hT _ hi
  rw [htab] at hcell
  exact tz64_core x _ _ w (by simp; omega) (tz_key x _ hx hx0 hlow) hi hk hcell

theorem tz_any (x : Nat) (hx : x < 18446744073709551616) (hx0 : x ≠ 0) (w : World) (hT : TabU 1 Lib.deBruijn64tab w) :
    Calls Tryd.prog 52 #[.int .u64 x] w fun e w' => e = .returned (.int .i64 (Lib.ctz 64 x)) ∧ w' = w := by
  have H := Lib.hid (tz64_any x hx hx0 w hT)
  generalize Lib.ctz 64 x = r at H ⊢
  clear hT
  go_enter Tryd.func52, Tryd.ntmps52
  go_wp2_with fail
  refine H.out.mono ?_
  rintro e w' ⟨rfl, rfl⟩
  go_wp2_with fail
  go_ret
  exact ⟨rfl, rfl⟩

/-- How many ones a number ends with. -/
def tro : Nat → Nat → Nat
  | 0, _ => 0
  | f + 1, n => if n % 2 = 1 then 1 + tro f (n / 2) else 0
theorem ctz_compl : ∀ (f n : Nat), n + 1 < 2 ^ f → Lib.ctzFrom f (2 ^ f - 1 - n) = tro f n
  | 0, n, h => rfl
  | f + 1, n, h => by
    have h2 : 2 ^ (f + 1) = 2 * 2 ^ f := by rw [Nat.pow_succ]; omega
    unfold Lib.ctzFrom tro
    by_cases hn : n % 2 = 1
    · rw [if_pos hn, if_neg (by omega), show (2 ^ (f + 1) - 1 - n) / 2 = 2 ^ f - 1 - n / 2 by omega, ctz_compl f (n / 2) (by omega)]
    · rw [if_neg hn, if_pos (by omega)]
theorem ctz_not (n : Nat) (h : n < 9223372036854775808) : Lib.ctz 64 (18446744073709551615 - n) = tro 64 n := by
  unfold Lib.ctz
  rw [if_neg (by omega)]
  exact ctz_compl 64 n (by omega)
/-- .. no more than ones in all. -/
theorem tro_le : ∀ (f n : Nat), tro f n ≤ Pop.ones f n
  | 0, n => Nat.le_refl _
  | f + 1, n => by
    unfold tro Pop.ones
    split
    · rename_i h
      have := tro_le f (n / 2)
      omega
    · omega
end Go.Proofs.YtlgokfgiemaklaaDoor

namespace Go.Proofs.YtlgokfgiemaklaaDoor
set_option linter.unusedVariables false
set_option linter.unusedSimpArgs false
open Go.RowKit

theorem ones_pop_go : ∀ (f n : Nat), n < 2 ^ f → Pop.ones f n = pop n
  | 0, n, h => by
    obtain rfl : n = 0 := by simpa using h
    rw [pop_zero]; rfl
  | f + 1, n, h => by
    unfold Pop.ones
    rw [ones_pop_go f (n / 2) (by rw [Nat.pow_succ] at h; omega)]
    by_cases h0 : n = 0
    · subst h0; rw [pop_zero]
    · rw [pop_pos (n := n) (by omega)]
theorem ones_pop (n : Nat) (h : n < 18446744073709551616) : Pop.ones 64 n = pop n := ones_pop_go 64 n h

set_option maxRecDepth 100000 in
set_option maxHeartbeats 2000000 in
theorem wellFormed_any (s : Int) (A : Option Addr) (n c : Nat) (w : World) :
    Calls Tryd.prog 51 #[pkv s A n c] w fun e w' => e = .returned (.bool (pkOk s n)) ∧ Below w.heap.size w w' := by
  obtain ⟨W1, hW1⟩ : ∃ W1, W1 = w.alloc (.cells #[.int .i64 s, .slice A n c] 43) := ⟨_, rfl⟩
  have hB1 : Hid (Below w.heap.size w W1.drew) := by show Below _ _ _; rw [hW1]; exact ((Below.refl _ _).alloc (Nat.le_refl _) _).drew
  have hK1 : Blk W1 w.heap.size [.int .i64 s, .slice A n c] 43 := by rw [hW1]; exact Blk.new _ [_, _] _
  have q1 : ∀ x : ExtOf W1.drew, x.world.cell? ⟨w.heap.size, 0, none⟩ = some (.int .i64 s) := fun x => (hK1.drew.below x.ext hK1.drew.lt).cell rfl
  have q2 : ∀ x : ExtOf W1.drew, x.world.cell? ⟨w.heap.size, 1, none⟩ = some (.slice A n c) := fun x => (hK1.drew.below x.ext hK1.drew.lt).cell rfl
  have hW1' := Lib.hid hW1
  clear hW1 hK1
  unfold pkv
  by_cases h0 : 0 ≤ s
  · obtain ⟨z, rfl⟩ := Int.eq_ofNat_of_zero_le h0
    by_cases h1 : (z : Int) ≤ 1099511627776
    · have hr : Hid (pkOk z n = ((n : Int) == ((pop z : Nat) : Int))) := by
        show _ = _
        unfold pkOk
        rw [decide_eq_true h0, decide_eq_true h1]
        simp
      have HO := Lib.hid (fun W => onesCount_any z (by omega) W)
      rw [ones_pop z (by omega)] at HO
      generalize pop z = Z at HO hr
      have b1 : decide ((z : Int) ≤ 1099511627776) = true := decide_eq_true h1
      have b0 : decide (0 ≤ (z : Int)) = true := decide_eq_true h0
      clear h0
      go_enter Tryd.func51, Tryd.ntmps51
      go_wp2_with fail
      generalize hg : w.alloc _ = Wg
      have hgW : W1 = Wg := by rw [← hg, hW1'.out]
      clear hg hW1'
      subst hgW
      refine wp_region_planL 99 [(true, 0), (true, 1), (true, 2), (true, 3), (true, 4), (true, 5), (true, 6), (true, 7), (true, 8), (true, 9), (true, 10), (true, 11), (true, 12), (true, 13), (true, 14), (false, 15), (true, 16), (true, 17), (true, 18)] (by kernel_rfl) (by decide) (by kernel_rfl) (by kernel_rfl) (by kernel_rfl) (by decide) (by intro c a d v w h; cases d <;> exact h) ?_
      change wpPlanL _ _ _ _ _ _ W1.drew
      iterate 15 (refine wpPlanL_plain rfl (fun K hK => ?_); go_simp; refine hK _ ?_; clear hK K)
      refine wpPlanL_call rfl (fun K hK => ?_)
      go_wp2_with fail
      refine (HO.out _).mono ?_
      rintro e w2 ⟨rfl, rfl⟩
      go_wp2_with fail
      refine planPostL_normal ⟨.inr (Below.refl _ _), hK _ _ ?_⟩
      clear hK K
      iterate 3 (refine wpPlanL_plain rfl (fun K hK => ?_); go_simp; refine hK _ ?_; clear hK K)
      refine wpPlanL_nil ?_
      go_wp2_with fail
      go_ret
      exact ⟨by rw [hr.out]; rfl, hB1.out⟩
    · have hr : Hid (pkOk z n = false) := by
        show _ = _
        unfold pkOk
        rw [decide_eq_true h0, decide_eq_false h1]
        rfl
      have b0 : decide (0 ≤ (z : Int)) = true := decide_eq_true h0
      have b1 : decide ((z : Int) ≤ 1099511627776) = false := decide_eq_false h1
      clear h0 h1
      go_enter Tryd.func51, Tryd.ntmps51
      go_wp2_with fail
      generalize hg : w.alloc _ = Wg
      have hgW : W1 = Wg := by rw [← hg, hW1'.out]
      clear hg hW1'
      subst hgW
      refine wp_region_planL 99 [(true, 0), (true, 1), (true, 2), (true, 3), (true, 4), (true, 5), (true, 6), (true, 7), (true, 8), (true, 9), (true, 10), (true, 11), (true, 12), (true, 13), (true, 14), (false, 15), (true, 16), (true, 17), (true, 18)] (by kernel_rfl) (by decide) (by kernel_rfl) (by kernel_rfl) (by kernel_rfl) (by decide) (by intro c a d v w h; cases d <;> exact h) ?_
      change wpPlanL _ _ _ _ _ _ W1.drew
      iterate 15 (refine wpPlanL_plain rfl (fun K hK => ?_); go_simp; refine hK _ ?_; clear hK K)
      refine wpPlanL_call rfl (fun K hK => ?_)
      go_wp2_with fail
      refine planPostL_normal ⟨.inr (Below.refl _ _), hK _ _ ?_⟩
      clear hK K
      iterate 3 (refine wpPlanL_plain rfl (fun K hK => ?_); go_simp; refine hK _ ?_; clear hK K)
      refine wpPlanL_nil ?_
      go_wp2_with fail
      go_ret
      exact ⟨by rw [hr.out]; rfl, hB1.out⟩
  · have hr : Hid (pkOk s n = false) := by
      show _ = _
      unfold pkOk
      rw [decide_eq_false h0]
      rfl
    have b0 : decide (0 ≤ s) = false := decide_eq_false h0
    clear h0
    go_enter Tryd.func51, Tryd.ntmps51
    go_wp2_with fail
    generalize hg : w.alloc _ = Wg
    have hgW : W1 = Wg := by rw [← hg, hW1'.out]
    clear hg hW1'
    subst hgW
    refine wp_region_planL 99 [(true, 0), (true, 1), (true, 2), (true, 3), (true, 4), (true, 5), (true, 6), (true, 7), (true, 8), (true, 9), (true, 10), (true, 11), (true, 12), (true, 13), (true, 14), (false, 15), (true, 16), (true, 17), (true, 18)] (by kernel_rfl) (by decide) (by kernel_rfl) (by kernel_rfl) (by kernel_rfl) (by decide) (by intro c a d v w h; cases d <;> exact h) ?_
    change wpPlanL _ _ _ _ _ _ W1.drew
    iterate 15 (refine wpPlanL_plain rfl (fun K hK => ?_); go_simp; refine hK _ ?_; clear hK K)
    refine wpPlanL_call rfl (fun K hK => ?_)
    go_wp2_with fail
    refine planPostL_normal ⟨.inr (Below.refl _ _), hK _ _ ?_⟩
    clear hK K
    iterate 3 (refine wpPlanL_plain rfl (fun K hK => ?_); go_simp; refine hK _ ?_; clear hK K)
    refine wpPlanL_nil ?_
    go_wp2_with fail
    go_ret
    exact ⟨by rw [hr.out]; rfl, hB1.out⟩
end Go.Proofs.YtlgokfgiemaklaaDoor
