/-
  Contracts of stage 4: Exp, Log, Inv, Mul, Pow of the program.
-/
import Derived.Test.YtgajlgnniidgmaaDoorKc
import Derived.Test.YtgajlgnniidgmaaDoorGf
namespace Go.Proofs.YtgajlgnniidgmaaDoor
set_option linter.unusedVariables false
set_option linter.unusedSimpArgs false
open Go.RowKit

/-- The table of powers stands in global g. -/
def PTab (g : Nat) (w : World) : Prop := g < w.heap.size ∧ ∀ j, j < 247 → w.cell? ⟨g, j, none⟩ = some (bv (Gf.ex (j + 8)))
theorem PTab.on {g : Nat} {w w' : World} (h : PTab g w) (hb : Below w.heap.size w w') : PTab g w' := ⟨Nat.lt_of_lt_of_le h.1 hb.size, fun j hj => (hb.cell (p := ⟨g, j, none⟩) h.1).trans (h.2 j hj)⟩
theorem PTab.below {g B : Nat} {w w' : World} (h : PTab g w) (hb : Below B w w') (hg : g < B) : PTab g w' := ⟨Nat.lt_of_lt_of_le h.1 hb.size, fun j hj => (hb.cell (p := ⟨g, j, none⟩) hg).trans (h.2 j hj)⟩
theorem PTab.drew {g : Nat} {w : World} (h : PTab g w) : PTab g w.drew := h

theorem tmod_cases (n : Int) : (n.tmod 255 < 0 ∧ n.tmod 255 + 255 = n % 255) ∨ (¬ n.tmod 255 < 0 ∧ n.tmod 255 = n % 255) := by
  rcases Int.lt_or_le n 0 with hn | hn
  · have h3 : n.tmod 255 = -((-n) % 255) := by
      obtain ⟨m, rfl⟩ : ∃ m : Nat, n = -(m : Int) := ⟨(-n).toNat, by omega⟩
      rw [Int.neg_tmod, Int.neg_neg, Int.tmod_eq_emod_of_nonneg (by omega)]
    omega
  · rw [Int.tmod_eq_emod_of_nonneg hn]
    omega

theorem low_pow : ∀ k, k < 8 → ((2 : Int) ^ k % 256) = ((Gf.ex k).toNat : Int) := by decide +kernel
theorem retv {v v' : Value} {w : World} (h : v = v') : (Ending.returned v = .returned v') ∧ w = w := ⟨by rw [h], rfl⟩
theorem i64w {n : Int} (h : -9223372036854775808 ≤ n ∧ n ≤ 9223372036854775807) : IntKind.i64.wrap n = n := (IntWalk.i64_left n).trans (IntWalk.wrap64_in n h)
theorem w64 {n : Int} (h : -9223372036854775808 ≤ n ∧ n ≤ 9223372036854775807) : wrap64 n = n := IntWalk.wrap64_in n h

set_option maxRecDepth 100000 in
set_option maxHeartbeats 1000000 in
theorem exp_any (n : Int) (w : World) (ht : PTab 2 w) : Calls Tryd.prog 84 #[.int .i64 n] w fun e w' => e = .returned (bv (Gf.exi n)) ∧ w = w' := by
  obtain ⟨k, hk, hkn, he⟩ := Gf.exi_nat n
  rw [he]
  have hcells := Lib.hid ht.2
  have hr := tmod_cases n
  rw [← hkn] at hr
  clear hkn ht he
  have tab : 8 ≤ k → ∃ j, j < 247 ∧ k = j + 8 := fun h => ⟨k - 8, by omega, by omega⟩
  rcases hr with ⟨t1, h2⟩ | ⟨t1, h2⟩
  · obtain ⟨r, hr0⟩ : ∃ r, n.tmod 255 = r := ⟨_, rfl⟩
    rw [hr0] at t1 h2
    have e1 : wrap64 (r + 255) = (k : Int) := by rw [h2, w64 (by omega)]
    clear h2
    by_cases h8 : k < 8
    · have hlow := Lib.hid (low_pow k h8)
      have t2 : (k : Int) < 8 := by omega
      clear h8 tab
      go_enter Tryd.func84, Tryd.ntmps84
      go_wp2_with fail
      go_ret
      exact retv (congrArg _ hlow.out)
    · obtain ⟨j, hj, rfl⟩ := tab (by omega)
      have hc := hcells.out j hj
      unfold bv at hc
      have e2 : wrap64 (r + 255) = (j : Int) + 8 := e1
      have t2 : ¬ (j : Int) + 8 < 8 := by omega
      have t3 : (j : Int) < 247 := by omega
      clear hcells tab h8 e1
      go_enter Tryd.func84, Tryd.ntmps84
      go_wp2_with fail
      go_ret
      exact retv rfl
  · have e1 : n.tmod 255 = (k : Int) := h2
    clear h2
    rw [e1] at t1
    by_cases h8 : k < 8
    · have hlow := Lib.hid (low_pow k h8)
      have t2 : (k : Int) < 8 := by omega
      clear h8 tab
      go_enter Tryd.func84, Tryd.ntmps84
      go_wp2_with fail
      go_ret
      exact retv (congrArg _ hlow.out)
    · obtain ⟨j, hj, rfl⟩ := tab (by omega)
      have hc := hcells.out j hj
      unfold bv at hc
      have e2 : n.tmod 255 = (j : Int) + 8 := e1
      have t2 : ¬ (j : Int) + 8 < 8 := by omega
      have t3 : (j : Int) < 247 := by omega
      have t4 : ¬ (j : Int) + 8 < 0 := by omega
      clear hcells tab h8 e1 t1
      go_enter Tryd.func84, Tryd.ntmps84
      go_wp2_with fail
      go_ret
      exact retv rfl

/-- A text that has at each power of 2 its exponent. -/
def chkGo (S : ByteArray) : Nat → Nat → UInt8 → Bool
  | 0, _, _ => true
  | n + 1, k, x => (S.data.toList[x.toNat]? == some (UInt8.ofNat k)) && chkGo S n (k + 1) (Gf.xt x)
theorem chk_spec (S : ByteArray) : ∀ n k x, chkGo S n k x = true → ∀ i, i < n → S.data.toList[(Gf.xi i x).toNat]? = some (UInt8.ofNat (k + i))
  | 0, _, _, _, i, hi => absurd hi (Nat.not_lt_zero _)
  | n + 1, k, x, h, i, hi => by
    rw [chkGo, Bool.and_eq_true, beq_iff_eq] at h
    cases i with
    | zero => simpa [Gf.xi] using h.1
    | succ i =>
      have := chk_spec S n (k + 1) (Gf.xt x) h.2 i (by omega)
      rw [show Gf.xt x = Gf.xi 1 x from rfl, ← Gf.xi_add i 1 x] at this
      rw [this, show k + 1 + i = k + (i + 1) by omega]
theorem logs_at (S : ByteArray) (h : chkGo S 255 0 1 = true) (a : UInt8) (ha : a ≠ 0) (hl : a.toNat < S.size) : (S[a.toNat]'hl).toNat = Gf.lg a := by
  have h1 := chk_spec S 255 0 1 h (Gf.lg a) (Gf.lg_lt a)
  rw [show Gf.xi (Gf.lg a) 1 = a from Gf.ex_lg ha, Nat.zero_add] at h1
  have h2 : S.data.toList[a.toNat]? = some (S[a.toNat]'hl) := by
    rw [Array.getElem?_toList]
    exact Array.getElem?_eq_getElem (xs := S.data) hl
  rw [h2] at h1
  have h3 := Option.some.inj h1
  rw [h3, UInt8.toNat_ofNat']
  have := Gf.lg_lt a
  omega
theorem ne_zero_int {a : UInt8} (ha : a ≠ 0) : ((a.toNat : Int) == 0) = false := by
  simp only [beq_eq_false_iff_ne, ne_eq]
  intro h
  exact ha (UInt8.toNat_inj.1 (by simpa using h))

set_option maxRecDepth 100000 in
set_option maxHeartbeats 1000000 in
theorem inv_any (a : UInt8) (w : World) (ha : a ≠ 0) (ht : PTab 2 w) : Calls Tryd.prog 92 #[bv a] w fun e w' => e = .returned (.tuple #[bv (Gf.inv a), .int .i64 0]) ∧ w = w' := by
  have t0 := ne_zero_int ha
  have hb := UInt8.toNat_lt a
  have hb' : (a.toNat : Int) < 256 := by omega
  have hl := Gf.lg_lt a
  have hl' := Lib.hid hl
  have H := Lib.hid (exp_any (-(Gf.lg a : Int)) w ht)
  have hi : Gf.inv a = Gf.exi (-(Gf.lg a : Int)) := by unfold Gf.inv; rw [if_neg ha]
  rw [hi]
  clear hi hl
  unfold bv at H ⊢
  go_enter Tryd.func92, Tryd.ntmps92
  go_wp2_with fail
  rw [logs_at _ (by kernel_rfl) a ha, w64 (n := (Gf.lg a : Int)) (by have := hl'.out; omega), w64 (by have := hl'.out; omega)]
  refine H.out.mono ?_
  rintro e w' ⟨rfl, rfl⟩
  go_wp2_with fail
  go_ret2
  exact retv rfl

set_option maxRecDepth 100000 in
set_option maxHeartbeats 1000000 in
theorem inv_zero (w : World) : Calls Tryd.prog 92 #[bv 0] w fun e w' => e = .returned (.tuple #[bv 0, .int .i64 1]) ∧ w = w' := by
  change Calls _ _ #[.int .u8 0] _ _
  go_enter Tryd.func92, Tryd.ntmps92
  go_wp2_with fail
  go_ret2
  exact retv rfl

set_option maxRecDepth 100000 in
set_option maxHeartbeats 1000000 in
theorem mul_any (a b : UInt8) (w : World) (ht : PTab 2 w) : Calls Tryd.prog 93 #[bv a, bv b] w fun e w' => e = .returned (bv (Gf.mul a b)) ∧ ∃ n, w' = w.drewN n := by
  by_cases ha : a = 0
  · subst ha
    rw [Gf.zero_mul]
    unfold bv
    clear ht
    go_enter Tryd.func93, Tryd.ntmps93
    go_wp2_with fail
    go_ret
    exact ⟨rfl, 0, rfl⟩
  have t0 := ne_zero_int ha
  by_cases hb0 : b = 0
  · subst hb0
    rw [Gf.mul_zero]
    unfold bv
    clear ht
    go_enter Tryd.func93, Tryd.ntmps93
    go_wp2_with fail
    go_ret
    exact ⟨rfl, 0, rfl⟩
  have t1 := ne_zero_int hb0
  have hb := UInt8.toNat_lt a
  have hb' : (a.toNat : Int) < 256 := by omega
  have hc := UInt8.toNat_lt b
  have hc' : (b.toNat : Int) < 256 := by omega
  have hl := Lib.hid (Gf.lg_lt a)
  have hl' := Lib.hid (Gf.lg_lt b)
  have H := Lib.hid (exp_any ((Gf.lg a : Int) + Gf.lg b) w.drew ht)
  rw [Gf.mul_exi ha hb0]
  clear ht
  unfold bv at H ⊢
  go_enter Tryd.func93, Tryd.ntmps93
  go_wp2_with fail
  refine wp_region_planL 99 [(true, 0), (true, 1), (true, 2), (true, 3), (true, 4), (true, 5), (true, 6), (false, 7), (true, 8)] (by kernel_rfl) (by decide) (by kernel_rfl) (by kernel_rfl) (by kernel_rfl) (by decide) (by intro c a d v w h; cases d <;> exact h) ?_
  change wpPlanL _ _ _ _ _ _ w.drew
  iterate 7 (refine wpPlanL_plain rfl (fun K hK => ?_); go_simp; refine hK _ ?_; clear hK K)
  rw [logs_at _ (by kernel_rfl) a ha, logs_at _ (by kernel_rfl) b hb0, i64w (n := (Gf.lg a : Int)) (by have := hl.out; omega), i64w (n := (Gf.lg b : Int)) (by have := hl'.out; omega), i64w (by have := hl.out; have := hl'.out; omega)]
  refine wpPlanL_call rfl (fun K hK => ?_)
  go_wp2_with fail
  refine H.out.mono ?_
  rintro e w' ⟨rfl, rfl⟩
  go_wp2_with fail
  refine planPostL_normal ⟨.inr (Below.refl _ _), hK _ _ ?_⟩
  clear hK K
  iterate 1 (refine wpPlanL_plain rfl (fun K hK => ?_); go_simp; refine hK _ ?_; clear hK K)
  refine wpPlanL_nil ?_
  go_wp2_with fail
  go_ret
  exact ⟨rfl, 1, rfl⟩
end Go.Proofs.YtgajlgnniidgmaaDoor
