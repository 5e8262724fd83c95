/-
  The law on what Expand begins with: its walk.
-/
import Derived.Test.YtchdpckbgabhhaaDoorRun
namespace Go.Proofs.YtchdpckbgabhhaaDoor
set_option linter.unusedVariables false
open Go.RowKit

theorem bs_cut (l : List UInt8) (m : Nat) (h : m ≤ l.length) : (bs l).extract 0 m = bs (l.take m) := by
  unfold bs
  apply ByteArray.ext
  simp

set_option maxRecDepth 100000 in
set_option maxHeartbeats 2000000 in
theorem walk_begins (seed : List UInt8) (b c : Nat) (w : World) (hlen : seed.length ≤ 140737488351232) (hb : b < 256) (hc : c < 256) (ht : Tab 1 w) :
    Calls Tryd.prog 11 #[sv seed, .agg #[.int .u8 b, .int .u8 c]] w (OkEnd true w) := by
  have hT := Lib.hid ht
  have HSan := Lib.hid (fun W hT => sanity_any W hT)
  have K1 := Lib.hid (bs_size seed)
  obtain ⟨W1, hW1⟩ : ∃ W1, W1 = w.alloc (.cells #[.int .u8 b, .int .u8 c] 45) := ⟨_, rfl⟩
  have hB1 : Below w.heap.size w W1 := by rw [hW1]; exact (Below.refl _ _).alloc (Nat.le_refl _) _
  have hK : Hid (Blk W1 w.heap.size [.int .u8 b, .int .u8 c] 45) := by show Blk _ _ _ _; rw [hW1]; exact Blk.new _ _ _
  by_cases hbig : 400 < seed.length
  · unfold sv
    have t1 : (400 : Int) < (bs seed).size := by rw [K1.out]; omega
    generalize bs seed = S1 at t1 ⊢
    go_enter Tryd.func11, Tryd.ntmps11
    go_wp2_with fail
    rw [← hW1]
    clear hW1
    refine (HSan.out _ (hT.out.on hB1)).mono ?_
    rintro e w1 ⟨rfl, hb1⟩
    go_wp2_with fail
    go_ret
    exact ⟨rfl, hB1.trans (hb1.mono hB1.size)⟩
  · have t1 : ¬ (400 : Int) < (bs seed).size := by rw [K1.out]; omega
    obtain ⟨m, hm0⟩ : ∃ m, m = min b c := ⟨_, rfl⟩
    have hm := Lib.hid hm0
    obtain ⟨n, hn0⟩ : ∃ n, n = max b c := ⟨_, rfl⟩
    have hn := Lib.hid hn0
    obtain ⟨M, hM⟩ : ∃ M, M = 1 + m := ⟨_, rfl⟩
    obtain ⟨N, hN⟩ : ∃ N, N = 1 + n := ⟨_, rfl⟩
    obtain ⟨D, hD0⟩ : ∃ D, D = min M 32 := ⟨_, rfl⟩
    have hD := Lib.hid hD0
    have em : IntKind.i64.wrap (m : Int) = m := by rw [IntKind.wrap_i64]; omega
    have en : IntKind.i64.wrap (n : Int) = n := by rw [IntKind.wrap_i64]; omega
    have eM : IntKind.i64.wrap (1 + (m : Int)) = M := by rw [IntKind.wrap_i64]; omega
    have eN : IntKind.i64.wrap (1 + (n : Int)) = N := by rw [IntKind.wrap_i64]; omega
    have HE1 := Lib.hid (fun W hT => expand_pos seed M W (by omega) (by omega) (by omega) hT)
    have HE2 := Lib.hid (fun W hT => expand_pos seed N W (by omega) (by omega) (by omega) hT)
    have HM := Lib.hid (fun W hT => hmac_any seed [0] W (by have : ([0] : List UInt8).length = 1 := rfl; omega) hT)
    have hHl := Sha.hmac_len seed [0]
    have HB := Lib.hid (fun W => bytes32_any (Sha.hmac seed [0]) W hHl)
    have l1 : (bs (Sha.expand seed M)).size = M := by rw [bs_size, Sha.expand_len]
    have l2 : (bs (Sha.expand seed N)).size = N := by rw [bs_size, Sha.expand_len]
    have l3 : (bs (Sha.hmac seed [0])).size = 32 := by rw [bs_size, hHl]
    have q1 : Hid ((((bs (Sha.expand seed N)).extract 0 M).toList == (bs (Sha.expand seed M)).toList) = true) := by
      show _ = _
      rw [bs_cut _ _ (by rw [Sha.expand_len]; omega), bs_toList, bs_toList, Sha.expand_begins seed M N (by omega)]
      simp
    have q2 : Hid ((((bs (Sha.expand seed M)).extract 0 D).toList == ((bs (Sha.hmac seed [0])).extract 0 D).toList) = true) := by
      show _ = _
      rw [bs_cut _ _ (by rw [Sha.expand_len]; omega), bs_cut _ _ (by rw [hHl]; omega), bs_toList, bs_toList, hD0, Sha.expand_first seed M]
      simp
    have e0 : sv [0] = .string ⟨#[0]⟩ := rfl
    have d1 : D ≤ M := by omega
    have d2 : D ≤ 32 := by omega
    have d3 : M ≤ N := by omega
    rw [e0] at HM
    generalize Sha.hmac seed [0] = H at HM HB q2 l3
    unfold sv at HE1 HE2 HM HB ⊢
    generalize bs (Sha.expand seed M) = X1 at *
    generalize bs (Sha.expand seed N) = X2 at *
    generalize bs H = X3 at *
    generalize bs seed = S1 at *
    clear hbig hlen hb hc hM hN hm0 hn0 hD0
    go_enter Tryd.func11, Tryd.ntmps11
    go_wp2_with fail
    rw [← hW1]
    clear hW1
    refine (HSan.out _ (hT.out.on hB1)).mono ?_
    rintro e w1 ⟨rfl, hb1⟩
    have hB2 : Below w.heap.size w w1 := hB1.trans (hb1.mono hB1.size)
    have hK1 := Lib.hid (hK.out.below hb1 hK.out.lt)
    clear hb1 ht
    go_wp2_with fail
    refine wp_region_planL 99 [(true, 0), (true, 1), (true, 2), (true, 3), (true, 4), (true, 5), (true, 6), (true, 7), (true, 8), (true, 9), (true, 10), (true, 11), (true, 12), (true, 13), (true, 14), (true, 15)] (by kernel_rfl) (by decide) (by kernel_rfl) (by kernel_rfl) (by kernel_rfl) (by decide) (by intro c a d v w h; cases d <;> exact h) ?_
    change wpPlanL _ _ _ _ _ _ w1.drew
    have hc0 := fun x : ExtOf w1.drew => (hK1.out.below (x.below (Nat.le_refl _)) hK1.out.lt).cell (j := 0) rfl
    have hc1 := fun x : ExtOf w1.drew => (hK1.out.below (x.below (Nat.le_refl _)) hK1.out.lt).cell (j := 1) rfl
    iterate 4 (refine wpPlanL_plain rfl (fun K hK => ?_); go_simp; refine hK _ ?_; clear hK K)
    refine wpPlanL_runW rfl (by rfl) (.int .u8 m) (fun x => by rw [hm.out]; exact min_run _ _ _ rfl .u8 b c rfl rfl x.world) ?_
    iterate 6 (refine wpPlanL_plain rfl (fun K hK => ?_); go_simp; refine hK _ ?_; clear hK K)
    refine wpPlanL_runW rfl (by rfl) (.int .u8 n) (fun x => by rw [hn.out]; exact max_run _ _ _ rfl .u8 b c rfl rfl x.world) ?_
    iterate 4 (refine wpPlanL_plain rfl (fun K hK => ?_); go_simp; refine hK _ ?_; clear hK K)
    refine wpPlanL_nil ?_
    have hB3 : Below w.heap.size w w1.drew := hB2.drew
    generalize w1.drew = w2 at hB3 ⊢
    clear hc0 hc1 hm hn
    go_wp2_with fail
    refine (HE1.out _ (hT.out.on hB3)).mono ?_
    rintro e w3 ⟨rfl, hb3⟩
    have hB4 : Below w.heap.size w w3 := hB3.trans (hb3.mono hB3.size)
    clear hb3
    go_wp2_with fail
    refine (HE2.out _ (hT.out.on hB4)).mono ?_
    rintro e w4 ⟨rfl, hb4⟩
    have hB5 : Below w.heap.size w w4 := hB4.trans (hb4.mono hB4.size)
    clear hb4
    go_wp2_with fail
    refine (HM.out _ (hT.out.on hB5)).mono ?_
    rintro e w5 ⟨rfl, hb5⟩
    have hB6 : Below w.heap.size w w5 := hB5.trans (hb5.mono hB5.size)
    clear hb5
    go_wp2_with fail
    refine (HB.out _).mono ?_
    rintro e w6 ⟨rfl, hb6⟩
    have hB7 : Below w.heap.size w w6 := hB6.trans (hb6.mono hB6.size)
    clear hb6
    go_wp2_with fail
    refine wp_region_planL 99 [(true, 0), (true, 1), (true, 2), (true, 3), (true, 4), (true, 5), (true, 6), (true, 7), (true, 8), (true, 9), (true, 10), (true, 11), (true, 12), (true, 13), (true, 14), (true, 15), (true, 16), (true, 17), (true, 18), (true, 19)] (by kernel_rfl) (by decide) (by kernel_rfl) (by kernel_rfl) (by kernel_rfl) (by decide) (by intro c a d v w h; cases d <;> exact h) ?_
    change wpPlanL _ _ _ _ _ _ w6.drew
    iterate 4 (refine wpPlanL_plain rfl (fun K hK => ?_); go_simp; refine hK _ ?_; clear hK K)
    refine wpPlanL_runW rfl (by rfl) _ (fun x => cut_run _ _ _ rfl Tryd.underlying9 X2 M rfl rfl (by omega) x.world) ?_
    iterate 1 (refine wpPlanL_plain rfl (fun K hK => ?_); go_simp; refine hK _ ?_; clear hK K)
    refine wpPlanL_runW rfl (by rfl) _ (fun x => eqs_run _ _ _ _ rfl Tryd.underlying9 _ _ true q1.out rfl rfl x.world) ?_
    iterate 4 (refine wpPlanL_plain rfl (fun K hK => ?_); go_simp; refine hK _ ?_; clear hK K)
    refine wpPlanL_runW rfl (by rfl) (.int .i64 D) (fun x => by rw [hD.out]; exact min_run _ _ _ rfl .i64 M 32 rfl rfl x.world) ?_
    refine wpPlanL_runW rfl (by rfl) _ (fun x => cut_run _ _ _ rfl Tryd.underlying9 X1 D rfl rfl (by omega) x.world) ?_
    iterate 2 (refine wpPlanL_plain rfl (fun K hK => ?_); go_simp; refine hK _ ?_; clear hK K)
    refine wpPlanL_runW rfl (by rfl) (.int .i64 D) (fun x => by rw [hD.out]; exact min_run _ _ _ rfl .i64 M 32 rfl rfl x.world) ?_
    refine wpPlanL_runW rfl (by rfl) _ (fun x => cut_run _ _ _ rfl Tryd.underlying9 X3 D rfl rfl (by omega) x.world) ?_
    refine wpPlanL_runW rfl (by rfl) _ (fun x => eqs_run _ _ _ _ rfl Tryd.underlying9 _ _ true q2.out rfl rfl x.world) ?_
    iterate 2 (refine wpPlanL_plain rfl (fun K hK => ?_); go_simp; refine hK _ ?_; clear hK K)
    refine wpPlanL_nil ?_
    go_wp2_with fail
    go_ret
    exact ⟨rfl, hB7.drew⟩
end Go.Proofs.YtchdpckbgabhhaaDoor
