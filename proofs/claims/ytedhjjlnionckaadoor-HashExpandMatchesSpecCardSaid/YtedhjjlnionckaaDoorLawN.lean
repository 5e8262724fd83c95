/-
  The law on seeds that are expanded: its walk.
-/
import Derived.Test.YtedhjjlnionckaaDoorRfin
namespace Go.Proofs.YtedhjjlnionckaaDoor
set_option linter.unusedVariables false
open Go.RowKit

set_option maxRecDepth 100000 in
set_option maxHeartbeats 2000000 in
theorem walk_expandspec (seed : List UInt8) (n : Int) (w : World) (hk : seed.length ≤ 140737488351232) (hn : -9223372036854775808 ≤ n ∧ n ≤ 9223372036854775807) (ht : Tab 1 w) (hc : Tab 0 w) :
    Calls Tryd.prog 7 #[sv seed, .int .i64 n] w (OkEnd true w) := by
  have hT := Lib.hid ht
  have hC := Lib.hid hc
  have HSan := Lib.hid (fun W hT => sanity_any W hT)
  have K1 := Lib.hid (bs_size seed)
  by_cases hA : 400 < seed.length
  · unfold sv
    have t1 : (400 : Int) < (bs seed).size := by rw [K1.out]; omega
    generalize bs seed = S1 at t1 ⊢
    go_enter Tryd.func7, Tryd.ntmps7
    go_wp2_with fail
    refine (HSan.out _ ht).mono ?_
    rintro e w1 ⟨rfl, hb1⟩
    go_wp2_with fail
    go_ret
    exact ⟨rfl, hb1⟩
  · have t1 : ¬ (400 : Int) < (bs seed).size := by rw [K1.out]; omega
    by_cases hB : 300 < n ∧ n ≤ 1048576
    · unfold sv
      generalize bs seed = S1 at t1 ⊢
      have t2 : (300 : Int) < n := hB.1
      have t3 : n ≤ 1048576 := hB.2
      clear hB
      go_enter Tryd.func7, Tryd.ntmps7
      go_wp2_with fail
      refine (HSan.out _ ht).mono ?_
      rintro e w1 ⟨rfl, hb1⟩
      go_wp2_with fail
      go_ret
      exact ⟨rfl, hb1⟩
    · obtain ⟨X, H1, H2⟩ : ∃ X : ByteArray, (Hid (∀ W, Tab 1 W → Calls Tryd.prog 27 #[.string (bs seed), .int .i64 n] W fun e w' => e = .returned (.string X) ∧ Below W.heap.size W w')) ∧
          (Hid (∀ W, Tab 0 W → Calls Tryd.prog 28 #[.string (bs seed), .int .i64 n] W fun e w' => e = .returned (.string X) ∧ Below W.heap.size W w')) := by
        by_cases h1 : n < 1 ∨ 1048576 < n
        · refine ⟨bs [], fun W _ => (expand_none seed n W h1).mono ?_, fun W _ => (refExpand_none seed n W h1).mono ?_⟩
          · rintro e w' ⟨rfl, rfl⟩; exact ⟨rfl, Below.refl _ _⟩
          · rintro e w' ⟨rfl, rfl⟩; exact ⟨rfl, Below.refl _ _⟩
        · obtain ⟨m, rfl⟩ : ∃ m : Nat, n = m := ⟨n.toNat, by omega⟩
          exact ⟨_, fun W hT => expand_pos seed m W (by omega) (by omega) (by omega) hT, fun W hC => refExpand_of refSum refBlock seed m W (by omega) (by omega) (by omega) hC⟩
      unfold sv
      generalize bs seed = S1 at t1 H1 H2 ⊢
      have hX : (X.toList == X.toList) = true := by simp
      clear hk K1 hA
      rcases Decidable.em ((300 : Int) < n) with t2 | t2
      · have t3 : ¬ n ≤ 1048576 := fun h => hB ⟨t2, h⟩
        clear hB hn
        go_enter Tryd.func7, Tryd.ntmps7
        go_wp2_with fail
        refine (HSan.out _ ht).mono ?_
        rintro e w1 ⟨rfl, hb1⟩
        go_wp2_with fail
        refine (H1.out _ (hT.out.on hb1)).mono ?_
        rintro e w2 ⟨rfl, hb2⟩
        have hB2 : Below w.heap.size w w2 := hb1.trans (hb2.mono hb1.size)
        clear hb1 hb2
        go_wp2_with fail
        refine (H2.out _ (hC.out.on hB2)).mono ?_
        rintro e w3 ⟨rfl, hb3⟩
        have hB3 : Below w.heap.size w w3 := hB2.trans (hb3.mono hB2.size)
        clear hb3 hB2
        go_wp2_with fail
        go_ret
        exact ⟨rfl, hB3⟩
      · clear hB hn
        go_enter Tryd.func7, Tryd.ntmps7
        go_wp2_with fail
        refine (HSan.out _ ht).mono ?_
        rintro e w1 ⟨rfl, hb1⟩
        go_wp2_with fail
        refine (H1.out _ (hT.out.on hb1)).mono ?_
        rintro e w2 ⟨rfl, hb2⟩
        have hB2 : Below w.heap.size w w2 := hb1.trans (hb2.mono hb1.size)
        clear hb1 hb2
        go_wp2_with fail
        refine (H2.out _ (hC.out.on hB2)).mono ?_
        rintro e w3 ⟨rfl, hb3⟩
        have hB3 : Below w.heap.size w w3 := hB2.trans (hb3.mono hB2.size)
        clear hb3 hB2
        go_wp2_with fail
        go_ret
        exact ⟨rfl, hB3⟩
end Go.Proofs.YtedhjjlnionckaaDoor
