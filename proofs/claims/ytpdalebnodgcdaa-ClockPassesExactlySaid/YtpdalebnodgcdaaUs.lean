/-
  Stage 14 (clock): the walk of ClockPassesExactly.
-/
import Derived.Test.YtpdalebnodgcdaaUr
namespace Go.Proofs.Ytpdalebnodgcdaa
set_option linter.unusedVariables false
set_option linter.unusedSimpArgs false
open Go.RowKit

theorem mul_rng {n x : Int} (n0 : 0 ≤ n) (n1 : n ≤ 400) (x0 : 0 ≤ x) (x1 : x ≤ 1100000) : 0 ≤ n * x ∧ n * x ≤ 440000000 :=
  ⟨Int.mul_nonneg n0 x0, Int.mul_le_mul n1 x1 x0 (by omega)⟩
/-- P14.8, as the statement asks it. -/
theorem passes_iff {p d n : Int} (p0 : 0 ≤ p) (p1 : p ≤ 100000) (d0 : 0 ≤ d) (n0 : 0 ≤ n) :
    (max (n * (1000000 - p)) ((d - 1) * 1000000 + 1) ≤ min (n * (1000000 + p)) ((d + 1) * 1000000 - 1)) ↔ (pLo p d ≤ n ∧ n ≤ pHi p d) := by
  rw [pLo_le p0 n0 d0, le_pHi p1]
  have h : n * (1000000 - p) ≤ n * (1000000 + p) := Int.mul_le_mul_of_nonneg_left (by omega) n0
  generalize n * (1000000 - p) = X at *
  generalize n * (1000000 + p) = Y at *
  omega

set_option maxRecDepth 100000 in
set_option maxHeartbeats 4000000 in
theorem passes_walk (a b c : Int) (w : World) (a0 : 0 ≤ a) (a1 : a ≤ 4294967295) (b0 : 0 ≤ b) (b1 : b ≤ 65535) (c0 : 0 ≤ c) (c1 : c ≤ 65535) :
    Calls Try.prog 6 #[.int .u32 a, .int .u16 b, .int .u16 c] w fun e w' => e = .returned (.bool true) ∧ Below w.heap.size w w' := by
  obtain ⟨p, hp⟩ : ∃ p, p = a % 100001 := ⟨_, rfl⟩
  obtain ⟨d, hd⟩ : ∃ d, d = b % 301 := ⟨_, rfl⟩
  obtain ⟨n, hn⟩ : ∃ n, n = c % 401 := ⟨_, rfl⟩
  have p0 : 0 ≤ p ∧ p ≤ 100000 := by omega
  have d0 : 0 ≤ d ∧ d ≤ 300 := by omega
  have n0 : 0 ≤ n ∧ n ≤ 400 := by omega
  have ep := hp.symm
  have ed := hd.symm
  have en := hn.symm
  have ep2 : a.tmod 100001 = p := by rw [Int.tmod_eq_emod_of_nonneg a0]; exact ep
  have ed2 : b.tmod 301 = d := by rw [Int.tmod_eq_emod_of_nonneg b0]; exact ed
  have en2 : c.tmod 401 = n := by rw [Int.tmod_eq_emod_of_nonneg c0]; exact en
  have wa : IntKind.i64.wrap a = a := by rw [IntKind.wrap_i64]; omega
  have wb : IntKind.i64.wrap b = b := by rw [IntKind.wrap_i64]; omega
  have wc : IntKind.i64.wrap c = c := by rw [IntKind.wrap_i64]; omega
  clear hp hd hn
  have C := Lib.hid (Passed_any p d w)
  obtain ⟨e1, e2, e3⟩ := pa_ok (rate := p) (s := d) (paOk_iff.2 ⟨p0, by omega, by omega⟩)
  rw [e1, e2, e3] at C
  have hiff := Lib.hid (passes_iff p0.1 p0.2 d0.1 n0.1)
  clear e1 e2 e3
  have m1 := mul_rng n0.1 n0.2 (x := 1000000 - p) (by omega) (by omega)
  have m2 := mul_rng n0.1 n0.2 (x := 1000000 + p) (by omega) (by omega)
  generalize pLo p d = U at *
  generalize pHi p d = V at *
  have w1 : IntKind.i64.wrap (1000000 - p) = 1000000 - p := by rw [IntKind.wrap_i64]; omega
  have w2 : IntKind.i64.wrap (1000000 + p) = 1000000 + p := by rw [IntKind.wrap_i64]; omega
  have w3 : IntKind.i64.wrap (n * (1000000 - p)) = n * (1000000 - p) := by rw [IntKind.wrap_i64]; omega
  have w4 : IntKind.i64.wrap (n * (1000000 + p)) = n * (1000000 + p) := by rw [IntKind.wrap_i64]; omega
  have w5 : IntKind.i64.wrap (d - 1) = d - 1 := by rw [IntKind.wrap_i64]; omega
  have w6 : IntKind.i64.wrap ((d - 1) * 1000000) = (d - 1) * 1000000 := by rw [IntKind.wrap_i64]; omega
  have w7 : IntKind.i64.wrap ((d - 1) * 1000000 + 1) = (d - 1) * 1000000 + 1 := by rw [IntKind.wrap_i64]; omega
  have w8 : IntKind.i64.wrap (d + 1) = d + 1 := by rw [IntKind.wrap_i64]; omega
  have w9 : IntKind.i64.wrap ((d + 1) * 1000000) = (d + 1) * 1000000 := by rw [IntKind.wrap_i64]; omega
  have wx : IntKind.i64.wrap ((d + 1) * 1000000 - 1) = (d + 1) * 1000000 - 1 := by rw [IntKind.wrap_i64]; omega
  obtain ⟨X, hX⟩ : ∃ X, max (n * (1000000 - p)) ((d - 1) * 1000000 + 1) = X := ⟨_, rfl⟩
  obtain ⟨Y, hY⟩ : ∃ Y, min (n * (1000000 + p)) ((d + 1) * 1000000 - 1) = Y := ⟨_, rfl⟩
  rw [hX, hY] at hiff
  clear m1 m2
  have front : ∀ r : Bool, decide (X ≤ Y) = r → (U ≤ n ∧ n ≤ V ↔ r = true) → Calls Try.prog 6 #[.int .u32 a, .int .u16 b, .int .u16 c] w fun e w' => e = .returned (.bool true) ∧ Below w.heap.size w w' := by
    intro r hr hr2
    have hr2' := Lib.hid hr2
    clear hr2 hiff
    by_cases h1 : U ≤ n
    · by_cases h2 : n ≤ V
      · obtain rfl : r = true := hr2'.out.1 ⟨h1, h2⟩
        have t : X ≤ Y := of_decide_eq_true hr
        clear hr2'
        go_enter Try.func6, Try.ntmps6
        go_wp2_with fail
        refine C.out.mono ?_
        rintro e v1 ⟨rfl, rfl⟩
        go_wp2_with fail
        refine (sanity_any14 _).mono ?_
        rintro e v2 ⟨rfl, hb⟩
        have hb' := Lib.hid hb
        clear hb
        go_wp2_with fail
        go_ret
        exact ⟨rfl, hb'.out⟩
      · obtain rfl : r = false := by cases r with | false => rfl | true => exact absurd (hr2'.out.2 rfl).2 h2
        have t : ¬ X ≤ Y := of_decide_eq_false hr
        have t2 : decide (n ≤ V) = false := decide_eq_false h2
        clear hr2'
        go_enter Try.func6, Try.ntmps6
        go_wp2_with fail
        refine C.out.mono ?_
        rintro e v1 ⟨rfl, rfl⟩
        go_wp2_with fail
        refine (sanity_any14 _).mono ?_
        rintro e v2 ⟨rfl, hb⟩
        have hb' := Lib.hid hb
        clear hb
        go_wp2_with fail
        go_ret
        exact ⟨rfl, hb'.out⟩
    · obtain rfl : r = false := by cases r with | false => rfl | true => exact absurd (hr2'.out.2 rfl).1 h1
      have t : ¬ X ≤ Y := of_decide_eq_false hr
      clear hr2'
      go_enter Try.func6, Try.ntmps6
      go_wp2_with fail
      refine C.out.mono ?_
      rintro e v1 ⟨rfl, rfl⟩
      go_wp2_with fail
      refine (sanity_any14 _).mono ?_
      rintro e v2 ⟨rfl, hb⟩
      have hb' := Lib.hid hb
      clear hb
      go_wp2_with fail
      go_ret
      exact ⟨rfl, hb'.out⟩
  exact front (decide (X ≤ Y)) rfl (by rw [← hiff.out]; exact decide_eq_true_iff.symm)
end Go.Proofs.Ytpdalebnodgcdaa
