/-
  The law on powers: its walk.
-/
import Derived.Test.YtcmoiainikfeeaaDoorGfl
namespace Go.Proofs.YtcmoiainikfeeaaDoor
set_option linter.unusedVariables false
set_option linter.unusedSimpArgs false
open Go.RowKit

theorem exp_to (n : Int) (q : UInt8) (h : Gf.exi n = q) : Hid (∀ W, PTab 0 W → Calls Tryd.prog 14 #[.int .i64 n] W fun e w' => e = .returned (.int .u8 q.toNat) ∧ W = w') := fun W hT => by rw [← h]; exact exp_any n W hT
theorem pow_to (a : UInt8) (n : Int) (p : UInt8) (hn : -9223372036854775808 ≤ n ∧ n ≤ 9223372036854775807) (h : Gf.pw a n = p) : Hid (∀ W, PTab 0 W → Calls Tryd.prog 12 #[.int .u8 a.toNat, .int .i64 n] W fun e w' => e = .returned (.int .u8 p.toNat) ∧ W = w') := fun W hT => by rw [← h]; exact pow_any a n W hn hT

set_option maxRecDepth 100000 in
set_option maxHeartbeats 4000000 in
theorem walk_powers (m n : Int) (a : UInt8) (w : World) (ht : PTab 0 w) : Calls Tryd.prog 5 #[.int .i64 m, .int .i64 n, bv a] w (OkEnd true w) := by
  have HS : Hid (∀ n, Calls Tryd.prog 10 #[] (w.drewN n) fun e w' => e = .returned (.bool true) ∧ Below w.heap.size w w') := fun n => sanity_to w n ht
  have HS0 : Hid (Calls Tryd.prog 10 #[] w fun e w' => e = .returned (.bool true) ∧ Below w.heap.size w w') := sanity_any w ht
  have hT := Lib.hid ht
  by_cases t1 : m < -1152921504606846976
  · unfold bv
    clear ht
    go_enter Tryd.func5, Tryd.ntmps5
    go_wp2_with fail
    refine HS0.out.mono ?_
    rintro e w' ⟨rfl, hb⟩
    go_wp2_with fail
    go_ret
    exact ⟨rfl, hb⟩
  by_cases t2 : 1152921504606846976 < m
  · unfold bv
    clear ht
    go_enter Tryd.func5, Tryd.ntmps5
    go_wp2_with fail
    refine HS0.out.mono ?_
    rintro e w' ⟨rfl, hb⟩
    go_wp2_with fail
    go_ret
    exact ⟨rfl, hb⟩
  by_cases t3 : n < -1152921504606846976
  · unfold bv
    clear ht
    go_enter Tryd.func5, Tryd.ntmps5
    go_wp2_with fail
    refine HS0.out.mono ?_
    rintro e w' ⟨rfl, hb⟩
    go_wp2_with fail
    go_ret
    exact ⟨rfl, hb⟩
  by_cases t4 : 1152921504606846976 < n
  · unfold bv
    clear ht
    go_enter Tryd.func5, Tryd.ntmps5
    go_wp2_with fail
    refine HS0.out.mono ?_
    rintro e w' ⟨rfl, hb⟩
    go_wp2_with fail
    go_ret
    exact ⟨rfl, hb⟩
  have e1 : wrap64 (m + n) = m + n := w64 (by omega)
  have e2 : wrap64 (n + 255) = n + 255 := w64 (by omega)
  obtain ⟨q, hq⟩ : ∃ q, Gf.exi n = q := ⟨_, rfl⟩
  obtain ⟨r, hr⟩ : ∃ r, Gf.exi m = r := ⟨_, rfl⟩
  obtain ⟨s, hs⟩ : ∃ s, Gf.exi (m + n) = s := ⟨_, rfl⟩
  obtain ⟨k, hk⟩ : ∃ k, Gf.lg q = k := ⟨_, rfl⟩
  have En := exp_to n q hq
  have Em := exp_to m r hr
  have Es := exp_to (m + n) s hs
  have E5 := exp_to (n + 255) q (by rw [← hq]; exact Gf.exi_congr (by omega))
  have M1 := mul_to r q s (by rw [← hs, Gf.exi_add, hr, hq])
  have hq0 : q ≠ 0 := by rw [← hq]; exact Gf.exi_ne n
  have L1 : Hid (Calls Tryd.prog 9 #[.int .u8 q.toNat] w fun e w' => e = .returned (.tuple #[.int .i64 k, .int .i64 0]) ∧ w = w') := by rw [← hk]; exact log_any q w hq0
  have hkn : (k : Int) = n % 255 := by rw [← hk, ← hq]; exact Gf.lg_exi n
  have e3 : wrap64 (n - (k : Int)) = n - (k : Int) := w64 (by omega)
  have e4 : Int.tmod (n - (k : Int)) 255 = 0 := Int.tmod_eq_zero_of_dvd (by omega)
  have k1 : 0 ≤ (k : Int) := by omega
  have k2 : (k : Int) < 255 := by omega
  have u1 : ¬ m < -1152921504606846976 := t1
  have u2 : ¬ 1152921504606846976 < m := t2
  have u3 : ¬ n < -1152921504606846976 := t3
  have u4 : ¬ 1152921504606846976 < n := t4
  have fin : ∀ W, Below w.heap.size w W → ∀ n, Below w.heap.size w (W.drewN n) := fun W h n => below_drewN h n
  clear hr hs hk hkn hq0
  by_cases ha : a = 0
  · subst ha
    clear ht hq
    change Calls _ _ #[.int .i64 m, .int .i64 n, .int .u8 0] _ _
    go_enter Tryd.func5, Tryd.ntmps5
    go_wp2_with fail
    refine (En.out _ ?_).mono ?_
    · exact hT.out
    rintro e w' ⟨rfl, rfl⟩
    go_wp2_with fail
    refine L1.out.mono ?_
    rintro e w' ⟨rfl, rfl⟩
    go_wp2_with fail
    refine (Es.out _ ?_).mono ?_
    · exact hT.out
    rintro e w' ⟨rfl, rfl⟩
    go_wp2_with fail
    refine (Em.out _ ?_).mono ?_
    · exact hT.out
    rintro e w' ⟨rfl, rfl⟩
    go_wp2_with fail
    refine (En.out _ ?_).mono ?_
    · exact hT.out
    rintro e w' ⟨rfl, rfl⟩
    go_wp2_with fail
    refine (M1.out _ ?_).mono ?_
    · exact hT.out
    rintro e w' ⟨rfl, n1, rfl⟩
    go_wp2_with fail
    refine (E5.out _ ?_).mono ?_
    · exact hT.out
    rintro e w' ⟨rfl, rfl⟩
    go_wp2_with fail
    refine (En.out _ ?_).mono ?_
    · exact hT.out
    rintro e w' ⟨rfl, rfl⟩
    go_wp2_with fail
    refine (HS.out _).mono ?_
    rintro e w' ⟨rfl, hb⟩
    go_wp2_with fail
    go_ret
    exact ⟨rfl, hb⟩
  · obtain ⟨x, hx⟩ : ∃ x, Gf.inv a = x := ⟨_, rfl⟩
    obtain ⟨l, hl⟩ : ∃ l, Gf.lg a = l := ⟨_, rfl⟩
    obtain ⟨pm, hpm⟩ : ∃ p, Gf.pw a m = p := ⟨_, rfl⟩
    obtain ⟨pn, hpn⟩ : ∃ p, Gf.pw a n = p := ⟨_, rfl⟩
    obtain ⟨ps, hps⟩ : ∃ p, Gf.pw a (m + n) = p := ⟨_, rfl⟩
    have I : Hid (∀ W, PTab 0 W → Calls Tryd.prog 8 #[.int .u8 a.toNat] W fun e w' => e = .returned (.tuple #[.int .u8 x.toNat, .int .i64 0]) ∧ W = w') := fun W h => by rw [← hx]; exact inv_any a W ha h
    have L : Hid (∀ W, PTab 0 W → Calls Tryd.prog 9 #[.int .u8 a.toNat] W fun e w' => e = .returned (.tuple #[.int .i64 l, .int .i64 0]) ∧ W = w') := fun W h => by rw [← hl]; exact log_any a W ha
    have Pm := pow_to a m pm (by omega) hpm
    have Pn := pow_to a n pn (by omega) hpn
    have Ps := pow_to a (m + n) ps (by omega) hps
    have P5 : Hid (∀ W, PTab 0 W → Calls Tryd.prog 12 #[.int .u8 a.toNat, .int .i64 255] W fun e w' => e = .returned (.int .u8 1) ∧ W = w') := (pow_to a 255 1 (by omega) (Gf.pw_255 ha)).out
    have P1 := pow_to a (-1) x (by omega) (by rw [Gf.pw_neg ha, hx])
    have P2 : Hid (∀ W, PTab 0 W → Calls Tryd.prog 12 #[.int .u8 2, .int .i64 n] W fun e w' => e = .returned (.int .u8 q.toNat) ∧ W = w') := (pow_to 2 n q (by omega) (by rw [Gf.pw_two, hq])).out
    have M2 := mul_to pm pn ps (by rw [← hps, ← hpm, ← hpn, Gf.pw_add ha])
    have El := exp_to (l : Int) a (by rw [← hl, Gf.exi_lg ha])
    have ta := ne_zero_int ha
    clear hx hl hpm hpn hps ha ht hq
    unfold bv
    go_enter Tryd.func5, Tryd.ntmps5
    go_wp2_with fail
    refine (En.out _ ?_).mono ?_
    · exact hT.out
    rintro e w' ⟨rfl, rfl⟩
    go_wp2_with fail
    refine L1.out.mono ?_
    rintro e w' ⟨rfl, rfl⟩
    go_wp2_with fail
    refine (Es.out _ ?_).mono ?_
    · exact hT.out
    rintro e w' ⟨rfl, rfl⟩
    go_wp2_with fail
    refine (Em.out _ ?_).mono ?_
    · exact hT.out
    rintro e w' ⟨rfl, rfl⟩
    go_wp2_with fail
    refine (En.out _ ?_).mono ?_
    · exact hT.out
    rintro e w' ⟨rfl, rfl⟩
    go_wp2_with fail
    refine (M1.out _ ?_).mono ?_
    · exact hT.out
    rintro e w' ⟨rfl, n1, rfl⟩
    go_wp2_with fail
    refine (E5.out _ ?_).mono ?_
    · exact hT.out
    rintro e w' ⟨rfl, rfl⟩
    go_wp2_with fail
    refine (En.out _ ?_).mono ?_
    · exact hT.out
    rintro e w' ⟨rfl, rfl⟩
    go_wp2_with fail
    refine (I.out _ ?_).mono ?_
    · exact hT.out
    rintro e w' ⟨rfl, rfl⟩
    go_wp2_with fail
    refine (L.out _ ?_).mono ?_
    · exact hT.out
    rintro e w' ⟨rfl, rfl⟩
    go_wp2_with fail
    refine (Ps.out _ ?_).mono ?_
    · exact hT.out
    rintro e w' ⟨rfl, rfl⟩
    go_wp2_with fail
    refine (Pm.out _ ?_).mono ?_
    · exact hT.out
    rintro e w' ⟨rfl, rfl⟩
    go_wp2_with fail
    refine (Pn.out _ ?_).mono ?_
    · exact hT.out
    rintro e w' ⟨rfl, rfl⟩
    go_wp2_with fail
    refine (M2.out _ ?_).mono ?_
    · exact hT.out
    rintro e w' ⟨rfl, n2, rfl⟩
    go_wp2_with fail
    refine (P5.out _ ?_).mono ?_
    · exact hT.out
    rintro e w' ⟨rfl, rfl⟩
    go_wp2_with fail
    refine (P1.out _ ?_).mono ?_
    · exact hT.out
    rintro e w' ⟨rfl, rfl⟩
    go_wp2_with fail
    refine (P2.out _ ?_).mono ?_
    · exact hT.out
    rintro e w' ⟨rfl, rfl⟩
    go_wp2_with fail
    refine (En.out _ ?_).mono ?_
    · exact hT.out
    rintro e w' ⟨rfl, rfl⟩
    go_wp2_with fail
    refine (El.out _ ?_).mono ?_
    · exact hT.out
    rintro e w' ⟨rfl, rfl⟩
    go_wp2_with fail
    refine (HS.out _).mono ?_
    rintro e w' ⟨rfl, hb⟩
    go_wp2_with fail
    go_ret
    exact ⟨rfl, hb⟩

theorem walk_powers_n (m n : Int) (a : Nat) (w : World) (hm : -9223372036854775808 ≤ m ∧ m ≤ 9223372036854775807) (hn : -9223372036854775808 ≤ n ∧ n ≤ 9223372036854775807) (ha : a < 256) (ht : PTab 0 w) : Calls Tryd.prog 5 #[.int .i64 m, .int .i64 n, .int .u8 a] w (OkEnd true w) := by
  have h := walk_powers m n (UInt8.ofNat a) w ht
  rw [bv_ofNat ha] at h
  exact h
end Go.Proofs.YtcmoiainikfeeaaDoor
