/-
  Contract: the reference's GetInt.
-/
import Derived.Test.YthnbiegpfjnadaaStr
import Derived.Deep.LoopGhost
namespace Go.Proofs.Ythnbiegpfjnadaa
open Go.RowKit

theorem getInt_of_ok {l : List UInt8} {z u : Nat} (h : Wm.dig l = (z, u, 0)) : Wm.getInt l = (Wm.zag z, u, 0) := by rw [Wm.getInt_dig, h]; rfl
theorem getInt_of_err {l : List UInt8} {z u : Nat} {e : Int} (h : Wm.dig l = (z, u, e)) (he : e ≠ 0) : Wm.getInt l = (0, 0, e) := by rw [Wm.getInt_dig, h]; exact if_neg he
/-- the value of the last digits of the first k + 1 -/
def tl (l : List UInt8) (k j : Nat) : Nat := Wm.val ((l.take (k + 1)).drop j)
theorem tl_end (l : List UInt8) (k : Nat) : tl l k (k + 1) = 0 := by
  unfold tl
  rw [List.drop_eq_nil_of_le (by rw [List.length_take]; omega)]
  rfl
theorem tl_step {l : List UInt8} {k j : Nat} (hk : k < l.length) (hj : j ≤ k) : tl l k j = (l.getD j 0).toNat % 128 + 128 * tl l k (j + 1) := by
  unfold tl
  have hl : j < (l.take (k + 1)).length := by rw [List.length_take]; omega
  rw [List.drop_eq_getElem_cons hl, Wm.val]
  congr 2
  simp [List.getD_eq_getElem?_getD, show j < l.length from by omega]
theorem tl_le {l : List UInt8} {k : Nat} (hk : k < l.length) : ∀ j, j ≤ k + 1 → tl l k j ≤ tl l k 0
  | 0, _ => Nat.le_refl _
  | j + 1, h => by
    have h1 := tl_le hk j (by omega)
    have h2 := tl_step hk (j := j) (by omega)
    omega

set_option maxRecDepth 100000 in
set_option maxHeartbeats 2000000 in
theorem refGetInt_any (l : List UInt8) (A : Option Addr) (c : Nat) (w : World) (hr : Rds w w.heap.size A (l.map bv)) (hl : l.length ≤ maxLen) :
    Calls Try.prog 25 #[.slice A l.length c] w (GetEnd l w) := by
  unfold maxLen at hl
  go_enter Try.func25, Try.ntmps25
  go_wp2
  go_loop [5] (fun i => ∃ k : Nat, k ≤ l.length ∧ k ≤ 10 ∧ i = .int .i64 k ∧ ∀ j, j < k → 128 ≤ (l.getD j 0).toNat) (fun i => (20 - intOf i).toNat)
  case atStart => exact ⟨0, by omega, by omega, rfl, by omega⟩
  case round =>
    obtain ⟨k, hk, hk10, rfl, hh0⟩ := hrel
    have hh := Lib.hid hh0
    clear hh0
    by_cases h10 : k = 10
    · have R := Lib.hid (getInt_of_err (Wm.dig_ten (l := l) (by omega) (by rw [← h10]; exact hh.out)) (by decide))
      have t : ((k : Int) == 10) = true := by simp; omega
      have t1 : ¬ k < 10 := by omega
      clear h10 hk10
      by_cases hkl : k < l.length
      · go_wp2
        go_ret3
        exact getEnd R.out rfl rfl rfl
      · go_wp2
        go_ret3
        exact getEnd R.out rfl rfl rfl
    have t10 : ((k : Int) == 10) = false := by simp; omega
    have tk10 : k < 10 := by omega
    by_cases hkl : k = l.length
    · have R := Lib.hid (getInt_of_err (Wm.dig_short (l := l) (by omega) (by omega) (by rw [← hkl]; exact hh.out)) (by decide))
      have t : ((k : Int) == (l.length : Int)) = true := by simp; omega
      have t1 : ¬ k < l.length := by omega
      clear hkl h10 hk
      go_wp2
      go_ret3
      exact getEnd R.out rfl rfl rfl
    have t2 : ((k : Int) == (l.length : Int)) = false := by simp; omega
    have hlt : k < l.length := by omega
    obtain ⟨ad, rfl, hab, hcell⟩ := hr.look (k := k) (u := bv (l.getD k 0)) (by simp [List.getD_eq_getElem?_getD, hlt])
    unfold bv at hcell
    have hb := UInt8.toNat_lt (l.getD k 0)
    have hbad := Lib.hid (Wm.dig_bad (l := l) hlt (by omega) hh.out)
    have hgood := Lib.hid (Wm.dig_good (l := l) hlt (by omega) hh.out)
    generalize hB : (l.getD k 0).toNat = b at hcell hb hbad hgood
    have HB := Lib.hid hB
    clear hB h10 hkl
    by_cases hhi : 128 ≤ b
    · go_wp2
      go_round
      case rel =>
        refine ⟨k + 1, by omega, by omega, by go_num, fun j hj => ?_⟩
        by_cases hjk : j < k
        · exact hh.out j hjk
        · obtain rfl : j = k := by omega
          rw [HB.out]; exact hhi
      case measure => simp [intOf]; omega
    · have low : b < 128 := by omega
      by_cases hbd : (k = 9 ∧ 1 < b) ∨ (0 < k ∧ b = 0)
      · have R := Lib.hid (getInt_of_err (hbad.out low hbd) (by decide))
        clear hbad hgood
        by_cases h9 : k = 9 ∧ 1 < b
        · have t9 : ((k : Int) == 9) = true := by simp; omega
          have t1 : 1 < b := h9.2
          clear hbd h9
          go_wp2
          go_ret3
          exact getEnd R.out rfl rfl rfl
        · have h0k : 0 < k := by omega
          have t0 : ((b : Int) == 0) = true := by simp; omega
          by_cases hk9 : k = 9
          · have t9 : ((k : Int) == 9) = true := by simp; omega
            have t1 : ¬ 1 < b := by omega
            clear hbd h9 hk9
            go_wp2
            go_ret3
            exact getEnd R.out rfl rfl rfl
          · have t9 : ((k : Int) == 9) = false := by simp; omega
            clear hbd h9 hk9
            go_wp2
            go_ret3
            exact getEnd R.out rfl rfl rfl
      · have D := hgood.out low (fun _ => by omega) (fun _ => by omega)
        have hz := (Wm.dig_lt l).1
        have hv : Wm.val (l.take k) + b * 128 ^ k = tl l k 0 := by
          unfold tl
          rw [List.drop_zero]
          have e2 : l.take (k + 1) = l.take k ++ [l.getD k 0] := by
            rw [List.take_succ_eq_append_getElem hlt]
            simp [List.getD_eq_getElem?_getD, hlt]
          rw [e2, Wm.val_snoc, HB.out, Nat.mod_eq_of_lt low, show (l.take k).length = k from by simp; omega, Nat.mul_comm]
        rw [hv] at D
        rw [D] at hz
        have R := Lib.hid (getInt_of_ok D)
        have hz := Lib.hid hz
        clear hbad hgood D hv
        by_cases hk9 : k = 9
        · have t9 : ((k : Int) == 9) = true := by simp; omega
          have t1 : ¬ 1 < b := by omega
          have t0 : ((b : Int) == 0) = false := by simp; omega
          have h0k : 0 < k := by omega
          clear hbd hk9
          go_wp2
          go_loop [6, 7] (fun z i => ∃ j : Nat, j ≤ k + 1 ∧ i = .int .i64 ((j : Int) - 1) ∧ z = .int .u64 (tl l k j : Int)) (fun _ i => (intOf i + 1).toNat)
          case atStart => exact ⟨k + 1, by omega, by go_num, by rw [tl_end]; rfl⟩
          case round =>
            obtain ⟨j, hj, rfl, rfl⟩ := hrel
            rcases j with _ | j
            · have hz0 := hz.out
              have R0 := R.out
              generalize tl l k 0 = T at hz0 R0 ⊢
              have R1 := Lib.hid R0
              clear R0
              by_cases hodd : T % 2 = 1
              · have t : ((T : Int) % 2 == 1) = true := by simp; omega
                go_wp2
                go_ret3
                exact getEnd R1.out (by unfold Wm.zag; rw [if_pos hodd]; go_num) (by go_num) rfl
              · have t : ((T : Int) % 2 == 1) = false := by simp; omega
                go_wp2
                go_ret3
                exact getEnd R1.out (by unfold Wm.zag; rw [if_neg hodd]; go_num) (by go_num) rfl
            · rw [show (((j + 1 : Nat) : Int) - 1) = (j : Int) from by omega]
              have hjl : j < l.length := by omega
              have hst := tl_step hlt (j := j) (by omega)
              have hle := tl_le hlt j (by omega)
              have hz0 := hz.out
              obtain ⟨ad', he', _, hcell'⟩ := hr.look (k := j) (u := bv (l.getD j 0)) (by simp [List.getD_eq_getElem?_getD, hjl])
              injection he' with he'
              subst he'
              unfold bv at hcell'
              have hb' := UInt8.toNat_lt (l.getD j 0)
              generalize (l.getD j 0).toNat = bj at hst hcell' hb'
              have hbd : tl l k (j + 1) * 128 + bj % 128 < 18446744073709551616 := by omega
              have E : Hid (((tl l k (j + 1) : Nat) : Int) * 128 + (bj : Int) % 128 = ((tl l k j : Nat) : Int)) := by show _ = _; omega
              clear hst hle hz0
              generalize tl l k (j + 1) = T at hbd E ⊢
              go_wp2
              go_round
              case rel => exact ⟨j, by omega, by go_num, by rw [E.out]⟩
              case measure => simp [intOf]
        · have t9 : ((k : Int) == 9) = false := by simp; omega
          by_cases h0k : 0 < k
          · have t0 : ((b : Int) == 0) = false := by simp; omega
            clear hbd hk9
            go_wp2
            go_loop [6, 7] (fun z i => ∃ j : Nat, j ≤ k + 1 ∧ i = .int .i64 ((j : Int) - 1) ∧ z = .int .u64 (tl l k j : Int)) (fun _ i => (intOf i + 1).toNat)
            case atStart => exact ⟨k + 1, by omega, by go_num, by rw [tl_end]; rfl⟩
            case round =>
              obtain ⟨j, hj, rfl, rfl⟩ := hrel
              rcases j with _ | j
              · have hz0 := hz.out
                have R0 := R.out
                generalize tl l k 0 = T at hz0 R0 ⊢
                have R1 := Lib.hid R0
                clear R0
                by_cases hodd : T % 2 = 1
                · have t : ((T : Int) % 2 == 1) = true := by simp; omega
                  go_wp2
                  go_ret3
                  exact getEnd R1.out (by unfold Wm.zag; rw [if_pos hodd]; go_num) (by go_num) rfl
                · have t : ((T : Int) % 2 == 1) = false := by simp; omega
                  go_wp2
                  go_ret3
                  exact getEnd R1.out (by unfold Wm.zag; rw [if_neg hodd]; go_num) (by go_num) rfl
              · rw [show (((j + 1 : Nat) : Int) - 1) = (j : Int) from by omega]
                have hjl : j < l.length := by omega
                have hst := tl_step hlt (j := j) (by omega)
                have hle := tl_le hlt j (by omega)
                have hz0 := hz.out
                obtain ⟨ad', he', _, hcell'⟩ := hr.look (k := j) (u := bv (l.getD j 0)) (by simp [List.getD_eq_getElem?_getD, hjl])
                injection he' with he'
                subst he'
                unfold bv at hcell'
                have hb' := UInt8.toNat_lt (l.getD j 0)
                generalize (l.getD j 0).toNat = bj at hst hcell' hb'
                have hbd : tl l k (j + 1) * 128 + bj % 128 < 18446744073709551616 := by omega
                have E : Hid (((tl l k (j + 1) : Nat) : Int) * 128 + (bj : Int) % 128 = ((tl l k j : Nat) : Int)) := by show _ = _; omega
                clear hst hle hz0
                generalize tl l k (j + 1) = T at hbd E ⊢
                go_wp2
                go_round
                case rel => exact ⟨j, by omega, by go_num, by rw [E.out]⟩
                case measure => simp [intOf]
          · clear hbd hk9
            go_wp2
            go_loop [6, 7] (fun z i => ∃ j : Nat, j ≤ k + 1 ∧ i = .int .i64 ((j : Int) - 1) ∧ z = .int .u64 (tl l k j : Int)) (fun _ i => (intOf i + 1).toNat)
            case atStart => exact ⟨k + 1, by omega, by go_num, by rw [tl_end]; rfl⟩
            case round =>
              obtain ⟨j, hj, rfl, rfl⟩ := hrel
              rcases j with _ | j
              · have hz0 := hz.out
                have R0 := R.out
                generalize tl l k 0 = T at hz0 R0 ⊢
                have R1 := Lib.hid R0
                clear R0
                by_cases hodd : T % 2 = 1
                · have t : ((T : Int) % 2 == 1) = true := by simp; omega
                  go_wp2
                  go_ret3
                  exact getEnd R1.out (by unfold Wm.zag; rw [if_pos hodd]; go_num) (by go_num) rfl
                · have t : ((T : Int) % 2 == 1) = false := by simp; omega
                  go_wp2
                  go_ret3
                  exact getEnd R1.out (by unfold Wm.zag; rw [if_neg hodd]; go_num) (by go_num) rfl
              · rw [show (((j + 1 : Nat) : Int) - 1) = (j : Int) from by omega]
                have hjl : j < l.length := by omega
                have hst := tl_step hlt (j := j) (by omega)
                have hle := tl_le hlt j (by omega)
                have hz0 := hz.out
                obtain ⟨ad', he', _, hcell'⟩ := hr.look (k := j) (u := bv (l.getD j 0)) (by simp [List.getD_eq_getElem?_getD, hjl])
                injection he' with he'
                subst he'
                unfold bv at hcell'
                have hb' := UInt8.toNat_lt (l.getD j 0)
                generalize (l.getD j 0).toNat = bj at hst hcell' hb'
                have hbd : tl l k (j + 1) * 128 + bj % 128 < 18446744073709551616 := by omega
                have E : Hid (((tl l k (j + 1) : Nat) : Int) * 128 + (bj : Int) % 128 = ((tl l k j : Nat) : Int)) := by show _ = _; omega
                clear hst hle hz0
                generalize tl l k (j + 1) = T at hbd E ⊢
                go_wp2
                go_round
                case rel => exact ⟨j, by omega, by go_num, by rw [E.out]⟩
                case measure => simp [intOf]
end Go.Proofs.Ythnbiegpfjnadaa
