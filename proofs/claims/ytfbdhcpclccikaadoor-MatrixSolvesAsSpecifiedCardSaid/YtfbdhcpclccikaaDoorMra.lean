/-
  Contracts of stage 5: the reference's Columns, Check, has, lead.
-/
import Derived.Test.YtfbdhcpclccikaaDoorMq
namespace Go.Proofs.YtfbdhcpclccikaaDoor
set_option linter.unusedVariables false
set_option linter.unusedSimpArgs false
open Go.RowKit

set_option maxRecDepth 100000 in
theorem refColumns_any {B : Nat} (M : List (List UInt8)) (A : Option Addr) (c : Nat) (w : World) (h : Mat w B A M) :
    Calls Tryd.prog 37 #[.slice A M.length c] w fun e w' => e = .returned (.int .i64 (cols M)) ∧ w' = w := by
  cases M with
  | nil =>
    go_enter Tryd.func37, Tryd.ntmps37
    go_wp2_with fail
    go_ret
    exact ⟨rfl, rfl⟩
  | cons m M =>
    obtain ⟨ad, v, rfl, hab, hc, a, c', rfl, _, _, _, _⟩ := h.at (i := 0) (m := m) rfl
    have hc0 : w.cell? ad = some (.slice a m.length c') := by
      have : ad.add 0 = ad := by unfold Addr.add; simp
      rw [this] at hc
      exact hc
    obtain ⟨n, hn⟩ : ∃ n, n = (m :: M).length := ⟨_, rfl⟩
    have h0 : (0 : Int) < (n : Int) := by rw [hn, List.length_cons]; omega
    have h1 : ((n : Int) == 0) = false := by rw [beq_eq_false_iff_ne]; omega
    rw [← hn]
    clear hn h hc
    go_enter Tryd.func37, Tryd.ntmps37
    go_wp2_with fail
    go_ret
    exact ⟨rfl, rfl⟩

theorem any_no_next {α : Type} {l : List α} {k : Nat} {x : α} {P : α → Bool} (h : (l.take k).any P = false) (hx : l[k]? = some x) (hp : P x = false) : (l.take (k + 1)).any P = false := by
  rw [List.take_add_one, hx, List.any_append, h]
  simp [hp]

set_option maxRecDepth 100000 in
set_option maxHeartbeats 2000000 in
theorem refCheck_any (M : List (List UInt8)) (A : Option Addr) (c : Nat) (w : World) {B : Nat} (h : Mat w B A M) (hl : M.length ≤ 140737488355328) :
    Calls Tryd.prog 19 #[.slice A M.length c] w fun e w' => e = .returned (.int .i64 (chk M)) ∧ ∃ n, w' = w.drewN n := by
  have h' := Lib.hid h
  obtain ⟨r, hr0⟩ : ∃ r, r = chk M := ⟨_, rfl⟩
  have hr := Lib.hid hr0
  rw [← hr0]
  clear h hr0
  obtain ⟨N, hN0⟩ : ∃ N, N = M.length := ⟨_, rfl⟩
  have hN := Lib.hid hN0
  rw [← hN0] at hl ⊢
  clear hN0
  by_cases h48 : 48 < N
  · have t : (48 : Int) < (N : Int) := by omega
    have e : Hid (r = 2) := by
      show _ = _
      rw [hr.out]; unfold chk
      rw [if_pos (Or.inl (by rw [← hN.out]; exact h48))]
    go_enter Tryd.func19, Tryd.ntmps19
    go_wp2_with fail
    go_ret
    exact ⟨by rw [e.out]; first | done | rfl, 0, rfl⟩
  have t48 : ¬ (48 : Int) < (N : Int) := by omega
  go_enter Tryd.func19, Tryd.ntmps19
  go_wp2_with fail
  go_loopw [3] (fun i wr => ∃ k : Nat, k ≤ N ∧ i = .int .i64 k ∧ Hid ((M.take k).any (fun m => decide (48 < m.length)) = false) ∧ w = wr) (fun i _ => N - (intOf i).toNat)
  case atStart => exact ⟨0, by omega, rfl, rfl, rfl⟩
  case round =>
    obtain ⟨k, hk, rfl, hno, rfl⟩ := hrel
    by_cases hlt : k < N
    · have t : (k : Int) < (N : Int) := by omega
      have t0 : 0 ≤ (k : Int) := by omega
      obtain ⟨m, hm⟩ : ∃ x, M[k]? = some x := ⟨_, List.getElem?_eq_getElem (by have := hN.out; omega)⟩
      obtain ⟨ad, v, rfl, hab, hca, a, c', rfl, _, _, _, _⟩ := h'.out.at hm
      have hm' := Lib.hid hm
      clear hm
      by_cases hbig : 48 < m.length
      · have tb : (48 : Int) < (m.length : Int) := by omega
        have e : Hid (r = 2) := by
          show _ = _
          rw [hr.out]; unfold chk
          rw [if_pos (Or.inr (List.any_eq_true.2 ⟨m, List.mem_of_getElem? hm'.out, decide_eq_true hbig⟩))]
        go_wp2_with fail
        go_ret
        exact ⟨by rw [e.out]; first | done | rfl, 0, rfl⟩
      · have tb : ¬ (48 : Int) < (m.length : Int) := by omega
        have hnx := Lib.hid (any_no_next hno.out hm'.out (decide_eq_false hbig))
        go_wp2_with fail
        go_roundw
        case rel => exact ⟨k + 1, by omega, by go_num, hnx, by trivial⟩
        case measure => simp [intOf]; omega
    · have t : ¬ (k : Int) < (N : Int) := by omega
      have hfin : Hid ((M.any fun m => decide (48 < m.length)) = false) := by
        have := hno.out
        rw [List.take_of_length_le (by have := hN.out; omega)] at this
        exact this
      have hch : Hid (r = if (M.any fun m => decide (m.length ≠ cols M)) = true then 1 else 0) := by
        show _ = _
        rw [hr.out]; unfold chk
        rw [if_neg (by rw [hfin.out, ← hN.out]; simp; omega)]
      clear hlt hno hk
      go_wp2_with fail
      go_loopw [4] (fun i wr => ∃ j n : Nat, j ≤ N ∧ i = .int .i64 j ∧ Hid ((M.take j).any (fun m => decide (m.length ≠ cols M)) = false) ∧ wr = w.drewN n) (fun i _ => N - (intOf i).toNat)
      case atStart => exact ⟨0, 0, by omega, rfl, rfl, rfl⟩
      case round =>
        obtain ⟨j, n, hj, rfl, hno, rfl⟩ := hrel
        by_cases hlt : j < N
        · have t : (j : Int) < (N : Int) := by omega
          have t0 : 0 ≤ (j : Int) := by omega
          have t1 : (0 : Int) < (N : Int) := by omega
          obtain ⟨m, hm⟩ : ∃ x, M[j]? = some x := ⟨_, List.getElem?_eq_getElem (by have := hN.out; omega)⟩
          obtain ⟨m0, hm0⟩ : ∃ x, M[0]? = some x := ⟨_, List.getElem?_eq_getElem (by have := hN.out; omega)⟩
          have hcol : Hid (cols M = m0.length) := by
            show _ = _
            unfold cols
            cases M with
            | nil => simp at hm0
            | cons x xs => obtain rfl := Option.some.inj hm0; rfl
          obtain ⟨ad0, v0, rfl, _, hca0, a0, c0, rfl, _, _, _, _⟩ := h'.out.at hm0
          obtain ⟨ad, v, hae, hab, hca, a, c', rfl, _, _, _, _⟩ := h'.out.at hm
          obtain rfl := Option.some.inj hae
          clear hae
          have hz : ad0.add 0 = ad0 := by unfold Addr.add; simp
          rw [hz] at hca0
          clear hz
          have hm' := Lib.hid hm
          clear hm hm0
          by_cases hne : m.length = m0.length
          · have hnx := Lib.hid (any_no_next (P := fun m => decide (m.length ≠ cols M)) hno.out hm'.out (decide_eq_false (by rw [hcol.out]; simp [hne])))
            have tn : ((m.length : Int) != (m0.length : Int)) = false := by simp [hne]
            clear hne
            go_wp2_with fail
            go_quiet (fail)
            go_wp2
            go_roundw
            case rel => exact ⟨j + 1, _, by omega, by go_num, hnx, by first | rfl | (go_simp; done) | (go_simp; rfl)⟩
            case measure => simp [intOf]; omega
          · have tn : ((m.length : Int) != (m0.length : Int)) = true := by simp only [bne_iff_ne, ne_eq]; omega
            have e : Hid (r = 1) := by
              show _ = _
              rw [hch.out, if_pos (List.any_eq_true.2 ⟨m, List.mem_of_getElem? hm'.out, decide_eq_true (by rw [hcol.out]; exact hne)⟩)]
            clear hne
            go_wp2_with fail
            go_quiet (fail)
            go_wp2
            go_ret
            exact ⟨by rw [e.out]; first | done | rfl, _, by first | rfl | (go_simp; done) | (go_simp; rfl)⟩
        · have t : ¬ (j : Int) < (N : Int) := by omega
          have e : Hid (r = 0) := by
            show _ = _
            have := hno.out
            rw [List.take_of_length_le (by have := hN.out; omega)] at this
            rw [hch.out, this]
            rfl
          go_wp2_with fail
          go_ret
          exact ⟨by rw [e.out]; first | done | rfl, n, rfl⟩

set_option maxRecDepth 100000 in
set_option maxHeartbeats 1000000 in
theorem refHas_any {B : Nat} (l : List Nat) (x : Nat) (A : Option Addr) (c : Nat) (w : World) (h : Rds w B A (l.map pv)) (hl : l.length ≤ 140737488355328) :
    Calls Tryd.prog 105 #[.slice A l.length c, .int .i64 x] w fun e w' => e = .returned (.bool (l.any fun y => decide (y = x))) ∧ w' = w := by
  have h' := Lib.hid h
  obtain ⟨r, hr0⟩ : ∃ r, r = l.any fun y => decide (y = x) := ⟨_, rfl⟩
  have hr := Lib.hid hr0
  rw [← hr0]
  clear h hr0
  obtain ⟨N, hN0⟩ : ∃ N, N = l.length := ⟨_, rfl⟩
  have hN := Lib.hid hN0
  rw [← hN0] at hl ⊢
  clear hN0
  go_enter Tryd.func105, Tryd.ntmps105
  go_wp2_with fail
  go_loopw [5] (fun i wr => ∃ k : Nat, k ≤ N ∧ i = .int .i64 k ∧ Hid ((l.take k).any (fun y => decide (y = x)) = false) ∧ wr = w) (fun i _ => N - (intOf i).toNat)
  case atStart => exact ⟨0, by omega, rfl, rfl, rfl⟩
  case round =>
    obtain ⟨k, hk, rfl, hno, rfl⟩ := hrel
    by_cases hlt : k < N
    · have t : (k : Int) < (N : Int) := by omega
      have t0 : 0 ≤ (k : Int) := by omega
      obtain ⟨y, hy⟩ : ∃ x, l[k]? = some x := ⟨_, List.getElem?_eq_getElem (by have := hN.out; omega)⟩
      obtain ⟨ad, rfl, _, hca⟩ := h'.out.look (k := k) (u := pv y) (by rw [List.getElem?_map, hy]; rfl)
      unfold pv at hca
      have hy' := Lib.hid hy
      clear hy
      by_cases hyx : y = x
      · have tn : ((y : Int) == (x : Int)) = true := by simp [hyx]
        have e : Hid (r = true) := by
          show _ = _
          rw [hr.out]
          exact List.any_eq_true.2 ⟨y, List.mem_of_getElem? hy'.out, decide_eq_true hyx⟩
        clear hyx
        go_wp2_with fail
        go_ret
        exact ⟨by rw [e.out]; first | done | rfl, rfl⟩
      · have tn : ((y : Int) == (x : Int)) = false := by simp only [beq_eq_false_iff_ne, ne_eq]; omega
        have hnx := Lib.hid (any_no_next (P := fun y => decide (y = x)) hno.out hy'.out (decide_eq_false hyx))
        clear hyx
        go_wp2_with fail
        go_roundw
        case rel => exact ⟨k + 1, by omega, by go_num, hnx, by trivial⟩
        case measure => simp [intOf]; omega
    · have t : ¬ (k : Int) < (N : Int) := by omega
      have e : Hid (r = false) := by
        have := hno.out
        rw [List.take_of_length_le (by have := hN.out; omega)] at this
        show _ = _
        rw [hr.out]; exact this
      go_wp2_with fail
      go_ret
      exact ⟨by rw [e.out]; first | done | rfl, rfl⟩
end Go.Proofs.YtfbdhcpclccikaaDoor
