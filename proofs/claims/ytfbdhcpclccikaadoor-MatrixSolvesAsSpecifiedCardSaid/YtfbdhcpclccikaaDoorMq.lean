/-
  Contracts of stage 5: the reference's SameRow, Same, SameList, Few, Columns.
-/
import Derived.Test.YtfbdhcpclccikaaDoorMx
namespace Go.Proofs.YtfbdhcpclccikaaDoor
set_option linter.unusedVariables false
set_option linter.unusedSimpArgs false
open Go.RowKit

/-- Are two lists equal? -/
def sameB {α : Type} [DecidableEq α] (a b : List α) : Bool := decide (a = b)
theorem take_next {α : Type} {a b : List α} {k : Nat} {x : α} (h : a.take k = b.take k) (ha : a[k]? = some x) (hb : b[k]? = some x) : a.take (k + 1) = b.take (k + 1) := by
  rw [List.take_add_one, List.take_add_one, h, ha, hb]
theorem sameB_false {α : Type} [DecidableEq α] {a b : List α} {k : Nat} {x y : α} (ha : a[k]? = some x) (hb : b[k]? = some y) (h : x ≠ y) : sameB a b = false := by
  unfold sameB
  rw [decide_eq_false_iff_not]
  rintro rfl
  rw [ha] at hb
  exact h (Option.some.inj hb)
theorem sameB_len {α : Type} [DecidableEq α] {a b : List α} (h : a.length ≠ b.length) : sameB a b = false := by
  unfold sameB
  rw [decide_eq_false_iff_not]
  rintro rfl
  exact h rfl
theorem u8_int_ne {x y : UInt8} (h : x ≠ y) : (((x.toNat : Nat) : Int) != ((y.toNat : Nat) : Int)) = true := by
  simp only [bne_iff_ne, ne_eq]
  intro e
  exact h (UInt8.toNat_inj.1 (by omega))

set_option maxRecDepth 100000 in
set_option maxHeartbeats 1000000 in
theorem sameRow_any {B B' : Nat} (a b : List UInt8) (A A' : Option Addr) (c c' : Nat) (w : World) (h : Rds w B A (a.map bv)) (h' : Rds w B' A' (b.map bv)) (hl : a.length ≤ 140737488355328) :
    Calls Tryd.prog 34 #[.slice A a.length c, .slice A' b.length c'] w fun e w' => e = .returned (.bool (sameB a b)) ∧ ∃ n, w' = w.drewN n := by
  by_cases hab : a.length = b.length
  rotate_left
  · have hr := sameB_len hab
    have t : ((a.length : Int) != (b.length : Int)) = true := by simp only [bne_iff_ne, ne_eq]; omega
    rw [hr]
    clear hab h h' hr
    go_enter Tryd.func34, Tryd.ntmps34
    go_wp2_with fail
    go_ret
    exact ⟨rfl, 0, rfl⟩
  have ha := Lib.hid h
  have hb := Lib.hid h'
  obtain ⟨r, hr0⟩ : ∃ r, r = sameB a b := ⟨_, rfl⟩
  have hr := Lib.hid hr0
  rw [← hr0]
  obtain ⟨n, hn0⟩ : ∃ n, n = a.length := ⟨_, rfl⟩
  have hn : Hid (n = a.length ∧ n = b.length) := ⟨hn0, by omega⟩
  rw [show a.length = n by omega, show b.length = n by omega]
  have hnl : n ≤ 140737488355328 := by omega
  clear h h' hr0 hn0 hab hl
  go_enter Tryd.func34, Tryd.ntmps34
  go_wp2_with fail
  go_loopw [5] (fun i wr => ∃ k m : Nat, k ≤ n ∧ i = .int .i64 k ∧ Hid (a.take k = b.take k) ∧ wr = w.drewN m) (fun i _ => n - (intOf i).toNat)
  case atStart => exact ⟨0, 0, by omega, rfl, rfl, rfl⟩
  case round =>
    obtain ⟨k, m, hk, rfl, heq, rfl⟩ := hrel
    by_cases hlt : k < n
    · have t : (k : Int) < (n : Int) := by omega
      have t0 : 0 ≤ (k : Int) := by omega
      obtain ⟨x, hx⟩ : ∃ x, a[k]? = some x := ⟨_, List.getElem?_eq_getElem (by have := hn.out.1; omega)⟩
      obtain ⟨y, hy⟩ : ∃ x, b[k]? = some x := ⟨_, List.getElem?_eq_getElem (by have := hn.out.2; omega)⟩
      obtain ⟨ad, rfl, _, hca⟩ := ha.out.look (k := k) (u := bv x) (by rw [List.getElem?_map, hx]; rfl)
      obtain ⟨bd, rfl, _, hcb⟩ := hb.out.look (k := k) (u := bv y) (by rw [List.getElem?_map, hy]; rfl)
      have hx' := Lib.hid hx
      have hy' := Lib.hid hy
      unfold bv at hca hcb
      clear hx hy
      by_cases hxy : x = y
      · subst hxy
        have hnx := Lib.hid (take_next heq.out hx'.out hy'.out)
        go_wp2_with fail
        go_quiet (fail)
        go_wp2
        go_roundw
        case rel => exact ⟨k + 1, _, by omega, by go_num, hnx, by first | rfl | (go_simp; done) | (go_simp; rfl)⟩
        case measure => simp [intOf]; omega
      · have tne := u8_int_ne hxy
        have hf : Hid (r = false) := by show _ = _; rw [hr.out]; exact sameB_false hx'.out hy'.out hxy
        clear hxy
        go_wp2_with fail
        go_quiet (fail)
        go_wp2
        go_ret
        exact ⟨by rw [hf.out]; rfl, _, by first | rfl | (go_simp; done) | (go_simp; rfl)⟩
    · have t : ¬ (k : Int) < (n : Int) := by omega
      have hf : Hid (r = true) := by
        have := heq.out
        rw [List.take_of_length_le (by have := hn.out.1; omega), List.take_of_length_le (by have := hn.out.2; omega)] at this
        show _ = _
        rw [hr.out, this]
        unfold sameB
        simp
      go_wp2_with fail
      go_ret
      exact ⟨by rw [hf.out]; rfl, m, rfl⟩

set_option maxRecDepth 100000 in
set_option maxHeartbeats 1000000 in
theorem sameList_any {B B' : Nat} (a b : List Nat) (A A' : Option Addr) (c c' : Nat) (w : World) (h : Rds w B A (a.map pv)) (h' : Rds w B' A' (b.map pv)) (hl : a.length ≤ 140737488355328) :
    Calls Tryd.prog 27 #[.slice A a.length c, .slice A' b.length c'] w fun e w' => e = .returned (.bool (sameB a b)) ∧ ∃ n, w' = w.drewN n := by
  by_cases hab : a.length = b.length
  rotate_left
  · have hr := sameB_len hab
    have t : ((a.length : Int) != (b.length : Int)) = true := by simp only [bne_iff_ne, ne_eq]; omega
    rw [hr]
    clear hab h h' hr
    go_enter Tryd.func27, Tryd.ntmps27
    go_wp2_with fail
    go_ret
    exact ⟨rfl, 0, rfl⟩
  have ha := Lib.hid h
  have hb := Lib.hid h'
  obtain ⟨r, hr0⟩ : ∃ r, r = sameB a b := ⟨_, rfl⟩
  have hr := Lib.hid hr0
  rw [← hr0]
  obtain ⟨n, hn0⟩ : ∃ n, n = a.length := ⟨_, rfl⟩
  have hn : Hid (n = a.length ∧ n = b.length) := ⟨hn0, by omega⟩
  rw [show a.length = n by omega, show b.length = n by omega]
  have hnl : n ≤ 140737488355328 := by omega
  clear h h' hr0 hn0 hab hl
  go_enter Tryd.func27, Tryd.ntmps27
  go_wp2_with fail
  go_loopw [5] (fun i wr => ∃ k m : Nat, k ≤ n ∧ i = .int .i64 k ∧ Hid (a.take k = b.take k) ∧ wr = w.drewN m) (fun i _ => n - (intOf i).toNat)
  case atStart => exact ⟨0, 0, by omega, rfl, rfl, rfl⟩
  case round =>
    obtain ⟨k, m, hk, rfl, heq, rfl⟩ := hrel
    by_cases hlt : k < n
    · have t : (k : Int) < (n : Int) := by omega
      have t0 : 0 ≤ (k : Int) := by omega
      obtain ⟨x, hx⟩ : ∃ x, a[k]? = some x := ⟨_, List.getElem?_eq_getElem (by have := hn.out.1; omega)⟩
      obtain ⟨y, hy⟩ : ∃ x, b[k]? = some x := ⟨_, List.getElem?_eq_getElem (by have := hn.out.2; omega)⟩
      obtain ⟨ad, rfl, _, hca⟩ := ha.out.look (k := k) (u := pv x) (by rw [List.getElem?_map, hx]; rfl)
      obtain ⟨bd, rfl, _, hcb⟩ := hb.out.look (k := k) (u := pv y) (by rw [List.getElem?_map, hy]; rfl)
      have hx' := Lib.hid hx
      have hy' := Lib.hid hy
      unfold pv at hca hcb
      clear hx hy
      by_cases hxy : x = y
      · subst hxy
        have hnx := Lib.hid (take_next heq.out hx'.out hy'.out)
        go_wp2_with fail
        go_quiet (fail)
        go_wp2
        go_roundw
        case rel => exact ⟨k + 1, _, by omega, by go_num, hnx, by first | rfl | (go_simp; done) | (go_simp; rfl)⟩
        case measure => simp [intOf]; omega
      · have tne : ((x : Int) != (y : Int)) = true := by simp only [bne_iff_ne, ne_eq]; omega
        have hf : Hid (r = false) := by show _ = _; rw [hr.out]; exact sameB_false hx'.out hy'.out hxy
        clear hxy
        go_wp2_with fail
        go_quiet (fail)
        go_wp2
        go_ret
        exact ⟨by rw [hf.out]; rfl, _, by first | rfl | (go_simp; done) | (go_simp; rfl)⟩
    · have t : ¬ (k : Int) < (n : Int) := by omega
      have hf : Hid (r = true) := by
        have := heq.out
        rw [List.take_of_length_le (by have := hn.out.1; omega), List.take_of_length_le (by have := hn.out.2; omega)] at this
        show _ = _
        rw [hr.out, this]
        unfold sameB
        simp
      go_wp2_with fail
      go_ret
      exact ⟨by rw [hf.out]; rfl, m, rfl⟩

set_option maxRecDepth 100000 in
set_option maxHeartbeats 1000000 in
theorem same_any {B B' : Nat} (a b : List (List UInt8)) (A A' : Option Addr) (c c' : Nat) (w : World) (h : Mat w B A a) (h' : Mat w B' A' b) (hl : a.length ≤ 140737488355328) (hc : ∀ m ∈ a, m.length ≤ 140737488355328) :
    Calls Tryd.prog 26 #[.slice A a.length c, .slice A' b.length c'] w fun e w' => e = .returned (.bool (sameB a b)) ∧ ∃ n, w' = w.drewN n := by
  by_cases hab : a.length = b.length
  rotate_left
  · have hr := sameB_len hab
    have t : ((a.length : Int) != (b.length : Int)) = true := by simp only [bne_iff_ne, ne_eq]; omega
    rw [hr]
    clear hab h h' hr
    go_enter Tryd.func26, Tryd.ntmps26
    go_wp2_with fail
    go_ret
    exact ⟨rfl, 0, rfl⟩
  have ha := Lib.hid h
  have hb := Lib.hid h'
  have hcc := Lib.hid hc
  obtain ⟨r, hr0⟩ : ∃ r, r = sameB a b := ⟨_, rfl⟩
  have hr := Lib.hid hr0
  rw [← hr0]
  obtain ⟨n, hn0⟩ : ∃ n, n = a.length := ⟨_, rfl⟩
  have hn : Hid (n = a.length ∧ n = b.length) := ⟨hn0, by omega⟩
  rw [show a.length = n by omega, show b.length = n by omega]
  have hnl : n ≤ 140737488355328 := by omega
  clear h h' hr0 hn0 hab hl hc
  go_enter Tryd.func26, Tryd.ntmps26
  go_wp2_with fail
  go_loopw [5] (fun i wr => ∃ k m : Nat, k ≤ n ∧ i = .int .i64 k ∧ Hid (a.take k = b.take k) ∧ wr = w.drewN m) (fun i _ => n - (intOf i).toNat)
  case atStart => exact ⟨0, 0, by omega, rfl, rfl, rfl⟩
  case round =>
    obtain ⟨k, m, hk, rfl, heq, hwm0⟩ := hrel
    have hwm := Lib.hid hwm0
    by_cases hlt : k < n
    · have t : (k : Int) < (n : Int) := by omega
      have t0 : 0 ≤ (k : Int) := by omega
      obtain ⟨x, hx⟩ : ∃ x, a[k]? = some x := ⟨_, List.getElem?_eq_getElem (by have := hn.out.1; omega)⟩
      obtain ⟨y, hy⟩ : ∃ x, b[k]? = some x := ⟨_, List.getElem?_eq_getElem (by have := hn.out.2; omega)⟩
      obtain ⟨ad, v1, rfl, _, hca, a1, c1, rfl, _, _, _, hra⟩ := (show Mat wr B A a by rw [hwm0]; exact ha.out).at hx
      obtain ⟨bd, v2, rfl, _, hcb, a2, c2, rfl, _, _, _, hrb⟩ := (show Mat wr B' A' b by rw [hwm0]; exact hb.out).at hy
      have SR : Hid (∀ q, Calls Tryd.prog 34 #[.slice a1 x.length c1, .slice a2 y.length c2] (wr.drewN q) fun e w' => e = .returned (.bool (sameB x y)) ∧ ∃ n, w' = (wr.drewN q).drewN n) := fun q => sameRow_any x y a1 a2 c1 c2 (wr.drewN q) hra hrb (hcc.out x (List.mem_of_getElem? hx))
      have hx' := Lib.hid hx
      have hy' := Lib.hid hy
      obtain ⟨s, hs0⟩ : ∃ s, s = sameB x y := ⟨_, rfl⟩
      rw [← hs0] at SR
      have hs := Lib.hid hs0
      clear hx hy hra hrb hs0 hwm0
      cases s with
      | true =>
        have hxy : x = y := of_decide_eq_true hs.out.symm
        have hnx := Lib.hid (take_next heq.out hx'.out (by rw [hxy]; exact hy'.out))
        clear hxy
        go_wp2_with fail
        go_quiet (exact Calls.quiet_of (SR.out _))
        go_wp2
        go_roundw
        case rel => exact ⟨k + 1, _, by omega, by go_num, hnx, by rw [hwm.out, World.drewN_drewN]⟩
        case measure => simp [intOf]; omega
      | false =>
        have hf : Hid (r = false) := by show _ = _; rw [hr.out]; exact sameB_false hx'.out hy'.out (of_decide_eq_false hs.out.symm)
        go_wp2_with fail
        go_quiet (exact Calls.quiet_of (SR.out _))
        go_wp2
        go_ret
        exact ⟨by rw [hf.out]; rfl, _, by rw [hwm.out, World.drewN_drewN]⟩
    · have t : ¬ (k : Int) < (n : Int) := by omega
      have hf : Hid (r = true) := by
        have := heq.out
        rw [List.take_of_length_le (by have := hn.out.1; omega), List.take_of_length_le (by have := hn.out.2; omega)] at this
        show _ = _
        rw [hr.out, this]
        unfold sameB
        simp
      clear hwm0
      go_wp2_with fail
      go_ret
      exact ⟨by rw [hf.out]; rfl, m, hwm.out⟩
end Go.Proofs.YtfbdhcpclccikaaDoor
