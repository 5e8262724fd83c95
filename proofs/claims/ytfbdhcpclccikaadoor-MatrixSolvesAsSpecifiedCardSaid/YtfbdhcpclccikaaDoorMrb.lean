/-
  Contracts of stage 5: the reference's lead, column, Sum.
-/
import Derived.Test.YtfbdhcpclccikaaDoorMra
import Derived.Test.YtfbdhcpclccikaaDoorGfr
namespace Go.Proofs.YtfbdhcpclccikaaDoor
set_option linter.unusedVariables false
set_option linter.unusedSimpArgs false
open Go.RowKit

/-- What lead returns. -/
def leadI (M : List (List UInt8)) (top col : Nat) : Int := match findP M col top with | none => -1 | some i => i

set_option maxRecDepth 100000 in
set_option maxHeartbeats 1000000 in
theorem lead_any {B : Nat} (M : List (List UInt8)) (A : Option Addr) (c top col cc : Nat) (w : World) (h : Mat w B A M) (hre : Rect M cc) (hcc : col < cc) (hl : M.length ≤ 140737488355328) :
    Calls Tryd.prog 76 #[.slice A M.length c, .int .i64 top, .int .i64 col] w fun e w' => e = .returned (.int .i64 (leadI M top col)) ∧ w' = w := by
  have h' := Lib.hid h
  obtain ⟨r, hr0⟩ : ∃ r, r = leadI M top col := ⟨_, rfl⟩
  have hr := Lib.hid hr0
  rw [← hr0]
  have hre' := Lib.hid hre
  have hcc' := Lib.hid hcc
  clear h hr0 hre hcc
  obtain ⟨N, hN0⟩ : ∃ N, N = M.length := ⟨_, rfl⟩
  have hN := Lib.hid hN0
  rw [← hN0] at hl ⊢
  clear hN0
  go_enter Tryd.func76, Tryd.ntmps76
  go_wp2_with fail
  go_loopw [7] (fun i wr => ∃ k : Nat, top ≤ k ∧ i = .int .i64 k ∧ Hid (∀ j, top ≤ j → j < k → el M j col = 0) ∧ w = wr) (fun i _ => N - (intOf i).toNat)
  case atStart => exact ⟨top, by omega, rfl, (fun j h1 h2 => by omega), rfl⟩
  case round =>
    obtain ⟨k, hk, rfl, hno, rfl⟩ := hrel
    by_cases hlt : k < N
    · have t : (k : Int) < (N : Int) := by omega
      have t0 : 0 ≤ (k : Int) := by omega
      have tc : 0 ≤ (col : Int) := by omega
      obtain ⟨m, hm⟩ : ∃ x, M[k]? = some x := ⟨_, List.getElem?_eq_getElem (by have := hN.out; omega)⟩
      have hml := hre'.out.at hm
      obtain ⟨b, hb⟩ : ∃ b, m[col]? = some b := ⟨_, List.getElem?_eq_getElem (by have := hcc'.out; omega)⟩
      have hel := el_of hm hb
      obtain ⟨ad, a, c', rfl, _, hca, _, hcb⟩ := h'.out.head hm hb
      have hcl : Hid (col < m.length) := by show _; rw [hml]; exact hcc'.out
      have tcl : (col : Int) < (m.length : Int) := by have := hcl.out; omega
      unfold bv at hcb
      have hel' := Lib.hid hel
      clear hm hb hel hml
      by_cases hz : b = 0
      · subst hz
        have hnx : Hid (∀ j, top ≤ j → j < k + 1 → el M j col = 0) := fun j h1 h2 => by
          by_cases hj : j = k
          · subst hj; exact hel'.out
          · exact hno.out j h1 (by omega)
        go_wp2_with fail
        go_roundw
        case rel => exact ⟨k + 1, by omega, by go_num, hnx, by trivial⟩
        case measure => simp [intOf]; omega
      · have tne : (((b.toNat : Nat) : Int) != 0) = true := u8_int_ne hz
        have e : Hid (r = (k : Int)) := by
          show _ = _
          rw [hr.out]; unfold leadI
          rw [findP_some (i := k) (by rw [← hN.out]; exact hlt) hk (fun j h1 h2 => hno.out j h1 h2) (by rw [hel'.out]; exact hz)]
        clear hz
        go_wp2_with fail
        go_ret
        exact ⟨by rw [e.out]; first | done | rfl, by trivial⟩
    · have t : ¬ (k : Int) < (N : Int) := by omega
      have e : Hid (r = -1) := by
        show _ = _
        rw [hr.out]; unfold leadI
        rw [findP_none (fun j h1 h2 => hno.out j h1 (by have := hN.out; omega))]
      go_wp2_with fail
      go_ret
      exact ⟨by rw [e.out]; first | done | rfl, by trivial⟩

theorem take_snoc {α : Type} {l : List α} {k : Nat} {x : α} (h : l[k]? = some x) : l.take (k + 1) = l.take k ++ [x] := by
  obtain ⟨h1, e1⟩ := List.getElem?_eq_some_iff.1 h
  rw [List.take_succ_eq_append_getElem h1, e1]
/-- A column of a matrix. -/
def colF (M : List (List UInt8)) (col : Nat) : List UInt8 := rowF (fun i => el M i col) M.length
theorem colF_len (M : List (List UInt8)) (col : Nat) : (colF M col).length = M.length := rowF_len _ _

set_option maxRecDepth 100000 in
set_option maxHeartbeats 1000000 in
theorem column_any {B : Nat} (M : List (List UInt8)) (A : Option Addr) (c col cc : Nat) (w : World) (h : Mat w B A M) (hB : B ≤ w.heap.size) (hre : Rect M cc) (hcc : col < cc) (hl : M.length ≤ 140737488355000) :
    Calls Tryd.prog 75 #[.slice A M.length c, .int .i64 col] w fun e w' => ∃ v, e = .returned v ∧ OwnB w' w.heap.size v (colF M col) ∧ Below w.heap.size w w' := by
  have h' := Lib.hid h
  have hB' := Lib.hid hB
  have hvl := colF_len M col
  have hvg : Hid (∀ k, k < M.length → (colF M col)[k]? = some (el M k col)) := fun k hk => rowF_get _ hk
  have hre' := Lib.hid hre
  have hcc' := Lib.hid hcc
  clear h hre hcc hB
  generalize colF M col = V at hvl hvg ⊢
  obtain ⟨N, hN0⟩ : ∃ N, N = M.length := ⟨_, rfl⟩
  have hN := Lib.hid hN0
  rw [← hN0] at hl hvl ⊢
  clear hN0
  have hvl' := Lib.hid hvl
  clear hvl
  go_enter Tryd.func75, Tryd.ntmps75
  go_wp2_with fail
  go_loopw [5, 6] (fun v i wr => ∃ k : Nat, k ≤ N ∧ i = .int .i64 k ∧ OwnB wr w.heap.size v (V.take k) ∧ Below w.heap.size w wr) (fun _ i _ => N - (intOf i).toNat)
  case atStart => exact ⟨0, by omega, rfl, ownB_nil _ _, Below.refl _ _⟩
  case round =>
    obtain ⟨k, hk, rfl, ho, hbw⟩ := hrel
    have hsz := hbw.size
    by_cases hlt : k < N
    · have t : (k : Int) < (N : Int) := by omega
      have t0 : 0 ≤ (k : Int) := by omega
      have tc : 0 ≤ (col : Int) := by omega
      obtain ⟨m, hm⟩ : ∃ x, M[k]? = some x := ⟨_, List.getElem?_eq_getElem (by have := hN.out; omega)⟩
      have hml := hre'.out.at hm
      obtain ⟨b, hb⟩ : ∃ b, m[col]? = some b := ⟨_, List.getElem?_eq_getElem (by have := hcc'.out; omega)⟩
      have hv := hvg.out k (by have := hN.out; omega)
      rw [el_of hm hb] at hv
      obtain ⟨ad, a, c', rfl, _, hca, _, hcb⟩ := (h'.out.below (hbw.mono hB'.out)).head hm hb
      have tcl : (col : Int) < (m.length : Int) := by have := hcc'.out; omega
      have htk := Lib.hid (take_snoc hv)
      have hl : (V.take k).length ≤ 140737488355300 := by rw [List.length_take]; omega
      unfold bv at hcb
      clear hm hb hml hv
      go_wp2_with (at_builtin; go_must (refine push_byte rfl _ _ rfl w.heap.size u5 (V.take k) b _ rfl rfl rfl ho hl hsz ?_); intro v' w1 ho1 hon1)
      go_roundw
      case rel => exact ⟨k + 1, by omega, by go_num, by rw [htk.out]; exact ho1, hbw.trans (hon1.below ho hsz)⟩
      case measure => simp [intOf]; omega
    · have t : ¬ (k : Int) < (N : Int) := by omega
      have hkk : V.take k = V := List.take_of_length_le (by rw [hvl'.out]; omega)
      rw [hkk] at ho
      go_wp2_with fail
      go_ret
      exact ⟨_, by first | rfl | (go_simp; done) | (go_simp; rfl), ho, hbw⟩

set_option maxRecDepth 100000 in
set_option maxHeartbeats 1000000 in
theorem refSum5_any {Ba Bb : Nat} (a b : List UInt8) (by' : UInt8) (A A' : Option Addr) (c c' n n' : Nat) (w : World) (ha : Rds w Ba A (a.map bv)) (hb : Rds w Bb A' (b.map bv)) (hBa : Ba ≤ w.heap.size) (hBb : Bb ≤ w.heap.size) (hn : n = a.length) (hn' : n' = b.length) (hlen : a.length ≤ b.length) (hl : a.length ≤ 140737488355000) :
    Calls Tryd.prog 39 #[.slice A n c, bv by', .slice A' n' c'] w fun e w' => ∃ v, e = .returned v ∧ OwnB w' w.heap.size v (addR by' b a) ∧ Below w.heap.size w w' := by
  have ha' := Lib.hid ha
  have hb' := Lib.hid hb
  have hBa' := Lib.hid hBa
  have hBb' := Lib.hid hBb
  have hvl := addR_len by' b a
  have hvg : Hid (∀ k, k < a.length → (addR by' b a)[k]? = some (a.getD k 0 ^^^ Gf.mul by' (b.getD k 0))) := fun k hk => rowF_get _ hk
  have HM := Lib.hid (fun x W => refMul_any by' x W)
  clear ha hb hBa hBb
  generalize addR by' b a = V at hvl hvg ⊢
  have hnl : n ≤ 140737488355000 := by omega
  have hN : Hid (n = a.length ∧ n' = b.length ∧ a.length ≤ b.length) := ⟨hn, hn', hlen⟩
  have hnn : n ≤ n' := by omega
  rw [← hn] at hvl
  have hvl' := Lib.hid hvl
  clear hvl hn hn' hlen hl
  unfold bv at HM
  unfold bv
  go_enter Tryd.func39, Tryd.ntmps39
  go_wp2_with fail
  go_loopw [7, 8] (fun v i wr => ∃ k : Nat, k ≤ n ∧ i = .int .i64 k ∧ OwnB wr w.heap.size v (V.take k) ∧ Below w.heap.size w wr) (fun _ i _ => n - (intOf i).toNat)
  case atStart => exact ⟨0, by omega, rfl, ownB_nil _ _, Below.refl _ _⟩
  case round =>
    obtain ⟨k, hk, rfl, ho, hbw⟩ := hrel
    have hsz := hbw.size
    by_cases hlt : k < n
    · have t : (k : Int) < (n : Int) := by omega
      have t' : (k : Int) < (n' : Int) := by omega
      have t0 : 0 ≤ (k : Int) := by omega
      obtain ⟨x, hx⟩ : ∃ x, a[k]? = some x := ⟨_, List.getElem?_eq_getElem (by have := hN.out.1; omega)⟩
      obtain ⟨y, hy⟩ : ∃ x, b[k]? = some x := ⟨_, List.getElem?_eq_getElem (by have := hN.out; omega)⟩
      obtain ⟨ad, rfl, _, hca⟩ := (ha'.out.below (hbw.mono hBa'.out)).look (k := k) (u := bv x) (by rw [List.getElem?_map, hx]; rfl)
      obtain ⟨bd, rfl, _, hcb⟩ := (hb'.out.below (hbw.mono hBb'.out)).look (k := k) (u := bv y) (by rw [List.getElem?_map, hy]; rfl)
      have hv := hvg.out k (by have := hN.out.1; omega)
      rw [show a.getD k 0 = x by rw [List.getD_eq_getElem?_getD, hx]; rfl, show b.getD k 0 = y by rw [List.getD_eq_getElem?_getD, hy]; rfl] at hv
      have hxor := u8_xor_bv x (Gf.mul by' y)
      have H1 := Lib.hid (HM.out y wr)
      generalize Gf.mul by' y = z0 at hv H1 hxor
      generalize x ^^^ z0 = z at hv hxor
      have hl : (V.take k).length ≤ 140737488355300 := by rw [List.length_take]; omega
      have htk := Lib.hid (take_snoc hv)
      unfold bv at hca hcb
      clear hx hy hv
      go_wp2_with fail
      refine H1.out.mono ?_
      rintro e w2 ⟨rfl, rfl⟩
      go_wp2_with (at_builtin; go_must (refine push_byte rfl _ _ rfl w.heap.size u7 (V.take k) z _ rfl rfl rfl ho hl hsz ?_); intro v' w1 ho1 hon1)
      go_roundw
      case rel => exact ⟨k + 1, by omega, by go_num, by rw [htk.out]; exact ho1, hbw.trans (hon1.below ho hsz)⟩
      case measure => simp [intOf]; omega
    · have t : ¬ (k : Int) < (n : Int) := by omega
      have hkk : V.take k = V := List.take_of_length_le (by rw [hvl'.out]; omega)
      rw [hkk] at ho
      go_wp2_with fail
      go_ret
      exact ⟨_, by first | rfl | (go_simp; done) | (go_simp; rfl), ho, hbw⟩
end Go.Proofs.YtfbdhcpclccikaaDoor
