/-
  Contracts of stage 5: columns, ContainsFunc, Check.
-/
import Derived.Test.YtfbdhcpclccikaaDoorMt
import Derived.Test.YtfbdhcpclccikaaDoorMch
namespace Go.Proofs.YtfbdhcpclccikaaDoor
set_option linter.unusedVariables false
set_option linter.unusedSimpArgs false
open Go.RowKit

set_option maxRecDepth 100000 in
theorem columns_any {B : Nat} (M : List (List UInt8)) (A : Option Addr) (c : Nat) (w : World) (h : Mat w B A M) :
    Calls Tryd.prog 68 #[.slice A M.length c] w fun e w' => e = .returned (.int .i64 (cols M)) ∧ w' = w := by
  cases M with
  | nil =>
    go_enter Tryd.func68, Tryd.ntmps68
    go_wp2_with fail
    go_ret
    exact ⟨rfl, rfl⟩
  | cons m M =>
    obtain ⟨ad, v, rfl, hab, hc, a, c', rfl, _, _, _, _⟩ := h.at (i := 0) (m := m) rfl
    have hc0 : w.cell? ad = some (.slice a m.length c') := by
      have : ad.add 0 = ad := by unfold Addr.add; simp
      rw [this] at hc
      exact hc
    obtain ⟨n, hn⟩ : ∃ n, n = (m :: M).length := ⟨_, rfl⟩
    have h0 : (0 : Int) < (n : Int) := by rw [hn, List.length_cons]; omega
    have h1 : ((n : Int) == 0) = false := by rw [beq_eq_false_iff_ne]; omega
    rw [← hn]
    clear hn h hc
    go_enter Tryd.func68, Tryd.ntmps68
    go_wp2_with fail
    go_ret
    exact ⟨rfl, rfl⟩

set_option maxRecDepth 100000 in
set_option maxHeartbeats 1000000 in
/-- slices.IndexFunc over rows, with a closure that answers P and draws at most. -/
theorem index_of {B : Nat} (f : Nat) (cap : List Value) (P : List UInt8 → Bool) (M : List (List UInt8)) (A : Option Addr) (c : Nat) (w : World) (h : Mat w B A M) (hl : M.length ≤ 140737488355328) (hcf : ∀ (args : Array Value) (W : World), (callFunc f args).run Tryd.prog W = .ok (.enter f args) W)
    (HG : ∀ (m : List UInt8) (v : Value) (k : Nat), m ∈ M → RowAt w B v m → Calls Tryd.prog f (v :: cap).toArray (w.drewN k) fun e W' => e = .returned (.bool (P m)) ∧ ∃ k', W' = w.drewN k') :
    Calls Tryd.prog 103 #[.slice A M.length c, .func (.func f) #[] cap.toArray] w fun e w' => (∃ z : Int, e = .returned (.int .i64 z) ∧ decide (0 ≤ z) = M.any P) ∧ ∃ k, w' = w.drewN k := by
  have HG' := Lib.hid HG
  have h' := Lib.hid h
  clear HG h
  go_enter Tryd.func103, Tryd.ntmps103
  go_wp2_with fail
  go_loopw [8] (fun i wr => ∃ k n : Nat, k ≤ M.length ∧ i = .int .i64 k ∧ Hid ((M.take k).any P = false) ∧ wr = w.drewN n) (fun i _ => M.length - (intOf i).toNat)
  case atStart => exact ⟨0, 0, by omega, rfl, rfl, rfl⟩
  case round =>
    obtain ⟨k, n, hk, rfl, hno, rfl⟩ := hrel
    by_cases hlt : k < M.length
    · obtain ⟨m, hm⟩ : ∃ m, M[k]? = some m := ⟨_, List.getElem?_eq_getElem hlt⟩
      obtain ⟨ad, v, rfl, hab, hc, hrow⟩ := h'.out.at hm
      have HC := Lib.hid (HG'.out m v n (List.mem_of_getElem? hm) hrow)
      have t : (k : Int) < (M.length : Int) := by omega
      have t0 : 0 ≤ (k : Int) := by omega
      have hm' := Lib.hid hm
      obtain ⟨r, hr⟩ : ∃ r, P m = r := ⟨_, rfl⟩
      rw [hr] at HC
      have hr' := Lib.hid hr
      have hcd : (w.drewN n).cell? (ad.add k) = some v := hc
      clear hm hr hrow hc
      go_wp2_with fail
      refine HC.out.mono ?_
      rintro e w' ⟨rfl, n', rfl⟩
      cases r with
      | true =>
        go_wp2_with fail
        go_ret
        refine ⟨⟨(k : Int), rfl, ?_⟩, n', rfl⟩
        have e0 : decide (0 ≤ (k : Int)) = true := decide_eq_true (by omega)
        exact e0.trans (List.any_eq_true.2 ⟨m, List.mem_of_getElem? hm'.out, hr'.out⟩).symm
      | false =>
        have hnext : Hid ((M.take (k + 1)).any P = false) := by
          show _ = _
          rw [List.take_add_one, hm'.out, List.any_append, hno.out]
          simp [hr'.out]
        go_wp2_with fail
        go_roundw
        case rel => exact ⟨k + 1, n', by omega, by go_num, hnext, rfl⟩
        case measure => simp [intOf]; omega
    · have t : ¬ (k : Int) < (M.length : Int) := by omega
      have hfin : Hid (M.any P = false) := by
        have := hno.out
        rw [List.take_of_length_le (by omega)] at this
        exact this
      go_wp2_with fail
      go_ret
      exact ⟨⟨-1, rfl, by rw [hfin.out]; exact decide_eq_false (by decide)⟩, n, rfl⟩

set_option maxRecDepth 100000 in
theorem contains_of {B : Nat} (f : Nat) (cap : List Value) (P : List UInt8 → Bool) (M : List (List UInt8)) (A : Option Addr) (c : Nat) (w : World) (h : Mat w B A M) (hl : M.length ≤ 140737488355328) (hcf : ∀ (args : Array Value) (W : World), (callFunc f args).run Tryd.prog W = .ok (.enter f args) W)
    (HG : ∀ (m : List UInt8) (v : Value) (k : Nat), m ∈ M → RowAt w B v m → Calls Tryd.prog f (v :: cap).toArray (w.drewN k) fun e W' => e = .returned (.bool (P m)) ∧ ∃ k', W' = w.drewN k') :
    Calls Tryd.prog 72 #[.slice A M.length c, .func (.func f) #[] cap.toArray] w fun e w' => e = .returned (.bool (M.any P)) ∧ ∃ k, w' = w.drewN k := by
  have H := Lib.hid (index_of f cap P M A c w h hl hcf HG)
  clear HG h
  go_enter Tryd.func72, Tryd.ntmps72
  go_wp2_with fail
  refine H.out.mono ?_
  rintro e w' ⟨⟨z, rfl, hz⟩, n, rfl⟩
  have hz' := Lib.hid hz
  clear hz
  go_wp2_with fail
  go_ret
  exact ⟨by rw [← hz'.out]; rfl, n, rfl⟩

theorem check1_any (m : List UInt8) (a : Option Addr) (c : Nat) (w : World) : Calls Tryd.prog 73 #[.slice a m.length c] w fun e w' => e = .returned (.bool (decide (48 < m.length))) ∧ w' = w := by
  go_enter Tryd.func73, Tryd.ntmps73
  go_wp2_with fail
  go_ret
  refine ⟨?_, rfl⟩
  show Ending.returned (Value.bool (decide ((48 : Int) < (m.length : Int)))) = _
  congr 2
  exact decide_eq_decide.2 (by omega)
set_option maxRecDepth 100000 in
theorem check2_any {B : Nat} (M : List (List UInt8)) (A : Option Addr) (n c tb : Nat) (m : List UInt8) (a : Option Addr) (c' : Nat) (w : World) (h : Mat w B A M) (hn : n = M.length) (hb : w.cell? ⟨tb, 0, none⟩ = some (.slice A n c)) :
    Calls Tryd.prog 74 #[.slice a m.length c', .pointer (some ⟨tb, 0, none⟩)] w fun e w' => e = .returned (.bool (decide (m.length ≠ cols M))) ∧ w' = w := by
  subst hn
  have H := Lib.hid (columns_any M A c w h)
  clear h
  generalize cols M = q at H
  go_enter Tryd.func74, Tryd.ntmps74
  go_wp2_with fail
  refine H.out.mono ?_
  rintro e w' ⟨rfl, rfl⟩
  go_wp2_with fail
  go_ret
  refine ⟨?_, rfl⟩
  show Ending.returned (Value.bool ((m.length : Int) != (q : Int))) = _
  congr 2
  rw [Bool.eq_iff_iff]
  simp only [bne_iff_ne, ne_eq, decide_eq_true_eq, decide_not, Bool.not_eq_eq_eq_not, Bool.not_true, decide_eq_false_iff_not]
  omega

/-- What Check returns. -/
def chk (M : List (List UInt8)) : Int := if 48 < M.length ∨ (M.any fun m => decide (48 < m.length)) = true then 2 else if (M.any fun m => decide (m.length ≠ cols M)) = true then 1 else 0

set_option maxRecDepth 100000 in
set_option maxHeartbeats 1000000 in
theorem check_any (M : List (List UInt8)) (A : Option Addr) (c : Nat) (w : World) (h : Mat w w.heap.size A M) (hl : M.length ≤ 140737488355328) :
    Calls Tryd.prog 23 #[.slice A M.length c] w fun e w' => e = .returned (.int .i64 (chk M)) ∧ Below w.heap.size w w' := by
  obtain ⟨W1, hW1⟩ : ∃ W1, W1 = w.alloc (.cells #[.slice A M.length c] 22) := ⟨_, rfl⟩
  have hB1 : Hid (Below w.heap.size w W1) := by show Below _ _ _; rw [hW1]; exact (Below.refl _ _).alloc (Nat.le_refl _) _
  have q1 : W1.cell? ⟨w.heap.size, 0, none⟩ = some (.slice A M.length c) := by rw [hW1]; exact (Blk.new w [_] _).cell rfl
  have hM1 : Hid (Mat W1 w.heap.size A M) := h.below hB1.out
  have C1 := Lib.hid (fun n => contains_of 73 [] (fun m => decide (48 < m.length)) M A c (W1.drewN n) hM1.out.drewN hl (enter_of Tryd.func73 (by kernel_rfl) (by kernel_rfl)) (fun m v k _ hr => by
    obtain ⟨a, c', rfl, _⟩ := hr
    exact (check1_any m a c' _).mono fun e w' hh => ⟨hh.1, k, hh.2⟩))
  have C2 := Lib.hid (fun n => contains_of 74 [.pointer (some ⟨w.heap.size, 0, none⟩)] (fun m => decide (m.length ≠ cols M)) M A c (W1.drewN n) hM1.out.drewN hl (enter_of Tryd.func74 (by kernel_rfl) (by kernel_rfl)) (fun m v k _ hr => by
    obtain ⟨a, c', rfl, _⟩ := hr
    exact (check2_any M A M.length c w.heap.size m a c' ((W1.drewN n).drewN k) hM1.out rfl q1).mono fun e w' hh => ⟨hh.1, k, hh.2⟩))
  have hW1' := Lib.hid hW1
  have hmf : ∀ (fn : Fn) (first cap : Array Value) (w : World), (Instr.makeFunc fn first cap).run Tryd.prog w = .ok (.func fn first cap) w := fun _ _ _ _ => rfl
  obtain ⟨r, hr⟩ : ∃ r, r = chk M := ⟨_, rfl⟩
  have hr' := Lib.hid hr
  rw [← hr]
  clear hW1 hr h
  by_cases t0 : (48 : Int) < (M.length : Int)
  · have hf : Hid (r = 2) := by show _ = _; rw [hr'.out]; unfold chk; rw [if_pos (.inl (by omega))]
    go_enter Tryd.func23, Tryd.ntmps23
    go_wp2_with fail
    generalize hg : w.alloc _ = Wg
    have hgW : W1 = Wg := by rw [← hg, hW1'.out]
    clear hg hW1'
    subst hgW
    go_wp2_with fail
    go_ret
    exact ⟨by rw [hf.out]; rfl, hB1.out⟩
  obtain ⟨b1, hb1⟩ : ∃ b, (M.any fun m => decide (48 < m.length)) = b := ⟨_, rfl⟩
  obtain ⟨b2, hb2⟩ : ∃ b, (M.any fun m => decide (m.length ≠ cols M)) = b := ⟨_, rfl⟩
  have hb1' := Lib.hid hb1
  have hb2' := Lib.hid hb2
  rw [hb1] at C1
  rw [hb2] at C2
  have D1 := Lib.hid (C1.out 0)
  have hf : Hid (r = if b1 then 2 else if b2 then 1 else 0) := by
    show _ = _
    rw [hr'.out]
    unfold chk
    rw [hb1'.out, hb2'.out]
    cases b1
    · rw [if_neg (by simp; omega)]; rfl
    · rw [if_pos (.inr rfl)]; rfl
  rw [drewN_zero] at D1
  clear hb1 hb2 C1
  go_enter Tryd.func23, Tryd.ntmps23
  go_wp2_with fail
  generalize hg : w.alloc _ = Wg
  have hgW : W1 = Wg := by rw [← hg, hW1'.out]
  clear hg hW1'
  subst hgW
  refine D1.out.mono ?_
  rintro e w' ⟨rfl, n, rfl⟩
  have hBn : Hid (Below w.heap.size w (W1.drewN n)) := below_drewN hB1.out n
  cases b1 with
  | true =>
    go_wp2_with fail
    go_ret
    exact ⟨by rw [hf.out]; rfl, hBn.out⟩
  | false =>
    have D2 := Lib.hid (C2.out n)
    go_wp2_with fail
    refine D2.out.mono ?_
    rintro e w' ⟨rfl, n', rfl⟩
    have hBn' : Hid (Below w.heap.size w (W1.drewN (n + n'))) := below_drewN hB1.out (n + n')
    cases b2 with
    | true =>
      go_wp2_with fail
      go_ret
      exact ⟨by rw [hf.out]; rfl, hBn'.out⟩
    | false =>
      go_wp2_with fail
      go_ret
      exact ⟨by rw [hf.out]; rfl, hBn'.out⟩
end Go.Proofs.YtfbdhcpclccikaaDoor
