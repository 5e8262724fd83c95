/-
  Contracts of stage 5: Express.
-/
import Derived.Test.YtfbdhcpclccikaaDoorMy
namespace Go.Proofs.YtfbdhcpclccikaaDoor
set_option linter.unusedVariables false
set_option linter.unusedSimpArgs false
open Go.RowKit

theorem matF_rect (F : Nat → Nat → UInt8) (r c : Nat) : Rect (matF F r c) c := fun x hx => by
  unfold matF at hx
  obtain ⟨i, _, rfl⟩ := List.mem_map.1 hx
  exact rowF_len _ _
/-- The system of equations for the coefficients. -/
def expS (R : List (List UInt8)) (row : List UInt8) : List (List UInt8) := matF (fun j k => if k = R.length then row.getD j 0 else el R k j) row.length (R.length + 1)
/-- What Express answers. -/
def expE (R : List (List UInt8)) (row : List UInt8) : Int := if chk R ≠ 0 then chk R else if 48 < row.length then 2 else if 0 < R.length ∧ row.length ≠ cols R then 1 else if badS (expS R row) R.length then 8 else 0
def expL (R : List (List UInt8)) (row : List UInt8) : List UInt8 := if expE R row = 0 then solX (expS R row) R.length else []
/-- What a call that returns a row and an error ends with. -/
def RowRet (w : World) (X : List UInt8) (E : Int) (e : Ending) (w' : World) : Prop :=
  (∃ xv, e = .returned (.tuple #[xv, .int .i64 E]) ∧ RowAt w' w'.heap.size xv X) ∧ Below w.heap.size w w'
theorem RowRet.nothing {w w' : World} {E : Int} (h : Below w.heap.size w w') : RowRet w [] E (.returned (.tuple #[.slice none 0 0, .int .i64 E])) w' :=
  ⟨⟨_, rfl, none, 0, rfl, by simp, by unfold maxLen; decide, fun _ => rfl, Rds.empty⟩, h⟩

set_option maxRecDepth 100000 in
theorem express1_any {B : Nat} (R : List (List UInt8)) (row : List UInt8) (A Ar : Option Addr) (c cr n q nb rb tb j k : Nat) (w : World) (h : Mat w B A R) (hok : Ok R) (hrow : Rds w B Ar (row.map bv)) (hq : q = row.length) (hn : n = R.length) (hs : 0 < R.length → row.length = cols R) (h0 : w.cell? ⟨nb, 0, none⟩ = some (.int .i64 n)) (h1 : w.cell? ⟨rb, 0, none⟩ = some (.slice Ar q cr)) (h2 : w.cell? ⟨tb, 0, none⟩ = some (.slice A n c)) (hj : j < q) (hk : k < n + 1) :
    Calls Tryd.prog 83 #[.int .i64 j, .int .i64 k, .pointer (some ⟨nb, 0, none⟩), .pointer (some ⟨rb, 0, none⟩), .pointer (some ⟨tb, 0, none⟩)] w fun e w' => e = .returned (bv (if k = R.length then row.getD j 0 else el R k j)) ∧ w' = w := by
  have t1 : (j : Int) < (q : Int) := by omega
  have t2 : 0 ≤ (j : Int) := by omega
  by_cases hkn : k = n
  · obtain ⟨x, hx⟩ : ∃ x, row[j]? = some x := ⟨_, List.getElem?_eq_getElem (by omega)⟩
    rw [if_pos (by omega), List.getD_eq_getElem?_getD, hx]
    obtain ⟨a, rfl, _, hc⟩ := hrow.look (k := j) (u := bv x) (by rw [List.getElem?_map, hx]; rfl)
    have e1 : ((k : Int) == (n : Int)) = true := by rw [beq_iff_eq]; omega
    simp only [Option.getD_some]
    unfold bv at hc ⊢
    subst hkn
    clear h hok hrow hq hn hs hj hk hx
    go_enter Tryd.func83, Tryd.ntmps83
    go_wp2_with fail
    go_ret
    exact ⟨rfl, rfl⟩
  · obtain ⟨m, hm, hml, hme⟩ := hok.el (i := k) (j := j) (by omega) (by rw [← hs (by omega), ← hq]; exact hj)
    rw [if_neg (by omega)]
    obtain ⟨ad, a, c', rfl, _, g1, _, g2⟩ := h.head hm hme
    have e1 : ((k : Int) == (n : Int)) = false := by rw [beq_eq_false_iff_ne]; omega
    have t3 : (k : Int) < (n : Int) := by omega
    have t4 : 0 ≤ (k : Int) := by omega
    rw [show m.length = q by rw [hml, ← hs (by omega), ← hq]] at g1
    generalize el R k j = z at g2 ⊢
    unfold bv at g2 ⊢
    clear h hok hrow hq hn hs hj hk hkn hm hml hme
    go_enter Tryd.func83, Tryd.ntmps83
    go_wp2_with fail
    go_ret
    exact ⟨rfl, rfl⟩

set_option maxRecDepth 100000 in
set_option maxHeartbeats 8000000 in
theorem express_any (R : List (List UInt8)) (row : List UInt8) (A Ar : Option Addr) (c cr : Nat) (w : World) (h : Mat w w.heap.size A R) (hrow : Rds w w.heap.size Ar (row.map bv)) (hl : R.length ≤ 100000) (ht : PTab 0 w) (hg0 : 0 < w.heap.size) :
    Calls Tryd.prog 32 #[.slice A R.length c, .slice Ar row.length cr] w (RowRet w (expL R row) (expE R row)) := by
  obtain ⟨E, hE0⟩ : ∃ E, E = expE R row := ⟨_, rfl⟩
  obtain ⟨X, hX0⟩ : ∃ E, E = expL R row := ⟨_, rfl⟩
  rw [← hE0, ← hX0]
  obtain ⟨W1, hW1⟩ : ∃ W1, W1 = (w.alloc (.cells #[.slice A R.length c] 22)).alloc (.cells #[.slice Ar row.length cr] 43) := ⟨_, rfl⟩
  have hB1 : Hid (Below w.heap.size w W1) := by show Below _ _ _; rw [hW1]; exact ((Below.refl _ _).alloc (Nat.le_refl _) _).alloc (by simp) _
  have hK1 : Hid (Blk W1 w.heap.size [.slice A R.length c] 22) := by show Blk _ _ _ _; rw [hW1]; exact (Blk.new w [_] _).alloc _
  have hL1 : Hid (Blk W1 (w.heap.size + 1) [.slice Ar row.length cr] 43) := by show Blk _ _ _ _; rw [hW1]; exact (Blk.new _ [_] _).at (by simp)
  have HM : Hid (∀ W, Below w.heap.size w W → Mat W w.heap.size A R ∧ Rds W w.heap.size Ar (row.map bv) ∧ PTab 0 W) := fun W hB => ⟨h.below hB, hrow.below hB, ht.on hB⟩
  have CK := Lib.hid (check_any R A c W1 ((h.below hB1.out).more hB1.out.size) (by omega))
  have hg := Lib.hid hg0
  obtain ⟨r, hr0⟩ : ∃ r, r = chk R := ⟨_, rfl⟩
  rw [← hr0] at CK
  have hr := Lib.hid hr0
  have hE := Lib.hid hE0
  have hX := Lib.hid hX0
  have hnone : Hid (E ≠ 0 → X = []) := fun hne => by
    rw [hE0] at hne
    rw [hX0]
    unfold expL
    rw [if_neg hne]
  have hW1' := Lib.hid hW1
  have q1 : W1.cell? ⟨w.heap.size, 0, none⟩ = some (.slice A R.length c) := hK1.out.cell rfl
  have hmf : ∀ (fn : Fn) (first cap : Array Value) (w : World), (Instr.makeFunc fn first cap).run Tryd.prog w = .ok (.func fn first cap) w := fun _ _ _ _ => rfl
  clear hW1 h hrow ht hg0 hr0 hE0 hX0
  go_enter Tryd.func32, Tryd.ntmps32
  go_wp2_with fail
  generalize hgg : (w.alloc _).alloc _ = Wg
  have hgW : W1 = Wg := by rw [← hgg, hW1'.out]
  clear hgg hW1'
  subst hgW
  refine CK.out.mono ?_
  rintro e w2 ⟨rfl, hb2⟩
  have hB2 : Hid (Below w.heap.size w w2) := hB1.out.trans (hb2.mono hB1.out.size)
  have hK2 : Hid (Blk w2 w.heap.size [.slice A R.length c] 22) := hK1.out.below hb2 hK1.out.lt
  have hL2 : Hid (Blk w2 (w.heap.size + 1) [.slice Ar row.length cr] 43) := hL1.out.below hb2 hL1.out.lt
  clear hb2 q1
  by_cases h0 : r = 0
  rotate_left
  · have hE' : E = r := by rw [hE.out]; unfold expE; rw [← hr.out, if_pos h0]
    have hXe := hnone.out (by rw [hE']; exact h0)
    subst hXe
    subst hE'
    have t : (E == 0) = false := by simpa using h0
    have hfin := Lib.hid (RowRet.nothing (E := E) hB2.out)
    go_wp2_with fail
    go_ret2
    exact hfin.out
  have hok := Lib.hid (ok_of (by rw [← hr.out]; exact h0))
  subst h0
  have q2 : w2.cell? ⟨w.heap.size + 1, 0, none⟩ = some (.slice Ar row.length cr) := hL2.out.cell rfl
  have q2' : w2.cell? ⟨w.heap.size, 0, none⟩ = some (.slice A R.length c) := hK2.out.cell rfl
  by_cases h48 : 48 < row.length
  · have hE' : E = 2 := by rw [hE.out]; unfold expE; rw [← hr.out, if_neg (by simp), if_pos h48]
    have hXe := hnone.out (by rw [hE']; decide)
    subst hXe
    subst hE'
    have t : (48 : Int) < (row.length : Int) := by omega
    have hfin := Lib.hid (RowRet.nothing (E := 2) hB2.out)
    clear h48
    go_wp2_with fail
    go_ret2
    exact hfin.out
  have t48 : ¬ (48 : Int) < (row.length : Int) := by omega
  obtain ⟨n, hn0⟩ : ∃ n, n = R.length := ⟨_, rfl⟩
  have hn := Lib.hid hn0
  have hn48 : n ≤ 48 := by rw [hn0]; exact hok.out.rows
  obtain ⟨q, hq0⟩ : ∃ n, n = row.length := ⟨_, rfl⟩
  have hq := Lib.hid hq0
  have hq48 : q ≤ 48 := by omega
  obtain ⟨W3, hW3⟩ : ∃ W3, W3 = w2.alloc (.cells #[.int .i64 n] 3) := ⟨_, rfl⟩
  have hN3 : Hid (Nu w2 W3) := by show Nu _ _; rw [hW3]; exact (Below.refl _ _).alloc (Nat.le_refl _) _
  have hnb3 : Hid (Blk W3 w2.heap.size [.int .i64 n] 3) := by show Blk _ _ _ _; rw [hW3]; exact Blk.new _ [_] _
  have hB3 : Hid (Below w.heap.size w W3) := hB2.out.trans (Below.mono hN3.out hB2.out.size)
  have hK3 := Lib.hid (hK2.out.below hN3.out hK2.out.lt)
  have hL3 := Lib.hid (hL2.out.below hN3.out hL2.out.lt)
  have COL := Lib.hid (fun k => columns_any R A c (W3.drewN k) (B := w.heap.size) (HM.out _ hB3.out).1.drewN)
  obtain ⟨cc, hcc0⟩ : ∃ q, q = cols R := ⟨_, rfl⟩
  have hcc := Lib.hid hcc0
  rw [← hcc0] at COL
  have hW3' := Lib.hid hW3
  rw [← hn0] at COL q2' hK3 hK2
  rw [← hq0] at q2 hL3 hL2 t48
  rw [← hn0, ← hq0]
  have c3 : W3.cell? ⟨w2.heap.size, 0, none⟩ = some (.int .i64 n) := hnb3.out.cell rfl
  have c4 : W3.cell? ⟨w.heap.size + 1, 0, none⟩ = some (.slice Ar q cr) := hL3.out.cell rfl
  have c5 : W3.cell? ⟨w.heap.size, 0, none⟩ = some (.slice A n c) := hK3.out.cell rfl
  clear hW3 hcc0 hn0 hq0 h48
  by_cases hbadc : 0 < n ∧ q ≠ cc
  · have hE' : E = 1 := by rw [hE.out]; unfold expE; rw [← hr.out, if_neg (by simp), if_neg (by have := hq.out; omega), if_pos (by rw [← hn.out, ← hq.out, ← hcc.out]; exact hbadc)]
    have hXe := hnone.out (by rw [hE']; decide)
    subst hXe
    subst hE'
    have t : ((q : Int) != (cc : Int)) = true := by simp only [bne_iff_ne, ne_eq]; have := hbadc.2; omega
    have tn : decide (0 < (n : Int)) = true := decide_eq_true (by have := hbadc.1; omega)
    have tn' : decide (0 < n) = true := decide_eq_true hbadc.1
    have hfin := Lib.hid (fun k => RowRet.nothing (E := 1) (below_drewN hB3.out k))
    clear hbadc
    go_wp2_with fail
    generalize hgg : World.alloc _ _ = Wg
    have hgW : W3 = Wg := by rw [← hgg, hW3'.out]
    clear hgg hW3'
    subst hgW
    go_quiet (refine Calls.quiet_of_same ((COL.out _).mono fun e w' hh => hh))
    go_wp2_with fail
    go_ret2
    exact hfin.out _
  have hs : Hid (0 < R.length → row.length = cols R) := fun hp => by
    have := hn.out; have := hq.out; have := hcc.out
    by_cases hqc : q = cc
    · omega
    · exact absurd ⟨by omega, hqc⟩ hbadc
  have REST : Hid (∀ W, Below w.heap.size w W → Blk W w.heap.size [.slice A n c] 22 → Blk W (w.heap.size + 1) [.slice Ar q cr] 43 → Blk W w2.heap.size [.int .i64 n] 3 →
      Calls Tryd.prog 67 #[.int .i64 q, .int .i64 ((n + 1 : Nat) : Int), .func (.func 83) #[] #[.pointer (some ⟨w2.heap.size, 0, none⟩), .pointer (some ⟨w.heap.size + 1, 0, none⟩), .pointer (some ⟨w.heap.size, 0, none⟩)]] W (MatEnd W q (expS R row))) := fun W hB k1 k2 k3 => by
    have h := build_of 83 [.pointer (some ⟨w2.heap.size, 0, none⟩), .pointer (some ⟨w.heap.size + 1, 0, none⟩), .pointer (some ⟨w.heap.size, 0, none⟩)] (fun j k => if k = R.length then row.getD j 0 else el R k j) q (n + 1) W (by omega) (by omega) (enter_of Tryd.func83 (by kernel_rfl) (by kernel_rfl)) (fun j k hj hk W' hB' => by
      obtain ⟨m1, m2, _⟩ := HM.out W' (hB.trans (hB'.mono hB.size))
      exact (express1_any R row A Ar c cr n q w2.heap.size (w.heap.size + 1) w.heap.size j k W' m1 hok.out m2 hq.out hn.out hs.out ((k3.below hB' k3.lt).cell rfl) ((k2.below hB' k2.lt).cell rfl) ((k1.below hB' k1.lt).cell rfl) hj hk).mono fun e w' hh => ⟨hh.1, 0, hh.2⟩)
    rw [hq.out, hn.out] at h ⊢
    exact h
  have SOLV : Hid (∀ W g bs base, Om W base g bs (expS R row) [] → Below w.heap.size w W → w.heap.size ≤ base → Calls Tryd.prog 78 #[.slice (some ⟨g, 0, none⟩) q q, .int .i64 n] W (SolEnd W base g bs (expS R row) n)) := fun W g bs base hO hB hb => by
    have hl : (expS R row).length = q := by unfold expS; rw [matF_len]; exact hq.out.symm
    have h := solution_any (expS R row) bs g base n W hO (by unfold expS; rw [hn.out]; exact matF_rect _ _ _) (by omega) (by rw [hl]; omega) (HM.out W hB).2.2 (Nat.lt_of_lt_of_le hg.out hb)
    rw [hl] at h
    exact h
  have FIN : Hid (∀ W g bs base e w', w.heap.size ≤ base → Below w.heap.size w W → (∀ x ∈ g :: bs, base ≤ x) → SolEnd W base g bs (expS R row) n e w' → ∃ xv vp EE, e = .returned (.tuple #[xv, vp, .int .i64 EE]) ∧ RowRet w X E (.returned (.tuple #[xv, .int .i64 EE])) w') := fun W g bs base e w' hb hB hgs hS => by
    obtain ⟨bs', _, _, hC, hcase⟩ := hS
    have hBe : Below w.heap.size w w' := hB.trans (hC.below (fun x hx => Nat.le_trans hb (hgs x hx)) hB.size)
    have hEE : E = if badS (expS R row) n then 8 else 0 := by
      rw [hE.out]
      unfold expE
      rw [← hr.out, if_neg (by simp), if_neg (by have := hq.out; omega), if_neg (by rw [← hn.out, ← hq.out, ← hcc.out]; exact hbadc), ← hn.out]
    rcases hcase with ⟨hbd, rfl⟩ | ⟨hbd, xb, vp, rfl, _, hxb, hk, _⟩
    · have hE8 : E = 8 := by rw [hEE, if_pos hbd]
      refine ⟨_, _, _, rfl, ?_⟩
      rw [hnone.out (by rw [hE8]; decide), hE8]
      exact RowRet.nothing hBe
    · have hE0 : E = 0 := by rw [hEE, if_neg (by rw [hbd]; simp)]
      have hXe : X = solX (expS R row) n := by rw [hX.out]; unfold expL; rw [if_pos (by rw [← hE.out]; exact hE0), ← hn.out]
      refine ⟨_, _, _, rfl, ⟨_, by rw [hE0], ?_⟩, hBe⟩
      rw [hXe]
      have hxl : (solX (expS R row) n).length = n := by unfold solX; rw [setP_len]; simp
      refine ⟨some ⟨xb, 0, none⟩, n, by rw [hxl], by rw [hxl]; exact Nat.le_refl _, by unfold maxLen; omega, (fun hh => by cases hh), ?_⟩
      have hh := hk.rds 0 n
      rw [List.drop_zero, List.take_of_length_le (by rw [List.length_map, hxl]; exact Nat.le_refl _)] at hh
      exact hh
  have tail : Hid (∀ k, Below w.heap.size w (W3.drewN k) ∧ Blk (W3.drewN k) w.heap.size [.slice A n c] 22 ∧ Blk (W3.drewN k) (w.heap.size + 1) [.slice Ar q cr] 43 ∧ Blk (W3.drewN k) w2.heap.size [.int .i64 n] 3) := fun k => ⟨below_drewN hB3.out k, hK3.out, hL3.out, hnb3.out⟩
  obtain ⟨n1, hn1⟩ : ∃ k, k = n + 1 := ⟨_, rfl⟩
  have en : (n : Int) + 1 = (n1 : Int) := by omega
  rw [← hn1] at REST
  clear hn1
  have hbad' := Lib.hid hbadc
  rcases Nat.eq_zero_or_pos n with hn0 | hn0
  · have tn : decide (0 < (n : Int)) = false := decide_eq_false (by omega)
    have tn' : decide (0 < n) = false := decide_eq_false (by omega)
    have hn0' := Lib.hid hn0
    clear hbadc hn0
    go_wp2_with fail
    generalize hgg : World.alloc _ _ = Wg
    have hgW : W3 = Wg := by rw [← hgg, hW3'.out]
    clear hgg hW3'
    subst hgW
    go_quiet (refine Calls.quiet_of_same ((COL.out _).mono fun e w' hh => hh))
    obtain ⟨w4, hw4⟩ : ∃ w4, w4 = W3.drewN nq := ⟨_, rfl⟩
    obtain ⟨hB40, hK40, hL40, hn40⟩ := tail.out nq
    rw [← hw4] at hB40 hK40 hL40 hn40 ⊢
    have BB := Lib.hid (REST.out w4 hB40 hK40 hL40 hn40)
    have d1 : w4.cell? ⟨w2.heap.size, 0, none⟩ = some (.int .i64 n) := hn40.cell rfl
    have d2 : w4.cell? ⟨w.heap.size + 1, 0, none⟩ = some (.slice Ar q cr) := hL40.cell rfl
    have hB4 := Lib.hid hB40
    have hn4 := Lib.hid hn40
    clear hB40 hK40 hL40 hn40 hw4 c3 c4 c5 q2 q2'
    go_wp2_with fail
    refine BB.out.mono ?_
    rintro e w5 ⟨⟨g, bs, rfl, hO50⟩, hb5⟩
    have hO5 := Lib.hid hO50
    have hB5 := Lib.hid (hB4.out.trans (hb5.mono hB4.out.size))
    have d5 : w5.cell? ⟨w2.heap.size, 0, none⟩ = some (.int .i64 n) := (hn4.out.below hb5 hn4.out.lt).cell rfl
    have SOL := Lib.hid (SOLV.out w5 g bs w4.heap.size hO5.out hB5.out hB4.out.size)
    have hgsb : Hid (∀ x ∈ g :: bs, w4.heap.size ≤ x) := fun x hx => by
      rcases List.mem_cons.1 hx with rfl | hx
      · exact hO5.out.low
      · exact hO5.out.lows x hx
    clear hO50 hb5 d1 d2
    go_wp2_with fail
    refine SOL.out.mono ?_
    rintro e w6 hS
    obtain ⟨xv, vp, EE, rfl, hfin0⟩ := FIN.out w5 g bs w4.heap.size e w6 hB4.out.size hB5.out hgsb.out hS
    have hfin := Lib.hid hfin0
    clear hfin0 hS d5
    go_wp2_with fail
    go_ret2
    exact hfin.out
  · have tn : decide (0 < (n : Int)) = true := decide_eq_true (by omega)
    have tn' : decide (0 < n) = true := decide_eq_true (by omega)
    have hqc : Hid (q = cc) := by
      by_cases hqc : q = cc
      · exact hqc
      · exact absurd ⟨by omega, hqc⟩ hbadc
    have t : ((q : Int) != (cc : Int)) = false := by simp only [bne_eq_false_iff_eq]; have := hqc.out; omega
    clear hbadc hn0
    go_wp2_with fail
    generalize hgg : World.alloc _ _ = Wg
    have hgW : W3 = Wg := by rw [← hgg, hW3'.out]
    clear hgg hW3'
    subst hgW
    go_quiet (refine Calls.quiet_of_same ((COL.out _).mono fun e w' hh => hh))
    obtain ⟨w4, hw4⟩ : ∃ w4, w4 = W3.drewN nq := ⟨_, rfl⟩
    obtain ⟨hB40, hK40, hL40, hn40⟩ := tail.out nq
    rw [← hw4] at hB40 hK40 hL40 hn40 ⊢
    have BB := Lib.hid (REST.out w4 hB40 hK40 hL40 hn40)
    have d1 : w4.cell? ⟨w2.heap.size, 0, none⟩ = some (.int .i64 n) := hn40.cell rfl
    have d2 : w4.cell? ⟨w.heap.size + 1, 0, none⟩ = some (.slice Ar q cr) := hL40.cell rfl
    have hB4 := Lib.hid hB40
    have hn4 := Lib.hid hn40
    clear hB40 hK40 hL40 hn40 hw4 c3 c4 c5 q2 q2'
    go_wp2_with fail
    refine BB.out.mono ?_
    rintro e w5 ⟨⟨g, bs, rfl, hO50⟩, hb5⟩
    have hO5 := Lib.hid hO50
    have hB5 := Lib.hid (hB4.out.trans (hb5.mono hB4.out.size))
    have d5 : w5.cell? ⟨w2.heap.size, 0, none⟩ = some (.int .i64 n) := (hn4.out.below hb5 hn4.out.lt).cell rfl
    have SOL := Lib.hid (SOLV.out w5 g bs w4.heap.size hO5.out hB5.out hB4.out.size)
    have hgsb : Hid (∀ x ∈ g :: bs, w4.heap.size ≤ x) := fun x hx => by
      rcases List.mem_cons.1 hx with rfl | hx
      · exact hO5.out.low
      · exact hO5.out.lows x hx
    clear hO50 hb5 d1 d2
    go_wp2_with fail
    refine SOL.out.mono ?_
    rintro e w6 hS
    obtain ⟨xv, vp, EE, rfl, hfin0⟩ := FIN.out w5 g bs w4.heap.size e w6 hB4.out.size hB5.out hgsb.out hS
    have hfin := Lib.hid hfin0
    clear hfin0 hS d5
    go_wp2_with fail
    go_ret2
    exact hfin.out
end Go.Proofs.YtfbdhcpclccikaaDoor
