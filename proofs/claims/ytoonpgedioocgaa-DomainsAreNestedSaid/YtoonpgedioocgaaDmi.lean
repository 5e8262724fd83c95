/-
  Stage 10 (domain): the reference's Check.
-/
import Derived.Test.YtoonpgedioocgaaDmd
import Derived.Deep.LoopGhost
namespace Go.Proofs.Ytoonpgedioocgaa
set_option linter.unusedVariables false
set_option linter.unusedSimpArgs false
open Go.RowKit

theorem Dm.chk_D {d : Dm} (h : ¬ d.many) {k : Nat} (hk : k < d.D.length) (hb : inB (d.rk k) d.R.length = false) : d.chk = 1 := by
  rw [Dm.chk_few h, if_pos]
  unfold Dm.badD
  rw [List.any_eq_true]
  exact ⟨d.rk k, by unfold Dm.rk; rw [List.getD_eq_getElem?_getD, List.getElem?_eq_getElem hk]; exact List.getElem_mem hk, by rw [hb]; rfl⟩
theorem Dm.chk_R {d : Dm} (h : ¬ d.many) {k : Nat} (hk : k < d.R.length) (hb : inB (d.hsR k) d.H.length = false) : d.chk = 1 := by
  rw [Dm.chk_few h]
  by_cases h1 : d.badD = true
  · rw [if_pos h1]
  rw [if_neg h1, if_pos]
  unfold Dm.badR
  rw [List.any_eq_true]
  refine ⟨d.R.getD k (0, false), by rw [List.getD_eq_getElem?_getD, List.getElem?_eq_getElem hk]; exact List.getElem_mem hk, ?_⟩
  unfold Dm.hsR at hb
  rw [Int.toNat_natCast] at hb
  rw [hb]; rfl
theorem Dm.chk_H {d : Dm} (h : ¬ d.many) {k : Nat} (hk : k < d.H.length) (hb : inB (d.owH k) d.O = false) : d.chk = 1 := by
  rw [Dm.chk_few h]
  by_cases h1 : d.badD = true
  · rw [if_pos h1]
  rw [if_neg h1]
  by_cases h2 : d.badR = true
  · rw [if_pos h2]
  rw [if_neg h2, if_pos]
  unfold Dm.badH
  rw [List.any_eq_true]
  refine ⟨d.H.getD k 0, by rw [List.getD_eq_getElem?_getD, List.getElem?_eq_getElem hk]; exact List.getElem_mem hk, ?_⟩
  unfold Dm.owH at hb
  rw [Int.toNat_natCast] at hb
  rw [hb]; rfl
theorem Dm.chk_ok {d : Dm} (h : ¬ d.many) (h1 : ∀ k : Nat, k < d.D.length → inB (d.rk k) d.R.length = true) (h2 : ∀ k : Nat, k < d.R.length → inB (d.hsR k) d.H.length = true) (h3 : ∀ k : Nat, k < d.H.length → inB (d.owH k) d.O = true) : d.chk = 0 := by
  rw [Dm.chk_few h]
  have e1 : d.badD = false := by
    unfold Dm.badD
    rw [List.any_eq_false]
    intro x hx
    obtain ⟨k, hk, rfl⟩ := List.getElem_of_mem hx
    have := h1 k hk
    unfold Dm.rk at this
    rw [List.getD_eq_getElem?_getD, List.getElem?_eq_getElem hk] at this
    simpa using this
  have e2 : d.badR = false := by
    unfold Dm.badR
    rw [List.any_eq_false]
    intro x hx
    obtain ⟨k, hk, rfl⟩ := List.getElem_of_mem hx
    have := h2 k hk
    unfold Dm.hsR at this
    rw [Int.toNat_natCast, List.getD_eq_getElem?_getD, List.getElem?_eq_getElem hk] at this
    simpa using this
  have e3 : d.badH = false := by
    unfold Dm.badH
    rw [List.any_eq_false]
    intro x hx
    obtain ⟨k, hk, rfl⟩ := List.getElem_of_mem hx
    have := h3 k hk
    unfold Dm.owH at this
    rw [Int.toNat_natCast, List.getD_eq_getElem?_getD, List.getElem?_eq_getElem hk] at this
    simpa using this
  rw [e1, e2, e3]; rfl
theorem all_next {P : Nat → Prop} {k : Nat} (no : ∀ l : Nat, l < k → P l) (h : P k) : ∀ l : Nat, l < k + 1 → P l := fun l hl => by
  by_cases e : l = k
  · rw [e]; exact h
  · exact no l (by omega)

set_option maxRecDepth 100000 in
set_option maxHeartbeats 8000000 in
theorem rcheck_any {B : Nat} (h : Hd) (d : Dm) (w : World) (m : DomM w B h d) :
    Calls Try.prog 17 #[h.val] w fun e w' => e = .returned (.int .i64 d.chk) ∧ Below w.heap.size w w' := by
  obtain ⟨W1, hW1⟩ : ∃ W1, W1 = w.alloc (.cells h.cells.toArray 25) := ⟨_, rfl⟩
  have hB1 : Hid (Below w.heap.size w W1) := by show Below _ _ _; rw [hW1]; exact (Below.refl _ _).alloc (Nat.le_refl _) _
  have hR1 : Hid (Blk W1 w.heap.size h.cells 25) := by show Blk _ _ _ _; rw [hW1]; exact Blk.new _ _ _
  have hm1 := Lib.hid (m.below hB1.out)
  have p0 : ∀ n, (W1.drewN n).cell? ⟨w.heap.size, 0, none⟩ = some (.slice h.a1 h.n1 h.c1) := fun n => hR1.out.cell (j := 0) rfl
  have p1 : ∀ n, (W1.drewN n).cell? ⟨w.heap.size, 1, none⟩ = some (.slice h.a2 h.n2 h.c2) := fun n => hR1.out.cell (j := 1) rfl
  have p2 : ∀ n, (W1.drewN n).cell? ⟨w.heap.size, 2, none⟩ = some (.slice h.a3 h.n3 h.c3) := fun n => hR1.out.cell (j := 2) rfl
  have p3 : ∀ n, (W1.drewN n).cell? ⟨w.heap.size, 3, none⟩ = some (.int .i64 h.o) := fun n => hR1.out.cell (j := 3) rfl
  have q0 : W1.cell? ⟨w.heap.size, 0, none⟩ = some (.slice h.a1 h.n1 h.c1) := p0 0
  have q1 : W1.cell? ⟨w.heap.size, 1, none⟩ = some (.slice h.a2 h.n2 h.c2) := p1 0
  have q2 : W1.cell? ⟨w.heap.size, 2, none⟩ = some (.slice h.a3 h.n3 h.c3) := p2 0
  have q3 : W1.cell? ⟨w.heap.size, 3, none⟩ = some (.int .i64 h.o) := p3 0
  have hW1' := Lib.hid hW1
  obtain ⟨Ex, hEx⟩ : ∃ E : Int, E = d.chk := ⟨_, rfl⟩
  rw [← hEx]
  have hmany : Hid (d.many ↔ 64 < h.n1 ∨ 24 < h.n2 ∨ 12 < h.n3 ∨ h.o < 0 ∨ 8 < h.o) := by
    show _ ↔ _
    unfold Dm.many
    rw [m.l1, m.l2, m.l3, m.eo]
  have hE := Lib.hid hEx
  have hBn : Hid (∀ n, Below w.heap.size w (W1.drewN n)) := fun n => below_drewN hB1.out n
  unfold Hd.cells at hW1'
  clear hEx m hW1 hR1
  obtain ⟨a1, n1, c1, a2, n2, c2, a3, n3, c3, o⟩ := h
  dsimp only at *
  unfold Hd.val
  dsimp only
  by_cases hM : 64 < n1 ∨ 24 < n2 ∨ 12 < n3 ∨ o < 0 ∨ 8 < o
  · have hz : Hid (Ex = 2) := by show _ = _; rw [hE.out]; exact Dm.chk_many (hmany.out.2 hM)
    clear hE hmany
    by_cases h1 : (64 : Int) < (n1 : Int)
    · go_enter Try.func17, Try.ntmps17
      go_wp2_with fail
      generalize hg : w.alloc _ = Wg
      have hgW : W1 = Wg := by rw [← hg, hW1'.out]
      clear hg hW1'
      subst hgW
      go_wp2_with fail
      go_ret
      exact ⟨by rw [hz.out]; rfl, hB1.out⟩
    by_cases h2 : (24 : Int) < (n2 : Int)
    · go_enter Try.func17, Try.ntmps17
      go_wp2_with fail
      generalize hg : w.alloc _ = Wg
      have hgW : W1 = Wg := by rw [← hg, hW1'.out]
      clear hg hW1'
      subst hgW
      go_wp2_with fail
      go_ret
      exact ⟨by rw [hz.out]; rfl, hB1.out⟩
    by_cases h3 : (12 : Int) < (n3 : Int)
    · go_enter Try.func17, Try.ntmps17
      go_wp2_with fail
      generalize hg : w.alloc _ = Wg
      have hgW : W1 = Wg := by rw [← hg, hW1'.out]
      clear hg hW1'
      subst hgW
      go_wp2_with fail
      go_ret
      exact ⟨by rw [hz.out]; rfl, hB1.out⟩
    by_cases h4 : o < 0
    · go_enter Try.func17, Try.ntmps17
      go_wp2_with fail
      generalize hg : w.alloc _ = Wg
      have hgW : W1 = Wg := by rw [← hg, hW1'.out]
      clear hg hW1'
      subst hgW
      go_wp2_with fail
      go_ret
      exact ⟨by rw [hz.out]; rfl, hB1.out⟩
    have h5 : 8 < o := by omega
    go_enter Try.func17, Try.ntmps17
    go_wp2_with fail
    generalize hg : w.alloc _ = Wg
    have hgW : W1 = Wg := by rw [← hg, hW1'.out]
    clear hg hW1'
    subst hgW
    go_wp2_with fail
    go_ret
    exact ⟨by rw [hz.out]; rfl, hB1.out⟩
  have h1 : ¬ (64 : Int) < (n1 : Int) := by omega
  have h2 : ¬ (24 : Int) < (n2 : Int) := by omega
  have h3 : ¬ (12 : Int) < (n3 : Int) := by omega
  have h4 : ¬ o < 0 := by omega
  have h5 : ¬ 8 < o := by omega
  have hmn : Hid (¬ d.many) := fun hh => hM (hmany.out.1 hh)
  clear hmany hM
  have hl1 : Hid (n1 = d.D.length) := hm1.out.l1
  have hl2 : Hid (n2 = d.R.length) := hm1.out.l2
  have hl3 : Hid (n3 = d.H.length) := hm1.out.l3
  have hlo : Hid (o = d.O) := hm1.out.eo
  go_enter Try.func17, Try.ntmps17
  go_wp2_with fail
  generalize hg : w.alloc _ = Wg
  have hgW : W1 = Wg := by rw [← hg, hW1'.out]
  clear hg hW1'
  subst hgW
  go_wp2_with fail
  go_loopw [3] (fun i wr => ∃ k n : Nat, k ≤ n1 ∧ i = .int .i64 k ∧ Hid (∀ j : Nat, j < k → inB (d.rk j) d.R.length = true) ∧ wr = W1.drewN n) (fun i _ => n1 - (intOf i).toNat)
  case atStart => exact ⟨0, 0, by omega, rfl, fun j hj => by omega, rfl⟩
  case round =>
    obtain ⟨k, n, hk, rfl, hno, rfl⟩ := hrel
    by_cases hlt : k < n1
    · have t : (k : Int) < (n1 : Int) := by omega
      have t0 : 0 ≤ (k : Int) := by omega
      obtain ⟨ad, e, _, hc⟩ := hm1.out.disk (k := k) (by rw [← hl1.out]; exact hlt)
      dsimp only at e
      subst e
      have hcn : ∀ n, (W1.drewN n).cell? (ad.add k) = some (.int .i64 (d.rk k)) := fun n => hc
      obtain ⟨x, hx0⟩ : ∃ x, x = d.rk k := ⟨_, rfl⟩
      rw [← hx0] at hcn
      have hx := Lib.hid hx0
      clear hc hx0
      by_cases u1 : x < 0
      · have hz : Hid (Ex = 1) := by show _ = _; rw [hE.out]; exact Dm.chk_D hmn.out (by rw [← hl1.out]; exact hlt) (inB_not.2 (.inl (by rw [← hx.out]; exact u1)))
        have b1 : decide (x < 0) = true := decide_eq_true u1
        go_wp2_with fail
        go_quiet (fail)
        go_wp2
        go_ret
        exact ⟨by rw [hz.out]; rfl, below_drewN (hBn.out _) _⟩
      · have b1 : decide (x < 0) = false := decide_eq_false u1
        by_cases u2 : (n2 : Int) ≤ x
        · have hz : Hid (Ex = 1) := by show _ = _; rw [hE.out]; exact Dm.chk_D hmn.out (by rw [← hl1.out]; exact hlt) (inB_not.2 (.inr (by rw [← hx.out, ← hl2.out]; exact u2)))
          have b2 : decide ((n2 : Int) ≤ x) = true := decide_eq_true u2
          go_wp2_with fail
          go_quiet (fail)
          go_wp2
          go_ret
          exact ⟨by rw [hz.out]; rfl, below_drewN (hBn.out _) _⟩
        · have b2 : decide ((n2 : Int) ≤ x) = false := decide_eq_false u2
          have hnx : Hid (∀ j : Nat, j < k + 1 → inB (d.rk j) d.R.length = true) := all_next (P := fun j => inB (d.rk j) d.R.length = true) hno.out (inB_iff.2 ⟨by rw [← hx.out]; omega, by rw [← hx.out, ← hl2.out]; omega⟩)
          go_wp2_with fail
          go_quiet (fail)
          go_wp2
          go_roundw
          case rel => exact ⟨k + 1, _, by omega, by go_num, hnx, by first | rfl | (go_simp; done) | (go_simp; rfl)⟩
          case measure => simp [intOf]; omega
    · have t : ¬ (k : Int) < (n1 : Int) := by omega
      obtain rfl : k = n1 := by omega
      have hD : Hid (∀ j : Nat, j < d.D.length → inB (d.rk j) d.R.length = true) := fun j hj => hno.out j (by rw [hl1.out]; exact hj)
      clear hno
      go_wp2_with fail
      go_loopw [4] (fun i wr => ∃ k n : Nat, k ≤ n2 ∧ i = .int .i64 k ∧ Hid (∀ j : Nat, j < k → inB (d.hsR j) d.H.length = true) ∧ wr = W1.drewN n) (fun i _ => n2 - (intOf i).toNat)
      case atStart => exact ⟨0, n, by omega, rfl, fun j hj => by omega, rfl⟩
      case round =>
        clear n
        obtain ⟨k, n, hk, rfl, hno, rfl⟩ := hrel
        by_cases hlt : k < n2
        · have t : (k : Int) < (n2 : Int) := by omega
          have t0 : 0 ≤ (k : Int) := by omega
          obtain ⟨ad, e, _, hc, _⟩ := hm1.out.rack (k := k) (by rw [← hl2.out]; exact hlt)
          dsimp only at e
          subst e
          have hcn : ∀ n, (W1.drewN n).cell? (ad.add (k * 2)) = some (.int .i64 (d.hsR k)) := fun n => hc
          obtain ⟨x, hx0⟩ : ∃ x, x = d.hsR k := ⟨_, rfl⟩
          rw [← hx0] at hcn
          have hx := Lib.hid hx0
          clear hc hx0
          by_cases u1 : x < 0
          · have hz : Hid (Ex = 1) := by show _ = _; rw [hE.out]; exact Dm.chk_R hmn.out (by rw [← hl2.out]; exact hlt) (inB_not.2 (.inl (by rw [← hx.out]; exact u1)))
            have b1 : decide (x < 0) = true := decide_eq_true u1
            go_wp2_with fail
            go_quiet (fail)
            go_wp2
            go_ret
            exact ⟨by rw [hz.out]; rfl, below_drewN (hBn.out _) _⟩
          · have b1 : decide (x < 0) = false := decide_eq_false u1
            by_cases u2 : (n3 : Int) ≤ x
            · have hz : Hid (Ex = 1) := by show _ = _; rw [hE.out]; exact Dm.chk_R hmn.out (by rw [← hl2.out]; exact hlt) (inB_not.2 (.inr (by rw [← hx.out, ← hl3.out]; exact u2)))
              have b2 : decide ((n3 : Int) ≤ x) = true := decide_eq_true u2
              go_wp2_with fail
              go_quiet (fail)
              go_wp2
              go_ret
              exact ⟨by rw [hz.out]; rfl, below_drewN (hBn.out _) _⟩
            · have b2 : decide ((n3 : Int) ≤ x) = false := decide_eq_false u2
              have hnx : Hid (∀ j : Nat, j < k + 1 → inB (d.hsR j) d.H.length = true) := all_next (P := fun j => inB (d.hsR j) d.H.length = true) hno.out (inB_iff.2 ⟨by rw [← hx.out]; omega, by rw [← hx.out, ← hl3.out]; omega⟩)
              go_wp2_with fail
              go_quiet (fail)
              go_wp2
              go_roundw
              case rel => exact ⟨k + 1, _, by omega, by go_num, hnx, by first | rfl | (go_simp; done) | (go_simp; rfl)⟩
              case measure => simp [intOf]; omega
        · have t : ¬ (k : Int) < (n2 : Int) := by omega
          obtain rfl : k = n2 := by omega
          have hRk : Hid (∀ j : Nat, j < d.R.length → inB (d.hsR j) d.H.length = true) := fun j hj => hno.out j (by rw [hl2.out]; exact hj)
          clear hno
          go_wp2_with fail
          go_loopw [5] (fun i wr => ∃ k n : Nat, k ≤ n3 ∧ i = .int .i64 k ∧ Hid (∀ j : Nat, j < k → inB (d.owH j) d.O = true) ∧ wr = W1.drewN n) (fun i _ => n3 - (intOf i).toNat)
          case atStart => exact ⟨0, n, by omega, rfl, fun j hj => by omega, rfl⟩
          case round =>
            clear n
            obtain ⟨k, n, hk, rfl, hno, rfl⟩ := hrel
            by_cases hlt : k < n3
            · have t : (k : Int) < (n3 : Int) := by omega
              have t0 : 0 ≤ (k : Int) := by omega
              obtain ⟨ad, e, _, hc⟩ := hm1.out.house (k := k) (by rw [← hl3.out]; exact hlt)
              dsimp only at e
              subst e
              have hcn : ∀ n, (W1.drewN n).cell? (ad.add k) = some (.int .i64 (d.owH k)) := fun n => hc
              obtain ⟨x, hx0⟩ : ∃ x, x = d.owH k := ⟨_, rfl⟩
              rw [← hx0] at hcn
              have hx := Lib.hid hx0
              clear hc hx0
              by_cases u1 : x < 0
              · have hz : Hid (Ex = 1) := by show _ = _; rw [hE.out]; exact Dm.chk_H hmn.out (by rw [← hl3.out]; exact hlt) (inB_not.2 (.inl (by rw [← hx.out]; exact u1)))
                have b1 : decide (x < 0) = true := decide_eq_true u1
                go_wp2_with fail
                go_quiet (fail)
                go_wp2
                go_ret
                exact ⟨by rw [hz.out]; rfl, below_drewN (hBn.out _) _⟩
              · have b1 : decide (x < 0) = false := decide_eq_false u1
                by_cases u2 : o ≤ x
                · have hz : Hid (Ex = 1) := by show _ = _; rw [hE.out]; exact Dm.chk_H hmn.out (by rw [← hl3.out]; exact hlt) (inB_not.2 (.inr (by rw [← hx.out, ← hlo.out]; exact u2)))
                  have b2 : decide (o ≤ x) = true := decide_eq_true u2
                  go_wp2_with fail
                  go_quiet (fail)
                  go_wp2
                  go_ret
                  exact ⟨by rw [hz.out]; rfl, below_drewN (hBn.out _) _⟩
                · have b2 : decide (o ≤ x) = false := decide_eq_false u2
                  have hnx : Hid (∀ j : Nat, j < k + 1 → inB (d.owH j) d.O = true) := all_next (P := fun j => inB (d.owH j) d.O = true) hno.out (inB_iff.2 ⟨by rw [← hx.out]; omega, by rw [← hx.out, ← hlo.out]; omega⟩)
                  go_wp2_with fail
                  go_quiet (fail)
                  go_wp2
                  go_roundw
                  case rel => exact ⟨k + 1, _, by omega, by go_num, hnx, by first | rfl | (go_simp; done) | (go_simp; rfl)⟩
                  case measure => simp [intOf]; omega
            · have t : ¬ (k : Int) < (n3 : Int) := by omega
              obtain rfl : k = n3 := by omega
              have hz : Hid (Ex = 0) := by show _ = _; rw [hE.out]; exact Dm.chk_ok hmn.out hD.out hRk.out (fun j hj => hno.out j (by rw [hl3.out]; exact hj))
              go_wp2_with fail
              go_ret
              exact ⟨by rw [hz.out]; rfl, hBn.out _⟩
end Go.Proofs.Ytoonpgedioocgaa
