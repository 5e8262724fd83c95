/-
  Stage 10 (domain): the walk of DomainsChange. (Written by tools/gendnc.py.)
-/
import Derived.Test.YtoonpgedioocgaaDmy
import Derived.Test.YtoonpgedioocgaaDmv
import Derived.Test.YtoonpgedioocgaaDna
import Derived.Deep.CutRange
namespace Go.Proofs.Ytoonpgedioocgaa
set_option linter.unusedVariables false
set_option linter.unusedSimpArgs false
open Go.RowKit

theorem sellFit {d : Dm} (f : DmFit d) {b : Int} (hb : Wm.Fits b) (a : Int) : DmFit (d.sellD a b) := by
  unfold Dm.sellD
  split
  · refine ⟨f.f1, f.f2, fun x hx => ?_, f.f4, f.l1, f.l2, by simpa using f.l3⟩
    rcases List.mem_or_eq_of_mem_set hx with hx | rfl
    · exact f.f3 x hx
    · exact hb
  · exact none_fit
theorem shipFit {d : Dm} (f : DmFit d) {b : Int} (hb : Wm.Fits b) (a : Int) : DmFit (d.shipD a b) := by
  unfold Dm.shipD
  split
  · refine ⟨f.f1, fun x hx => ?_, f.f3, f.f4, f.l1, by simpa using f.l2, f.l3⟩
    rcases List.mem_or_eq_of_mem_set hx with hx | rfl
    · exact f.f2 x hx
    · exact hb
  · exact none_fit
/-- What the reference's Sell and Ship return. -/
def Hd.chg (h : Hd) (e : Int) : Value := .agg #[.slice h.a1 h.n1 h.c1, .slice h.a2 h.n2 h.c2, .slice h.a3 h.n3 h.c3, .int .i64 h.o, .int .i64 e]
section
variable {B : Nat} {w : World} {h : Hd} {d : Dm} {a b : Int}
theorem sellV (ha : Wm.Fits a) (hb : Wm.Fits b) (m : DomM w B h d) : Calls Try.prog 23 #[h.val, .int .i64 a, .int .i64 b] w fun e w' => ∃ h' : Hd, e = .returned (.tuple #[h'.val, .int .i64 (d.sellE a b)]) ∧ DomM w' w'.heap.size h' (d.sellD a b) ∧ Below w.heap.size w w' := by
  refine (dsell_any h d a b w m ha hb).mono ?_
  rintro e w' ⟨v1, v2, v3, rfl, o, hb'⟩
  obtain ⟨h', rfl, rfl, rfl, eo, m'⟩ := o.dom (sellFit m.fit hb a)
  exact ⟨h', by unfold Hd.val; rw [eo], m', hb'⟩
theorem shipV (ha : Wm.Fits a) (hb : Wm.Fits b) (m : DomM w B h d) : Calls Try.prog 24 #[h.val, .int .i64 a, .int .i64 b] w fun e w' => ∃ h' : Hd, e = .returned (.tuple #[h'.val, .int .i64 (d.shipE a b)]) ∧ DomM w' w'.heap.size h' (d.shipD a b) ∧ Below w.heap.size w w' := by
  refine (dship_any h d a b w m ha hb).mono ?_
  rintro e w' ⟨v1, v2, v3, rfl, o, hb'⟩
  obtain ⟨h', rfl, rfl, rfl, eo, m'⟩ := o.dom (shipFit m.fit hb a)
  exact ⟨h', by unfold Hd.val; rw [eo], m', hb'⟩
theorem rsellV (ha : Wm.Fits a) (hb : Wm.Fits b) (m : DomM w B h d) : Calls Try.prog 25 #[h.val, .int .i64 a, .int .i64 b] w fun e w' => ∃ h' : Hd, e = .returned (h'.chg (d.sellE a b)) ∧ DomM w' w'.heap.size h' (d.sellD a b) ∧ Below w.heap.size w w' := by
  refine (rsell_any h d a b w m ha hb).mono ?_
  rintro e w' ⟨v1, v2, v3, rfl, o, hb'⟩
  obtain ⟨h', rfl, rfl, rfl, eo, m'⟩ := o.dom (sellFit m.fit hb a)
  exact ⟨h', by unfold Hd.chg; rw [eo], m', hb'⟩
theorem rshipV (ha : Wm.Fits a) (hb : Wm.Fits b) (m : DomM w B h d) : Calls Try.prog 26 #[h.val, .int .i64 a, .int .i64 b] w fun e w' => ∃ h' : Hd, e = .returned (h'.chg (d.shipE a b)) ∧ DomM w' w'.heap.size h' (d.shipD a b) ∧ Below w.heap.size w w' := by
  refine (rship_any h d a b w m ha hb).mono ?_
  rintro e w' ⟨v1, v2, v3, rfl, o, hb'⟩
  obtain ⟨h', rfl, rfl, rfl, eo, m'⟩ := o.dom (shipFit m.fit hb a)
  exact ⟨h', by unfold Hd.chg; rw [eo], m', hb'⟩
theorem sameV {B' : Nat} {h' : Hd} (m : DomM w B h d) (m' : DomM w B' h' d) : Calls Try.prog 27 #[h.val, h'.val] w fun e w' => e = .returned (.bool true) ∧ Below w.heap.size w w' := by
  refine (same10_any h h' d d w m m').mono ?_
  rintro e w' ⟨rfl, hb⟩
  exact ⟨by unfold sameD; simp, hb⟩
theorem ofV {lv k z : Int} (m : DomM w B h d) (he : d.of lv k = z) : Calls Try.prog 11 #[h.val, .int .i64 lv, .int .i64 k] w fun e w' => e = .returned (.int .i64 z) ∧ Below w.heap.size w w' := by
  rw [← he]
  exact dof_any h d lv k w m
end
theorem pair_facts {w : World} {B : Nat} {h : Hd} {d : Dm} (m : DomM w B h d) (n0 n1 : Int) :
    (d.sellE n0 n1 = 0 → ∀ k : Nat, k < h.n1 → (d.sellD n0 n1).of 2 k = d.of 2 k ∧ (d.of 2 k ≠ n0 → (d.sellD n0 n1).of 3 k = d.of 3 k) ∧ (d.of 2 k = n0 → (d.sellD n0 n1).of 3 k = n1)) ∧
    (d.shipE n0 n1 = 0 → ∀ k : Nat, k < h.n1 → (d.shipD n0 n1).of 1 k = d.of 1 k ∧ (d.of 1 k ≠ n0 → (d.shipD n0 n1).of 2 k = d.of 2 k) ∧ (d.of 1 k = n0 → (d.shipD n0 n1).of 2 k = n1)) :=
  ⟨fun he k hk => sell_of he (by rw [← m.l1]; exact hk), fun he k hk => ship_of he (by rw [← m.l1]; exact hk)⟩

set_option maxRecDepth 100000 in
set_option maxHeartbeats 16000000 in
theorem change_walk (h : Hd) (d : Dm) (n0 n1 : Int) (w : World) (m : DomM w w.heap.size h d) (fa : Wm.Fits n0) (fb : Wm.Fits n1) :
    Calls Try.prog 6 #[h.val, .agg #[.int .i64 n0, .int .i64 n1]] w fun e w' => e = .returned (.bool true) ∧ Below w.heap.size w w' := by
  have hdd := Lib.hid size_dom
  have hun : Hid (Try.prog.underlying 25 = _) := Try.underlying25
  obtain ⟨hE0, hF0⟩ := pair_facts m n0 n1
  obtain ⟨E1, hE1⟩ : ∃ x, x = d.sellE n0 n1 := ⟨_, rfl⟩
  obtain ⟨F1, hF1⟩ : ∃ x, x = d.shipE n0 n1 := ⟨_, rfl⟩
  obtain ⟨X, hX⟩ : ∃ x, x = d.sellD n0 n1 := ⟨_, rfl⟩
  obtain ⟨Y, hY⟩ : ∃ x, x = d.shipD n0 n1 := ⟨_, rfl⟩
  have CE1 : Hid (∀ W, DomM W w.heap.size h d → Calls Try.prog 23 #[h.val, .int .i64 n0, .int .i64 n1] W fun e w' => ∃ h' : Hd, e = .returned (.tuple #[h'.val, .int .i64 E1]) ∧ DomM w' w'.heap.size h' X ∧ Below W.heap.size W w') := fun W m => by rw [hE1, hX]; exact sellV fa fb m
  have CF1 : Hid (∀ W, DomM W w.heap.size h d → Calls Try.prog 24 #[h.val, .int .i64 n0, .int .i64 n1] W fun e w' => ∃ h' : Hd, e = .returned (.tuple #[h'.val, .int .i64 F1]) ∧ DomM w' w'.heap.size h' Y ∧ Below W.heap.size W w') := fun W m => by rw [hF1, hY]; exact shipV fa fb m
  have CE2 : Hid (∀ W, DomM W w.heap.size h d → Calls Try.prog 25 #[h.val, .int .i64 n0, .int .i64 n1] W fun e w' => ∃ h' : Hd, e = .returned (h'.chg E1) ∧ DomM w' w'.heap.size h' X ∧ Below W.heap.size W w') := fun W m => by rw [hE1, hX]; exact rsellV fa fb m
  have CF2 : Hid (∀ W, DomM W w.heap.size h d → Calls Try.prog 26 #[h.val, .int .i64 n0, .int .i64 n1] W fun e w' => ∃ h' : Hd, e = .returned (h'.chg F1) ∧ DomM w' w'.heap.size h' Y ∧ Below W.heap.size W w') := fun W m => by rw [hF1, hY]; exact rshipV fa fb m
  rw [← hE1, ← hX] at hE0
  rw [← hF1, ← hY] at hF0
  have hE := Lib.hid hE0
  have hF := Lib.hid hF0
  have hfew := Lib.hid (fun W => few10_any h 80 W (by decide) m.s1 m.s2 m.s3)
  obtain ⟨W0, hW⟩ : ∃ W, W = (w.alloc (.cells h.cells.toArray 25)).alloc (.cells #[.int .i64 n0, .int .i64 n1] 44) := ⟨_, rfl⟩
  have hb : Below w.heap.size w W0 := by rw [hW]; exact ((Below.refl _ _).alloc (Nat.le_refl _) _).alloc (by simp) _
  have E := Lib.hid hb
  have M1 := Lib.hid (m.below hb)
  have X1 : Hid (Blk W0 w.heap.size h.cells 25) := by show Blk _ _ _ _; rw [hW]; exact (Blk.new _ _ _).alloc _
  have X2 : Hid (Blk W0 (w.heap.size + 1) [.int .i64 n0, .int .i64 n1] 44) := by show Blk _ _ _ _; rw [hW]; exact (Blk.new _ _ _).at (by simp)
  have hW' := Lib.hid hW
  clear hW hb m hE1 hF1 hX hY hE0 hF0 fa fb
  have tE : (E1 != E1) = false := by simp
  have tF : (F1 != F1) = false := by simp
  unfold Hd.cells at hW' X1
  unfold Hd.val
  obtain ⟨fw, hfw0⟩ : ∃ x, x = decide (h.n1 ≤ 80 ∧ h.n2 ≤ 80 ∧ h.n3 ≤ 80) := ⟨_, rfl⟩
  rw [← hfw0] at hfew
  have hfw := Lib.hid hfw0
  clear hfw0
  unfold Hd.val at hfew
  cases fw with
  | false =>
    go_enter Try.func6, Try.ntmps6
    go_wp2_with fail
    generalize hg : (w.alloc _).alloc _ = Wg
    have hgW : W0 = Wg := by rw [← hg, hW'.out]
    clear hg hW'
    subst hgW
    go_wp2_with (refine wpList_blk_load rfl 25 _ rfl 0 rfl X1.out _ (take_all0 _) _ hun.out rfl hdd.out ?_)
    refine (hfew.out W0).mono ?_
    rintro e w2 ⟨rfl, hb⟩
    have hbp := Lib.hid hb
    replace E : Hid (Below w.heap.size w w2) := E.out.trans (hb.mono E.out.size)
    replace M1 := Lib.hid (M1.out.below hb)
    replace X1 := Lib.hid (X1.out.below hb X1.out.lt)
    replace X2 := Lib.hid (X2.out.below hb X2.out.lt)
    clear hb
    clear hbp
    go_wp2_with fail
    refine (sanity_any10 _).mono ?_
    rintro e w3 ⟨rfl, hb⟩
    have hbp := Lib.hid hb
    replace E : Hid (Below w.heap.size w w3) := E.out.trans (hb.mono E.out.size)
    replace M1 := Lib.hid (M1.out.below hb)
    replace X1 := Lib.hid (X1.out.below hb X1.out.lt)
    replace X2 := Lib.hid (X2.out.below hb X2.out.lt)
    clear hb
    clear hbp
    go_wp2_with fail
    go_ret
    exact ⟨rfl, E.out⟩
  | true =>
  have hn80 : h.n1 ≤ 80 := by have := of_decide_eq_true hfw.out.symm; omega
  go_enter Try.func6, Try.ntmps6
  go_wp2_with fail
  generalize hg : (w.alloc _).alloc _ = Wg
  have hgW : W0 = Wg := by rw [← hg, hW'.out]
  clear hg hW'
  subst hgW
  go_wp2_with (refine wpList_blk_load rfl 25 _ rfl 0 rfl X1.out _ (take_all0 _) _ hun.out rfl hdd.out ?_)
  refine (hfew.out W0).mono ?_
  rintro e w2 ⟨rfl, hb⟩
  have hbp := Lib.hid hb
  replace E : Hid (Below w.heap.size w w2) := E.out.trans (hb.mono E.out.size)
  replace M1 := Lib.hid (M1.out.below hb)
  replace X1 := Lib.hid (X1.out.below hb X1.out.lt)
  replace X2 := Lib.hid (X2.out.below hb X2.out.lt)
  clear hb
  clear hbp
  have pX1_0 : w2.cell? ⟨w.heap.size, 0, none⟩ = some (.slice h.a1 h.n1 h.c1) := X1.out.cell (j := 0) rfl
  have pX1_1 : w2.cell? ⟨w.heap.size, 1, none⟩ = some (.slice h.a2 h.n2 h.c2) := X1.out.cell (j := 1) rfl
  have pX1_2 : w2.cell? ⟨w.heap.size, 2, none⟩ = some (.slice h.a3 h.n3 h.c3) := X1.out.cell (j := 2) rfl
  have pX1_3 : w2.cell? ⟨w.heap.size, 3, none⟩ = some (.int .i64 h.o) := X1.out.cell (j := 3) rfl
  have pX2_0 : w2.cell? ⟨w.heap.size + 1, 0, none⟩ = some (.int .i64 n0) := X2.out.cell (j := 0) rfl
  have pX2_1 : w2.cell? ⟨w.heap.size + 1, 1, none⟩ = some (.int .i64 n1) := X2.out.cell (j := 1) rfl
  go_wp2_with fail
  clear pX1_0 pX1_1 pX1_2 pX1_3 pX2_0 pX2_1
  have C := CE1.out _ M1.out
  try unfold Hd.val at C
  try unfold Hd.chg at C
  refine (C).mono ?_
  rintro e w3 ⟨h2, rfl, m2, hb⟩
  have hbp := Lib.hid hb
  replace E : Hid (Below w.heap.size w w3) := E.out.trans (hb.mono E.out.size)
  replace M1 := Lib.hid (M1.out.below hb)
  replace X1 := Lib.hid (X1.out.below hb X1.out.lt)
  replace X2 := Lib.hid (X2.out.below hb X2.out.lt)
  clear hb
  have M2 := Lib.hid m2
  clear m2
  clear hbp
  clear C
  obtain ⟨W2, hW⟩ : ∃ W, W = w3.alloc (.cells #[.slice h2.a1 h2.n1 h2.c1, .slice h2.a2 h2.n2 h2.c2, .slice h2.a3 h2.n3 h2.c3, .int .i64 h2.o] 25) := ⟨_, rfl⟩
  have hb : Below w3.heap.size w3 W2 := by rw [hW]; exact (Below.refl _ _).alloc (Nat.le_refl _) _
  have pX1_0 : ∀ o, (w3.alloc o).cell? ⟨w.heap.size, 0, none⟩ = some (.slice h.a1 h.n1 h.c1) := fun o => (X1.out.alloc o).cell (j := 0) rfl
  have pX1_1 : ∀ o, (w3.alloc o).cell? ⟨w.heap.size, 1, none⟩ = some (.slice h.a2 h.n2 h.c2) := fun o => (X1.out.alloc o).cell (j := 1) rfl
  have pX1_2 : ∀ o, (w3.alloc o).cell? ⟨w.heap.size, 2, none⟩ = some (.slice h.a3 h.n3 h.c3) := fun o => (X1.out.alloc o).cell (j := 2) rfl
  have pX1_3 : ∀ o, (w3.alloc o).cell? ⟨w.heap.size, 3, none⟩ = some (.int .i64 h.o) := fun o => (X1.out.alloc o).cell (j := 3) rfl
  have pX2_0 : ∀ o, (w3.alloc o).cell? ⟨w.heap.size + 1, 0, none⟩ = some (.int .i64 n0) := fun o => (X2.out.alloc o).cell (j := 0) rfl
  have pX2_1 : ∀ o, (w3.alloc o).cell? ⟨w.heap.size + 1, 1, none⟩ = some (.int .i64 n1) := fun o => (X2.out.alloc o).cell (j := 1) rfl
  replace E : Hid (Below w.heap.size w W2) := E.out.trans (hb.mono E.out.size)
  replace M1 := Lib.hid (M1.out.below hb)
  replace M2 := Lib.hid (M2.out.below hb)
  replace X1 := Lib.hid (X1.out.below hb X1.out.lt)
  replace X2 := Lib.hid (X2.out.below hb X2.out.lt)
  have X3 : Hid (Blk W2 w3.heap.size [.slice h2.a1 h2.n1 h2.c1, .slice h2.a2 h2.n2 h2.c2, .slice h2.a3 h2.n3 h2.c3, .int .i64 h2.o] 25) := by show Blk _ _ _ _; rw [hW]; exact Blk.new _ _ _
  have hW' := Lib.hid hW
  clear hW hb
  generalize hg1 : w3.heap.size = g2 at X3 ⊢
  go_wp2_with fail
  generalize hg : w3.alloc _ = Wg
  have hgW : W2 = Wg := by rw [← hg, hW'.out]
  clear hg hW' pX1_0 pX1_1 pX1_2 pX1_3 pX2_0 pX2_1
  subst hgW
  have C := CF1.out _ M1.out
  try unfold Hd.val at C
  try unfold Hd.chg at C
  refine (C).mono ?_
  rintro e w4 ⟨h3, rfl, m3, hb⟩
  have hbp := Lib.hid hb
  replace E : Hid (Below w.heap.size w w4) := E.out.trans (hb.mono E.out.size)
  replace M1 := Lib.hid (M1.out.below hb)
  replace M2 := Lib.hid (M2.out.below hb)
  replace X1 := Lib.hid (X1.out.below hb X1.out.lt)
  replace X2 := Lib.hid (X2.out.below hb X2.out.lt)
  replace X3 := Lib.hid (X3.out.below hb X3.out.lt)
  clear hb
  have M3 := Lib.hid m3
  clear m3
  clear hbp
  clear C
  obtain ⟨W3, hW⟩ : ∃ W, W = w4.alloc (.cells #[.slice h3.a1 h3.n1 h3.c1, .slice h3.a2 h3.n2 h3.c2, .slice h3.a3 h3.n3 h3.c3, .int .i64 h3.o] 25) := ⟨_, rfl⟩
  have hb : Below w4.heap.size w4 W3 := by rw [hW]; exact (Below.refl _ _).alloc (Nat.le_refl _) _
  have pX1_0 : ∀ o, (w4.alloc o).cell? ⟨w.heap.size, 0, none⟩ = some (.slice h.a1 h.n1 h.c1) := fun o => (X1.out.alloc o).cell (j := 0) rfl
  have pX1_1 : ∀ o, (w4.alloc o).cell? ⟨w.heap.size, 1, none⟩ = some (.slice h.a2 h.n2 h.c2) := fun o => (X1.out.alloc o).cell (j := 1) rfl
  have pX1_2 : ∀ o, (w4.alloc o).cell? ⟨w.heap.size, 2, none⟩ = some (.slice h.a3 h.n3 h.c3) := fun o => (X1.out.alloc o).cell (j := 2) rfl
  have pX1_3 : ∀ o, (w4.alloc o).cell? ⟨w.heap.size, 3, none⟩ = some (.int .i64 h.o) := fun o => (X1.out.alloc o).cell (j := 3) rfl
  have pX2_0 : ∀ o, (w4.alloc o).cell? ⟨w.heap.size + 1, 0, none⟩ = some (.int .i64 n0) := fun o => (X2.out.alloc o).cell (j := 0) rfl
  have pX2_1 : ∀ o, (w4.alloc o).cell? ⟨w.heap.size + 1, 1, none⟩ = some (.int .i64 n1) := fun o => (X2.out.alloc o).cell (j := 1) rfl
  have pX3_0 : ∀ o, (w4.alloc o).cell? ⟨g2, 0, none⟩ = some (.slice h2.a1 h2.n1 h2.c1) := fun o => (X3.out.alloc o).cell (j := 0) rfl
  have pX3_1 : ∀ o, (w4.alloc o).cell? ⟨g2, 1, none⟩ = some (.slice h2.a2 h2.n2 h2.c2) := fun o => (X3.out.alloc o).cell (j := 1) rfl
  have pX3_2 : ∀ o, (w4.alloc o).cell? ⟨g2, 2, none⟩ = some (.slice h2.a3 h2.n3 h2.c3) := fun o => (X3.out.alloc o).cell (j := 2) rfl
  have pX3_3 : ∀ o, (w4.alloc o).cell? ⟨g2, 3, none⟩ = some (.int .i64 h2.o) := fun o => (X3.out.alloc o).cell (j := 3) rfl
  replace E : Hid (Below w.heap.size w W3) := E.out.trans (hb.mono E.out.size)
  replace M1 := Lib.hid (M1.out.below hb)
  replace M2 := Lib.hid (M2.out.below hb)
  replace M3 := Lib.hid (M3.out.below hb)
  replace X1 := Lib.hid (X1.out.below hb X1.out.lt)
  replace X2 := Lib.hid (X2.out.below hb X2.out.lt)
  replace X3 := Lib.hid (X3.out.below hb X3.out.lt)
  have X4 : Hid (Blk W3 w4.heap.size [.slice h3.a1 h3.n1 h3.c1, .slice h3.a2 h3.n2 h3.c2, .slice h3.a3 h3.n3 h3.c3, .int .i64 h3.o] 25) := by show Blk _ _ _ _; rw [hW]; exact Blk.new _ _ _
  have hW' := Lib.hid hW
  clear hW hb
  generalize hg1 : w4.heap.size = g3 at X4 ⊢
  go_wp2_with fail
  generalize hg : w4.alloc _ = Wg
  have hgW : W3 = Wg := by rw [← hg, hW'.out]
  clear hg hW' pX1_0 pX1_1 pX1_2 pX1_3 pX2_0 pX2_1 pX3_0 pX3_1 pX3_2 pX3_3
  subst hgW
  have C := CE2.out _ M1.out
  try unfold Hd.val at C
  try unfold Hd.chg at C
  refine (C).mono ?_
  rintro e w5 ⟨h4, rfl, m4, hb⟩
  have hbp := Lib.hid hb
  replace E : Hid (Below w.heap.size w w5) := E.out.trans (hb.mono E.out.size)
  replace M1 := Lib.hid (M1.out.below hb)
  replace M2 := Lib.hid (M2.out.below hb)
  replace M3 := Lib.hid (M3.out.below hb)
  replace X1 := Lib.hid (X1.out.below hb X1.out.lt)
  replace X2 := Lib.hid (X2.out.below hb X2.out.lt)
  replace X3 := Lib.hid (X3.out.below hb X3.out.lt)
  replace X4 := Lib.hid (X4.out.below hb X4.out.lt)
  clear hb
  have M4 := Lib.hid m4
  clear m4
  clear hbp
  clear C
  obtain ⟨W4, hW⟩ : ∃ W, W = w5.alloc (.cells #[.slice h4.a1 h4.n1 h4.c1, .slice h4.a2 h4.n2 h4.c2, .slice h4.a3 h4.n3 h4.c3, .int .i64 h4.o, .int .i64 E1] 48) := ⟨_, rfl⟩
  have hb : Below w5.heap.size w5 W4 := by rw [hW]; exact (Below.refl _ _).alloc (Nat.le_refl _) _
  have pX1_0 : ∀ o, (w5.alloc o).cell? ⟨w.heap.size, 0, none⟩ = some (.slice h.a1 h.n1 h.c1) := fun o => (X1.out.alloc o).cell (j := 0) rfl
  have pX1_1 : ∀ o, (w5.alloc o).cell? ⟨w.heap.size, 1, none⟩ = some (.slice h.a2 h.n2 h.c2) := fun o => (X1.out.alloc o).cell (j := 1) rfl
  have pX1_2 : ∀ o, (w5.alloc o).cell? ⟨w.heap.size, 2, none⟩ = some (.slice h.a3 h.n3 h.c3) := fun o => (X1.out.alloc o).cell (j := 2) rfl
  have pX1_3 : ∀ o, (w5.alloc o).cell? ⟨w.heap.size, 3, none⟩ = some (.int .i64 h.o) := fun o => (X1.out.alloc o).cell (j := 3) rfl
  have pX2_0 : ∀ o, (w5.alloc o).cell? ⟨w.heap.size + 1, 0, none⟩ = some (.int .i64 n0) := fun o => (X2.out.alloc o).cell (j := 0) rfl
  have pX2_1 : ∀ o, (w5.alloc o).cell? ⟨w.heap.size + 1, 1, none⟩ = some (.int .i64 n1) := fun o => (X2.out.alloc o).cell (j := 1) rfl
  have pX3_0 : ∀ o, (w5.alloc o).cell? ⟨g2, 0, none⟩ = some (.slice h2.a1 h2.n1 h2.c1) := fun o => (X3.out.alloc o).cell (j := 0) rfl
  have pX3_1 : ∀ o, (w5.alloc o).cell? ⟨g2, 1, none⟩ = some (.slice h2.a2 h2.n2 h2.c2) := fun o => (X3.out.alloc o).cell (j := 1) rfl
  have pX3_2 : ∀ o, (w5.alloc o).cell? ⟨g2, 2, none⟩ = some (.slice h2.a3 h2.n3 h2.c3) := fun o => (X3.out.alloc o).cell (j := 2) rfl
  have pX3_3 : ∀ o, (w5.alloc o).cell? ⟨g2, 3, none⟩ = some (.int .i64 h2.o) := fun o => (X3.out.alloc o).cell (j := 3) rfl
  have pX4_0 : ∀ o, (w5.alloc o).cell? ⟨g3, 0, none⟩ = some (.slice h3.a1 h3.n1 h3.c1) := fun o => (X4.out.alloc o).cell (j := 0) rfl
  have pX4_1 : ∀ o, (w5.alloc o).cell? ⟨g3, 1, none⟩ = some (.slice h3.a2 h3.n2 h3.c2) := fun o => (X4.out.alloc o).cell (j := 1) rfl
  have pX4_2 : ∀ o, (w5.alloc o).cell? ⟨g3, 2, none⟩ = some (.slice h3.a3 h3.n3 h3.c3) := fun o => (X4.out.alloc o).cell (j := 2) rfl
  have pX4_3 : ∀ o, (w5.alloc o).cell? ⟨g3, 3, none⟩ = some (.int .i64 h3.o) := fun o => (X4.out.alloc o).cell (j := 3) rfl
  replace E : Hid (Below w.heap.size w W4) := E.out.trans (hb.mono E.out.size)
  replace M1 := Lib.hid (M1.out.below hb)
  replace M2 := Lib.hid (M2.out.below hb)
  replace M3 := Lib.hid (M3.out.below hb)
  replace M4 := Lib.hid (M4.out.below hb)
  replace X1 := Lib.hid (X1.out.below hb X1.out.lt)
  replace X2 := Lib.hid (X2.out.below hb X2.out.lt)
  replace X3 := Lib.hid (X3.out.below hb X3.out.lt)
  replace X4 := Lib.hid (X4.out.below hb X4.out.lt)
  have X5 : Hid (Blk W4 w5.heap.size [.slice h4.a1 h4.n1 h4.c1, .slice h4.a2 h4.n2 h4.c2, .slice h4.a3 h4.n3 h4.c3, .int .i64 h4.o, .int .i64 E1] 48) := by show Blk _ _ _ _; rw [hW]; exact Blk.new _ _ _
  have hW' := Lib.hid hW
  clear hW hb
  generalize hg1 : w5.heap.size = g4 at X5 ⊢
  go_wp2_with fail
  generalize hg : w5.alloc _ = Wg
  have hgW : W4 = Wg := by rw [← hg, hW'.out]
  clear hg hW' pX1_0 pX1_1 pX1_2 pX1_3 pX2_0 pX2_1 pX3_0 pX3_1 pX3_2 pX3_3 pX4_0 pX4_1 pX4_2 pX4_3
  subst hgW
  have C := CF2.out _ M1.out
  try unfold Hd.val at C
  try unfold Hd.chg at C
  refine (C).mono ?_
  rintro e w6 ⟨h5, rfl, m5, hb⟩
  have hbp := Lib.hid hb
  replace E : Hid (Below w.heap.size w w6) := E.out.trans (hb.mono E.out.size)
  replace M1 := Lib.hid (M1.out.below hb)
  replace M2 := Lib.hid (M2.out.below hb)
  replace M3 := Lib.hid (M3.out.below hb)
  replace M4 := Lib.hid (M4.out.below hb)
  replace X1 := Lib.hid (X1.out.below hb X1.out.lt)
  replace X2 := Lib.hid (X2.out.below hb X2.out.lt)
  replace X3 := Lib.hid (X3.out.below hb X3.out.lt)
  replace X4 := Lib.hid (X4.out.below hb X4.out.lt)
  replace X5 := Lib.hid (X5.out.below hb X5.out.lt)
  clear hb
  have M5 := Lib.hid m5
  clear m5
  clear hbp
  clear C
  obtain ⟨W5, hW⟩ : ∃ W, W = w6.alloc (.cells #[.slice h5.a1 h5.n1 h5.c1, .slice h5.a2 h5.n2 h5.c2, .slice h5.a3 h5.n3 h5.c3, .int .i64 h5.o, .int .i64 F1] 48) := ⟨_, rfl⟩
  have hb : Below w6.heap.size w6 W5 := by rw [hW]; exact (Below.refl _ _).alloc (Nat.le_refl _) _
  have pX1_0 : ∀ o, (w6.alloc o).cell? ⟨w.heap.size, 0, none⟩ = some (.slice h.a1 h.n1 h.c1) := fun o => (X1.out.alloc o).cell (j := 0) rfl
  have pX1_1 : ∀ o, (w6.alloc o).cell? ⟨w.heap.size, 1, none⟩ = some (.slice h.a2 h.n2 h.c2) := fun o => (X1.out.alloc o).cell (j := 1) rfl
  have pX1_2 : ∀ o, (w6.alloc o).cell? ⟨w.heap.size, 2, none⟩ = some (.slice h.a3 h.n3 h.c3) := fun o => (X1.out.alloc o).cell (j := 2) rfl
  have pX1_3 : ∀ o, (w6.alloc o).cell? ⟨w.heap.size, 3, none⟩ = some (.int .i64 h.o) := fun o => (X1.out.alloc o).cell (j := 3) rfl
  have pX2_0 : ∀ o, (w6.alloc o).cell? ⟨w.heap.size + 1, 0, none⟩ = some (.int .i64 n0) := fun o => (X2.out.alloc o).cell (j := 0) rfl
  have pX2_1 : ∀ o, (w6.alloc o).cell? ⟨w.heap.size + 1, 1, none⟩ = some (.int .i64 n1) := fun o => (X2.out.alloc o).cell (j := 1) rfl
  have pX3_0 : ∀ o, (w6.alloc o).cell? ⟨g2, 0, none⟩ = some (.slice h2.a1 h2.n1 h2.c1) := fun o => (X3.out.alloc o).cell (j := 0) rfl
  have pX3_1 : ∀ o, (w6.alloc o).cell? ⟨g2, 1, none⟩ = some (.slice h2.a2 h2.n2 h2.c2) := fun o => (X3.out.alloc o).cell (j := 1) rfl
  have pX3_2 : ∀ o, (w6.alloc o).cell? ⟨g2, 2, none⟩ = some (.slice h2.a3 h2.n3 h2.c3) := fun o => (X3.out.alloc o).cell (j := 2) rfl
  have pX3_3 : ∀ o, (w6.alloc o).cell? ⟨g2, 3, none⟩ = some (.int .i64 h2.o) := fun o => (X3.out.alloc o).cell (j := 3) rfl
  have pX4_0 : ∀ o, (w6.alloc o).cell? ⟨g3, 0, none⟩ = some (.slice h3.a1 h3.n1 h3.c1) := fun o => (X4.out.alloc o).cell (j := 0) rfl
  have pX4_1 : ∀ o, (w6.alloc o).cell? ⟨g3, 1, none⟩ = some (.slice h3.a2 h3.n2 h3.c2) := fun o => (X4.out.alloc o).cell (j := 1) rfl
  have pX4_2 : ∀ o, (w6.alloc o).cell? ⟨g3, 2, none⟩ = some (.slice h3.a3 h3.n3 h3.c3) := fun o => (X4.out.alloc o).cell (j := 2) rfl
  have pX4_3 : ∀ o, (w6.alloc o).cell? ⟨g3, 3, none⟩ = some (.int .i64 h3.o) := fun o => (X4.out.alloc o).cell (j := 3) rfl
  have pX5_0 : ∀ o, (w6.alloc o).cell? ⟨g4, 0, none⟩ = some (.slice h4.a1 h4.n1 h4.c1) := fun o => (X5.out.alloc o).cell (j := 0) rfl
  have pX5_1 : ∀ o, (w6.alloc o).cell? ⟨g4, 1, none⟩ = some (.slice h4.a2 h4.n2 h4.c2) := fun o => (X5.out.alloc o).cell (j := 1) rfl
  have pX5_2 : ∀ o, (w6.alloc o).cell? ⟨g4, 2, none⟩ = some (.slice h4.a3 h4.n3 h4.c3) := fun o => (X5.out.alloc o).cell (j := 2) rfl
  have pX5_3 : ∀ o, (w6.alloc o).cell? ⟨g4, 3, none⟩ = some (.int .i64 h4.o) := fun o => (X5.out.alloc o).cell (j := 3) rfl
  have pX5_4 : ∀ o, (w6.alloc o).cell? ⟨g4, 4, none⟩ = some (.int .i64 E1) := fun o => (X5.out.alloc o).cell (j := 4) rfl
  replace E : Hid (Below w.heap.size w W5) := E.out.trans (hb.mono E.out.size)
  replace M1 := Lib.hid (M1.out.below hb)
  replace M2 := Lib.hid (M2.out.below hb)
  replace M3 := Lib.hid (M3.out.below hb)
  replace M4 := Lib.hid (M4.out.below hb)
  replace M5 := Lib.hid (M5.out.below hb)
  replace X1 := Lib.hid (X1.out.below hb X1.out.lt)
  replace X2 := Lib.hid (X2.out.below hb X2.out.lt)
  replace X3 := Lib.hid (X3.out.below hb X3.out.lt)
  replace X4 := Lib.hid (X4.out.below hb X4.out.lt)
  replace X5 := Lib.hid (X5.out.below hb X5.out.lt)
  have X6 : Hid (Blk W5 w6.heap.size [.slice h5.a1 h5.n1 h5.c1, .slice h5.a2 h5.n2 h5.c2, .slice h5.a3 h5.n3 h5.c3, .int .i64 h5.o, .int .i64 F1] 48) := by show Blk _ _ _ _; rw [hW]; exact Blk.new _ _ _
  have hW' := Lib.hid hW
  clear hW hb
  generalize hg1 : w6.heap.size = g5 at X6 ⊢
  have pn4 : (w6.alloc (.cells #[.slice h5.a1 h5.n1 h5.c1, .slice h5.a2 h5.n2 h5.c2, .slice h5.a3 h5.n3 h5.c3, .int .i64 h5.o, .int .i64 F1] 48)).cell? ⟨g5, 4, none⟩ = some (.int .i64 F1) := by rw [← hW'.out]; exact X6.out.cell (j := 4) rfl
  go_wp2_with fail
  generalize hg : w6.alloc _ = Wg
  have hgW : W5 = Wg := by rw [← hg, hW'.out]
  clear hg hW' pX1_0 pX1_1 pX1_2 pX1_3 pX2_0 pX2_1 pX3_0 pX3_1 pX3_2 pX3_3 pX4_0 pX4_1 pX4_2 pX4_3 pX5_0 pX5_1 pX5_2 pX5_3 pX5_4 pn4
  subst hgW
  have C := sameV M2.out M4.out
  try unfold Hd.val at C
  try unfold Hd.chg at C
  refine (C).mono ?_
  rintro e w7 ⟨rfl, hb⟩
  have hbp := Lib.hid hb
  replace E : Hid (Below w.heap.size w w7) := E.out.trans (hb.mono E.out.size)
  replace M1 := Lib.hid (M1.out.below hb)
  replace M2 := Lib.hid (M2.out.below hb)
  replace M3 := Lib.hid (M3.out.below hb)
  replace M4 := Lib.hid (M4.out.below hb)
  replace M5 := Lib.hid (M5.out.below hb)
  replace X1 := Lib.hid (X1.out.below hb X1.out.lt)
  replace X2 := Lib.hid (X2.out.below hb X2.out.lt)
  replace X3 := Lib.hid (X3.out.below hb X3.out.lt)
  replace X4 := Lib.hid (X4.out.below hb X4.out.lt)
  replace X5 := Lib.hid (X5.out.below hb X5.out.lt)
  replace X6 := Lib.hid (X6.out.below hb X6.out.lt)
  clear hb
  clear hbp
  clear C
  have pX4_0 : w7.cell? ⟨g3, 0, none⟩ = some (.slice h3.a1 h3.n1 h3.c1) := X4.out.cell (j := 0) rfl
  have pX4_1 : w7.cell? ⟨g3, 1, none⟩ = some (.slice h3.a2 h3.n2 h3.c2) := X4.out.cell (j := 1) rfl
  have pX4_2 : w7.cell? ⟨g3, 2, none⟩ = some (.slice h3.a3 h3.n3 h3.c3) := X4.out.cell (j := 2) rfl
  have pX4_3 : w7.cell? ⟨g3, 3, none⟩ = some (.int .i64 h3.o) := X4.out.cell (j := 3) rfl
  have pX6_0 : w7.cell? ⟨g5, 0, none⟩ = some (.slice h5.a1 h5.n1 h5.c1) := X6.out.cell (j := 0) rfl
  have pX6_1 : w7.cell? ⟨g5, 1, none⟩ = some (.slice h5.a2 h5.n2 h5.c2) := X6.out.cell (j := 1) rfl
  have pX6_2 : w7.cell? ⟨g5, 2, none⟩ = some (.slice h5.a3 h5.n3 h5.c3) := X6.out.cell (j := 2) rfl
  have pX6_3 : w7.cell? ⟨g5, 3, none⟩ = some (.int .i64 h5.o) := X6.out.cell (j := 3) rfl
  have pX6_4 : w7.cell? ⟨g5, 4, none⟩ = some (.int .i64 F1) := X6.out.cell (j := 4) rfl
  go_wp2_with fail
  clear pX4_0 pX4_1 pX4_2 pX4_3 pX6_0 pX6_1 pX6_2 pX6_3 pX6_4
  have C := sameV M3.out M5.out
  try unfold Hd.val at C
  try unfold Hd.chg at C
  refine (C).mono ?_
  rintro e w8 ⟨rfl, hb⟩
  have hbp := Lib.hid hb
  replace E : Hid (Below w.heap.size w w8) := E.out.trans (hb.mono E.out.size)
  replace M1 := Lib.hid (M1.out.below hb)
  replace M2 := Lib.hid (M2.out.below hb)
  replace M3 := Lib.hid (M3.out.below hb)
  replace M4 := Lib.hid (M4.out.below hb)
  replace M5 := Lib.hid (M5.out.below hb)
  replace X1 := Lib.hid (X1.out.below hb X1.out.lt)
  replace X2 := Lib.hid (X2.out.below hb X2.out.lt)
  replace X3 := Lib.hid (X3.out.below hb X3.out.lt)
  replace X4 := Lib.hid (X4.out.below hb X4.out.lt)
  replace X5 := Lib.hid (X5.out.below hb X5.out.lt)
  replace X6 := Lib.hid (X6.out.below hb X6.out.lt)
  clear hb
  clear hbp
  clear C
  clear M4 M5 X5 X6 CE1 CE2 CF1 CF2 hfew
  have pX1_0 : w8.cell? ⟨w.heap.size, 0, none⟩ = some (.slice h.a1 h.n1 h.c1) := X1.out.cell (j := 0) rfl
  have pX1_1 : w8.cell? ⟨w.heap.size, 1, none⟩ = some (.slice h.a2 h.n2 h.c2) := X1.out.cell (j := 1) rfl
  have pX1_2 : w8.cell? ⟨w.heap.size, 2, none⟩ = some (.slice h.a3 h.n3 h.c3) := X1.out.cell (j := 2) rfl
  have pX1_3 : w8.cell? ⟨w.heap.size, 3, none⟩ = some (.int .i64 h.o) := X1.out.cell (j := 3) rfl
  go_wp2_with fail
  clear pX1_0 pX1_1 pX1_2 pX1_3
  obtain ⟨B2, M2⟩ : ∃ B, Hid (DomM w8 B h2 X) := ⟨_, M2⟩
  obtain ⟨B3, M3⟩ : ∃ B, Hid (DomM w8 B h3 Y) := ⟨_, M3⟩
  go_loopw [77] (fun i wr => ∃ k : Nat, k ≤ h.n1 ∧ i = .int .i64 k ∧ Hid (Below w.heap.size w wr ∧ DomM wr w.heap.size h d ∧ DomM wr B2 h2 X ∧ DomM wr B3 h3 Y ∧ Blk wr (w.heap.size) [.slice h.a1 h.n1 h.c1, .slice h.a2 h.n2 h.c2, .slice h.a3 h.n3 h.c3, .int .i64 h.o] 25 ∧ Blk wr (w.heap.size + 1) [.int .i64 n0, .int .i64 n1] 44 ∧ Blk wr (g2) [.slice h2.a1 h2.n1 h2.c1, .slice h2.a2 h2.n2 h2.c2, .slice h2.a3 h2.n3 h2.c3, .int .i64 h2.o] 25 ∧ Blk wr (g3) [.slice h3.a1 h3.n1 h3.c1, .slice h3.a2 h3.n2 h3.c2, .slice h3.a3 h3.n3 h3.c3, .int .i64 h3.o] 25)) (fun i _ => h.n1 - (intOf i).toNat)
  case atStart => exact ⟨0, by omega, rfl, ⟨E.out, M1.out, M2.out, M3.out, X1.out, X2.out, X3.out, X4.out⟩⟩
  case round =>
    clear E M1 M2 M3 X1 X2 X3 X4
    obtain ⟨k, hk, rfl, hall⟩ := hrel
    have E := Lib.hid hall.out.1
    have M1 := Lib.hid hall.out.2.1
    have M2 := Lib.hid hall.out.2.2.1
    have M3 := Lib.hid hall.out.2.2.2.1
    have X1 := Lib.hid hall.out.2.2.2.2.1
    have X2 := Lib.hid hall.out.2.2.2.2.2.1
    have X3 := Lib.hid hall.out.2.2.2.2.2.2.1
    have X4 := Lib.hid hall.out.2.2.2.2.2.2.2
    clear hall
    by_cases hlt : k < h.n1
    · have t : (k : Int) < (h.n1 : Int) := by omega
      have t0 : 0 ≤ (k : Int) := by omega
      obtain ⟨hs, hhs⟩ : ∃ x, x = d.of 2 k := ⟨_, rfl⟩
      obtain ⟨rk, hrk⟩ : ∃ x, x = d.of 1 k := ⟨_, rfl⟩
      obtain ⟨ow, how⟩ : ∃ x, x = d.of 3 k := ⟨_, rfl⟩
      have D2 : Hid (d.of 2 k = hs) := hhs.symm
      have D1 : Hid (d.of 1 k = rk) := hrk.symm
      have D3 : Hid (d.of 3 k = ow) := how.symm
      have hcE : Hid (E1 ≠ 0 ∨ (E1 = 0 ∧ hs ≠ n0 ∧ X.of 2 k = hs ∧ X.of 3 k = ow) ∨ (E1 = 0 ∧ hs = n0 ∧ X.of 2 k = hs ∧ X.of 3 k = n1)) := by
        show _ ∨ _
        by_cases e : E1 = 0
        · obtain ⟨q1, q2, q3⟩ := hE.out e k hlt
          rw [← hhs] at q1 q2 q3; rw [← how] at q2
          by_cases e2 : hs = n0
          · exact .inr (.inr ⟨e, e2, q1, q3 e2⟩)
          · exact .inr (.inl ⟨e, e2, q1, q2 e2⟩)
        · exact .inl e
      have hcF : Hid (F1 ≠ 0 ∨ (F1 = 0 ∧ rk ≠ n0 ∧ Y.of 1 k = rk ∧ Y.of 2 k = hs) ∨ (F1 = 0 ∧ rk = n0 ∧ Y.of 1 k = rk ∧ Y.of 2 k = n1)) := by
        show _ ∨ _
        by_cases e : F1 = 0
        · obtain ⟨q1, q2, q3⟩ := hF.out e k hlt
          rw [← hrk] at q1 q2 q3; rw [← hhs] at q2
          by_cases e2 : rk = n0
          · exact .inr (.inr ⟨e, e2, q1, q3 e2⟩)
          · exact .inr (.inl ⟨e, e2, q1, q2 e2⟩)
        · exact .inl e
      clear hhs hrk how
      have hl' := Lib.hid hlt
      clear hlt
      go_wp2_with fail
      refine wp_region_planM [] [(true, 0), (true, 1), (true, 3), (true, 4), (false, 2), (false, 5), (true, 6), (true, 7)] (by decide) (by kernel_rfl) (by kernel_rfl) (by decide) (by intro c a d v w h; cases d <;> exact h) ?_
      change wpPlanM _ _ _ _ _ _ wr.drew
      have hb : Below wr.heap.size wr wr.drew := (Below.refl _ _).drew
      generalize hgd : wr.drew = w9 at hb ⊢
      replace E : Hid (Below w.heap.size w w9) := E.out.trans (hb.mono E.out.size)
      replace M1 := Lib.hid (M1.out.below hb)
      replace M2 := Lib.hid (M2.out.below hb)
      replace M3 := Lib.hid (M3.out.below hb)
      replace X1 := Lib.hid (X1.out.below hb X1.out.lt)
      replace X2 := Lib.hid (X2.out.below hb X2.out.lt)
      replace X3 := Lib.hid (X3.out.below hb X3.out.lt)
      replace X4 := Lib.hid (X4.out.below hb X4.out.lt)
      clear hb hgd
      refine wpPlanM_runW rfl (by rfl) _ (fun q => load_run 25 _ rfl w.heap.size 0 rfl [.slice h.a1 h.n1 h.c1, .slice h.a2 h.n2 h.c2, .slice h.a3 h.n3 h.c3, .int .i64 h.o] _ hun.out rfl hdd.out q.world ((Blk.below X1.out q.ext X1.out.lt).range 0 _ (take_all0 _))) ?_
      iterate 1 (refine wpPlanM_plain rfl (fun K hK => ?_); go_simp; refine hK _ ?_; clear hK K)
      refine wpPlanM_runW rfl (by rfl) _ (fun q => load_run 25 _ rfl w.heap.size 0 rfl [.slice h.a1 h.n1 h.c1, .slice h.a2 h.n2 h.c2, .slice h.a3 h.n3 h.c3, .int .i64 h.o] _ hun.out rfl hdd.out q.world ((Blk.below X1.out q.ext X1.out.lt).range 0 _ (take_all0 _))) ?_
      iterate 1 (refine wpPlanM_plain rfl (fun K hK => ?_); go_simp; refine hK _ ?_; clear hK K)
      refine wpPlanM_call rfl (fun K hK => ?_)
      go_wp2_with fail
      have C := ofV M1.out D2.out
      unfold Hd.val at C
      refine (C).mono ?_
      rintro e w10 ⟨rfl, hb⟩
      have hbp := Lib.hid hb
      replace E : Hid (Below w.heap.size w w10) := E.out.trans (hb.mono E.out.size)
      replace M1 := Lib.hid (M1.out.below hb)
      replace M2 := Lib.hid (M2.out.below hb)
      replace M3 := Lib.hid (M3.out.below hb)
      replace X1 := Lib.hid (X1.out.below hb X1.out.lt)
      replace X2 := Lib.hid (X2.out.below hb X2.out.lt)
      replace X3 := Lib.hid (X3.out.below hb X3.out.lt)
      replace X4 := Lib.hid (X4.out.below hb X4.out.lt)
      clear hb
      go_wp2_with fail
      refine planPostL_normal ⟨.inr hbp.out, hK _ _ ?_⟩
      clear hK K hbp
      clear C
      refine wpPlanM_call rfl (fun K hK => ?_)
      go_wp2_with fail
      have C := ofV M1.out D1.out
      unfold Hd.val at C
      refine (C).mono ?_
      rintro e w11 ⟨rfl, hb⟩
      have hbp := Lib.hid hb
      replace E : Hid (Below w.heap.size w w11) := E.out.trans (hb.mono E.out.size)
      replace M1 := Lib.hid (M1.out.below hb)
      replace M2 := Lib.hid (M2.out.below hb)
      replace M3 := Lib.hid (M3.out.below hb)
      replace X1 := Lib.hid (X1.out.below hb X1.out.lt)
      replace X2 := Lib.hid (X2.out.below hb X2.out.lt)
      replace X3 := Lib.hid (X3.out.below hb X3.out.lt)
      replace X4 := Lib.hid (X4.out.below hb X4.out.lt)
      clear hb
      go_wp2_with fail
      refine planPostL_normal ⟨.inr hbp.out, hK _ _ ?_⟩
      clear hK K hbp
      clear C
      iterate 2 (refine wpPlanM_plain rfl (fun K hK => ?_); go_simp; refine hK _ ?_; clear hK K)
      refine wpPlanM_nil ?_
      go_upto_region 14 with fail
      go_cut [77, 123] from 77 to 160 (fun c v W => c = .int .i64 k ∧ v = .bool false ∧ Below w11.heap.size w11 W)
      case first =>
        have Q : Hid (Below w11.heap.size w11 w11) := Below.refl _ _
        rcases hcE.out with e1 | ⟨e1, e2, e3, e4⟩ | ⟨e1, e2, e3, e4⟩
        · have te : (E1 == 0) = false := by simpa using e1
          clear e1
          go_quiet (fail)
          have hb : Below w11.heap.size w11 (w11.drewN nq) := below_drewN (Below.refl _ _) nq
          generalize w11.drewN nq = w12 at hb ⊢
          replace E : Hid (Below w.heap.size w w12) := E.out.trans (hb.mono E.out.size)
          replace M1 := Lib.hid (M1.out.below hb)
          replace M2 := Lib.hid (M2.out.below hb)
          replace M3 := Lib.hid (M3.out.below hb)
          replace X1 := Lib.hid (X1.out.below hb X1.out.lt)
          replace X2 := Lib.hid (X2.out.below hb X2.out.lt)
          replace X3 := Lib.hid (X3.out.below hb X3.out.lt)
          replace X4 := Lib.hid (X4.out.below hb X4.out.lt)
          replace Q : Hid (Below w11.heap.size w11 w12) := Q.out.trans (hb.mono Q.out.size)
          clear hb
          go_wp2_with fail
          go_meet
          exact ⟨by first | rfl | (go_simp; done), by first | rfl | (go_simp; done), Q.out⟩
        · have te : (E1 == 0) = true := by simpa using e1
          have tn : (hs != hs) = false := by simp
          have tc : (hs != n0) = true := by simpa using e2
          have td : (hs == n0) = false := by simpa using e2
          have e3' := Lib.hid e3
          have e4' := Lib.hid e4
          clear e2 e3 e4
          clear e1
          have tow : (ow != ow) = false := by simp
          refine wp_region_planM [] [(true, 0), (true, 1), (true, 2), (true, 3), (true, 4), (true, 6), (false, 5), (true, 7), (true, 8), (true, 9), (true, 10), (true, 11), (true, 12), (true, 13), (true, 14), (true, 15), (true, 17), (true, 18), (false, 16), (false, 19), (true, 20), (true, 21), (true, 22), (true, 23), (true, 24), (true, 25), (true, 26), (true, 27), (true, 28), (true, 29), (true, 30), (true, 32), (true, 33), (false, 31), (true, 34), (true, 35), (true, 36), (true, 37)] (by decide) (by kernel_rfl) (by kernel_rfl) (by decide) (by intro c a d v w h; cases d <;> exact h) ?_
          change wpPlanM _ _ _ _ _ _ w11.drew
          have hb : Below w11.heap.size w11 w11.drew := (Below.refl _ _).drew
          generalize hgd : w11.drew = w12 at hb ⊢
          replace E : Hid (Below w.heap.size w w12) := E.out.trans (hb.mono E.out.size)
          replace M1 := Lib.hid (M1.out.below hb)
          replace M2 := Lib.hid (M2.out.below hb)
          replace M3 := Lib.hid (M3.out.below hb)
          replace X1 := Lib.hid (X1.out.below hb X1.out.lt)
          replace X2 := Lib.hid (X2.out.below hb X2.out.lt)
          replace X3 := Lib.hid (X3.out.below hb X3.out.lt)
          replace X4 := Lib.hid (X4.out.below hb X4.out.lt)
          replace Q : Hid (Below w11.heap.size w11 w12) := Q.out.trans (hb.mono Q.out.size)
          clear hb hgd
          iterate 3 (refine wpPlanM_plain rfl (fun K hK => ?_); go_simp; refine hK _ ?_; clear hK K)
          refine wpPlanM_runW rfl (by rfl) _ (fun q => load_run 25 _ rfl g2 0 rfl [.slice h2.a1 h2.n1 h2.c1, .slice h2.a2 h2.n2 h2.c2, .slice h2.a3 h2.n3 h2.c3, .int .i64 h2.o] _ hun.out rfl hdd.out q.world ((Blk.below X3.out q.ext X3.out.lt).range 0 _ (take_all0 _))) ?_
          iterate 1 (refine wpPlanM_plain rfl (fun K hK => ?_); go_simp; refine hK _ ?_; clear hK K)
          iterate 1 (refine wpPlanM_plain rfl (fun K hK => ?_); go_simp; refine hK _ ?_; clear hK K)
          refine wpPlanM_call rfl (fun K hK => ?_)
          go_wp2_with fail
          have C := ofV M2.out e3'.out
          unfold Hd.val at C
          refine (C).mono ?_
          rintro e w13 ⟨rfl, hb⟩
          have hbp := Lib.hid hb
          replace E : Hid (Below w.heap.size w w13) := E.out.trans (hb.mono E.out.size)
          replace M1 := Lib.hid (M1.out.below hb)
          replace M2 := Lib.hid (M2.out.below hb)
          replace M3 := Lib.hid (M3.out.below hb)
          replace X1 := Lib.hid (X1.out.below hb X1.out.lt)
          replace X2 := Lib.hid (X2.out.below hb X2.out.lt)
          replace X3 := Lib.hid (X3.out.below hb X3.out.lt)
          replace X4 := Lib.hid (X4.out.below hb X4.out.lt)
          replace Q : Hid (Below w11.heap.size w11 w13) := Q.out.trans (hb.mono Q.out.size)
          clear hb
          go_wp2_with fail
          refine planPostL_normal ⟨.inr hbp.out, hK _ _ ?_⟩
          clear hK K hbp
          clear C
          have q0 : ∀ x : ExtOf w13, x.world.cell? ⟨w.heap.size + 1, 0, none⟩ = some (.int .i64 n0) := fun x => (Blk.below X2.out x.ext X2.out.lt).cell (j := 0) rfl
          iterate 7 (refine wpPlanM_plain rfl (fun K hK => ?_); go_simp; refine hK _ ?_; clear hK K)
          refine wpPlanM_runW rfl (by rfl) _ (fun q => load_run 25 _ rfl g2 0 rfl [.slice h2.a1 h2.n1 h2.c1, .slice h2.a2 h2.n2 h2.c2, .slice h2.a3 h2.n3 h2.c3, .int .i64 h2.o] _ hun.out rfl hdd.out q.world ((Blk.below X3.out q.ext X3.out.lt).range 0 _ (take_all0 _))) ?_
          iterate 1 (refine wpPlanM_plain rfl (fun K hK => ?_); go_simp; refine hK _ ?_; clear hK K)
          refine wpPlanM_runW rfl (by rfl) _ (fun q => load_run 25 _ rfl w.heap.size 0 rfl [.slice h.a1 h.n1 h.c1, .slice h.a2 h.n2 h.c2, .slice h.a3 h.n3 h.c3, .int .i64 h.o] _ hun.out rfl hdd.out q.world ((Blk.below X1.out q.ext X1.out.lt).range 0 _ (take_all0 _))) ?_
          iterate 1 (refine wpPlanM_plain rfl (fun K hK => ?_); go_simp; refine hK _ ?_; clear hK K)
          clear q0
          refine wpPlanM_call rfl (fun K hK => ?_)
          go_wp2_with fail
          have C := ofV M2.out e4'.out
          unfold Hd.val at C
          refine (C).mono ?_
          rintro e w14 ⟨rfl, hb⟩
          have hbp := Lib.hid hb
          replace E : Hid (Below w.heap.size w w14) := E.out.trans (hb.mono E.out.size)
          replace M1 := Lib.hid (M1.out.below hb)
          replace M2 := Lib.hid (M2.out.below hb)
          replace M3 := Lib.hid (M3.out.below hb)
          replace X1 := Lib.hid (X1.out.below hb X1.out.lt)
          replace X2 := Lib.hid (X2.out.below hb X2.out.lt)
          replace X3 := Lib.hid (X3.out.below hb X3.out.lt)
          replace X4 := Lib.hid (X4.out.below hb X4.out.lt)
          replace Q : Hid (Below w11.heap.size w11 w14) := Q.out.trans (hb.mono Q.out.size)
          clear hb
          go_wp2_with fail
          refine planPostL_normal ⟨.inr hbp.out, hK _ _ ?_⟩
          clear hK K hbp
          clear C
          refine wpPlanM_call rfl (fun K hK => ?_)
          go_wp2_with fail
          have C := ofV M1.out D3.out
          unfold Hd.val at C
          refine (C).mono ?_
          rintro e w15 ⟨rfl, hb⟩
          have hbp := Lib.hid hb
          replace E : Hid (Below w.heap.size w w15) := E.out.trans (hb.mono E.out.size)
          replace M1 := Lib.hid (M1.out.below hb)
          replace M2 := Lib.hid (M2.out.below hb)
          replace M3 := Lib.hid (M3.out.below hb)
          replace X1 := Lib.hid (X1.out.below hb X1.out.lt)
          replace X2 := Lib.hid (X2.out.below hb X2.out.lt)
          replace X3 := Lib.hid (X3.out.below hb X3.out.lt)
          replace X4 := Lib.hid (X4.out.below hb X4.out.lt)
          replace Q : Hid (Below w11.heap.size w11 w15) := Q.out.trans (hb.mono Q.out.size)
          clear hb
          go_wp2_with fail
          refine planPostL_normal ⟨.inr hbp.out, hK _ _ ?_⟩
          clear hK K hbp
          clear C
          have q0 : ∀ x : ExtOf w15, x.world.cell? ⟨w.heap.size + 1, 0, none⟩ = some (.int .i64 n0) := fun x => (Blk.below X2.out x.ext X2.out.lt).cell (j := 0) rfl
          iterate 11 (refine wpPlanM_plain rfl (fun K hK => ?_); go_simp; refine hK _ ?_; clear hK K)
          iterate 2 (refine wpPlanM_plain rfl (fun K hK => ?_); go_simp; refine hK _ ?_; clear hK K)
          refine wpPlanM_call rfl (fun K hK => ?_)
          go_wp2_with fail
          refine planPostL_normal ⟨.inr (Below.refl _ _), hK _ _ ?_⟩
          clear hK K
          iterate 4 (refine wpPlanM_plain rfl (fun K hK => ?_); go_simp; refine hK _ ?_; clear hK K)
          clear q0
          refine wpPlanM_nil ?_
          go_wp2_with fail
          go_meet
          exact ⟨by first | rfl | (go_simp; done), by first | rfl | (go_simp; done), Q.out⟩
        · have te : (E1 == 0) = true := by simpa using e1
          have tn : (hs != hs) = false := by simp
          have tc : (hs != n0) = false := by simpa using e2
          have td : (hs == n0) = true := by simpa using e2
          have e3' := Lib.hid e3
          have e4' := Lib.hid e4
          clear e2 e3 e4
          clear e1
          have tow : (n1 != n1) = false := by simp
          refine wp_region_planM [] [(true, 0), (true, 1), (true, 2), (true, 3), (true, 4), (true, 6), (false, 5), (true, 7), (true, 8), (true, 9), (true, 10), (true, 11), (true, 12), (true, 13), (true, 14), (true, 15), (true, 17), (true, 18), (false, 16), (false, 19), (true, 20), (true, 21), (true, 22), (true, 23), (true, 24), (true, 25), (true, 26), (true, 27), (true, 28), (true, 29), (true, 30), (true, 32), (true, 33), (false, 31), (true, 34), (true, 35), (true, 36), (true, 37)] (by decide) (by kernel_rfl) (by kernel_rfl) (by decide) (by intro c a d v w h; cases d <;> exact h) ?_
          change wpPlanM _ _ _ _ _ _ w11.drew
          have hb : Below w11.heap.size w11 w11.drew := (Below.refl _ _).drew
          generalize hgd : w11.drew = w12 at hb ⊢
          replace E : Hid (Below w.heap.size w w12) := E.out.trans (hb.mono E.out.size)
          replace M1 := Lib.hid (M1.out.below hb)
          replace M2 := Lib.hid (M2.out.below hb)
          replace M3 := Lib.hid (M3.out.below hb)
          replace X1 := Lib.hid (X1.out.below hb X1.out.lt)
          replace X2 := Lib.hid (X2.out.below hb X2.out.lt)
          replace X3 := Lib.hid (X3.out.below hb X3.out.lt)
          replace X4 := Lib.hid (X4.out.below hb X4.out.lt)
          replace Q : Hid (Below w11.heap.size w11 w12) := Q.out.trans (hb.mono Q.out.size)
          clear hb hgd
          iterate 3 (refine wpPlanM_plain rfl (fun K hK => ?_); go_simp; refine hK _ ?_; clear hK K)
          refine wpPlanM_runW rfl (by rfl) _ (fun q => load_run 25 _ rfl g2 0 rfl [.slice h2.a1 h2.n1 h2.c1, .slice h2.a2 h2.n2 h2.c2, .slice h2.a3 h2.n3 h2.c3, .int .i64 h2.o] _ hun.out rfl hdd.out q.world ((Blk.below X3.out q.ext X3.out.lt).range 0 _ (take_all0 _))) ?_
          iterate 1 (refine wpPlanM_plain rfl (fun K hK => ?_); go_simp; refine hK _ ?_; clear hK K)
          iterate 1 (refine wpPlanM_plain rfl (fun K hK => ?_); go_simp; refine hK _ ?_; clear hK K)
          refine wpPlanM_call rfl (fun K hK => ?_)
          go_wp2_with fail
          have C := ofV M2.out e3'.out
          unfold Hd.val at C
          refine (C).mono ?_
          rintro e w13 ⟨rfl, hb⟩
          have hbp := Lib.hid hb
          replace E : Hid (Below w.heap.size w w13) := E.out.trans (hb.mono E.out.size)
          replace M1 := Lib.hid (M1.out.below hb)
          replace M2 := Lib.hid (M2.out.below hb)
          replace M3 := Lib.hid (M3.out.below hb)
          replace X1 := Lib.hid (X1.out.below hb X1.out.lt)
          replace X2 := Lib.hid (X2.out.below hb X2.out.lt)
          replace X3 := Lib.hid (X3.out.below hb X3.out.lt)
          replace X4 := Lib.hid (X4.out.below hb X4.out.lt)
          replace Q : Hid (Below w11.heap.size w11 w13) := Q.out.trans (hb.mono Q.out.size)
          clear hb
          go_wp2_with fail
          refine planPostL_normal ⟨.inr hbp.out, hK _ _ ?_⟩
          clear hK K hbp
          clear C
          have q0 : ∀ x : ExtOf w13, x.world.cell? ⟨w.heap.size + 1, 0, none⟩ = some (.int .i64 n0) := fun x => (Blk.below X2.out x.ext X2.out.lt).cell (j := 0) rfl
          iterate 7 (refine wpPlanM_plain rfl (fun K hK => ?_); go_simp; refine hK _ ?_; clear hK K)
          iterate 2 (refine wpPlanM_plain rfl (fun K hK => ?_); go_simp; refine hK _ ?_; clear hK K)
          iterate 2 (refine wpPlanM_plain rfl (fun K hK => ?_); go_simp; refine hK _ ?_; clear hK K)
          refine wpPlanM_call rfl (fun K hK => ?_)
          go_wp2_with fail
          refine planPostL_normal ⟨.inr (Below.refl _ _), hK _ _ ?_⟩
          clear hK K
          refine wpPlanM_call rfl (fun K hK => ?_)
          go_wp2_with fail
          refine planPostL_normal ⟨.inr (Below.refl _ _), hK _ _ ?_⟩
          clear hK K
          iterate 9 (refine wpPlanM_plain rfl (fun K hK => ?_); go_simp; refine hK _ ?_; clear hK K)
          refine wpPlanM_runW rfl (by rfl) _ (fun q => load_run 25 _ rfl g2 0 rfl [.slice h2.a1 h2.n1 h2.c1, .slice h2.a2 h2.n2 h2.c2, .slice h2.a3 h2.n3 h2.c3, .int .i64 h2.o] _ hun.out rfl hdd.out q.world ((Blk.below X3.out q.ext X3.out.lt).range 0 _ (take_all0 _))) ?_
          iterate 1 (refine wpPlanM_plain rfl (fun K hK => ?_); go_simp; refine hK _ ?_; clear hK K)
          have q1 : ∀ x : ExtOf w13, x.world.cell? ⟨w.heap.size + 1, 1, none⟩ = some (.int .i64 n1) := fun x => (Blk.below X2.out x.ext X2.out.lt).cell (j := 1) rfl
          iterate 2 (refine wpPlanM_plain rfl (fun K hK => ?_); go_simp; refine hK _ ?_; clear hK K)
          clear q0 q1
          refine wpPlanM_call rfl (fun K hK => ?_)
          go_wp2_with fail
          have C := ofV M2.out e4'.out
          unfold Hd.val at C
          refine (C).mono ?_
          rintro e w14 ⟨rfl, hb⟩
          have hbp := Lib.hid hb
          replace E : Hid (Below w.heap.size w w14) := E.out.trans (hb.mono E.out.size)
          replace M1 := Lib.hid (M1.out.below hb)
          replace M2 := Lib.hid (M2.out.below hb)
          replace M3 := Lib.hid (M3.out.below hb)
          replace X1 := Lib.hid (X1.out.below hb X1.out.lt)
          replace X2 := Lib.hid (X2.out.below hb X2.out.lt)
          replace X3 := Lib.hid (X3.out.below hb X3.out.lt)
          replace X4 := Lib.hid (X4.out.below hb X4.out.lt)
          replace Q : Hid (Below w11.heap.size w11 w14) := Q.out.trans (hb.mono Q.out.size)
          clear hb
          go_wp2_with fail
          refine planPostL_normal ⟨.inr hbp.out, hK _ _ ?_⟩
          clear hK K hbp
          clear C
          iterate 4 (refine wpPlanM_plain rfl (fun K hK => ?_); go_simp; refine hK _ ?_; clear hK K)
          refine wpPlanM_nil ?_
          go_wp2_with fail
          go_meet
          exact ⟨by first | rfl | (go_simp; done), by first | rfl | (go_simp; done), Q.out⟩
      case rest =>
        obtain ⟨rfl, rfl, hb⟩ := hcut
        replace E : Hid (Below w.heap.size w wc) := E.out.trans (hb.mono E.out.size)
        replace M1 := Lib.hid (M1.out.below hb)
        replace M2 := Lib.hid (M2.out.below hb)
        replace M3 := Lib.hid (M3.out.below hb)
        replace X1 := Lib.hid (X1.out.below hb X1.out.lt)
        replace X2 := Lib.hid (X2.out.below hb X2.out.lt)
        replace X3 := Lib.hid (X3.out.below hb X3.out.lt)
        replace X4 := Lib.hid (X4.out.below hb X4.out.lt)
        clear hb
        go_wp2_with fail
        rcases hcF.out with e1 | ⟨e1, e2, e3, e4⟩ | ⟨e1, e2, e3, e4⟩
        · have te : (F1 == 0) = false := by simpa using e1
          clear e1
          go_quiet (fail)
          have hb : Below wc.heap.size wc (wc.drewN nq) := below_drewN (Below.refl _ _) nq
          generalize wc.drewN nq = w12 at hb ⊢
          replace E : Hid (Below w.heap.size w w12) := E.out.trans (hb.mono E.out.size)
          replace M1 := Lib.hid (M1.out.below hb)
          replace M2 := Lib.hid (M2.out.below hb)
          replace M3 := Lib.hid (M3.out.below hb)
          replace X1 := Lib.hid (X1.out.below hb X1.out.lt)
          replace X2 := Lib.hid (X2.out.below hb X2.out.lt)
          replace X3 := Lib.hid (X3.out.below hb X3.out.lt)
          replace X4 := Lib.hid (X4.out.below hb X4.out.lt)
          clear hb
          go_wp2_with fail
          have hlt := hl'.out
          go_roundw
          case rel => exact ⟨k + 1, by omega, by go_num, ⟨E.out, M1.out, M2.out, M3.out, X1.out, X2.out, X3.out, X4.out⟩⟩
          case measure => simp [intOf]; omega
        · have te : (F1 == 0) = true := by simpa using e1
          have tn : (rk != rk) = false := by simp
          have tc : (rk != n0) = true := by simpa using e2
          have td : (rk == n0) = false := by simpa using e2
          have e3' := Lib.hid e3
          have e4' := Lib.hid e4
          clear e2 e3 e4
          clear e1
          have tow : (hs != hs) = false := by simp
          refine wp_region_planM [] [(true, 0), (true, 1), (true, 2), (true, 3), (true, 4), (true, 6), (false, 5), (true, 7), (true, 8), (true, 9), (true, 10), (true, 11), (true, 12), (true, 13), (true, 14), (true, 15), (true, 17), (false, 16), (true, 18), (true, 19), (true, 20), (true, 21), (true, 22), (true, 23), (true, 24), (true, 25), (true, 26), (true, 27), (true, 28), (true, 30), (true, 31), (false, 29), (true, 32), (true, 33), (true, 34), (true, 35)] (by decide) (by kernel_rfl) (by kernel_rfl) (by decide) (by intro c a d v w h; cases d <;> exact h) ?_
          change wpPlanM _ _ _ _ _ _ wc.drew
          have hb : Below wc.heap.size wc wc.drew := (Below.refl _ _).drew
          generalize hgd : wc.drew = w12 at hb ⊢
          replace E : Hid (Below w.heap.size w w12) := E.out.trans (hb.mono E.out.size)
          replace M1 := Lib.hid (M1.out.below hb)
          replace M2 := Lib.hid (M2.out.below hb)
          replace M3 := Lib.hid (M3.out.below hb)
          replace X1 := Lib.hid (X1.out.below hb X1.out.lt)
          replace X2 := Lib.hid (X2.out.below hb X2.out.lt)
          replace X3 := Lib.hid (X3.out.below hb X3.out.lt)
          replace X4 := Lib.hid (X4.out.below hb X4.out.lt)
          clear hb hgd
          iterate 3 (refine wpPlanM_plain rfl (fun K hK => ?_); go_simp; refine hK _ ?_; clear hK K)
          refine wpPlanM_runW rfl (by rfl) _ (fun q => load_run 25 _ rfl g3 0 rfl [.slice h3.a1 h3.n1 h3.c1, .slice h3.a2 h3.n2 h3.c2, .slice h3.a3 h3.n3 h3.c3, .int .i64 h3.o] _ hun.out rfl hdd.out q.world ((Blk.below X4.out q.ext X4.out.lt).range 0 _ (take_all0 _))) ?_
          iterate 1 (refine wpPlanM_plain rfl (fun K hK => ?_); go_simp; refine hK _ ?_; clear hK K)
          iterate 1 (refine wpPlanM_plain rfl (fun K hK => ?_); go_simp; refine hK _ ?_; clear hK K)
          refine wpPlanM_call rfl (fun K hK => ?_)
          go_wp2_with fail
          have C := ofV M3.out e3'.out
          unfold Hd.val at C
          refine (C).mono ?_
          rintro e w13 ⟨rfl, hb⟩
          have hbp := Lib.hid hb
          replace E : Hid (Below w.heap.size w w13) := E.out.trans (hb.mono E.out.size)
          replace M1 := Lib.hid (M1.out.below hb)
          replace M2 := Lib.hid (M2.out.below hb)
          replace M3 := Lib.hid (M3.out.below hb)
          replace X1 := Lib.hid (X1.out.below hb X1.out.lt)
          replace X2 := Lib.hid (X2.out.below hb X2.out.lt)
          replace X3 := Lib.hid (X3.out.below hb X3.out.lt)
          replace X4 := Lib.hid (X4.out.below hb X4.out.lt)
          clear hb
          go_wp2_with fail
          refine planPostL_normal ⟨.inr hbp.out, hK _ _ ?_⟩
          clear hK K hbp
          clear C
          have q0 : ∀ x : ExtOf w13, x.world.cell? ⟨w.heap.size + 1, 0, none⟩ = some (.int .i64 n0) := fun x => (Blk.below X2.out x.ext X2.out.lt).cell (j := 0) rfl
          iterate 7 (refine wpPlanM_plain rfl (fun K hK => ?_); go_simp; refine hK _ ?_; clear hK K)
          refine wpPlanM_runW rfl (by rfl) _ (fun q => load_run 25 _ rfl g3 0 rfl [.slice h3.a1 h3.n1 h3.c1, .slice h3.a2 h3.n2 h3.c2, .slice h3.a3 h3.n3 h3.c3, .int .i64 h3.o] _ hun.out rfl hdd.out q.world ((Blk.below X4.out q.ext X4.out.lt).range 0 _ (take_all0 _))) ?_
          iterate 1 (refine wpPlanM_plain rfl (fun K hK => ?_); go_simp; refine hK _ ?_; clear hK K)
          iterate 1 (refine wpPlanM_plain rfl (fun K hK => ?_); go_simp; refine hK _ ?_; clear hK K)
          clear q0
          refine wpPlanM_call rfl (fun K hK => ?_)
          go_wp2_with fail
          have C := ofV M3.out e4'.out
          unfold Hd.val at C
          refine (C).mono ?_
          rintro e w14 ⟨rfl, hb⟩
          have hbp := Lib.hid hb
          replace E : Hid (Below w.heap.size w w14) := E.out.trans (hb.mono E.out.size)
          replace M1 := Lib.hid (M1.out.below hb)
          replace M2 := Lib.hid (M2.out.below hb)
          replace M3 := Lib.hid (M3.out.below hb)
          replace X1 := Lib.hid (X1.out.below hb X1.out.lt)
          replace X2 := Lib.hid (X2.out.below hb X2.out.lt)
          replace X3 := Lib.hid (X3.out.below hb X3.out.lt)
          replace X4 := Lib.hid (X4.out.below hb X4.out.lt)
          clear hb
          go_wp2_with fail
          refine planPostL_normal ⟨.inr hbp.out, hK _ _ ?_⟩
          clear hK K hbp
          clear C
          have q0 : ∀ x : ExtOf w14, x.world.cell? ⟨w.heap.size + 1, 0, none⟩ = some (.int .i64 n0) := fun x => (Blk.below X2.out x.ext X2.out.lt).cell (j := 0) rfl
          iterate 11 (refine wpPlanM_plain rfl (fun K hK => ?_); go_simp; refine hK _ ?_; clear hK K)
          iterate 2 (refine wpPlanM_plain rfl (fun K hK => ?_); go_simp; refine hK _ ?_; clear hK K)
          refine wpPlanM_call rfl (fun K hK => ?_)
          go_wp2_with fail
          refine planPostL_normal ⟨.inr (Below.refl _ _), hK _ _ ?_⟩
          clear hK K
          iterate 4 (refine wpPlanM_plain rfl (fun K hK => ?_); go_simp; refine hK _ ?_; clear hK K)
          clear q0
          refine wpPlanM_nil ?_
          go_wp2_with fail
          have hlt := hl'.out
          go_roundw
          case rel => exact ⟨k + 1, by omega, by go_num, ⟨E.out, M1.out, M2.out, M3.out, X1.out, X2.out, X3.out, X4.out⟩⟩
          case measure => simp [intOf]; omega
        · have te : (F1 == 0) = true := by simpa using e1
          have tn : (rk != rk) = false := by simp
          have tc : (rk != n0) = false := by simpa using e2
          have td : (rk == n0) = true := by simpa using e2
          have e3' := Lib.hid e3
          have e4' := Lib.hid e4
          clear e2 e3 e4
          clear e1
          have tow : (n1 != n1) = false := by simp
          refine wp_region_planM [] [(true, 0), (true, 1), (true, 2), (true, 3), (true, 4), (true, 6), (false, 5), (true, 7), (true, 8), (true, 9), (true, 10), (true, 11), (true, 12), (true, 13), (true, 14), (true, 15), (true, 17), (false, 16), (true, 18), (true, 19), (true, 20), (true, 21), (true, 22), (true, 23), (true, 24), (true, 25), (true, 26), (true, 27), (true, 28), (true, 30), (true, 31), (false, 29), (true, 32), (true, 33), (true, 34), (true, 35)] (by decide) (by kernel_rfl) (by kernel_rfl) (by decide) (by intro c a d v w h; cases d <;> exact h) ?_
          change wpPlanM _ _ _ _ _ _ wc.drew
          have hb : Below wc.heap.size wc wc.drew := (Below.refl _ _).drew
          generalize hgd : wc.drew = w12 at hb ⊢
          replace E : Hid (Below w.heap.size w w12) := E.out.trans (hb.mono E.out.size)
          replace M1 := Lib.hid (M1.out.below hb)
          replace M2 := Lib.hid (M2.out.below hb)
          replace M3 := Lib.hid (M3.out.below hb)
          replace X1 := Lib.hid (X1.out.below hb X1.out.lt)
          replace X2 := Lib.hid (X2.out.below hb X2.out.lt)
          replace X3 := Lib.hid (X3.out.below hb X3.out.lt)
          replace X4 := Lib.hid (X4.out.below hb X4.out.lt)
          clear hb hgd
          iterate 3 (refine wpPlanM_plain rfl (fun K hK => ?_); go_simp; refine hK _ ?_; clear hK K)
          refine wpPlanM_runW rfl (by rfl) _ (fun q => load_run 25 _ rfl g3 0 rfl [.slice h3.a1 h3.n1 h3.c1, .slice h3.a2 h3.n2 h3.c2, .slice h3.a3 h3.n3 h3.c3, .int .i64 h3.o] _ hun.out rfl hdd.out q.world ((Blk.below X4.out q.ext X4.out.lt).range 0 _ (take_all0 _))) ?_
          iterate 1 (refine wpPlanM_plain rfl (fun K hK => ?_); go_simp; refine hK _ ?_; clear hK K)
          iterate 1 (refine wpPlanM_plain rfl (fun K hK => ?_); go_simp; refine hK _ ?_; clear hK K)
          refine wpPlanM_call rfl (fun K hK => ?_)
          go_wp2_with fail
          have C := ofV M3.out e3'.out
          unfold Hd.val at C
          refine (C).mono ?_
          rintro e w13 ⟨rfl, hb⟩
          have hbp := Lib.hid hb
          replace E : Hid (Below w.heap.size w w13) := E.out.trans (hb.mono E.out.size)
          replace M1 := Lib.hid (M1.out.below hb)
          replace M2 := Lib.hid (M2.out.below hb)
          replace M3 := Lib.hid (M3.out.below hb)
          replace X1 := Lib.hid (X1.out.below hb X1.out.lt)
          replace X2 := Lib.hid (X2.out.below hb X2.out.lt)
          replace X3 := Lib.hid (X3.out.below hb X3.out.lt)
          replace X4 := Lib.hid (X4.out.below hb X4.out.lt)
          clear hb
          go_wp2_with fail
          refine planPostL_normal ⟨.inr hbp.out, hK _ _ ?_⟩
          clear hK K hbp
          clear C
          have q0 : ∀ x : ExtOf w13, x.world.cell? ⟨w.heap.size + 1, 0, none⟩ = some (.int .i64 n0) := fun x => (Blk.below X2.out x.ext X2.out.lt).cell (j := 0) rfl
          iterate 7 (refine wpPlanM_plain rfl (fun K hK => ?_); go_simp; refine hK _ ?_; clear hK K)
          iterate 2 (refine wpPlanM_plain rfl (fun K hK => ?_); go_simp; refine hK _ ?_; clear hK K)
          iterate 1 (refine wpPlanM_plain rfl (fun K hK => ?_); go_simp; refine hK _ ?_; clear hK K)
          refine wpPlanM_call rfl (fun K hK => ?_)
          go_wp2_with fail
          refine planPostL_normal ⟨.inr (Below.refl _ _), hK _ _ ?_⟩
          clear hK K
          iterate 9 (refine wpPlanM_plain rfl (fun K hK => ?_); go_simp; refine hK _ ?_; clear hK K)
          refine wpPlanM_runW rfl (by rfl) _ (fun q => load_run 25 _ rfl g3 0 rfl [.slice h3.a1 h3.n1 h3.c1, .slice h3.a2 h3.n2 h3.c2, .slice h3.a3 h3.n3 h3.c3, .int .i64 h3.o] _ hun.out rfl hdd.out q.world ((Blk.below X4.out q.ext X4.out.lt).range 0 _ (take_all0 _))) ?_
          iterate 1 (refine wpPlanM_plain rfl (fun K hK => ?_); go_simp; refine hK _ ?_; clear hK K)
          have q1 : ∀ x : ExtOf w13, x.world.cell? ⟨w.heap.size + 1, 1, none⟩ = some (.int .i64 n1) := fun x => (Blk.below X2.out x.ext X2.out.lt).cell (j := 1) rfl
          iterate 2 (refine wpPlanM_plain rfl (fun K hK => ?_); go_simp; refine hK _ ?_; clear hK K)
          clear q0 q1
          refine wpPlanM_call rfl (fun K hK => ?_)
          go_wp2_with fail
          have C := ofV M3.out e4'.out
          unfold Hd.val at C
          refine (C).mono ?_
          rintro e w14 ⟨rfl, hb⟩
          have hbp := Lib.hid hb
          replace E : Hid (Below w.heap.size w w14) := E.out.trans (hb.mono E.out.size)
          replace M1 := Lib.hid (M1.out.below hb)
          replace M2 := Lib.hid (M2.out.below hb)
          replace M3 := Lib.hid (M3.out.below hb)
          replace X1 := Lib.hid (X1.out.below hb X1.out.lt)
          replace X2 := Lib.hid (X2.out.below hb X2.out.lt)
          replace X3 := Lib.hid (X3.out.below hb X3.out.lt)
          replace X4 := Lib.hid (X4.out.below hb X4.out.lt)
          clear hb
          go_wp2_with fail
          refine planPostL_normal ⟨.inr hbp.out, hK _ _ ?_⟩
          clear hK K hbp
          clear C
          iterate 4 (refine wpPlanM_plain rfl (fun K hK => ?_); go_simp; refine hK _ ?_; clear hK K)
          refine wpPlanM_nil ?_
          go_wp2_with fail
          have hlt := hl'.out
          go_roundw
          case rel => exact ⟨k + 1, by omega, by go_num, ⟨E.out, M1.out, M2.out, M3.out, X1.out, X2.out, X3.out, X4.out⟩⟩
          case measure => simp [intOf]; omega
    · have t : ¬ (k : Int) < (h.n1 : Int) := by omega
      go_wp2_with fail
      refine (sanity_any10 _).mono ?_
      rintro e w15 ⟨rfl, hb⟩
      have hbp := Lib.hid hb
      replace E : Hid (Below w.heap.size w w15) := E.out.trans (hb.mono E.out.size)
      replace M1 := Lib.hid (M1.out.below hb)
      replace M2 := Lib.hid (M2.out.below hb)
      replace M3 := Lib.hid (M3.out.below hb)
      replace X1 := Lib.hid (X1.out.below hb X1.out.lt)
      replace X2 := Lib.hid (X2.out.below hb X2.out.lt)
      replace X3 := Lib.hid (X3.out.below hb X3.out.lt)
      replace X4 := Lib.hid (X4.out.below hb X4.out.lt)
      clear hb
      clear hbp
      go_wp2_with fail
      go_ret
      exact ⟨rfl, E.out⟩
end Go.Proofs.Ytoonpgedioocgaa
