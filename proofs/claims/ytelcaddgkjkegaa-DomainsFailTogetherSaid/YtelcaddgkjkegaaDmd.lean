/-
  Stage 10 (domain): the contract of Check.
-/
import Derived.Test.YtelcaddgkjkegaaDmc
namespace Go.Proofs.Ytelcaddgkjkegaa
set_option linter.unusedVariables false
set_option linter.unusedSimpArgs false
open Go.RowKit

theorem containsD_any {B : Nat} {h : Hd} {d : Dm} {w : World} (m : DomM w B h d) (W : World) (hW : Below w.heap.size w W) (g : Nat) (hg : Blk W g [.int .i64 h.n2] 3) :
    Calls Try.prog 16 #[.slice h.a1 h.n1 h.c1, .func (.func 13) #[] #[.pointer (some ⟨g, 0, none⟩)]] W fun e w' => e = .returned (.bool d.badD) ∧ Below W.heap.size W w' := by
  have m' := m.below hW
  refine containsI_of 13 [.pointer (some ⟨g, 0, none⟩)] (fun x => !inB x d.R.length) d.D h.a1 h.n1 h.c1 W m'.l1 m'.r1 m'.le m'.s1 (enter_of Try.func13 (by kernel_rfl) (by kernel_rfl)) ?_
  intro x _ W2 hW2
  refine (outside_any x h.n2 g W2 ((hg.below hW2 hg.lt).cell rfl)).mono ?_
  rintro e w' ⟨rfl, rfl⟩
  exact ⟨by rw [m.l2], Below.refl _ _⟩
theorem containsH_any {B : Nat} {h : Hd} {d : Dm} {w : World} (m : DomM w B h d) (W : World) (hW : Below w.heap.size w W) (g : Nat) (hg : Blk W g [.int .i64 h.o] 3) :
    Calls Try.prog 16 #[.slice h.a3 h.n3 h.c3, .func (.func 13) #[] #[.pointer (some ⟨g, 0, none⟩)]] W fun e w' => e = .returned (.bool d.badH) ∧ Below W.heap.size W w' := by
  have m' := m.below hW
  refine containsI_of 13 [.pointer (some ⟨g, 0, none⟩)] (fun x => !inB x d.O) d.H h.a3 h.n3 h.c3 W m'.l3 m'.r3 m'.le m'.s3 (enter_of Try.func13 (by kernel_rfl) (by kernel_rfl)) ?_
  intro x _ W2 hW2
  refine (outside_any x h.o g W2 ((hg.below hW2 hg.lt).cell rfl)).mono ?_
  rintro e w' ⟨rfl, rfl⟩
  exact ⟨by rw [m.eo], Below.refl _ _⟩
theorem containsR_any {B : Nat} {h : Hd} {d : Dm} {w : World} (m : DomM w B h d) (W : World) (hW : Below w.heap.size w W) (g : Nat) (hg : Blk W g h.cells 25) :
    Calls Try.prog 17 #[.slice h.a2 h.n2 h.c2, .func (.func 15) #[] #[.pointer (some ⟨g, 0, none⟩)]] W fun e w' => e = .returned (.bool d.badR) ∧ Below W.heap.size W w' := by
  have m' := m.below hW
  refine containsR_of 15 [.pointer (some ⟨g, 0, none⟩)] (fun r => !inB r.1 d.H.length) d.R h.a2 h.n2 h.c2 W m'.l2 m'.r2 m'.le m'.s2 (enter_of Try.func15 (by kernel_rfl) (by kernel_rfl)) ?_
  intro x _ W2 hW2
  refine (strays_any (B := B) x h g W2 (hg.below hW2 hg.lt)).mono ?_
  rintro e w' ⟨rfl, hb⟩
  exact ⟨by rw [m.l3], hb⟩

theorem Dm.chk_many {d : Dm} (h : d.many) : d.chk = 2 := by unfold Dm.chk; rw [if_pos h]
theorem Dm.chk_few {d : Dm} (h : ¬ d.many) : d.chk = if d.badD = true then 1 else if d.badR = true then 1 else if d.badH = true then 1 else 0 := by unfold Dm.chk; rw [if_neg h]

set_option maxRecDepth 100000 in
set_option maxHeartbeats 4000000 in
theorem dcheck_any {B : Nat} (h : Hd) (d : Dm) (w : World) (m : DomM w B h d) :
    Calls Try.prog 4 #[h.val] w fun e w' => e = .returned (.int .i64 d.chk) ∧ Below w.heap.size w w' := by
  have hmf : ∀ (fn : Fn) (first cap : Array Value) (w : World), (Instr.makeFunc fn first cap).run Try.prog w = .ok (.func fn first cap) w := fun _ _ _ _ => rfl
  obtain ⟨W1, hW1⟩ : ∃ W1, W1 = w.alloc (.cells h.cells.toArray 25) := ⟨_, rfl⟩
  have hB1 : Hid (Below w.heap.size w W1) := by show Below _ _ _; rw [hW1]; exact (Below.refl _ _).alloc (Nat.le_refl _) _
  have hR1 : Hid (Blk W1 w.heap.size h.cells 25) := by show Blk _ _ _ _; rw [hW1]; exact Blk.new _ _ _
  have hm1 := Lib.hid (m.below hB1.out)
  have p0 := hR1.out.cell (j := 0) rfl
  have p1 := hR1.out.cell (j := 1) rfl
  have p2 := hR1.out.cell (j := 2) rfl
  have p3 := hR1.out.cell (j := 3) rfl
  have hW1' := Lib.hid hW1
  have CD := Lib.hid (fun W hW g hg => containsD_any hm1.out W hW g hg)
  have CH := Lib.hid (fun W hW g hg => containsH_any hm1.out W hW g hg)
  have CR := Lib.hid (fun W hW g hg => containsR_any hm1.out W hW g hg)
  obtain ⟨Ex, hEx⟩ : ∃ E : Int, E = d.chk := ⟨_, rfl⟩
  rw [← hEx]
  have hmany : Hid (d.many ↔ 64 < h.n1 ∨ 24 < h.n2 ∨ 12 < h.n3 ∨ h.o < 0 ∨ 8 < h.o) := by
    show _ ↔ _
    unfold Dm.many
    rw [m.l1, m.l2, m.l3, m.eo]
  have hE := Lib.hid hEx
  have hlt1 := Lib.hid hR1.out.lt
  unfold Hd.cells at hW1' hR1 CR
  clear hEx m hW1 hm1
  obtain ⟨a1, n1, c1, a2, n2, c2, a3, n3, c3, o⟩ := h
  dsimp only at *
  unfold Hd.val
  dsimp only
  by_cases hM : 64 < n1 ∨ 24 < n2 ∨ 12 < n3 ∨ o < 0 ∨ 8 < o
  · have hz : Hid (Ex = 2) := by show _ = _; rw [hE.out]; exact Dm.chk_many (hmany.out.2 hM)
    clear hE hmany CD CH CR
    by_cases h1 : (64 : Int) < (n1 : Int)
    · go_enter Try.func4, Try.ntmps4
      go_wp2_with fail
      generalize hg : w.alloc _ = Wg
      have hgW : W1 = Wg := by rw [← hg, hW1'.out]
      clear hg hW1'
      subst hgW
      go_wp2_with fail
      go_ret
      exact ⟨by rw [hz.out]; rfl, hB1.out⟩
    by_cases h2 : (24 : Int) < (n2 : Int)
    · go_enter Try.func4, Try.ntmps4
      go_wp2_with fail
      generalize hg : w.alloc _ = Wg
      have hgW : W1 = Wg := by rw [← hg, hW1'.out]
      clear hg hW1'
      subst hgW
      go_wp2_with fail
      go_ret
      exact ⟨by rw [hz.out]; rfl, hB1.out⟩
    by_cases h3 : (12 : Int) < (n3 : Int)
    · go_enter Try.func4, Try.ntmps4
      go_wp2_with fail
      generalize hg : w.alloc _ = Wg
      have hgW : W1 = Wg := by rw [← hg, hW1'.out]
      clear hg hW1'
      subst hgW
      go_wp2_with fail
      go_ret
      exact ⟨by rw [hz.out]; rfl, hB1.out⟩
    by_cases h4 : o < 0
    · go_enter Try.func4, Try.ntmps4
      go_wp2_with fail
      generalize hg : w.alloc _ = Wg
      have hgW : W1 = Wg := by rw [← hg, hW1'.out]
      clear hg hW1'
      subst hgW
      go_wp2_with fail
      go_ret
      exact ⟨by rw [hz.out]; rfl, hB1.out⟩
    have h5 : 8 < o := by omega
    go_enter Try.func4, Try.ntmps4
    go_wp2_with fail
    generalize hg : w.alloc _ = Wg
    have hgW : W1 = Wg := by rw [← hg, hW1'.out]
    clear hg hW1'
    subst hgW
    go_wp2_with fail
    go_ret
    exact ⟨by rw [hz.out]; rfl, hB1.out⟩
  have h1 : ¬ (64 : Int) < (n1 : Int) := by omega
  have h2 : ¬ (24 : Int) < (n2 : Int) := by omega
  have h3 : ¬ (12 : Int) < (n3 : Int) := by omega
  have h4 : ¬ o < 0 := by omega
  have h5 : ¬ 8 < o := by omega
  have hE2 : Hid (Ex = if d.badD = true then 1 else if d.badR = true then 1 else if d.badH = true then 1 else 0) := by
    show _ = _; rw [hE.out]; exact Dm.chk_few (fun hh => hM (hmany.out.1 hh))
  generalize d.badD = b1 at *
  generalize d.badR = b2 at *
  generalize d.badH = b3 at *
  clear hE hmany hM
  have q1 : ∀ x : ExtOf W1.drew, x.world.cell? ⟨w.heap.size, 0, none⟩ = some (.slice a1 n1 c1) := fun x => (hR1.out.drew.below x.ext hlt1.out).cell (j := 0) rfl
  have q2 : ∀ x : ExtOf W1.drew, x.world.cell? ⟨w.heap.size, 1, none⟩ = some (.slice a2 n2 c2) := fun x => (hR1.out.drew.below x.ext hlt1.out).cell (j := 1) rfl
  go_enter Try.func4, Try.ntmps4
  go_wp2_with fail
  generalize hg : w.alloc _ = Wg
  have hgW : W1 = Wg := by rw [← hg, hW1'.out]
  clear hg hW1'
  subst hgW
  go_wp2_with fail
  refine wp_region_planM [] [(true, 0), (true, 1), (true, 2), (true, 3), (true, 4), (true, 5), (false, 6), (false, 7), (true, 8)] (by decide) (by kernel_rfl) (by kernel_rfl) (by decide) (by intro c a d v w h; cases d <;> exact h) ?_
  change wpPlanM _ _ _ _ _ _ W1.drew
  iterate 6 (refine wpPlanM_plain rfl (fun K hK => ?_); go_simp; refine hK _ ?_; clear hK K)
  clear q1 q2
  have hWd : Hid (Below W1.heap.size W1 W1.drew) := (Below.refl _ _).drew
  refine wpPlanM_call rfl (fun K hK => ?_)
  go_wp2_with fail
  refine (mkOut_any n2 W1.drew).mono ?_
  rintro e w2 ⟨rfl, hw2⟩
  have hb2 : Hid (Below W1.heap.size W1 w2) := by show Below _ _ _; rw [hw2]; exact hWd.out.alloc (Nat.le_refl _) _
  have hbd : Hid (Below W1.drew.heap.size W1.drew w2) := by show Below _ _ _; rw [hw2]; exact (Below.refl _ _).alloc (Nat.le_refl _) _
  have hk2 : Hid (Blk w2 W1.drew.heap.size [.int .i64 n2] 3) := by show Blk _ _ _ _; rw [hw2]; exact Blk.new _ [_] _
  have D1 := Lib.hid (CD.out w2 hb2.out _ hk2.out)
  clear hw2
  go_wp2_with fail
  refine planPostL_normal ⟨.inr hbd.out, hK _ _ ?_⟩
  clear hK K
  refine wpPlanM_call rfl (fun K hK => ?_)
  go_wp2_with fail
  refine D1.out.mono ?_
  rintro e w3 ⟨rfl, hb3⟩
  have hb3' : Hid (Below W1.heap.size W1 w3) := hb2.out.trans (hb3.mono hb2.out.size)
  have hb3'' := Lib.hid hb3
  clear hb3
  go_wp2_with fail
  refine planPostL_normal ⟨.inr hb3''.out, hK _ _ ?_⟩
  clear hK K
  iterate 1 (refine wpPlanM_plain rfl (fun K hK => ?_); go_simp; refine hK _ ?_; clear hK K)
  refine wpPlanM_nil ?_
  clear hb3'' D1 hk2 hbd hb2 CD
  have hBw3 := Lib.hid (hB1.out.trans (hb3'.out.mono hB1.out.size))
  cases b1 with
  | true =>
    go_wp2_with fail
    go_ret
    exact ⟨by rw [hE2.out]; rfl, hBw3.out⟩
  | false =>
  replace hR1 := Lib.hid (hR1.out.below hb3'.out hlt1.out)
  replace p0 := hR1.out.cell (j := 0) rfl
  replace p1 := hR1.out.cell (j := 1) rfl
  replace p2 := hR1.out.cell (j := 2) rfl
  replace p3 := hR1.out.cell (j := 3) rfl
  have D2 := Lib.hid (CR.out w3 hb3'.out _ hR1.out)
  go_wp2_with fail
  refine D2.out.mono ?_
  rintro e w4 ⟨rfl, hb4⟩
  have hb4' : Hid (Below W1.heap.size W1 w4) := hb3'.out.trans (hb4.mono hb3'.out.size)
  have hBw4 := Lib.hid (hB1.out.trans (hb4'.out.mono hB1.out.size))
  replace hR1 := Lib.hid (hR1.out.below hb4 hR1.out.lt)
  clear hb4 D2 hBw3 hb3' CR
  replace p0 := hR1.out.cell (j := 0) rfl
  replace p1 := hR1.out.cell (j := 1) rfl
  replace p2 := hR1.out.cell (j := 2) rfl
  replace p3 := hR1.out.cell (j := 3) rfl
  cases b2 with
  | true =>
    go_wp2_with fail
    go_ret
    exact ⟨by rw [hE2.out]; rfl, hBw4.out⟩
  | false =>
  have hlt4 := Lib.hid hR1.out.lt
  have q1 : ∀ x : ExtOf w4.drew, x.world.cell? ⟨w.heap.size, 2, none⟩ = some (.slice a3 n3 c3) := fun x => (hR1.out.drew.below x.ext hlt4.out).cell (j := 2) rfl
  have q2 : ∀ x : ExtOf w4.drew, x.world.cell? ⟨w.heap.size, 3, none⟩ = some (.int .i64 o) := fun x => (hR1.out.drew.below x.ext hlt4.out).cell (j := 3) rfl
  go_wp2_with fail
  refine wp_region_planM [] [(true, 0), (true, 1), (true, 2), (true, 3), (true, 4), (false, 5), (false, 6), (true, 7)] (by decide) (by kernel_rfl) (by kernel_rfl) (by decide) (by intro c a d v w h; cases d <;> exact h) ?_
  change wpPlanM _ _ _ _ _ _ w4.drew
  iterate 5 (refine wpPlanM_plain rfl (fun K hK => ?_); go_simp; refine hK _ ?_; clear hK K)
  clear q1 q2
  have hWd4 : Hid (Below W1.heap.size W1 w4.drew) := hb4'.out.drew
  refine wpPlanM_call rfl (fun K hK => ?_)
  go_wp2_with fail
  refine (mkOut_any o w4.drew).mono ?_
  rintro e w5 ⟨rfl, hw5⟩
  have hb5 : Hid (Below W1.heap.size W1 w5) := by show Below _ _ _; rw [hw5]; exact hWd4.out.alloc hWd4.out.size _
  have hbd : Hid (Below w4.drew.heap.size w4.drew w5) := by show Below _ _ _; rw [hw5]; exact (Below.refl _ _).alloc (Nat.le_refl _) _
  have hk2 : Hid (Blk w5 w4.drew.heap.size [.int .i64 o] 3) := by show Blk _ _ _ _; rw [hw5]; exact Blk.new _ [_] _
  have D1 := Lib.hid (CH.out w5 hb5.out _ hk2.out)
  clear hw5
  go_wp2_with fail
  refine planPostL_normal ⟨.inr hbd.out, hK _ _ ?_⟩
  clear hK K
  refine wpPlanM_call rfl (fun K hK => ?_)
  go_wp2_with fail
  refine D1.out.mono ?_
  rintro e w6 ⟨rfl, hb6⟩
  have hb6' : Hid (Below W1.heap.size W1 w6) := hb5.out.trans (hb6.mono hb5.out.size)
  have hb6'' := Lib.hid hb6
  clear hb6
  go_wp2_with fail
  refine planPostL_normal ⟨.inr hb6''.out, hK _ _ ?_⟩
  clear hK K
  iterate 1 (refine wpPlanM_plain rfl (fun K hK => ?_); go_simp; refine hK _ ?_; clear hK K)
  refine wpPlanM_nil ?_
  have hBw6 := Lib.hid (hB1.out.trans (hb6'.out.mono hB1.out.size))
  cases b3 with
  | true =>
    go_wp2_with fail
    go_ret
    exact ⟨by rw [hE2.out]; rfl, hBw6.out⟩
  | false =>
    go_wp2_with fail
    go_ret
    exact ⟨by rw [hE2.out]; rfl, hBw6.out⟩
end Go.Proofs.Ytelcaddgkjkegaa
