/-
  Stage 10 (domain): the reference's Size, Of, Relate, Few.
-/
import Derived.Test.YtoonpgedioocgaaDmi
import Derived.Test.YtoonpgedioocgaaDmh
namespace Go.Proofs.Ytoonpgedioocgaa
set_option linter.unusedVariables false
set_option linter.unusedSimpArgs false
open Go.RowKit

set_option maxRecDepth 100000 in
set_option maxHeartbeats 4000000 in
theorem rsize_any {B : Nat} (h : Hd) (d : Dm) (lv : Int) (w : World) (m : DomM w B h d) :
    Calls Try.prog 10 #[h.val, .int .i64 lv] w fun e w' => e = .returned (.int .i64 (d.size lv)) ∧ Below w.heap.size w w' := by
  obtain ⟨W1, hW1⟩ : ∃ W1, W1 = w.alloc (.cells h.cells.toArray 25) := ⟨_, rfl⟩
  have hB1 : Hid (Below w.heap.size w W1) := by show Below _ _ _; rw [hW1]; exact (Below.refl _ _).alloc (Nat.le_refl _) _
  have hR1 : Hid (Blk W1 w.heap.size h.cells 25) := by show Blk _ _ _ _; rw [hW1]; exact Blk.new _ _ _
  have CC := Lib.hid (rcheck_any h d W1 (m.below hB1.out))
  have hW1' := Lib.hid hW1
  have hlt1 := Lib.hid hR1.out.lt
  obtain ⟨Sz, hSz⟩ : ∃ E : Int, E = d.size lv := ⟨_, rfl⟩
  have hS := Lib.hid hSz
  rw [← hSz]
  have hl1 := Lib.hid m.l1
  have hl2 := Lib.hid m.l2
  have hl3 := Lib.hid m.l3
  have hlo := Lib.hid m.eo
  have hdd := Lib.hid size_dom
  have hun : Hid (Try.prog.underlying 25 = _) := Try.underlying25
  unfold Hd.cells at hR1 hW1'
  unfold Hd.val at CC
  clear hSz m hW1
  obtain ⟨a1, n1, c1, a2, n2, c2, a3, n3, c3, o⟩ := h
  dsimp only at *
  unfold Hd.val
  dsimp only
  by_cases h0 : d.chk = 0
  · have hS2 : Hid (Sz = if lv = 0 then (n1 : Int) else if lv = 1 then (n2 : Int) else if lv = 2 then (n3 : Int) else if lv = 3 then o else 0) := by
      show _ = _
      rw [hS.out, Dm.size_ok h0, hl1.out, hl2.out, hl3.out, hlo.out]
    rw [h0] at CC
    clear hS h0 hl1 hl2 hl3 hlo
    by_cases e0 : lv = 0
    · have hz : Hid (Sz = n1) := by show _ = _; rw [hS2.out, if_pos e0]
      clear hS2
      subst e0
      go_enter Try.func10, Try.ntmps10
      go_wp2_with fail
      generalize hg : w.alloc _ = Wg
      have hgW : W1 = Wg := by rw [← hg, hW1'.out]
      clear hg hW1'
      subst hgW
      go_wp2_with (refine wpList_blk_load rfl 25 _ rfl 0 rfl hR1.out _ (take_all0 _) _ hun.out rfl hdd.out ?_)
      refine CC.out.mono ?_
      rintro e w2 ⟨rfl, hb2⟩
      have hk := hR1.out.below hb2 hlt1.out
      have p := hk.cell (j := 0) rfl
      have hB2 := Lib.hid (hB1.out.trans (hb2.mono hB1.out.size))
      clear hb2 hk
      go_wp2_with fail
      go_ret
      rw [hz.out]
      exact ⟨rfl, hB2.out⟩
    by_cases e1 : lv = 1
    · have hz : Hid (Sz = n2) := by show _ = _; rw [hS2.out, if_neg e0, if_pos e1]
      clear hS2 e0
      subst e1
      go_enter Try.func10, Try.ntmps10
      go_wp2_with fail
      generalize hg : w.alloc _ = Wg
      have hgW : W1 = Wg := by rw [← hg, hW1'.out]
      clear hg hW1'
      subst hgW
      go_wp2_with (refine wpList_blk_load rfl 25 _ rfl 0 rfl hR1.out _ (take_all0 _) _ hun.out rfl hdd.out ?_)
      refine CC.out.mono ?_
      rintro e w2 ⟨rfl, hb2⟩
      have hk := hR1.out.below hb2 hlt1.out
      have p := hk.cell (j := 1) rfl
      have hB2 := Lib.hid (hB1.out.trans (hb2.mono hB1.out.size))
      clear hb2 hk
      go_wp2_with fail
      go_ret
      rw [hz.out]
      exact ⟨rfl, hB2.out⟩
    by_cases e2 : lv = 2
    · have hz : Hid (Sz = n3) := by show _ = _; rw [hS2.out, if_neg e0, if_neg e1, if_pos e2]
      clear hS2 e0 e1
      subst e2
      go_enter Try.func10, Try.ntmps10
      go_wp2_with fail
      generalize hg : w.alloc _ = Wg
      have hgW : W1 = Wg := by rw [← hg, hW1'.out]
      clear hg hW1'
      subst hgW
      go_wp2_with (refine wpList_blk_load rfl 25 _ rfl 0 rfl hR1.out _ (take_all0 _) _ hun.out rfl hdd.out ?_)
      refine CC.out.mono ?_
      rintro e w2 ⟨rfl, hb2⟩
      have hk := hR1.out.below hb2 hlt1.out
      have p := hk.cell (j := 2) rfl
      have hB2 := Lib.hid (hB1.out.trans (hb2.mono hB1.out.size))
      clear hb2 hk
      go_wp2_with fail
      go_ret
      rw [hz.out]
      exact ⟨rfl, hB2.out⟩
    by_cases e3 : lv = 3
    · have hz : Hid (Sz = o) := by show _ = _; rw [hS2.out, if_neg e0, if_neg e1, if_neg e2, if_pos e3]
      clear hS2 e0 e1 e2
      subst e3
      go_enter Try.func10, Try.ntmps10
      go_wp2_with fail
      generalize hg : w.alloc _ = Wg
      have hgW : W1 = Wg := by rw [← hg, hW1'.out]
      clear hg hW1'
      subst hgW
      go_wp2_with (refine wpList_blk_load rfl 25 _ rfl 0 rfl hR1.out _ (take_all0 _) _ hun.out rfl hdd.out ?_)
      refine CC.out.mono ?_
      rintro e w2 ⟨rfl, hb2⟩
      have hk := hR1.out.below hb2 hlt1.out
      have p := hk.cell (j := 3) rfl
      have hB2 := Lib.hid (hB1.out.trans (hb2.mono hB1.out.size))
      clear hb2 hk
      go_wp2_with fail
      go_ret
      rw [hz.out]
      exact ⟨rfl, hB2.out⟩
    have hz : Hid (Sz = 0) := by show _ = _; rw [hS2.out, if_neg e0, if_neg e1, if_neg e2, if_neg e3]
    clear hS2
    go_enter Try.func10, Try.ntmps10
    go_wp2_with fail
    generalize hg : w.alloc _ = Wg
    have hgW : W1 = Wg := by rw [← hg, hW1'.out]
    clear hg hW1'
    subst hgW
    go_wp2_with (refine wpList_blk_load rfl 25 _ rfl 0 rfl hR1.out _ (take_all0 _) _ hun.out rfl hdd.out ?_)
    refine CC.out.mono ?_
    rintro e w2 ⟨rfl, hb2⟩
    have hB2 := Lib.hid (hB1.out.trans (hb2.mono hB1.out.size))
    clear hb2
    go_wp2_with fail
    go_ret
    rw [hz.out]
    exact ⟨rfl, hB2.out⟩
  · have hz : Hid (Sz = 0) := by show _ = _; rw [hS.out]; exact Dm.size_bad h0 lv
    have hne : (d.chk != 0) = true := by simp only [bne_iff_ne, ne_eq]; exact h0
    clear hS
    generalize d.chk = q at *
    go_enter Try.func10, Try.ntmps10
    go_wp2_with fail
    generalize hg : w.alloc _ = Wg
    have hgW : W1 = Wg := by rw [← hg, hW1'.out]
    clear hg hW1'
    subst hgW
    go_wp2_with (refine wpList_blk_load rfl 25 _ rfl 0 rfl hR1.out _ (take_all0 _) _ hun.out rfl hdd.out ?_)
    refine CC.out.mono ?_
    rintro e w2 ⟨rfl, hb2⟩
    have hB2 := Lib.hid (hB1.out.trans (hb2.mono hB1.out.size))
    clear hb2
    go_wp2_with fail
    go_ret
    rw [hz.out]
    exact ⟨rfl, hB2.out⟩

set_option maxRecDepth 100000 in
set_option maxHeartbeats 4000000 in
theorem rof_any {B : Nat} (h : Hd) (d : Dm) (lv k : Int) (w : World) (m : DomM w B h d) :
    Calls Try.prog 12 #[h.val, .int .i64 lv, .int .i64 k] w fun e w' => e = .returned (.int .i64 (d.of lv k)) ∧ Below w.heap.size w w' := by
  obtain ⟨z, hz0⟩ : ∃ z, z = d.of lv k := ⟨_, rfl⟩
  have hz := Lib.hid hz0
  rw [← hz0]
  clear hz0
  obtain ⟨W1, hW1⟩ : ∃ W1, W1 = w.alloc (.cells h.cells.toArray 25) := ⟨_, rfl⟩
  have hB1 : Hid (Below w.heap.size w W1) := by show Below _ _ _; rw [hW1]; exact (Below.refl _ _).alloc (Nat.le_refl _) _
  have hR1 : Hid (Blk W1 w.heap.size h.cells 25) := by show Blk _ _ _ _; rw [hW1]; exact Blk.new _ _ _
  have hm1 := Lib.hid (m.below hB1.out)
  have CC := Lib.hid (rcheck_any h d W1 hm1.out)
  have hW1' := Lib.hid hW1
  have hlt1 := Lib.hid hR1.out.lt
  have hdd := Lib.hid size_dom
  have hun : Hid (Try.prog.underlying 25 = _) := Try.underlying25
  have hl1 : Hid (h.n1 = d.D.length) := m.l1
  have hl2 : Hid (h.n2 = d.R.length) := m.l2
  have hl3 : Hid (h.n3 = d.H.length) := m.l3
  obtain ⟨q, hq0⟩ : ∃ q, q = d.chk := ⟨_, rfl⟩
  have hq := Lib.hid hq0
  rw [← hq0] at CC
  clear hq0
  unfold Hd.cells at hR1 hW1'
  unfold Hd.val at CC ⊢
  clear m hW1
  obtain ⟨a1, n1, c1, a2, n2, c2, a3, n3, c3, o⟩ := h
  dsimp only at *
  have hout : Hid (¬ (d.chk = 0 ∧ 0 ≤ lv ∧ lv ≤ 3 ∧ 0 ≤ k ∧ k < d.D.length) → z = -1) := fun hh => by rw [hz.out]; unfold Dm.of; rw [if_neg hh]
  by_cases e0 : q = 0
  rotate_left
  · have hzz : Hid (z = -1) := hout.out (fun hh => e0 (by rw [hq.out]; exact hh.1))
    have e0' : (q != 0) = true := by simp only [bne_iff_ne, ne_eq]; exact e0
    clear hout hz e0
    go_enter Try.func12, Try.ntmps12
    go_wp2_with fail
    generalize hg : w.alloc _ = Wg
    have hgW : W1 = Wg := by rw [← hg, hW1'.out]
    clear hg hW1'
    subst hgW
    go_wp2_with (refine wpList_blk_load rfl 25 _ rfl 0 rfl hR1.out _ (take_all0 _) _ hun.out rfl hdd.out ?_)
    refine CC.out.mono ?_
    rintro e w2 ⟨rfl, hb2⟩
    have hB2 := Lib.hid (hB1.out.trans (hb2.mono hB1.out.size))
    have hk2 := hR1.out.below hb2 hlt1.out
    have q0 := hk2.cell (j := 0) rfl
    have q1 := hk2.cell (j := 1) rfl
    have q2 := hk2.cell (j := 2) rfl
    clear hb2 hk2
    go_wp2_with fail
    go_ret
    rw [hzz.out]
    exact ⟨rfl, hB2.out⟩
  subst e0
  by_cases u1 : lv < 0
  · have hzz : Hid (z = -1) := hout.out (fun hh => by omega)
    clear hout hz
    go_enter Try.func12, Try.ntmps12
    go_wp2_with fail
    generalize hg : w.alloc _ = Wg
    have hgW : W1 = Wg := by rw [← hg, hW1'.out]
    clear hg hW1'
    subst hgW
    go_wp2_with (refine wpList_blk_load rfl 25 _ rfl 0 rfl hR1.out _ (take_all0 _) _ hun.out rfl hdd.out ?_)
    refine CC.out.mono ?_
    rintro e w2 ⟨rfl, hb2⟩
    have hB2 := Lib.hid (hB1.out.trans (hb2.mono hB1.out.size))
    have hk2 := hR1.out.below hb2 hlt1.out
    have q0 := hk2.cell (j := 0) rfl
    have q1 := hk2.cell (j := 1) rfl
    have q2 := hk2.cell (j := 2) rfl
    clear hb2 hk2
    go_wp2_with fail
    go_ret
    rw [hzz.out]
    exact ⟨rfl, hB2.out⟩
  by_cases u2 : 3 < lv
  · have hzz : Hid (z = -1) := hout.out (fun hh => by omega)
    clear hout hz
    go_enter Try.func12, Try.ntmps12
    go_wp2_with fail
    generalize hg : w.alloc _ = Wg
    have hgW : W1 = Wg := by rw [← hg, hW1'.out]
    clear hg hW1'
    subst hgW
    go_wp2_with (refine wpList_blk_load rfl 25 _ rfl 0 rfl hR1.out _ (take_all0 _) _ hun.out rfl hdd.out ?_)
    refine CC.out.mono ?_
    rintro e w2 ⟨rfl, hb2⟩
    have hB2 := Lib.hid (hB1.out.trans (hb2.mono hB1.out.size))
    have hk2 := hR1.out.below hb2 hlt1.out
    have q0 := hk2.cell (j := 0) rfl
    have q1 := hk2.cell (j := 1) rfl
    have q2 := hk2.cell (j := 2) rfl
    clear hb2 hk2
    go_wp2_with fail
    go_ret
    rw [hzz.out]
    exact ⟨rfl, hB2.out⟩
  by_cases u3 : k < 0
  · have hzz : Hid (z = -1) := hout.out (fun hh => by omega)
    clear hout hz
    go_enter Try.func12, Try.ntmps12
    go_wp2_with fail
    generalize hg : w.alloc _ = Wg
    have hgW : W1 = Wg := by rw [← hg, hW1'.out]
    clear hg hW1'
    subst hgW
    go_wp2_with (refine wpList_blk_load rfl 25 _ rfl 0 rfl hR1.out _ (take_all0 _) _ hun.out rfl hdd.out ?_)
    refine CC.out.mono ?_
    rintro e w2 ⟨rfl, hb2⟩
    have hB2 := Lib.hid (hB1.out.trans (hb2.mono hB1.out.size))
    have hk2 := hR1.out.below hb2 hlt1.out
    have q0 := hk2.cell (j := 0) rfl
    have q1 := hk2.cell (j := 1) rfl
    have q2 := hk2.cell (j := 2) rfl
    clear hb2 hk2
    go_wp2_with fail
    go_ret
    rw [hzz.out]
    exact ⟨rfl, hB2.out⟩
  by_cases u4 : (n1 : Int) ≤ k
  · have hzz : Hid (z = -1) := hout.out (fun hh => by have := hl1.out; omega)
    clear hout hz
    go_enter Try.func12, Try.ntmps12
    go_wp2_with fail
    generalize hg : w.alloc _ = Wg
    have hgW : W1 = Wg := by rw [← hg, hW1'.out]
    clear hg hW1'
    subst hgW
    go_wp2_with (refine wpList_blk_load rfl 25 _ rfl 0 rfl hR1.out _ (take_all0 _) _ hun.out rfl hdd.out ?_)
    refine CC.out.mono ?_
    rintro e w2 ⟨rfl, hb2⟩
    have hB2 := Lib.hid (hB1.out.trans (hb2.mono hB1.out.size))
    have hk2 := hR1.out.below hb2 hlt1.out
    have q0 := hk2.cell (j := 0) rfl
    have q1 := hk2.cell (j := 1) rfl
    have q2 := hk2.cell (j := 2) rfl
    clear hb2 hk2
    go_wp2_with fail
    go_ret
    rw [hzz.out]
    exact ⟨rfl, hB2.out⟩
  obtain ⟨i, rfl⟩ : ∃ i : Nat, k = i := ⟨k.toNat, by omega⟩
  have hi1 : i < n1 := by omega
  have hck : Hid (d.chk = 0) := hq.out.symm
  have hid : Hid (i < d.D.length) := by show _ < _; rw [← hl1.out]; exact hi1
  have hup : Hid (z = d.up lv i) := by show _ = _; rw [hz.out]; exact Dm.of_in hck.out (by omega) (by omega) hid.out
  have hr1 := Dm.ok_rk hck.out hid.out
  obtain ⟨r, hr⟩ : ∃ r : Nat, d.rk i = r := ⟨(d.rk i).toNat, by omega⟩
  have hrr : r < d.R.length := by omega
  have hr2 := Dm.ok_hs hck.out hr1.1 hr1.2
  rw [hr] at hr2
  obtain ⟨s, hs⟩ : ∃ s : Nat, d.hsR r = s := ⟨(d.hsR r).toNat, by omega⟩
  have hss : s < d.H.length := by omega
  obtain ⟨y, hy⟩ : ∃ y, y = d.owH s := ⟨_, rfl⟩
  have hupH : Hid (d.up lv i = if lv = 0 then (i : Int) else if lv = 1 then (r : Int) else if lv = 2 then (s : Int) else y) := by
    show _ = _
    unfold Dm.up
    rw [hr, hs, hy]
  have tr : (r : Int) < (n2 : Int) := by rw [hl2.out]; omega
  have tr0 : 0 ≤ (r : Int) := by omega
  have ts : (s : Int) < (n3 : Int) := by rw [hl3.out]; omega
  have ts0 : 0 ≤ (s : Int) := by omega
  have ti0 : 0 ≤ (i : Int) := by omega
  have ti : (i : Int) < (n1 : Int) := by omega
  have hcell : Hid (∀ W, Below W1.heap.size W1 W → ∃ ad1 ad2 ad3, a1 = some ad1 ∧ a2 = some ad2 ∧ a3 = some ad3 ∧ W.cell? (ad1.add i) = some (.int .i64 r) ∧ W.cell? (ad2.add (r * 2)) = some (.int .i64 s) ∧ W.cell? (ad3.add s) = some (.int .i64 y)) := fun W hW => by
    obtain ⟨ad1, e1, _, c1⟩ := (hm1.out.below hW).disk hid.out
    obtain ⟨ad2, e2, _, c2, _⟩ := (hm1.out.below hW).rack hrr
    obtain ⟨ad3, e3, _, c3⟩ := (hm1.out.below hW).house hss
    rw [hr] at c1
    rw [hs] at c2
    rw [← hy] at c3
    exact ⟨ad1, ad2, ad3, e1, e2, e3, c1, c2, c3⟩
  clear hr1 hr2 hr hs hy hout hz hck hid hrr hss hi1
  go_enter Try.func12, Try.ntmps12
  go_wp2_with fail
  generalize hg : w.alloc _ = Wg
  have hgW : W1 = Wg := by rw [← hg, hW1'.out]
  clear hg hW1'
  subst hgW
  go_wp2_with (refine wpList_blk_load rfl 25 _ rfl 0 rfl hR1.out _ (take_all0 _) _ hun.out rfl hdd.out ?_)
  refine CC.out.mono ?_
  rintro e w2 ⟨rfl, hb2⟩
  have hB2 := Lib.hid (hB1.out.trans (hb2.mono hB1.out.size))
  have hk2 := hR1.out.below hb2 hlt1.out
  have q0 := hk2.cell (j := 0) rfl
  have q1 := hk2.cell (j := 1) rfl
  have q2 := hk2.cell (j := 2) rfl
  obtain ⟨ad1, ad2, ad3, rfl, rfl, rfl, g1, g2, g3⟩ := hcell.out w2 hb2
  clear hb2 hk2 hcell
  by_cases e0 : lv = 0
  · have hzz : z = (i : Int) := by rw [hup.out, hupH.out, if_pos e0]
    subst e0
    go_wp2_with fail
    go_ret
    rw [hzz]
    exact ⟨rfl, hB2.out⟩
  by_cases e1 : lv = 1
  · have hzz : z = (r : Int) := by rw [hup.out, hupH.out, if_neg e0, if_pos e1]
    subst e1
    go_wp2_with fail
    go_ret
    rw [hzz]
    exact ⟨rfl, hB2.out⟩
  by_cases e2 : lv = 2
  · have hzz : z = (s : Int) := by rw [hup.out, hupH.out, if_neg e0, if_neg e1, if_pos e2]
    subst e2
    go_wp2_with fail
    go_ret
    rw [hzz]
    exact ⟨rfl, hB2.out⟩
  have hzz : z = y := by rw [hup.out, hupH.out, if_neg e0, if_neg e1, if_neg e2]
  go_wp2_with fail
  go_ret
  rw [hzz]
  exact ⟨rfl, hB2.out⟩
end Go.Proofs.Ytoonpgedioocgaa
