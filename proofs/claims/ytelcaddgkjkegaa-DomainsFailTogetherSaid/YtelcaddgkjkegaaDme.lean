/-
  Stage 10 (domain): the contract of Size.
-/
import Derived.Test.YtelcaddgkjkegaaDmd
namespace Go.Proofs.Ytelcaddgkjkegaa
set_option linter.unusedVariables false
set_option linter.unusedSimpArgs false
open Go.RowKit

theorem Dm.size_bad {d : Dm} (h : d.chk ≠ 0) (lv : Int) : d.size lv = 0 := by unfold Dm.size; rw [if_neg h]
theorem Dm.size_ok {d : Dm} (h : d.chk = 0) (lv : Int) : d.size lv = (if lv = 0 then (d.D.length : Int) else if lv = 1 then d.R.length else if lv = 2 then d.H.length else if lv = 3 then d.O else 0) := by unfold Dm.size; rw [if_pos h]

set_option maxRecDepth 100000 in
set_option maxHeartbeats 4000000 in
theorem dsize_any {B : Nat} (h : Hd) (d : Dm) (lv : Int) (w : World) (m : DomM w B h d) :
    Calls Try.prog 7 #[h.val, .int .i64 lv] w fun e w' => e = .returned (.int .i64 (d.size lv)) ∧ Below w.heap.size w w' := by
  obtain ⟨W1, hW1⟩ : ∃ W1, W1 = w.alloc (.cells h.cells.toArray 25) := ⟨_, rfl⟩
  have hB1 : Hid (Below w.heap.size w W1) := by show Below _ _ _; rw [hW1]; exact (Below.refl _ _).alloc (Nat.le_refl _) _
  have hR1 : Hid (Blk W1 w.heap.size h.cells 25) := by show Blk _ _ _ _; rw [hW1]; exact Blk.new _ _ _
  have CC := Lib.hid (dcheck_any h d W1 (m.below hB1.out))
  have hW1' := Lib.hid hW1
  have hlt1 := Lib.hid hR1.out.lt
  obtain ⟨Sz, hSz⟩ : ∃ E : Int, E = d.size lv := ⟨_, rfl⟩
  have hS := Lib.hid hSz
  rw [← hSz]
  have hl1 := Lib.hid m.l1
  have hl2 := Lib.hid m.l2
  have hl3 := Lib.hid m.l3
  have hlo := Lib.hid m.eo
  have hdd := Lib.hid size_dom
  have hun : Hid (Try.prog.underlying 25 = _) := Try.underlying25
  unfold Hd.cells at hR1 hW1'
  unfold Hd.val at CC
  clear hSz m hW1
  obtain ⟨a1, n1, c1, a2, n2, c2, a3, n3, c3, o⟩ := h
  dsimp only at *
  unfold Hd.val
  dsimp only
  by_cases h0 : d.chk = 0
  · have hS2 : Hid (Sz = if lv = 0 then (n1 : Int) else if lv = 1 then (n2 : Int) else if lv = 2 then (n3 : Int) else if lv = 3 then o else 0) := by
      show _ = _
      rw [hS.out, Dm.size_ok h0, hl1.out, hl2.out, hl3.out, hlo.out]
    rw [h0] at CC
    clear hS h0 hl1 hl2 hl3 hlo
    by_cases e0 : lv = 0
    · have hz : Hid (Sz = n1) := by show _ = _; rw [hS2.out, if_pos e0]
      clear hS2
      subst e0
      go_enter Try.func7, Try.ntmps7
      go_wp2_with fail
      generalize hg : w.alloc _ = Wg
      have hgW : W1 = Wg := by rw [← hg, hW1'.out]
      clear hg hW1'
      subst hgW
      go_wp2_with (refine wpList_blk_load rfl 25 _ rfl 0 rfl hR1.out _ (take_all0 _) _ hun.out rfl hdd.out ?_)
      refine CC.out.mono ?_
      rintro e w2 ⟨rfl, hb2⟩
      have hk := hR1.out.below hb2 hlt1.out
      have p := hk.cell (j := 0) rfl
      have hB2 := Lib.hid (hB1.out.trans (hb2.mono hB1.out.size))
      clear hb2 hk
      go_wp2_with fail
      go_ret
      rw [hz.out]
      exact ⟨rfl, hB2.out⟩
    by_cases e1 : lv = 1
    · have hz : Hid (Sz = n2) := by show _ = _; rw [hS2.out, if_neg e0, if_pos e1]
      clear hS2 e0
      subst e1
      go_enter Try.func7, Try.ntmps7
      go_wp2_with fail
      generalize hg : w.alloc _ = Wg
      have hgW : W1 = Wg := by rw [← hg, hW1'.out]
      clear hg hW1'
      subst hgW
      go_wp2_with (refine wpList_blk_load rfl 25 _ rfl 0 rfl hR1.out _ (take_all0 _) _ hun.out rfl hdd.out ?_)
      refine CC.out.mono ?_
      rintro e w2 ⟨rfl, hb2⟩
      have hk := hR1.out.below hb2 hlt1.out
      have p := hk.cell (j := 1) rfl
      have hB2 := Lib.hid (hB1.out.trans (hb2.mono hB1.out.size))
      clear hb2 hk
      go_wp2_with fail
      go_ret
      rw [hz.out]
      exact ⟨rfl, hB2.out⟩
    by_cases e2 : lv = 2
    · have hz : Hid (Sz = n3) := by show _ = _; rw [hS2.out, if_neg e0, if_neg e1, if_pos e2]
      clear hS2 e0 e1
      subst e2
      go_enter Try.func7, Try.ntmps7
      go_wp2_with fail
      generalize hg : w.alloc _ = Wg
      have hgW : W1 = Wg := by rw [← hg, hW1'.out]
      clear hg hW1'
      subst hgW
      go_wp2_with (refine wpList_blk_load rfl 25 _ rfl 0 rfl hR1.out _ (take_all0 _) _ hun.out rfl hdd.out ?_)
      refine CC.out.mono ?_
      rintro e w2 ⟨rfl, hb2⟩
      have hk := hR1.out.below hb2 hlt1.out
      have p := hk.cell (j := 2) rfl
      have hB2 := Lib.hid (hB1.out.trans (hb2.mono hB1.out.size))
      clear hb2 hk
      go_wp2_with fail
      go_ret
      rw [hz.out]
      exact ⟨rfl, hB2.out⟩
    by_cases e3 : lv = 3
    · have hz : Hid (Sz = o) := by show _ = _; rw [hS2.out, if_neg e0, if_neg e1, if_neg e2, if_pos e3]
      clear hS2 e0 e1 e2
      subst e3
      go_enter Try.func7, Try.ntmps7
      go_wp2_with fail
      generalize hg : w.alloc _ = Wg
      have hgW : W1 = Wg := by rw [← hg, hW1'.out]
      clear hg hW1'
      subst hgW
      go_wp2_with (refine wpList_blk_load rfl 25 _ rfl 0 rfl hR1.out _ (take_all0 _) _ hun.out rfl hdd.out ?_)
      refine CC.out.mono ?_
      rintro e w2 ⟨rfl, hb2⟩
      have hk := hR1.out.below hb2 hlt1.out
      have p := hk.cell (j := 3) rfl
      have hB2 := Lib.hid (hB1.out.trans (hb2.mono hB1.out.size))
      clear hb2 hk
      go_wp2_with fail
      go_ret
      rw [hz.out]
      exact ⟨rfl, hB2.out⟩
    have hz : Hid (Sz = 0) := by show _ = _; rw [hS2.out, if_neg e0, if_neg e1, if_neg e2, if_neg e3]
    clear hS2
    go_enter Try.func7, Try.ntmps7
    go_wp2_with fail
    generalize hg : w.alloc _ = Wg
    have hgW : W1 = Wg := by rw [← hg, hW1'.out]
    clear hg hW1'
    subst hgW
    go_wp2_with (refine wpList_blk_load rfl 25 _ rfl 0 rfl hR1.out _ (take_all0 _) _ hun.out rfl hdd.out ?_)
    refine CC.out.mono ?_
    rintro e w2 ⟨rfl, hb2⟩
    have hB2 := Lib.hid (hB1.out.trans (hb2.mono hB1.out.size))
    clear hb2
    go_wp2_with fail
    go_ret
    rw [hz.out]
    exact ⟨rfl, hB2.out⟩
  · have hz : Hid (Sz = 0) := by show _ = _; rw [hS.out]; exact Dm.size_bad h0 lv
    have hne : (d.chk != 0) = true := by simp only [bne_iff_ne, ne_eq]; exact h0
    clear hS
    generalize d.chk = q at *
    go_enter Try.func7, Try.ntmps7
    go_wp2_with fail
    generalize hg : w.alloc _ = Wg
    have hgW : W1 = Wg := by rw [← hg, hW1'.out]
    clear hg hW1'
    subst hgW
    go_wp2_with (refine wpList_blk_load rfl 25 _ rfl 0 rfl hR1.out _ (take_all0 _) _ hun.out rfl hdd.out ?_)
    refine CC.out.mono ?_
    rintro e w2 ⟨rfl, hb2⟩
    have hB2 := Lib.hid (hB1.out.trans (hb2.mono hB1.out.size))
    clear hb2
    go_wp2_with fail
    go_ret
    rw [hz.out]
    exact ⟨rfl, hB2.out⟩
end Go.Proofs.Ytelcaddgkjkegaa
