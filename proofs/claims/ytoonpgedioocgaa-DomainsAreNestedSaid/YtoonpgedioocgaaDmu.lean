/-
  Stage 10 (domain): the reference's Sell and Ship.
-/
import Derived.Test.YtoonpgedioocgaaDmt
namespace Go.Proofs.Ytoonpgedioocgaa
set_option linter.unusedVariables false
set_option linter.unusedSimpArgs false
open Go.RowKit

set_option maxRecDepth 100000 in
theorem build_err (e : Int) (w : World) : (Instr.build 48 #[(1, .int .i64 e)]).run Try.prog w = .ok (.agg #[.slice none 0 0, .slice none 0 0, .slice none 0 0, .int .i64 0, .int .i64 e]) w := by
  first | rfl | kernel_rfl
set_option maxRecDepth 100000 in
theorem build_chg (a1 a2 a3 : Option Addr) (n1 n2 n3 c1 c2 c3 : Nat) (o : Int) (w : World) : (Instr.build 48 #[(0, .agg #[.slice a1 n1 c1, .slice a2 n2 c2, .slice a3 n3 c3, .int .i64 o])]).run Try.prog w = .ok (.agg #[.slice a1 n1 c1, .slice a2 n2 c2, .slice a3 n3 c3, .int .i64 o, .int .i64 0]) w := by
  first | rfl | kernel_rfl
theorem size_chg : (Try.prog.info? 48).map (·.size) = some 5 := by kernel_rfl
theorem five_one (a1 a2 a3 : Option Addr) (n1 n2 n3 c1 c2 c3 : Nat) (o e : Int) : ∀ u ∈ ([.slice a1 n1 c1, .slice a2 n2 c2, .slice a3 n3 c3, .int .i64 o, .int .i64 e] : List Value), u.oneCell' = true := by
  intro u hu
  simp at hu
  rcases hu with rfl | rfl | rfl | rfl | rfl <;> rfl

set_option maxRecDepth 100000 in
set_option maxHeartbeats 8000000 in
theorem rsell_any {B : Nat} (h : Hd) (d : Dm) (a b : Int) (w : World) (m : DomM w B h d) (ha : Wm.Fits a) (hb : Wm.Fits b) :
    Calls Try.prog 25 #[h.val, .int .i64 a, .int .i64 b] w fun e w' => ∃ v1 v2 v3, e = .returned (.agg #[v1, v2, v3, .int .i64 (d.sellD a b).O, .int .i64 (d.sellE a b)]) ∧ OwnDom w' w.heap.size v1 v2 v3 (d.sellD a b) ∧ Below w.heap.size w w' := by
  have hbe := fun (e : Int) W => build_err e W
  have hbc := fun (a1 a2 a3 : Option Addr) (n1 n2 n3 c1 c2 c3 : Nat) (o : Int) W => build_chg a1 a2 a3 n1 n2 n3 c1 c2 c3 o W
  obtain ⟨W1, hW1⟩ : ∃ W1, W1 = (w.alloc (.cells h.cells.toArray 25)).alloc (.cells #[.slice none 0 0, .slice none 0 0, .slice none 0 0, .int .i64 0, .int .i64 0] 48) := ⟨_, rfl⟩
  have hB1 : Hid (Below w.heap.size w W1) := by show Below _ _ _; rw [hW1]; exact ((Below.refl _ _).alloc (Nat.le_refl _) _).alloc (by simp) _
  have s1 : Hid (W1.heap.size = w.heap.size + 1 + 1) := by show _ = _; rw [hW1]; simp
  have hR1 : Hid (Blk W1 w.heap.size h.cells 25) := by show Blk _ _ _ _; rw [hW1]; exact (Blk.new _ _ _).alloc _
  have hZ1 : Hid (Blk W1 (w.heap.size + 1) [.slice none 0 0, .slice none 0 0, .slice none 0 0, .int .i64 0, .int .i64 0] 48) := by show Blk _ _ _ _; rw [hW1]; exact (Blk.new _ [_, _, _, _, _] _).at (by simp)
  have hm1 := Lib.hid (m.below hB1.out)
  have CC := Lib.hid (rcheck_any h d W1 hm1.out)
  have CL := Lib.hid (fun W (hW : Below W1.heap.size W1 W) hs => rcopy_any h d W (hm1.out.below hW) hs)
  have hW1' := Lib.hid hW1
  have hdd := Lib.hid size_dom
  have hcc := Lib.hid size_chg
  have hun : Hid (Try.prog.underlying 25 = _) := Try.underlying25
  have huc : Hid (Try.prog.underlying 48 = _) := Try.underlying48
  have hlt1 := Lib.hid hR1.out.lt
  have hle := Lib.hid m.le
  have hl1 : Hid (h.n1 = d.D.length) := m.l1
  have hl2 : Hid (h.n2 = d.R.length) := m.l2
  have hl3 : Hid (h.n3 = d.H.length) := m.l3
  have hlo : Hid (h.o = d.O) := m.eo
  obtain ⟨q, hq0⟩ : ∃ q, q = d.chk := ⟨_, rfl⟩
  have hq := Lib.hid hq0
  rw [← hq0] at CC
  obtain ⟨E, hE0⟩ : ∃ E, E = d.sellE a b := ⟨_, rfl⟩
  obtain ⟨R, hR0⟩ : ∃ R, R = d.sellD a b := ⟨_, rfl⟩
  have hE := Lib.hid hE0
  have hRR := Lib.hid hR0
  rw [← hE0, ← hR0]
  have hRE : Hid (E ≠ 0 → R = Dm.none) := fun hh => by rw [hRR.out]; unfold Dm.sellD; rw [if_neg (by rw [← hE.out]; exact hh)]
  clear hq0 hE0 hR0 m hW1
  unfold Hd.cells at hR1 hW1'
  unfold Hd.val at CC CL ⊢
  obtain ⟨a1, n1, c1, a2, n2, c2, a3, n3, c3, o⟩ := h
  dsimp only at *
  have hend : Hid (∀ (w2 w3 : World) (N : Nat), Below w.heap.size w w2 → Only (w.heap.size + 1) w2 w3 → E = (N : Int) → N ≠ 0 → ∃ v1 v2 v3, Ending.returned (.agg #[.slice none 0 0, .slice none 0 0, .slice none 0 0, .int .i64 0, .int .i64 (N : Int)]) = Ending.returned (.agg #[v1, v2, v3, .int .i64 R.O, .int .i64 E]) ∧ OwnDom w3 w.heap.size v1 v2 v3 R ∧ Below w.heap.size w w3) := fun w2 w3 N h1 h2 h3 h4 => by
    have := hRE.out (by omega)
    rw [this, h3]
    exact ⟨_, _, _, rfl, none_own _ _, h1.trans (h2.below (by omega))⟩
  by_cases e0 : q = 0
  rotate_left
  · have hzz : Hid (E = ((1 : Nat) : Int)) := by show _ = _; rw [hE.out]; unfold Dm.sellE; rw [if_neg (by rw [← hq.out]; exact e0)]; rfl
    have e0' : (q != 0) = true := by simp only [bne_iff_ne, ne_eq]; exact e0
    clear e0 hE hRR
    go_enter Try.func25, Try.ntmps25
    go_wp2_with fail
    generalize hg : (w.alloc _).alloc _ = Wg
    have hgW : W1 = Wg := by rw [← hg, hW1'.out]
    clear hg hW1'
    subst hgW
    go_wp2_with (refine wpList_blk_load rfl 25 _ rfl 0 rfl hR1.out _ (take_all0 _) _ hun.out rfl hdd.out ?_)
    refine CC.out.mono ?_
    rintro e w2 ⟨rfl, hb2⟩
    have hB2 := Lib.hid (hB1.out.trans (hb2.mono hB1.out.size))
    have hR2 := Lib.hid (hR1.out.below hb2 hlt1.out)
    have hZ2 := Lib.hid (hZ1.out.below hb2 hZ1.out.lt)
    have q1 := hR2.out.cell (j := 1) rfl
    have q2 := hR2.out.cell (j := 2) rfl
    have q3 := hR2.out.cell (j := 3) rfl
    have hb2' := Lib.hid hb2
    clear hb2
    go_wp2_with (refine wpList_row_store rfl 48 _ _ rfl [.slice none 0 0, .slice none 0 0, .slice none 0 0, .int .i64 0, .int .i64 1] rfl rfl hZ2.out hcc.out rfl (five_one _ _ _ _ _ _ _ _ _ _ _) ?_; intro w3 hw3 ho3)
    refine bodyPost_ret (ret_blk rfl _ _ (g := w.heap.size + 1) rfl hw3.out _ huc.out rfl hcc.out) rfl ?_
    exact hend.out _ _ 1 hB2.out ho3 hzz.out (by decide)
  subst e0
  have hck : Hid (d.chk = 0) := hq.out.symm
  have hsm := Dm.ok_le hck.out
  have hsm1 : Hid (n1 ≤ 1000000 ∧ n2 ≤ 1000000 ∧ n3 ≤ 1000000) := by show _ ∧ _; rw [hl1.out, hl2.out, hl3.out]; omega
  clear hsm
  have hEE : Hid (E = if inB a n3 = true ∧ inB b o = true then 0 else 8) := by
    show _ = _
    rw [hE.out]
    unfold Dm.sellE
    rw [if_pos hck.out, hl3.out, hlo.out]
  by_cases u1 : a < 0
  · have hzz : Hid (E = ((8 : Nat) : Int)) := by show _ = _; rw [hEE.out, if_neg (fun hh => by have := inB_iff.1 hh.1; omega)]; rfl
    clear hE hRR hEE
    go_enter Try.func25, Try.ntmps25
    go_wp2_with fail
    generalize hg : (w.alloc _).alloc _ = Wg
    have hgW : W1 = Wg := by rw [← hg, hW1'.out]
    clear hg hW1'
    subst hgW
    go_wp2_with (refine wpList_blk_load rfl 25 _ rfl 0 rfl hR1.out _ (take_all0 _) _ hun.out rfl hdd.out ?_)
    refine CC.out.mono ?_
    rintro e w2 ⟨rfl, hb2⟩
    have hB2 := Lib.hid (hB1.out.trans (hb2.mono hB1.out.size))
    have hR2 := Lib.hid (hR1.out.below hb2 hlt1.out)
    have hZ2 := Lib.hid (hZ1.out.below hb2 hZ1.out.lt)
    have q1 := hR2.out.cell (j := 1) rfl
    have q2 := hR2.out.cell (j := 2) rfl
    have q3 := hR2.out.cell (j := 3) rfl
    have hb2' := Lib.hid hb2
    clear hb2
    go_wp2_with (refine wpList_row_store rfl 48 _ _ rfl [.slice none 0 0, .slice none 0 0, .slice none 0 0, .int .i64 0, .int .i64 8] rfl rfl hZ2.out hcc.out rfl (five_one _ _ _ _ _ _ _ _ _ _ _) ?_; intro w3 hw3 ho3)
    refine bodyPost_ret (ret_blk rfl _ _ (g := w.heap.size + 1) rfl hw3.out _ huc.out rfl hcc.out) rfl ?_
    exact hend.out _ _ 8 hB2.out ho3 hzz.out (by decide)
  by_cases u2 : (n3 : Int) ≤ a
  · have hzz : Hid (E = ((8 : Nat) : Int)) := by show _ = _; rw [hEE.out, if_neg (fun hh => by have := inB_iff.1 hh.1; omega)]; rfl
    clear hE hRR hEE
    go_enter Try.func25, Try.ntmps25
    go_wp2_with fail
    generalize hg : (w.alloc _).alloc _ = Wg
    have hgW : W1 = Wg := by rw [← hg, hW1'.out]
    clear hg hW1'
    subst hgW
    go_wp2_with (refine wpList_blk_load rfl 25 _ rfl 0 rfl hR1.out _ (take_all0 _) _ hun.out rfl hdd.out ?_)
    refine CC.out.mono ?_
    rintro e w2 ⟨rfl, hb2⟩
    have hB2 := Lib.hid (hB1.out.trans (hb2.mono hB1.out.size))
    have hR2 := Lib.hid (hR1.out.below hb2 hlt1.out)
    have hZ2 := Lib.hid (hZ1.out.below hb2 hZ1.out.lt)
    have q1 := hR2.out.cell (j := 1) rfl
    have q2 := hR2.out.cell (j := 2) rfl
    have q3 := hR2.out.cell (j := 3) rfl
    have hb2' := Lib.hid hb2
    clear hb2
    go_wp2_with (refine wpList_row_store rfl 48 _ _ rfl [.slice none 0 0, .slice none 0 0, .slice none 0 0, .int .i64 0, .int .i64 8] rfl rfl hZ2.out hcc.out rfl (five_one _ _ _ _ _ _ _ _ _ _ _) ?_; intro w3 hw3 ho3)
    refine bodyPost_ret (ret_blk rfl _ _ (g := w.heap.size + 1) rfl hw3.out _ huc.out rfl hcc.out) rfl ?_
    exact hend.out _ _ 8 hB2.out ho3 hzz.out (by decide)
  by_cases u3 : b < 0
  · have hzz : Hid (E = ((8 : Nat) : Int)) := by show _ = _; rw [hEE.out, if_neg (fun hh => by have := inB_iff.1 hh.2; omega)]; rfl
    clear hE hRR hEE
    go_enter Try.func25, Try.ntmps25
    go_wp2_with fail
    generalize hg : (w.alloc _).alloc _ = Wg
    have hgW : W1 = Wg := by rw [← hg, hW1'.out]
    clear hg hW1'
    subst hgW
    go_wp2_with (refine wpList_blk_load rfl 25 _ rfl 0 rfl hR1.out _ (take_all0 _) _ hun.out rfl hdd.out ?_)
    refine CC.out.mono ?_
    rintro e w2 ⟨rfl, hb2⟩
    have hB2 := Lib.hid (hB1.out.trans (hb2.mono hB1.out.size))
    have hR2 := Lib.hid (hR1.out.below hb2 hlt1.out)
    have hZ2 := Lib.hid (hZ1.out.below hb2 hZ1.out.lt)
    have q1 := hR2.out.cell (j := 1) rfl
    have q2 := hR2.out.cell (j := 2) rfl
    have q3 := hR2.out.cell (j := 3) rfl
    have hb2' := Lib.hid hb2
    clear hb2
    go_wp2_with (refine wpList_row_store rfl 48 _ _ rfl [.slice none 0 0, .slice none 0 0, .slice none 0 0, .int .i64 0, .int .i64 8] rfl rfl hZ2.out hcc.out rfl (five_one _ _ _ _ _ _ _ _ _ _ _) ?_; intro w3 hw3 ho3)
    refine bodyPost_ret (ret_blk rfl _ _ (g := w.heap.size + 1) rfl hw3.out _ huc.out rfl hcc.out) rfl ?_
    exact hend.out _ _ 8 hB2.out ho3 hzz.out (by decide)
  by_cases u4 : o ≤ b
  · have hzz : Hid (E = ((8 : Nat) : Int)) := by show _ = _; rw [hEE.out, if_neg (fun hh => by have := inB_iff.1 hh.2; omega)]; rfl
    clear hE hRR hEE
    go_enter Try.func25, Try.ntmps25
    go_wp2_with fail
    generalize hg : (w.alloc _).alloc _ = Wg
    have hgW : W1 = Wg := by rw [← hg, hW1'.out]
    clear hg hW1'
    subst hgW
    go_wp2_with (refine wpList_blk_load rfl 25 _ rfl 0 rfl hR1.out _ (take_all0 _) _ hun.out rfl hdd.out ?_)
    refine CC.out.mono ?_
    rintro e w2 ⟨rfl, hb2⟩
    have hB2 := Lib.hid (hB1.out.trans (hb2.mono hB1.out.size))
    have hR2 := Lib.hid (hR1.out.below hb2 hlt1.out)
    have hZ2 := Lib.hid (hZ1.out.below hb2 hZ1.out.lt)
    have q1 := hR2.out.cell (j := 1) rfl
    have q2 := hR2.out.cell (j := 2) rfl
    have q3 := hR2.out.cell (j := 3) rfl
    have hb2' := Lib.hid hb2
    clear hb2
    go_wp2_with (refine wpList_row_store rfl 48 _ _ rfl [.slice none 0 0, .slice none 0 0, .slice none 0 0, .int .i64 0, .int .i64 8] rfl rfl hZ2.out hcc.out rfl (five_one _ _ _ _ _ _ _ _ _ _ _) ?_; intro w3 hw3 ho3)
    refine bodyPost_ret (ret_blk rfl _ _ (g := w.heap.size + 1) rfl hw3.out _ huc.out rfl hcc.out) rfl ?_
    exact hend.out _ _ 8 hB2.out ho3 hzz.out (by decide)
  obtain ⟨i, rfl⟩ : ∃ i : Nat, a = i := ⟨a.toNat, by omega⟩
  have hi : Hid (i < d.H.length) := by show _ < _; rw [← hl3.out]; omega
  have t : (i : Int) < (n3 : Int) := by omega
  have hEi : Hid (E = 0) := by show _ = _; rw [hEE.out, if_pos ⟨inB_iff.2 ⟨by omega, by omega⟩, inB_iff.2 ⟨by omega, by omega⟩⟩]
  clear hEE
  have hzz : Hid (E = 0) := by show _ = _; rw [hEi.out]
  have hRz : Hid (R = { d with H := d.H.set i b }) := by show _ = _; rw [hRR.out]; unfold Dm.sellD; rw [if_pos (by rw [← hE.out]; exact hzz.out), Int.toNat_natCast]
  clear hE hRR hEi
  go_enter Try.func25, Try.ntmps25
  go_wp2_with fail
  generalize hg : (w.alloc _).alloc _ = Wg
  have hgW : W1 = Wg := by rw [← hg, hW1'.out]
  clear hg hW1'
  subst hgW
  go_wp2_with (refine wpList_blk_load rfl 25 _ rfl 0 rfl hR1.out _ (take_all0 _) _ hun.out rfl hdd.out ?_)
  refine CC.out.mono ?_
  rintro e w2 ⟨rfl, hb2⟩
  have hB2 := Lib.hid (hB1.out.trans (hb2.mono hB1.out.size))
  have hR2 := Lib.hid (hR1.out.below hb2 hlt1.out)
  have hZ2 := Lib.hid (hZ1.out.below hb2 hZ1.out.lt)
  have q1 := hR2.out.cell (j := 1) rfl
  have q2 := hR2.out.cell (j := 2) rfl
  have q3 := hR2.out.cell (j := 3) rfl
  have hb2' := Lib.hid hb2
  clear hb2
  have t0 : 0 ≤ (i : Int) := by omega
  go_wp2_with (refine wpList_blk_load rfl 25 _ rfl 0 rfl hR2.out _ (take_all0 _) _ hun.out rfl hdd.out ?_)
  refine (CL.out w2 hb2'.out hsm1.out).mono ?_
  rintro e w3 ⟨v1, v2, v3, rfl, hOD0, hb3⟩
  have hOD := Lib.hid hOD0
  have hB3 := Lib.hid (hB2.out.trans (hb3.mono hB2.out.size))
  have hZ3 := Lib.hid (hZ2.out.below hb3 hZ2.out.lt)
  have hsz2 : Hid (w.heap.size + 1 + 1 ≤ w2.heap.size) := by show _ ≤ _; rw [← s1.out]; exact hb2'.out.size
  have hsz3 := Lib.hid hb3.size
  obtain ⟨A1, k1, e1, _⟩ := hOD0.o1.slice
  obtain ⟨A2, k2, e2, _⟩ := hOD0.o2.slice
  obtain ⟨A3, k3, e3, _⟩ := hOD0.o3.slice
  obtain ⟨g, k3, e3p, hg1, hg2⟩ := hOD0.o3.form (Nat.lt_of_le_of_lt (Nat.zero_le _) hi.out)
  subst e1
  subst e2
  subst e3
  have hg1' := Lib.hid hg1
  have hg2' := Lib.hid hg2
  clear hOD0 hb3 hg1 hg2
  injection e3p with eA _ ek
  subst eA
  subst ek
  have hst : Hid (∀ W, OwnZ W w2.heap.size (.slice (some ⟨g, 0, none⟩) d.H.length k3) d.H → W.cell? ⟨g, i, none⟩ = some (.int .i64 (d.H.getD i 0)) ∧ W.frozen? ⟨g, i, none⟩ = false ∧ OwnZ (W.setCell ⟨g, i, none⟩ (.int .i64 b)) w2.heap.size (.slice (some ⟨g, 0, none⟩) d.H.length k3) (d.H.set i b) ∧ W.grownBy (W.setCell ⟨g, i, none⟩ (.int .i64 b)) (some g)) := fun W hO => by
    refine ⟨?_, World.ownsRow.frozenAt hO i, ?_, (World.ownsRow.stored hO i (.int .i64 b)).2⟩
    · rw [World.ownsRow.cellAt hO i (by have := hi.out; omega), List.getElem?_map, List.getD_eq_getElem?_getD, List.getElem?_eq_getElem hi.out]; rfl
    · have := (World.ownsRow.stored hO i (iv b)).1
      unfold OwnZ
      rw [List.length_set, List.map_set]
      exact this
  obtain ⟨m1, hm1e⟩ : ∃ m1, m1 = d.D.length := ⟨_, rfl⟩
  obtain ⟨m2, hm2e⟩ : ∃ m2, m2 = d.R.length := ⟨_, rfl⟩
  obtain ⟨m3, hm3e⟩ : ∃ m3, m3 = d.H.length := ⟨_, rfl⟩
  rw [← hm1e, ← hm2e, ← hm3e] at hOD ⊢
  rw [← hm3e] at hst
  have tm : (i : Int) < (m3 : Int) := by rw [hm3e]; have := hi.out; omega
  clear hm1e hm2e hm3e
  obtain ⟨W4, hW4⟩ : ∃ W4, W4 = w3.alloc (.cells #[.slice A1 m1 k1, .slice A2 m2 k2, .slice (some ⟨g, 0, none⟩) m3 k3, .int .i64 d.O] 25) := ⟨_, rfl⟩
  have hW4' := Lib.hid hW4
  have gal : Hid (w3.grownBy W4 none) := by show w3.grownBy W4 none; rw [hW4]; exact World.grownBy_alloc _ _ _
  have hO4 : Hid (Blk W4 w3.heap.size [.slice A1 m1 k1, .slice A2 m2 k2, .slice (some ⟨g, 0, none⟩) m3 k3, .int .i64 d.O] 25) := by show Blk _ _ _ _; rw [hW4]; exact Blk.new _ [_, _, _, _] _
  have hZ4 : Hid (Blk W4 (w.heap.size + 1) [.slice none 0 0, .slice none 0 0, .slice none 0 0, .int .i64 0, .int .i64 0] 48) := by show Blk _ _ _ _; rw [hW4]; exact hZ3.out.alloc _
  have hB4 : Hid (Below w.heap.size w W4) := by show Below _ _ _; rw [hW4]; exact hB3.out.alloc hB3.out.size _
  obtain ⟨gc, gf, gO, gg⟩ := hst.out W4 (keptNone hOD.out.o3 gal.out)
  have hRs : Hid (Blk (W4.setCell ⟨g, i, none⟩ (.int .i64 b)) w3.heap.size [.slice A1 m1 k1, .slice A2 m2 k2, .slice (some ⟨g, 0, none⟩) m3 k3, .int .i64 d.O] 25) := (Below.heap_setCell _ _ _ _ (by show w3.heap.size ≠ g; have := hg2'.out; omega)).trans hO4.out
  have hZs : Hid (Blk (W4.setCell ⟨g, i, none⟩ (.int .i64 b)) (w.heap.size + 1) [.slice none 0 0, .slice none 0 0, .slice none 0 0, .int .i64 0, .int .i64 0] 48) := (Below.heap_setCell _ _ _ _ (by show w.heap.size + 1 ≠ g; have := hg1'.out; have := hsz2.out; omega)).trans hZ4.out
  subst hW4
  clear hW4'
  go_wp2_with (first | (refine wpList_blk_load rfl 25 _ rfl 0 rfl hRs.out _ (take_all0 _) _ hun.out rfl hdd.out ?_) | (refine wpList_row_store rfl 48 _ _ rfl [.slice A1 m1 k1, .slice A2 m2 k2, .slice (some ⟨g, 0, none⟩) m3 k3, .int .i64 d.O, .int .i64 0] rfl rfl hZs.out hcc.out rfl (five_one _ _ _ _ _ _ _ _ _ _ _) ?_; intro w5 hw5 ho5))
  refine bodyPost_ret (ret_blk rfl _ _ (g := w.heap.size + 1) rfl hw5.out _ huc.out rfl hcc.out) rfl ?_
  have hs2 := hsz2.out
  have hs3 := hsz3.out
  have hb5 : Below w.heap.size w w5 := (hB4.out.trans ((Below.refl w.heap.size _).setCell (p := ⟨g, i, none⟩) (by show w.heap.size ≤ g; have := hg1'.out; omega) _)).trans (ho5.below (by omega))
  obtain ⟨o1, o2, o3, x12, x13, x23⟩ := hOD.out
  have u1 := (keptNone o1 gal.out).kept gg (ownNe (fun h => x13 g h rfl))
  have u2 := (keptNone o2 gal.out).kept gg (ownNe (fun h => x23 g h rfl))
  refine ⟨_, _, _, (by rw [hzz.out, hRz.out]), ?_, hb5⟩
  rw [hRz.out]
  exact ⟨OwnZ.lower (u1.kept (onlyGrown ho5) (notB u1 (by omega))) (by omega), OwnR.lower (u2.kept (onlyGrown ho5) (notB u2 (by omega))) (by omega), OwnZ.lower (gO.kept (onlyGrown ho5) (notB gO (by omega))) (by omega), x12, x13, x23⟩

set_option maxRecDepth 100000 in
set_option maxHeartbeats 8000000 in
theorem rship_any {B : Nat} (h : Hd) (d : Dm) (a b : Int) (w : World) (m : DomM w B h d) (ha : Wm.Fits a) (hb : Wm.Fits b) :
    Calls Try.prog 26 #[h.val, .int .i64 a, .int .i64 b] w fun e w' => ∃ v1 v2 v3, e = .returned (.agg #[v1, v2, v3, .int .i64 (d.shipD a b).O, .int .i64 (d.shipE a b)]) ∧ OwnDom w' w.heap.size v1 v2 v3 (d.shipD a b) ∧ Below w.heap.size w w' := by
  have hbe := fun (e : Int) W => build_err e W
  have hbc := fun (a1 a2 a3 : Option Addr) (n1 n2 n3 c1 c2 c3 : Nat) (o : Int) W => build_chg a1 a2 a3 n1 n2 n3 c1 c2 c3 o W
  obtain ⟨W1, hW1⟩ : ∃ W1, W1 = (w.alloc (.cells h.cells.toArray 25)).alloc (.cells #[.slice none 0 0, .slice none 0 0, .slice none 0 0, .int .i64 0, .int .i64 0] 48) := ⟨_, rfl⟩
  have hB1 : Hid (Below w.heap.size w W1) := by show Below _ _ _; rw [hW1]; exact ((Below.refl _ _).alloc (Nat.le_refl _) _).alloc (by simp) _
  have s1 : Hid (W1.heap.size = w.heap.size + 1 + 1) := by show _ = _; rw [hW1]; simp
  have hR1 : Hid (Blk W1 w.heap.size h.cells 25) := by show Blk _ _ _ _; rw [hW1]; exact (Blk.new _ _ _).alloc _
  have hZ1 : Hid (Blk W1 (w.heap.size + 1) [.slice none 0 0, .slice none 0 0, .slice none 0 0, .int .i64 0, .int .i64 0] 48) := by show Blk _ _ _ _; rw [hW1]; exact (Blk.new _ [_, _, _, _, _] _).at (by simp)
  have hm1 := Lib.hid (m.below hB1.out)
  have CC := Lib.hid (rcheck_any h d W1 hm1.out)
  have CL := Lib.hid (fun W (hW : Below W1.heap.size W1 W) hs => rcopy_any h d W (hm1.out.below hW) hs)
  have hW1' := Lib.hid hW1
  have hdd := Lib.hid size_dom
  have hcc := Lib.hid size_chg
  have hun : Hid (Try.prog.underlying 25 = _) := Try.underlying25
  have huc : Hid (Try.prog.underlying 48 = _) := Try.underlying48
  have hlt1 := Lib.hid hR1.out.lt
  have hle := Lib.hid m.le
  have hl1 : Hid (h.n1 = d.D.length) := m.l1
  have hl2 : Hid (h.n2 = d.R.length) := m.l2
  have hl3 : Hid (h.n3 = d.H.length) := m.l3
  have hlo : Hid (h.o = d.O) := m.eo
  obtain ⟨q, hq0⟩ : ∃ q, q = d.chk := ⟨_, rfl⟩
  have hq := Lib.hid hq0
  rw [← hq0] at CC
  obtain ⟨E, hE0⟩ : ∃ E, E = d.shipE a b := ⟨_, rfl⟩
  obtain ⟨R, hR0⟩ : ∃ R, R = d.shipD a b := ⟨_, rfl⟩
  have hE := Lib.hid hE0
  have hRR := Lib.hid hR0
  rw [← hE0, ← hR0]
  have hRE : Hid (E ≠ 0 → R = Dm.none) := fun hh => by rw [hRR.out]; unfold Dm.shipD; rw [if_neg (by rw [← hE.out]; exact hh)]
  clear hq0 hE0 hR0 m hW1
  unfold Hd.cells at hR1 hW1'
  unfold Hd.val at CC CL ⊢
  obtain ⟨a1, n1, c1, a2, n2, c2, a3, n3, c3, o⟩ := h
  dsimp only at *
  have hend : Hid (∀ (w2 w3 : World) (N : Nat), Below w.heap.size w w2 → Only (w.heap.size + 1) w2 w3 → E = (N : Int) → N ≠ 0 → ∃ v1 v2 v3, Ending.returned (.agg #[.slice none 0 0, .slice none 0 0, .slice none 0 0, .int .i64 0, .int .i64 (N : Int)]) = Ending.returned (.agg #[v1, v2, v3, .int .i64 R.O, .int .i64 E]) ∧ OwnDom w3 w.heap.size v1 v2 v3 R ∧ Below w.heap.size w w3) := fun w2 w3 N h1 h2 h3 h4 => by
    have := hRE.out (by omega)
    rw [this, h3]
    exact ⟨_, _, _, rfl, none_own _ _, h1.trans (h2.below (by omega))⟩
  by_cases e0 : q = 0
  rotate_left
  · have hzz : Hid (E = ((1 : Nat) : Int)) := by show _ = _; rw [hE.out]; unfold Dm.shipE; rw [if_neg (by rw [← hq.out]; exact e0)]; rfl
    have e0' : (q != 0) = true := by simp only [bne_iff_ne, ne_eq]; exact e0
    clear e0 hE hRR
    go_enter Try.func26, Try.ntmps26
    go_wp2_with fail
    generalize hg : (w.alloc _).alloc _ = Wg
    have hgW : W1 = Wg := by rw [← hg, hW1'.out]
    clear hg hW1'
    subst hgW
    go_wp2_with (refine wpList_blk_load rfl 25 _ rfl 0 rfl hR1.out _ (take_all0 _) _ hun.out rfl hdd.out ?_)
    refine CC.out.mono ?_
    rintro e w2 ⟨rfl, hb2⟩
    have hB2 := Lib.hid (hB1.out.trans (hb2.mono hB1.out.size))
    have hR2 := Lib.hid (hR1.out.below hb2 hlt1.out)
    have hZ2 := Lib.hid (hZ1.out.below hb2 hZ1.out.lt)
    have q1 := hR2.out.cell (j := 1) rfl
    have q2 := hR2.out.cell (j := 2) rfl
    have q3 := hR2.out.cell (j := 3) rfl
    have hb2' := Lib.hid hb2
    clear hb2
    go_wp2_with (refine wpList_row_store rfl 48 _ _ rfl [.slice none 0 0, .slice none 0 0, .slice none 0 0, .int .i64 0, .int .i64 1] rfl rfl hZ2.out hcc.out rfl (five_one _ _ _ _ _ _ _ _ _ _ _) ?_; intro w3 hw3 ho3)
    refine bodyPost_ret (ret_blk rfl _ _ (g := w.heap.size + 1) rfl hw3.out _ huc.out rfl hcc.out) rfl ?_
    exact hend.out _ _ 1 hB2.out ho3 hzz.out (by decide)
  subst e0
  have hck : Hid (d.chk = 0) := hq.out.symm
  have hsm := Dm.ok_le hck.out
  have hsm1 : Hid (n1 ≤ 1000000 ∧ n2 ≤ 1000000 ∧ n3 ≤ 1000000) := by show _ ∧ _; rw [hl1.out, hl2.out, hl3.out]; omega
  clear hsm
  have hEE : Hid (E = if inB a n2 = true ∧ inB b n3 = true then (if d.van a = true then 0 else 4) else 8) := by
    show _ = _
    rw [hE.out]
    unfold Dm.shipE
    rw [if_pos hck.out, hl2.out, hl3.out]
  by_cases u1 : a < 0
  · have hzz : Hid (E = ((8 : Nat) : Int)) := by show _ = _; rw [hEE.out, if_neg (fun hh => by have := inB_iff.1 hh.1; omega)]; rfl
    clear hE hRR hEE
    go_enter Try.func26, Try.ntmps26
    go_wp2_with fail
    generalize hg : (w.alloc _).alloc _ = Wg
    have hgW : W1 = Wg := by rw [← hg, hW1'.out]
    clear hg hW1'
    subst hgW
    go_wp2_with (refine wpList_blk_load rfl 25 _ rfl 0 rfl hR1.out _ (take_all0 _) _ hun.out rfl hdd.out ?_)
    refine CC.out.mono ?_
    rintro e w2 ⟨rfl, hb2⟩
    have hB2 := Lib.hid (hB1.out.trans (hb2.mono hB1.out.size))
    have hR2 := Lib.hid (hR1.out.below hb2 hlt1.out)
    have hZ2 := Lib.hid (hZ1.out.below hb2 hZ1.out.lt)
    have q1 := hR2.out.cell (j := 1) rfl
    have q2 := hR2.out.cell (j := 2) rfl
    have q3 := hR2.out.cell (j := 3) rfl
    have hb2' := Lib.hid hb2
    clear hb2
    go_wp2_with (refine wpList_row_store rfl 48 _ _ rfl [.slice none 0 0, .slice none 0 0, .slice none 0 0, .int .i64 0, .int .i64 8] rfl rfl hZ2.out hcc.out rfl (five_one _ _ _ _ _ _ _ _ _ _ _) ?_; intro w3 hw3 ho3)
    refine bodyPost_ret (ret_blk rfl _ _ (g := w.heap.size + 1) rfl hw3.out _ huc.out rfl hcc.out) rfl ?_
    exact hend.out _ _ 8 hB2.out ho3 hzz.out (by decide)
  by_cases u2 : (n2 : Int) ≤ a
  · have hzz : Hid (E = ((8 : Nat) : Int)) := by show _ = _; rw [hEE.out, if_neg (fun hh => by have := inB_iff.1 hh.1; omega)]; rfl
    clear hE hRR hEE
    go_enter Try.func26, Try.ntmps26
    go_wp2_with fail
    generalize hg : (w.alloc _).alloc _ = Wg
    have hgW : W1 = Wg := by rw [← hg, hW1'.out]
    clear hg hW1'
    subst hgW
    go_wp2_with (refine wpList_blk_load rfl 25 _ rfl 0 rfl hR1.out _ (take_all0 _) _ hun.out rfl hdd.out ?_)
    refine CC.out.mono ?_
    rintro e w2 ⟨rfl, hb2⟩
    have hB2 := Lib.hid (hB1.out.trans (hb2.mono hB1.out.size))
    have hR2 := Lib.hid (hR1.out.below hb2 hlt1.out)
    have hZ2 := Lib.hid (hZ1.out.below hb2 hZ1.out.lt)
    have q1 := hR2.out.cell (j := 1) rfl
    have q2 := hR2.out.cell (j := 2) rfl
    have q3 := hR2.out.cell (j := 3) rfl
    have hb2' := Lib.hid hb2
    clear hb2
    go_wp2_with (refine wpList_row_store rfl 48 _ _ rfl [.slice none 0 0, .slice none 0 0, .slice none 0 0, .int .i64 0, .int .i64 8] rfl rfl hZ2.out hcc.out rfl (five_one _ _ _ _ _ _ _ _ _ _ _) ?_; intro w3 hw3 ho3)
    refine bodyPost_ret (ret_blk rfl _ _ (g := w.heap.size + 1) rfl hw3.out _ huc.out rfl hcc.out) rfl ?_
    exact hend.out _ _ 8 hB2.out ho3 hzz.out (by decide)
  by_cases u3 : b < 0
  · have hzz : Hid (E = ((8 : Nat) : Int)) := by show _ = _; rw [hEE.out, if_neg (fun hh => by have := inB_iff.1 hh.2; omega)]; rfl
    clear hE hRR hEE
    go_enter Try.func26, Try.ntmps26
    go_wp2_with fail
    generalize hg : (w.alloc _).alloc _ = Wg
    have hgW : W1 = Wg := by rw [← hg, hW1'.out]
    clear hg hW1'
    subst hgW
    go_wp2_with (refine wpList_blk_load rfl 25 _ rfl 0 rfl hR1.out _ (take_all0 _) _ hun.out rfl hdd.out ?_)
    refine CC.out.mono ?_
    rintro e w2 ⟨rfl, hb2⟩
    have hB2 := Lib.hid (hB1.out.trans (hb2.mono hB1.out.size))
    have hR2 := Lib.hid (hR1.out.below hb2 hlt1.out)
    have hZ2 := Lib.hid (hZ1.out.below hb2 hZ1.out.lt)
    have q1 := hR2.out.cell (j := 1) rfl
    have q2 := hR2.out.cell (j := 2) rfl
    have q3 := hR2.out.cell (j := 3) rfl
    have hb2' := Lib.hid hb2
    clear hb2
    go_wp2_with (refine wpList_row_store rfl 48 _ _ rfl [.slice none 0 0, .slice none 0 0, .slice none 0 0, .int .i64 0, .int .i64 8] rfl rfl hZ2.out hcc.out rfl (five_one _ _ _ _ _ _ _ _ _ _ _) ?_; intro w3 hw3 ho3)
    refine bodyPost_ret (ret_blk rfl _ _ (g := w.heap.size + 1) rfl hw3.out _ huc.out rfl hcc.out) rfl ?_
    exact hend.out _ _ 8 hB2.out ho3 hzz.out (by decide)
  by_cases u4 : (n3 : Int) ≤ b
  · have hzz : Hid (E = ((8 : Nat) : Int)) := by show _ = _; rw [hEE.out, if_neg (fun hh => by have := inB_iff.1 hh.2; omega)]; rfl
    clear hE hRR hEE
    go_enter Try.func26, Try.ntmps26
    go_wp2_with fail
    generalize hg : (w.alloc _).alloc _ = Wg
    have hgW : W1 = Wg := by rw [← hg, hW1'.out]
    clear hg hW1'
    subst hgW
    go_wp2_with (refine wpList_blk_load rfl 25 _ rfl 0 rfl hR1.out _ (take_all0 _) _ hun.out rfl hdd.out ?_)
    refine CC.out.mono ?_
    rintro e w2 ⟨rfl, hb2⟩
    have hB2 := Lib.hid (hB1.out.trans (hb2.mono hB1.out.size))
    have hR2 := Lib.hid (hR1.out.below hb2 hlt1.out)
    have hZ2 := Lib.hid (hZ1.out.below hb2 hZ1.out.lt)
    have q1 := hR2.out.cell (j := 1) rfl
    have q2 := hR2.out.cell (j := 2) rfl
    have q3 := hR2.out.cell (j := 3) rfl
    have hb2' := Lib.hid hb2
    clear hb2
    go_wp2_with (refine wpList_row_store rfl 48 _ _ rfl [.slice none 0 0, .slice none 0 0, .slice none 0 0, .int .i64 0, .int .i64 8] rfl rfl hZ2.out hcc.out rfl (five_one _ _ _ _ _ _ _ _ _ _ _) ?_; intro w3 hw3 ho3)
    refine bodyPost_ret (ret_blk rfl _ _ (g := w.heap.size + 1) rfl hw3.out _ huc.out rfl hcc.out) rfl ?_
    exact hend.out _ _ 8 hB2.out ho3 hzz.out (by decide)
  obtain ⟨i, rfl⟩ : ∃ i : Nat, a = i := ⟨a.toNat, by omega⟩
  have hi : Hid (i < d.R.length) := by show _ < _; rw [← hl2.out]; omega
  have t : (i : Int) < (n2 : Int) := by omega
  have hEi : Hid (E = (if d.van i = true then 0 else 4)) := by show _ = _; rw [hEE.out, if_pos ⟨inB_iff.2 ⟨by omega, by omega⟩, inB_iff.2 ⟨by omega, by omega⟩⟩]
  clear hEE
  have hrd := fun W (hW : Below W1.heap.size W1 W) => (hm1.out.below hW).rack hi.out
  dsimp only at hrd
  have hvan : Hid (d.van i = (d.R.getD i (0, false)).2) := by show _ = _; unfold Dm.van; rw [Int.toNat_natCast]
  obtain ⟨vn, hvn⟩ : ∃ v, v = (d.R.getD i (0, false)).2 := ⟨_, rfl⟩
  rw [← hvn] at hrd hvan
  have hrd' := Lib.hid hrd
  clear hrd hvn
  cases vn with
  | false =>
    have hzz : Hid (E = ((4 : Nat) : Int)) := by show _ = _; rw [hEi.out, if_neg (by rw [hvan.out]; simp)]; rfl
    clear hE hRR hEi
    go_enter Try.func26, Try.ntmps26
    go_wp2_with fail
    generalize hg : (w.alloc _).alloc _ = Wg
    have hgW : W1 = Wg := by rw [← hg, hW1'.out]
    clear hg hW1'
    subst hgW
    go_wp2_with (refine wpList_blk_load rfl 25 _ rfl 0 rfl hR1.out _ (take_all0 _) _ hun.out rfl hdd.out ?_)
    refine CC.out.mono ?_
    rintro e w2 ⟨rfl, hb2⟩
    have hB2 := Lib.hid (hB1.out.trans (hb2.mono hB1.out.size))
    have hR2 := Lib.hid (hR1.out.below hb2 hlt1.out)
    have hZ2 := Lib.hid (hZ1.out.below hb2 hZ1.out.lt)
    have q1 := hR2.out.cell (j := 1) rfl
    have q2 := hR2.out.cell (j := 2) rfl
    have q3 := hR2.out.cell (j := 3) rfl
    have hb2' := Lib.hid hb2
    clear hb2
    have t0 : 0 ≤ (i : Int) := by omega
    obtain ⟨ad, rfl, _, _, hcv0⟩ := hrd'.out w2 hb2'.out
    have hcv : w2.cell? ⟨(ad.add (i * 2)).block, (ad.add (i * 2)).off + 1, none⟩ = some (.bool false) := by rw [← add_twice] at hcv0; exact hcv0
    clear hcv0
    go_wp2_with (refine wpList_row_store rfl 48 _ _ rfl [.slice none 0 0, .slice none 0 0, .slice none 0 0, .int .i64 0, .int .i64 4] rfl rfl hZ2.out hcc.out rfl (five_one _ _ _ _ _ _ _ _ _ _ _) ?_; intro w3 hw3 ho3)
    refine bodyPost_ret (ret_blk rfl _ _ (g := w.heap.size + 1) rfl hw3.out _ huc.out rfl hcc.out) rfl ?_
    exact hend.out _ _ 4 hB2.out ho3 hzz.out (by decide)
  | true =>
  have hzz : Hid (E = 0) := by show _ = _; rw [hEi.out, if_pos hvan.out]
  have hRz : Hid (R = { d with R := d.R.set i (b, true) }) := by show _ = _; rw [hRR.out]; unfold Dm.shipD; rw [if_pos (by rw [← hE.out]; exact hzz.out), Int.toNat_natCast]
  clear hE hRR hEi
  go_enter Try.func26, Try.ntmps26
  go_wp2_with fail
  generalize hg : (w.alloc _).alloc _ = Wg
  have hgW : W1 = Wg := by rw [← hg, hW1'.out]
  clear hg hW1'
  subst hgW
  go_wp2_with (refine wpList_blk_load rfl 25 _ rfl 0 rfl hR1.out _ (take_all0 _) _ hun.out rfl hdd.out ?_)
  refine CC.out.mono ?_
  rintro e w2 ⟨rfl, hb2⟩
  have hB2 := Lib.hid (hB1.out.trans (hb2.mono hB1.out.size))
  have hR2 := Lib.hid (hR1.out.below hb2 hlt1.out)
  have hZ2 := Lib.hid (hZ1.out.below hb2 hZ1.out.lt)
  have q1 := hR2.out.cell (j := 1) rfl
  have q2 := hR2.out.cell (j := 2) rfl
  have q3 := hR2.out.cell (j := 3) rfl
  have hb2' := Lib.hid hb2
  clear hb2
  have t0 : 0 ≤ (i : Int) := by omega
  obtain ⟨ad, rfl, _, _, hcv0⟩ := hrd'.out w2 hb2'.out
  have hcv : w2.cell? ⟨(ad.add (i * 2)).block, (ad.add (i * 2)).off + 1, none⟩ = some (.bool true) := by rw [← add_twice] at hcv0; exact hcv0
  clear hcv0
  go_wp2_with (refine wpList_blk_load rfl 25 _ rfl 0 rfl hR2.out _ (take_all0 _) _ hun.out rfl hdd.out ?_)
  refine (CL.out w2 hb2'.out hsm1.out).mono ?_
  rintro e w3 ⟨v1, v2, v3, rfl, hOD0, hb3⟩
  have hOD := Lib.hid hOD0
  have hB3 := Lib.hid (hB2.out.trans (hb3.mono hB2.out.size))
  have hZ3 := Lib.hid (hZ2.out.below hb3 hZ2.out.lt)
  have hsz2 : Hid (w.heap.size + 1 + 1 ≤ w2.heap.size) := by show _ ≤ _; rw [← s1.out]; exact hb2'.out.size
  have hsz3 := Lib.hid hb3.size
  obtain ⟨A1, k1, e1, _⟩ := hOD0.o1.slice
  obtain ⟨A2, k2, e2, _⟩ := hOD0.o2.slice
  obtain ⟨A3, k3, e3, _⟩ := hOD0.o3.slice
  obtain ⟨g, k2, e2p, hg1, hg2⟩ := hOD0.o2.form (Nat.lt_of_le_of_lt (Nat.zero_le _) hi.out)
  subst e1
  subst e2
  subst e3
  have hg1' := Lib.hid hg1
  have hg2' := Lib.hid hg2
  clear hOD0 hb3 hg1 hg2
  injection e2p with eA _ ek
  subst eA
  subst ek
  have hri : Hid (d.R[i]? = some ((d.R.getD i (0, false)).1, true)) := by
    show _ = _
    have h2 : (d.R.getD i (0, false)).2 = true := by have := hvan.out; unfold Dm.van at this; rw [Int.toNat_natCast] at this; exact this
    rw [← h2, List.getD_eq_getElem?_getD, List.getElem?_eq_getElem hi.out]; rfl
  have hst : Hid (∀ W, OwnR W w2.heap.size (.slice (some ⟨g, 0, none⟩) d.R.length k2) d.R → W.cell? ⟨g, i * 2, none⟩ = some (.int .i64 (d.R.getD i (0, false)).1) ∧ W.frozen? ⟨g, i * 2, none⟩ = false ∧ OwnR (W.setCell ⟨g, i * 2, none⟩ (.int .i64 b)) w2.heap.size (.slice (some ⟨g, 0, none⟩) d.R.length k2) (d.R.set i (b, true)) ∧ W.grownBy (W.setCell ⟨g, i * 2, none⟩ (.int .i64 b)) (some g)) := fun W hO => by
    refine ⟨?_, World.ownsRow.frozenAt hO (i * 2), ?_, (World.ownsRow.stored hO (i * 2) (.int .i64 b)).2⟩
    · rw [World.ownsRow.cellAt hO (i * 2) (by have := hi.out; omega)]
      exact (rflat_at hri.out).1
    · have := (World.ownsRow.stored hO (i * 2) (iv b)).1
      rw [rflat_set b hri.out] at this
      unfold OwnR
      rw [List.length_set]
      exact this
  obtain ⟨m1, hm1e⟩ : ∃ m1, m1 = d.D.length := ⟨_, rfl⟩
  obtain ⟨m2, hm2e⟩ : ∃ m2, m2 = d.R.length := ⟨_, rfl⟩
  obtain ⟨m3, hm3e⟩ : ∃ m3, m3 = d.H.length := ⟨_, rfl⟩
  rw [← hm1e, ← hm2e, ← hm3e] at hOD ⊢
  rw [← hm2e] at hst
  have tm : (i : Int) < (m2 : Int) := by rw [hm2e]; have := hi.out; omega
  clear hm1e hm2e hm3e
  obtain ⟨W4, hW4⟩ : ∃ W4, W4 = w3.alloc (.cells #[.slice A1 m1 k1, .slice (some ⟨g, 0, none⟩) m2 k2, .slice A3 m3 k3, .int .i64 d.O] 25) := ⟨_, rfl⟩
  have hW4' := Lib.hid hW4
  have gal : Hid (w3.grownBy W4 none) := by show w3.grownBy W4 none; rw [hW4]; exact World.grownBy_alloc _ _ _
  have hO4 : Hid (Blk W4 w3.heap.size [.slice A1 m1 k1, .slice (some ⟨g, 0, none⟩) m2 k2, .slice A3 m3 k3, .int .i64 d.O] 25) := by show Blk _ _ _ _; rw [hW4]; exact Blk.new _ [_, _, _, _] _
  have hZ4 : Hid (Blk W4 (w.heap.size + 1) [.slice none 0 0, .slice none 0 0, .slice none 0 0, .int .i64 0, .int .i64 0] 48) := by show Blk _ _ _ _; rw [hW4]; exact hZ3.out.alloc _
  have hB4 : Hid (Below w.heap.size w W4) := by show Below _ _ _; rw [hW4]; exact hB3.out.alloc hB3.out.size _
  obtain ⟨gc, gf, gO, gg⟩ := hst.out W4 (keptNone hOD.out.o2 gal.out)
  have hRs : Hid (Blk (W4.setCell ⟨g, i * 2, none⟩ (.int .i64 b)) w3.heap.size [.slice A1 m1 k1, .slice (some ⟨g, 0, none⟩) m2 k2, .slice A3 m3 k3, .int .i64 d.O] 25) := (Below.heap_setCell _ _ _ _ (by show w3.heap.size ≠ g; have := hg2'.out; omega)).trans hO4.out
  have hZs : Hid (Blk (W4.setCell ⟨g, i * 2, none⟩ (.int .i64 b)) (w.heap.size + 1) [.slice none 0 0, .slice none 0 0, .slice none 0 0, .int .i64 0, .int .i64 0] 48) := (Below.heap_setCell _ _ _ _ (by show w.heap.size + 1 ≠ g; have := hg1'.out; have := hsz2.out; omega)).trans hZ4.out
  subst hW4
  clear hW4'
  go_wp2_with (first | (refine wpList_blk_load rfl 25 _ rfl 0 rfl hRs.out _ (take_all0 _) _ hun.out rfl hdd.out ?_) | (refine wpList_row_store rfl 48 _ _ rfl [.slice A1 m1 k1, .slice (some ⟨g, 0, none⟩) m2 k2, .slice A3 m3 k3, .int .i64 d.O, .int .i64 0] rfl rfl hZs.out hcc.out rfl (five_one _ _ _ _ _ _ _ _ _ _ _) ?_; intro w5 hw5 ho5))
  refine bodyPost_ret (ret_blk rfl _ _ (g := w.heap.size + 1) rfl hw5.out _ huc.out rfl hcc.out) rfl ?_
  have hs2 := hsz2.out
  have hs3 := hsz3.out
  have hb5 : Below w.heap.size w w5 := (hB4.out.trans ((Below.refl w.heap.size _).setCell (p := ⟨g, i * 2, none⟩) (by show w.heap.size ≤ g; have := hg1'.out; omega) _)).trans (ho5.below (by omega))
  obtain ⟨o1, o2, o3, x12, x13, x23⟩ := hOD.out
  have u1 := (keptNone o1 gal.out).kept gg (ownNe (fun h => x12 g h rfl))
  have u3 := (keptNone o3 gal.out).kept gg (ownNe (fun h => x23 g rfl h))
  refine ⟨_, _, _, (by rw [hzz.out, hRz.out]), ?_, hb5⟩
  rw [hRz.out]
  exact ⟨OwnZ.lower (u1.kept (onlyGrown ho5) (notB u1 (by omega))) (by omega), OwnR.lower (gO.kept (onlyGrown ho5) (notB gO (by omega))) (by omega), OwnZ.lower (u3.kept (onlyGrown ho5) (notB u3 (by omega))) (by omega), x12, x13, x23⟩
end Go.Proofs.Ytoonpgedioocgaa
