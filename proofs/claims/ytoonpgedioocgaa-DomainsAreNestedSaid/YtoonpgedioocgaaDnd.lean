/-
  Stage 10 (domain): the walk of DomainsAreNested. (Written by tools/gendnd.py.)
-/
import Derived.Test.YtoonpgedioocgaaDmz
import Derived.Test.YtoonpgedioocgaaDnb
import Derived.Deep.CutRange
namespace Go.Proofs.Ytoonpgedioocgaa
set_option linter.unusedVariables false
set_option linter.unusedSimpArgs false
open Go.RowKit

theorem ofN {B : Nat} {w : World} {h : Hd} {d : Dm} {lv k z : Int} (m : DomM w B h d) (he : d.of lv k = z) : Calls Try.prog 11 #[h.val, .int .i64 lv, .int .i64 k] w fun e w' => e = .returned (.int .i64 z) ∧ Below w.heap.size w w' := by
  rw [← he]
  exact dof_any h d lv k w m
theorem sizeN {B : Nat} {w : World} {h : Hd} {d : Dm} {lv z : Int} (m : DomM w B h d) (he : d.size lv = z) : Calls Try.prog 9 #[h.val, .int .i64 lv] w fun e w' => e = .returned (.int .i64 z) ∧ Below w.heap.size w w' := by
  rw [← he]
  exact dsize_any h d lv w m
/-- A byte's remainder is a disk. -/
theorem rem_disk (x n : Nat) (hn : 0 < n) : ∃ i : Nat, i < n ∧ Int.tmod (x : Int) (n : Int) = (i : Int) := ⟨x % n, Nat.mod_lt _ hn, by rw [Int.tmod_eq_emod_of_nonneg (by omega)]; omega⟩

set_option maxRecDepth 100000 in
set_option maxHeartbeats 16000000 in
theorem nested_walk (h : Hd) (d : Dm) (x y z : Nat) (w : World) (m : DomM w w.heap.size h d) (fx : x < 256) (fy : y < 256) (fz : z < 256) :
    Calls Try.prog 4 #[h.val, .agg #[.int .u8 x, .int .u8 y, .int .u8 z]] w fun e w' => e = .returned (.bool true) ∧ Below w.heap.size w w' := by
  have hdd := Lib.hid size_dom
  have hun : Hid (Try.prog.underlying 25 = _) := Try.underlying25
  obtain ⟨Ck, hCk⟩ : ∃ x, x = d.chk := ⟨_, rfl⟩
  have CC : Hid (∀ W, DomM W w.heap.size h d → Calls Try.prog 16 #[h.val] W fun e w' => e = .returned (.int .i64 Ck) ∧ Below W.heap.size W w') := fun W m => by rw [hCk]; exact dcheck_any h d W m
  obtain ⟨W0, hW⟩ : ∃ W, W = (w.alloc (.cells h.cells.toArray 25)).alloc (.cells #[.int .u8 x, .int .u8 y, .int .u8 z] 36) := ⟨_, rfl⟩
  have hb : Below w.heap.size w W0 := by rw [hW]; exact ((Below.refl _ _).alloc (Nat.le_refl _) _).alloc (by simp) _
  have E := Lib.hid hb
  have M1 := Lib.hid (m.below hb)
  have X1 : Hid (Blk W0 w.heap.size h.cells 25) := by show Blk _ _ _ _; rw [hW]; exact (Blk.new _ _ _).alloc _
  have X2 : Hid (Blk W0 (w.heap.size + 1) [.int .u8 x, .int .u8 y, .int .u8 z] 36) := by show Blk _ _ _ _; rw [hW]; exact (Blk.new _ _ _).at (by simp)
  have hW' := Lib.hid hW
  have hln : Hid (h.n1 = d.D.length) := m.l1
  have hCk' := Lib.hid hCk
  have hn1s : h.n1 ≤ 140737488355328 := m.s1
  clear hW hb m hCk
  unfold Hd.cells at hW' X1
  unfold Hd.val at CC ⊢
  by_cases hk0 : Ck = 0
  rotate_left
  · have tk : (Ck != 0) = true := by simpa using hk0
    clear hk0
    go_enter Try.func4, Try.ntmps4
    go_wp2_with fail
    generalize hg : (w.alloc _).alloc _ = Wg
    have hgW : W0 = Wg := by rw [← hg, hW'.out]
    clear hg hW'
    subst hgW
    have pX1_0 : W0.cell? ⟨w.heap.size, 0, none⟩ = some (.slice h.a1 h.n1 h.c1) := X1.out.cell (j := 0) rfl
    have pX1_1 : W0.cell? ⟨w.heap.size, 1, none⟩ = some (.slice h.a2 h.n2 h.c2) := X1.out.cell (j := 1) rfl
    have pX1_2 : W0.cell? ⟨w.heap.size, 2, none⟩ = some (.slice h.a3 h.n3 h.c3) := X1.out.cell (j := 2) rfl
    have pX1_3 : W0.cell? ⟨w.heap.size, 3, none⟩ = some (.int .i64 h.o) := X1.out.cell (j := 3) rfl
    go_wp2_with fail
    clear pX1_0 pX1_1 pX1_2 pX1_3
    have C := CC.out _ M1.out
    try unfold Hd.val at C
    refine (C).mono ?_
    rintro e w2 ⟨rfl, hb⟩
    have hbp := Lib.hid hb
    replace E : Hid (Below w.heap.size w w2) := E.out.trans (hb.mono E.out.size)
    replace M1 := Lib.hid (M1.out.below hb)
    replace X1 := Lib.hid (X1.out.below hb X1.out.lt)
    replace X2 := Lib.hid (X2.out.below hb X2.out.lt)
    clear hb
    clear hbp
    clear C
    have pX1_0 : w2.cell? ⟨w.heap.size, 0, none⟩ = some (.slice h.a1 h.n1 h.c1) := X1.out.cell (j := 0) rfl
    have pX1_1 : w2.cell? ⟨w.heap.size, 1, none⟩ = some (.slice h.a2 h.n2 h.c2) := X1.out.cell (j := 1) rfl
    have pX1_2 : w2.cell? ⟨w.heap.size, 2, none⟩ = some (.slice h.a3 h.n3 h.c3) := X1.out.cell (j := 2) rfl
    have pX1_3 : w2.cell? ⟨w.heap.size, 3, none⟩ = some (.int .i64 h.o) := X1.out.cell (j := 3) rfl
    go_wp2_with fail
    clear pX1_0 pX1_1 pX1_2 pX1_3
    refine (sanity_any10 _).mono ?_
    rintro e w3 ⟨rfl, hb⟩
    have hbp := Lib.hid hb
    replace E : Hid (Below w.heap.size w w3) := E.out.trans (hb.mono E.out.size)
    replace M1 := Lib.hid (M1.out.below hb)
    replace X1 := Lib.hid (X1.out.below hb X1.out.lt)
    replace X2 := Lib.hid (X2.out.below hb X2.out.lt)
    clear hb
    clear hbp
    go_wp2_with fail
    go_ret
    exact ⟨rfl, E.out⟩
  have tk : (Ck != 0) = false := by simpa using hk0
  have hc : Hid (d.chk = 0) := by show _ = _; rw [← hCk'.out]; exact hk0
  clear hk0 hCk'
  by_cases hn0 : h.n1 = 0
  · have tn : ((h.n1 : Int) == 0) = true := by simp; omega
    clear hn0
    go_enter Try.func4, Try.ntmps4
    go_wp2_with fail
    generalize hg : (w.alloc _).alloc _ = Wg
    have hgW : W0 = Wg := by rw [← hg, hW'.out]
    clear hg hW'
    subst hgW
    have pX1_0 : W0.cell? ⟨w.heap.size, 0, none⟩ = some (.slice h.a1 h.n1 h.c1) := X1.out.cell (j := 0) rfl
    have pX1_1 : W0.cell? ⟨w.heap.size, 1, none⟩ = some (.slice h.a2 h.n2 h.c2) := X1.out.cell (j := 1) rfl
    have pX1_2 : W0.cell? ⟨w.heap.size, 2, none⟩ = some (.slice h.a3 h.n3 h.c3) := X1.out.cell (j := 2) rfl
    have pX1_3 : W0.cell? ⟨w.heap.size, 3, none⟩ = some (.int .i64 h.o) := X1.out.cell (j := 3) rfl
    go_wp2_with fail
    clear pX1_0 pX1_1 pX1_2 pX1_3
    have C := CC.out _ M1.out
    try unfold Hd.val at C
    refine (C).mono ?_
    rintro e w2 ⟨rfl, hb⟩
    have hbp := Lib.hid hb
    replace E : Hid (Below w.heap.size w w2) := E.out.trans (hb.mono E.out.size)
    replace M1 := Lib.hid (M1.out.below hb)
    replace X1 := Lib.hid (X1.out.below hb X1.out.lt)
    replace X2 := Lib.hid (X2.out.below hb X2.out.lt)
    clear hb
    clear hbp
    clear C
    have pX1_0 : w2.cell? ⟨w.heap.size, 0, none⟩ = some (.slice h.a1 h.n1 h.c1) := X1.out.cell (j := 0) rfl
    have pX1_1 : w2.cell? ⟨w.heap.size, 1, none⟩ = some (.slice h.a2 h.n2 h.c2) := X1.out.cell (j := 1) rfl
    have pX1_2 : w2.cell? ⟨w.heap.size, 2, none⟩ = some (.slice h.a3 h.n3 h.c3) := X1.out.cell (j := 2) rfl
    have pX1_3 : w2.cell? ⟨w.heap.size, 3, none⟩ = some (.int .i64 h.o) := X1.out.cell (j := 3) rfl
    go_wp2_with fail
    clear pX1_0 pX1_1 pX1_2 pX1_3
    refine (sanity_any10 _).mono ?_
    rintro e w3 ⟨rfl, hb⟩
    have hbp := Lib.hid hb
    replace E : Hid (Below w.heap.size w w3) := E.out.trans (hb.mono E.out.size)
    replace M1 := Lib.hid (M1.out.below hb)
    replace X1 := Lib.hid (X1.out.below hb X1.out.lt)
    replace X2 := Lib.hid (X2.out.below hb X2.out.lt)
    clear hb
    clear hbp
    go_wp2_with fail
    go_ret
    exact ⟨rfl, E.out⟩
  have tn : ((h.n1 : Int) == 0) = false := by simp; omega
  have tn2 : ¬ h.n1 = 0 := hn0
  have hn64 : h.n1 ≤ 64 := by have := (Dm.ok_le hc.out).1; have := hln.out; omega
  obtain ⟨ia, hia, ta⟩ := rem_disk x h.n1 (by omega)
  have wa : IntKind.i64.wrap (x : Int) = (x : Int) := by rw [IntKind.wrap_i64]; omega
  have ja : Hid (ia < d.D.length) := by have := hln.out; show _ < _; omega
  obtain ⟨ib, hib, tb⟩ := rem_disk y h.n1 (by omega)
  have wb : IntKind.i64.wrap (y : Int) = (y : Int) := by rw [IntKind.wrap_i64]; omega
  have jb : Hid (ib < d.D.length) := by have := hln.out; show _ < _; omega
  obtain ⟨ic, hic, tc⟩ := rem_disk z h.n1 (by omega)
  have wc : IntKind.i64.wrap (z : Int) = (z : Int) := by rw [IntKind.wrap_i64]; omega
  have jc : Hid (ic < d.D.length) := by have := hln.out; show _ < _; omega
  clear hn0
  obtain ⟨X, hX⟩ : ∃ r, r = d.rel ia ib := ⟨_, rfl⟩
  have rX : Hid (d.rel ia ib = X) := hX.symm
  obtain ⟨Y, hY⟩ : ∃ r, r = d.rel ib ic := ⟨_, rfl⟩
  have rY : Hid (d.rel ib ic = Y) := hY.symm
  obtain ⟨Z, hZ⟩ : ∃ r, r = d.rel ia ic := ⟨_, rfl⟩
  have rZ : Hid (d.rel ia ic = Z) := hZ.symm
  have rB : Hid (d.rel ib ia = X) := by show _ = _; rw [rel_comm]; exact hX.symm
  have bX := rel_bounds (d := d) ia ib
  have bY := rel_bounds (d := d) ib ic
  have bZ := rel_bounds (d := d) ia ic
  have u1 := rel_ultra hc.out ja.out jb.out jc.out
  have u2 := rel_ultra hc.out jb.out ja.out jc.out
  have u3 := rel_ultra hc.out ja.out jc.out jb.out
  rw [rel_comm ia ib] at u2; rw [rel_comm ib ic] at u3
  rw [← hX, ← hY, ← hZ] at u1
  rw [← hX, ← hY, ← hZ] at u2
  rw [← hX, ← hY, ← hZ] at u3
  rw [← hX] at bX; rw [← hY] at bY; rw [← hZ] at bZ
  have c1 : ¬ X < 0 := by omega
  have c2 : ¬ 4 < X := by omega
  have c3 : ¬ max X Y < Z := by omega
  have c4 : ¬ max X Z < Y := by omega
  have c5 : ¬ max Y Z < X := by omega
  have tX : (X != X) = false := by simp
  have hrl : Hid (∀ l : Nat, l ≤ 3 → (d.of l ia = d.of l ib ↔ X ≤ l)) := fun l hl => by rw [hX]; exact rel_iff hc.out ja.out jb.out hl
  clear hX hY hZ u1 u2 u3 bX bY bZ
  go_enter Try.func4, Try.ntmps4
  go_wp2_with fail
  generalize hg : (w.alloc _).alloc _ = Wg
  have hgW : W0 = Wg := by rw [← hg, hW'.out]
  clear hg hW'
  subst hgW
  have pX1_0 : W0.cell? ⟨w.heap.size, 0, none⟩ = some (.slice h.a1 h.n1 h.c1) := X1.out.cell (j := 0) rfl
  have pX1_1 : W0.cell? ⟨w.heap.size, 1, none⟩ = some (.slice h.a2 h.n2 h.c2) := X1.out.cell (j := 1) rfl
  have pX1_2 : W0.cell? ⟨w.heap.size, 2, none⟩ = some (.slice h.a3 h.n3 h.c3) := X1.out.cell (j := 2) rfl
  have pX1_3 : W0.cell? ⟨w.heap.size, 3, none⟩ = some (.int .i64 h.o) := X1.out.cell (j := 3) rfl
  go_wp2_with fail
  clear pX1_0 pX1_1 pX1_2 pX1_3
  have C := CC.out _ M1.out
  try unfold Hd.val at C
  refine (C).mono ?_
  rintro e w2 ⟨rfl, hb⟩
  have hbp := Lib.hid hb
  replace E : Hid (Below w.heap.size w w2) := E.out.trans (hb.mono E.out.size)
  replace M1 := Lib.hid (M1.out.below hb)
  replace X1 := Lib.hid (X1.out.below hb X1.out.lt)
  replace X2 := Lib.hid (X2.out.below hb X2.out.lt)
  clear hb
  clear hbp
  clear C
  have pX1_0 : w2.cell? ⟨w.heap.size, 0, none⟩ = some (.slice h.a1 h.n1 h.c1) := X1.out.cell (j := 0) rfl
  have pX1_1 : w2.cell? ⟨w.heap.size, 1, none⟩ = some (.slice h.a2 h.n2 h.c2) := X1.out.cell (j := 1) rfl
  have pX1_2 : w2.cell? ⟨w.heap.size, 2, none⟩ = some (.slice h.a3 h.n3 h.c3) := X1.out.cell (j := 2) rfl
  have pX1_3 : w2.cell? ⟨w.heap.size, 3, none⟩ = some (.int .i64 h.o) := X1.out.cell (j := 3) rfl
  go_wp2_with fail
  clear pX1_0 pX1_1 pX1_2 pX1_3
  have q0 : ∀ q : ExtOf w2.drew, q.world.cell? ⟨w.heap.size + 1, 0, none⟩ = some (.int .u8 x) := fun q => (X2.out.drew.below q.ext X2.out.lt).cell (j := 0) rfl
  have q1 : ∀ q : ExtOf w2.drew, q.world.cell? ⟨w.heap.size + 1, 1, none⟩ = some (.int .u8 y) := fun q => (X2.out.drew.below q.ext X2.out.lt).cell (j := 1) rfl
  have q2 : ∀ q : ExtOf w2.drew, q.world.cell? ⟨w.heap.size + 1, 2, none⟩ = some (.int .u8 z) := fun q => (X2.out.drew.below q.ext X2.out.lt).cell (j := 2) rfl
  refine wp_region_planM [] [(true, 0), (true, 1), (true, 2), (true, 3), (true, 4), (true, 5), (true, 6), (true, 7), (true, 8), (true, 9), (true, 10), (true, 11), (true, 12), (true, 13), (true, 14), (true, 15), (true, 16), (true, 17)] (by decide) (by kernel_rfl) (by kernel_rfl) (by decide) (by intro c a d v w h; cases d <;> exact h) ?_
  change wpPlanM _ _ _ _ _ _ w2.drew
  iterate 18 (refine wpPlanM_plain rfl (fun K hK => ?_); go_simp; refine hK _ ?_; clear hK K)
  refine wpPlanM_nil ?_
  clear q0 q1 q2 X2 ta tb tc wa wb wc fx fy fz tn2
  have hb : Below w2.heap.size w2 w2.drew := (Below.refl _ _).drew
  generalize hgd : w2.drew = w3 at hb ⊢
  replace E : Hid (Below w.heap.size w w3) := E.out.trans (hb.mono E.out.size)
  replace M1 := Lib.hid (M1.out.below hb)
  replace X1 := Lib.hid (X1.out.below hb X1.out.lt)
  clear hb hgd
  go_wp2_with fail
  refine wp_region_planM [] [(true, 0), (true, 1), (true, 2), (true, 4), (true, 5), (true, 6), (true, 8), (true, 9), (true, 10), (false, 3), (false, 7), (false, 11), (true, 12), (true, 13), (true, 14)] (by decide) (by kernel_rfl) (by kernel_rfl) (by decide) (by intro c a d v w h; cases d <;> exact h) ?_
  change wpPlanM _ _ _ _ _ _ w3.drew
  have hb : Below w3.heap.size w3 w3.drew := (Below.refl _ _).drew
  generalize hgd : w3.drew = w4 at hb ⊢
  replace E : Hid (Below w.heap.size w w4) := E.out.trans (hb.mono E.out.size)
  replace M1 := Lib.hid (M1.out.below hb)
  replace X1 := Lib.hid (X1.out.below hb X1.out.lt)
  clear hb hgd
  refine wpPlanM_runW rfl (by rfl) _ (fun q => load_run 25 _ rfl w.heap.size 0 rfl [.slice h.a1 h.n1 h.c1, .slice h.a2 h.n2 h.c2, .slice h.a3 h.n3 h.c3, .int .i64 h.o] _ hun.out rfl hdd.out q.world ((Blk.below X1.out q.ext X1.out.lt).range 0 _ (take_all0 _))) ?_
  iterate 2 (refine wpPlanM_plain rfl (fun K hK => ?_); go_simp; refine hK _ ?_; clear hK K)
  refine wpPlanM_runW rfl (by rfl) _ (fun q => load_run 25 _ rfl w.heap.size 0 rfl [.slice h.a1 h.n1 h.c1, .slice h.a2 h.n2 h.c2, .slice h.a3 h.n3 h.c3, .int .i64 h.o] _ hun.out rfl hdd.out q.world ((Blk.below X1.out q.ext X1.out.lt).range 0 _ (take_all0 _))) ?_
  iterate 2 (refine wpPlanM_plain rfl (fun K hK => ?_); go_simp; refine hK _ ?_; clear hK K)
  refine wpPlanM_runW rfl (by rfl) _ (fun q => load_run 25 _ rfl w.heap.size 0 rfl [.slice h.a1 h.n1 h.c1, .slice h.a2 h.n2 h.c2, .slice h.a3 h.n3 h.c3, .int .i64 h.o] _ hun.out rfl hdd.out q.world ((Blk.below X1.out q.ext X1.out.lt).range 0 _ (take_all0 _))) ?_
  iterate 2 (refine wpPlanM_plain rfl (fun K hK => ?_); go_simp; refine hK _ ?_; clear hK K)
  refine wpPlanM_call rfl (fun K hK => ?_)
  go_wp2_with fail
  have C := sn_rel M1.out rX.out
  unfold Hd.val at C
  refine (C).mono ?_
  rintro e w5 ⟨rfl, hb⟩
  have hbp := Lib.hid hb
  replace E : Hid (Below w.heap.size w w5) := E.out.trans (hb.mono E.out.size)
  replace M1 := Lib.hid (M1.out.below hb)
  replace X1 := Lib.hid (X1.out.below hb X1.out.lt)
  clear hb
  go_wp2_with fail
  refine planPostL_normal ⟨.inr hbp.out, hK _ _ ?_⟩
  clear hK K hbp
  clear C
  refine wpPlanM_call rfl (fun K hK => ?_)
  go_wp2_with fail
  have C := sn_rel M1.out rY.out
  unfold Hd.val at C
  refine (C).mono ?_
  rintro e w6 ⟨rfl, hb⟩
  have hbp := Lib.hid hb
  replace E : Hid (Below w.heap.size w w6) := E.out.trans (hb.mono E.out.size)
  replace M1 := Lib.hid (M1.out.below hb)
  replace X1 := Lib.hid (X1.out.below hb X1.out.lt)
  clear hb
  go_wp2_with fail
  refine planPostL_normal ⟨.inr hbp.out, hK _ _ ?_⟩
  clear hK K hbp
  clear C
  refine wpPlanM_call rfl (fun K hK => ?_)
  go_wp2_with fail
  have C := sn_rel M1.out rZ.out
  unfold Hd.val at C
  refine (C).mono ?_
  rintro e w7 ⟨rfl, hb⟩
  have hbp := Lib.hid hb
  replace E : Hid (Below w.heap.size w w7) := E.out.trans (hb.mono E.out.size)
  replace M1 := Lib.hid (M1.out.below hb)
  replace X1 := Lib.hid (X1.out.below hb X1.out.lt)
  clear hb
  go_wp2_with fail
  refine planPostL_normal ⟨.inr hbp.out, hK _ _ ?_⟩
  clear hK K hbp
  clear C
  iterate 3 (refine wpPlanM_plain rfl (fun K hK => ?_); go_simp; refine hK _ ?_; clear hK K)
  refine wpPlanM_nil ?_
  go_upto_region 6 with fail
  go_cut [91] from 45 to 91 (fun v W => v = .bool false ∧ Below w7.heap.size w7 W)
  case first =>
    have pX1_0 : w7.cell? ⟨w.heap.size, 0, none⟩ = some (.slice h.a1 h.n1 h.c1) := X1.out.cell (j := 0) rfl
    have pX1_1 : w7.cell? ⟨w.heap.size, 1, none⟩ = some (.slice h.a2 h.n2 h.c2) := X1.out.cell (j := 1) rfl
    have pX1_2 : w7.cell? ⟨w.heap.size, 2, none⟩ = some (.slice h.a3 h.n3 h.c3) := X1.out.cell (j := 2) rfl
    have pX1_3 : w7.cell? ⟨w.heap.size, 3, none⟩ = some (.int .i64 h.o) := X1.out.cell (j := 3) rfl
    go_wp2_with fail
    clear pX1_0 pX1_1 pX1_2 pX1_3
    have C := sn_rel M1.out rB.out
    try unfold Hd.val at C
    refine (C).mono ?_
    rintro e w8 ⟨rfl, hb⟩
    have hbq0 := hb
    have hbp := Lib.hid hb
    replace E : Hid (Below w.heap.size w w8) := E.out.trans (hb.mono E.out.size)
    replace M1 := Lib.hid (M1.out.below hb)
    replace X1 := Lib.hid (X1.out.below hb X1.out.lt)
    clear hb
    clear hbp
    clear C
    have hbq := Lib.hid hbq0
    clear hbq0
    go_wp2_with fail
    all_goals (first | (exfalso; omega) | (go_meet; exact ⟨by first | rfl | (go_simp; done) | (simp; omega), hbq.out⟩))
  case rest =>
  obtain ⟨rfl, hb⟩ := hcut
  replace E : Hid (Below w.heap.size w wc) := E.out.trans (hb.mono E.out.size)
  replace M1 := Lib.hid (M1.out.below hb)
  replace X1 := Lib.hid (X1.out.below hb X1.out.lt)
  clear hb
  go_wp2_with fail
  clear c1 c2 c3 c4 c5 rX rY rZ rB
  go_loopw [92] (fun i wr => ∃ l : Nat, l ≤ 4 ∧ i = .int .i64 l ∧ Hid (Below w.heap.size w wr ∧ DomM wr w.heap.size h d ∧ Blk wr w.heap.size [.slice h.a1 h.n1 h.c1, .slice h.a2 h.n2 h.c2, .slice h.a3 h.n3 h.c3, .int .i64 h.o] 25)) (fun i _ => 4 - (intOf i).toNat)
  case atStart => exact ⟨0, by omega, rfl, ⟨E.out, M1.out, X1.out⟩⟩
  case round =>
    obtain ⟨l, hl, rfl, hall⟩ := hrel
    clear E M1 X1
    have E := Lib.hid hall.out.1
    have M1 := Lib.hid hall.out.2.1
    have X1 := Lib.hid hall.out.2.2
    clear hall
    by_cases hl4 : l < 4
    · have t : (l : Int) < 4 := by omega
      obtain ⟨ox, hox⟩ : ∃ r, r = d.of l ia := ⟨_, rfl⟩
      obtain ⟨oy, hoy⟩ : ∃ r, r = d.of l ib := ⟨_, rfl⟩
      have hR := Lib.hid (hrl.out l (by omega))
      rw [← hox, ← hoy] at hR
      have dx : Hid (d.of l ia = ox) := hox.symm
      have dy : Hid (d.of l ib = oy) := hoy.symm
      obtain ⟨S, hS⟩ : ∃ S : Nat, d.size l = (S : Int) := ⟨(d.size l).toNat, by have := (Dm.size_ge (d := d) l).1; omega⟩
      have hS64 : S ≤ 64 := by have := (Dm.size_ge (d := d) l).2; omega
      have hall2 : Hid (d.cntB l S = h.n1) := by show _ = _; have := cntB_all hc.out (lv := l) (by omega); rw [hS] at this; rw [hln.out]; exact this
      have hS' := Lib.hid hS
      clear hox hoy hS
      go_upto_region 11 with fail
      go_cut [92, 107] from 92 to 153 (fun c v W => c = .int .i64 l ∧ v = .bool false ∧ Below wr.heap.size wr W)
      case first =>
        have Q : Hid (Below wr.heap.size wr wr) := Below.refl _ _
        by_cases he : ox = oy
        · have te : (ox == oy) = true := by simpa using he
          have tl : X ≤ (l : Int) := hR.out.1 he
          clear he
          refine wp_region_planM [] [(true, 0), (true, 1), (true, 2), (true, 4), (true, 5), (true, 6), (true, 9), (true, 10), (true, 11), (false, 3), (false, 7), (true, 8), (true, 12)] (by decide) (by kernel_rfl) (by kernel_rfl) (by decide) (by intro c a d v w h; cases d <;> exact h) ?_
          change wpPlanM _ _ _ _ _ _ wr.drew
          have hb : Below wr.heap.size wr wr.drew := (Below.refl _ _).drew
          generalize hgd : wr.drew = w9 at hb ⊢
          replace E : Hid (Below w.heap.size w w9) := E.out.trans (hb.mono E.out.size)
          replace M1 := Lib.hid (M1.out.below hb)
          replace X1 := Lib.hid (X1.out.below hb X1.out.lt)
          replace Q : Hid (Below wr.heap.size wr w9) := Q.out.trans (hb.mono Q.out.size)
          clear hb hgd
          refine wpPlanM_runW rfl (by rfl) _ (fun q => load_run 25 _ rfl w.heap.size 0 rfl [.slice h.a1 h.n1 h.c1, .slice h.a2 h.n2 h.c2, .slice h.a3 h.n3 h.c3, .int .i64 h.o] _ hun.out rfl hdd.out q.world ((Blk.below X1.out q.ext X1.out.lt).range 0 _ (take_all0 _))) ?_
          iterate 2 (refine wpPlanM_plain rfl (fun K hK => ?_); go_simp; refine hK _ ?_; clear hK K)
          refine wpPlanM_runW rfl (by rfl) _ (fun q => load_run 25 _ rfl w.heap.size 0 rfl [.slice h.a1 h.n1 h.c1, .slice h.a2 h.n2 h.c2, .slice h.a3 h.n3 h.c3, .int .i64 h.o] _ hun.out rfl hdd.out q.world ((Blk.below X1.out q.ext X1.out.lt).range 0 _ (take_all0 _))) ?_
          iterate 2 (refine wpPlanM_plain rfl (fun K hK => ?_); go_simp; refine hK _ ?_; clear hK K)
          iterate 3 (refine wpPlanM_plain rfl (fun K hK => ?_); go_simp; refine hK _ ?_; clear hK K)
          refine wpPlanM_call rfl (fun K hK => ?_)
          go_wp2_with fail
          have C := ofN M1.out dx.out
          unfold Hd.val at C
          refine (C).mono ?_
          rintro e w10 ⟨rfl, hb⟩
          have hbp := Lib.hid hb
          replace E : Hid (Below w.heap.size w w10) := E.out.trans (hb.mono E.out.size)
          replace M1 := Lib.hid (M1.out.below hb)
          replace X1 := Lib.hid (X1.out.below hb X1.out.lt)
          replace Q : Hid (Below wr.heap.size wr w10) := Q.out.trans (hb.mono Q.out.size)
          clear hb
          go_wp2_with fail
          refine planPostL_normal ⟨.inr hbp.out, hK _ _ ?_⟩
          clear hK K hbp
          clear C
          refine wpPlanM_call rfl (fun K hK => ?_)
          go_wp2_with fail
          have C := ofN M1.out dy.out
          unfold Hd.val at C
          refine (C).mono ?_
          rintro e w11 ⟨rfl, hb⟩
          have hbp := Lib.hid hb
          replace E : Hid (Below w.heap.size w w11) := E.out.trans (hb.mono E.out.size)
          replace M1 := Lib.hid (M1.out.below hb)
          replace X1 := Lib.hid (X1.out.below hb X1.out.lt)
          replace Q : Hid (Below wr.heap.size wr w11) := Q.out.trans (hb.mono Q.out.size)
          clear hb
          go_wp2_with fail
          refine planPostL_normal ⟨.inr hbp.out, hK _ _ ?_⟩
          clear hK K hbp
          clear C
          iterate 2 (refine wpPlanM_plain rfl (fun K hK => ?_); go_simp; refine hK _ ?_; clear hK K)
          refine wpPlanM_nil ?_
          go_wp2_with fail
          go_meet
          exact ⟨by first | rfl | (go_simp; done), by first | rfl | (go_simp; done), Q.out⟩
        · have te : (ox == oy) = false := by simpa using he
          have tl : ¬ X ≤ (l : Int) := fun hh => he (hR.out.2 hh)
          clear he
          refine wp_region_planM [] [(true, 0), (true, 1), (true, 2), (true, 4), (true, 5), (true, 6), (true, 9), (true, 10), (true, 11), (false, 3), (false, 7), (true, 8), (true, 12)] (by decide) (by kernel_rfl) (by kernel_rfl) (by decide) (by intro c a d v w h; cases d <;> exact h) ?_
          change wpPlanM _ _ _ _ _ _ wr.drew
          have hb : Below wr.heap.size wr wr.drew := (Below.refl _ _).drew
          generalize hgd : wr.drew = w9 at hb ⊢
          replace E : Hid (Below w.heap.size w w9) := E.out.trans (hb.mono E.out.size)
          replace M1 := Lib.hid (M1.out.below hb)
          replace X1 := Lib.hid (X1.out.below hb X1.out.lt)
          replace Q : Hid (Below wr.heap.size wr w9) := Q.out.trans (hb.mono Q.out.size)
          clear hb hgd
          refine wpPlanM_runW rfl (by rfl) _ (fun q => load_run 25 _ rfl w.heap.size 0 rfl [.slice h.a1 h.n1 h.c1, .slice h.a2 h.n2 h.c2, .slice h.a3 h.n3 h.c3, .int .i64 h.o] _ hun.out rfl hdd.out q.world ((Blk.below X1.out q.ext X1.out.lt).range 0 _ (take_all0 _))) ?_
          iterate 2 (refine wpPlanM_plain rfl (fun K hK => ?_); go_simp; refine hK _ ?_; clear hK K)
          refine wpPlanM_runW rfl (by rfl) _ (fun q => load_run 25 _ rfl w.heap.size 0 rfl [.slice h.a1 h.n1 h.c1, .slice h.a2 h.n2 h.c2, .slice h.a3 h.n3 h.c3, .int .i64 h.o] _ hun.out rfl hdd.out q.world ((Blk.below X1.out q.ext X1.out.lt).range 0 _ (take_all0 _))) ?_
          iterate 2 (refine wpPlanM_plain rfl (fun K hK => ?_); go_simp; refine hK _ ?_; clear hK K)
          iterate 3 (refine wpPlanM_plain rfl (fun K hK => ?_); go_simp; refine hK _ ?_; clear hK K)
          refine wpPlanM_call rfl (fun K hK => ?_)
          go_wp2_with fail
          have C := ofN M1.out dx.out
          unfold Hd.val at C
          refine (C).mono ?_
          rintro e w10 ⟨rfl, hb⟩
          have hbp := Lib.hid hb
          replace E : Hid (Below w.heap.size w w10) := E.out.trans (hb.mono E.out.size)
          replace M1 := Lib.hid (M1.out.below hb)
          replace X1 := Lib.hid (X1.out.below hb X1.out.lt)
          replace Q : Hid (Below wr.heap.size wr w10) := Q.out.trans (hb.mono Q.out.size)
          clear hb
          go_wp2_with fail
          refine planPostL_normal ⟨.inr hbp.out, hK _ _ ?_⟩
          clear hK K hbp
          clear C
          refine wpPlanM_call rfl (fun K hK => ?_)
          go_wp2_with fail
          have C := ofN M1.out dy.out
          unfold Hd.val at C
          refine (C).mono ?_
          rintro e w11 ⟨rfl, hb⟩
          have hbp := Lib.hid hb
          replace E : Hid (Below w.heap.size w w11) := E.out.trans (hb.mono E.out.size)
          replace M1 := Lib.hid (M1.out.below hb)
          replace X1 := Lib.hid (X1.out.below hb X1.out.lt)
          replace Q : Hid (Below wr.heap.size wr w11) := Q.out.trans (hb.mono Q.out.size)
          clear hb
          go_wp2_with fail
          refine planPostL_normal ⟨.inr hbp.out, hK _ _ ?_⟩
          clear hK K hbp
          clear C
          iterate 2 (refine wpPlanM_plain rfl (fun K hK => ?_); go_simp; refine hK _ ?_; clear hK K)
          refine wpPlanM_nil ?_
          go_wp2_with fail
          go_meet
          exact ⟨by first | rfl | (go_simp; done), by first | rfl | (go_simp; done), Q.out⟩
      case rest =>
        obtain ⟨rfl, rfl, hb⟩ := hcut
        clear hR dx dy
        replace E : Hid (Below w.heap.size w wc) := E.out.trans (hb.mono E.out.size)
        replace M1 := Lib.hid (M1.out.below hb)
        replace X1 := Lib.hid (X1.out.below hb X1.out.lt)
        clear hb
        have pX1_0 : wc.cell? ⟨w.heap.size, 0, none⟩ = some (.slice h.a1 h.n1 h.c1) := X1.out.cell (j := 0) rfl
        have pX1_1 : wc.cell? ⟨w.heap.size, 1, none⟩ = some (.slice h.a2 h.n2 h.c2) := X1.out.cell (j := 1) rfl
        have pX1_2 : wc.cell? ⟨w.heap.size, 2, none⟩ = some (.slice h.a3 h.n3 h.c3) := X1.out.cell (j := 2) rfl
        have pX1_3 : wc.cell? ⟨w.heap.size, 3, none⟩ = some (.int .i64 h.o) := X1.out.cell (j := 3) rfl
        go_wp2_with fail
        clear pX1_0 pX1_1 pX1_2 pX1_3
        have C := sizeN M1.out hS'.out
        try unfold Hd.val at C
        refine (C).mono ?_
        rintro e w12 ⟨rfl, hb⟩
        have hbp := Lib.hid hb
        replace E : Hid (Below w.heap.size w w12) := E.out.trans (hb.mono E.out.size)
        replace M1 := Lib.hid (M1.out.below hb)
        replace X1 := Lib.hid (X1.out.below hb X1.out.lt)
        clear hb
        clear hbp
        clear C
        have hl4' := Lib.hid hl4
        clear hl4
        go_wp2_with fail
        go_loopw [111, 13] (fun i ct wr => ∃ k : Nat, k ≤ S ∧ i = .int .i64 k ∧ ct = .int .i64 (d.cntB l k : Nat) ∧ Hid (Below w.heap.size w wr ∧ DomM wr w.heap.size h d ∧ Blk wr w.heap.size [.slice h.a1 h.n1 h.c1, .slice h.a2 h.n2 h.c2, .slice h.a3 h.n3 h.c3, .int .i64 h.o] 25)) (fun i _ _ => S - (intOf i).toNat)
        case atStart => exact ⟨0, by omega, rfl, by rw [cntB_zero]; rfl, ⟨E.out, M1.out, X1.out⟩⟩
        case round =>
          obtain ⟨k, hk, rfl, rfl, hall⟩ := hrel
          clear E M1 X1
          have E := Lib.hid hall.out.1
          have M1 := Lib.hid hall.out.2.1
          have X1 := Lib.hid hall.out.2.2
          clear hall
          obtain ⟨ct, hct⟩ : ∃ c, c = d.cntB l k := ⟨_, rfl⟩
          have hct64 : ct ≤ 64 := by have := cntB_le (d := d) l k; have := hln.out; omega
          have hct' := Lib.hid hct
          rw [← hct]
          clear hct
          by_cases hkS : k < S
          · have t : (k : Int) < (S : Int) := by omega
            have pX1_0 : wr.cell? ⟨w.heap.size, 0, none⟩ = some (.slice h.a1 h.n1 h.c1) := X1.out.cell (j := 0) rfl
            have pX1_1 : wr.cell? ⟨w.heap.size, 1, none⟩ = some (.slice h.a2 h.n2 h.c2) := X1.out.cell (j := 1) rfl
            have pX1_2 : wr.cell? ⟨w.heap.size, 2, none⟩ = some (.slice h.a3 h.n3 h.c3) := X1.out.cell (j := 2) rfl
            have pX1_3 : wr.cell? ⟨w.heap.size, 3, none⟩ = some (.int .i64 h.o) := X1.out.cell (j := 3) rfl
            go_wp2_with fail
            clear pX1_0 pX1_1 pX1_2 pX1_3
            have C := memZ (by have := hln.out; omega) l k M1.out
            try unfold Hd.val at C
            refine (C).mono ?_
            rintro e w13 ⟨A1, nn, c1, rfl, hn1, hs1, r1, hb⟩
            have hbp := Lib.hid hb
            replace E : Hid (Below w.heap.size w w13) := E.out.trans (hb.mono E.out.size)
            replace M1 := Lib.hid (M1.out.below hb)
            replace X1 := Lib.hid (X1.out.below hb X1.out.lt)
            clear hb
            have hn1' := Lib.hid hn1
            clear hn1
            have r1' := Lib.hid r1
            clear r1
            clear hbp
            clear C
            have hnx : Hid (d.cntB l (k + 1) = ct + nn) := by show _ = _; rw [cntB_next, ← memI_len, hn1'.out, hct'.out]
            have hnn64 : ct + nn ≤ 64 := by have := cntB_le (d := d) l (k + 1); have := hnx.out; have := hln.out; omega
            obtain ⟨BB, r1'⟩ : ∃ B, Hid (Rds w13 B A1 ((d.memI l k).map iv) ∧ B ≤ w13.heap.size) := ⟨_, r1'.out, Nat.le_refl _⟩
            go_wp2_with fail
            go_loopw [119, 13] (fun i ct2 wr => ∃ j : Nat, j ≤ nn ∧ i = .int .i64 j ∧ ct2 = .int .i64 ((ct + j : Nat) : Int) ∧ Hid (Below w.heap.size w wr ∧ DomM wr w.heap.size h d ∧ Blk wr w.heap.size [.slice h.a1 h.n1 h.c1, .slice h.a2 h.n2 h.c2, .slice h.a3 h.n3 h.c3, .int .i64 h.o] 25 ∧ Rds wr BB A1 ((d.memI l k).map iv) ∧ BB ≤ wr.heap.size)) (fun i _ _ => nn - (intOf i).toNat)
            case atStart => exact ⟨0, by omega, rfl, rfl, ⟨E.out, M1.out, X1.out, r1'.out.1, r1'.out.2⟩⟩
            case round =>
              obtain ⟨j, hj, rfl, rfl, hall⟩ := hrel
              clear r1'
              clear E M1 X1
              have E := Lib.hid hall.out.1
              have M1 := Lib.hid hall.out.2.1
              have X1 := Lib.hid hall.out.2.2.1
              have R1 := Lib.hid hall.out.2.2.2.1
              have hBB := Lib.hid hall.out.2.2.2.2
              clear hall
              obtain ⟨cj, hcj⟩ : ∃ c, c = ct + j := ⟨_, rfl⟩
              rw [← hcj]
              have hcj64 : cj ≤ 64 := by omega
              have hcj' := Lib.hid hcj
              clear hcj
              by_cases hjn : j < nn
              · have t2 : (j : Int) < (nn : Int) := by omega
                have t3 : 0 ≤ (j : Int) := by omega
                obtain ⟨v, hv⟩ : ∃ v, (d.memI l k)[j]? = some v := ⟨_, List.getElem?_eq_getElem (by have := hn1'.out; omega)⟩
                have hvk := Lib.hid (memI_mem (List.mem_of_getElem? hv))
                obtain ⟨ad, ead, _, hca⟩ := R1.out.look (k := j) (u := iv v) (by rw [List.getElem?_map, hv]; rfl)
                have ead' := Lib.hid ead
                subst ead
                unfold iv at hca
                have hv' := Lib.hid hv
                clear hv
                have pX1_0 : wr.cell? ⟨w.heap.size, 0, none⟩ = some (.slice h.a1 h.n1 h.c1) := X1.out.cell (j := 0) rfl
                have pX1_1 : wr.cell? ⟨w.heap.size, 1, none⟩ = some (.slice h.a2 h.n2 h.c2) := X1.out.cell (j := 1) rfl
                have pX1_2 : wr.cell? ⟨w.heap.size, 2, none⟩ = some (.slice h.a3 h.n3 h.c3) := X1.out.cell (j := 2) rfl
                have pX1_3 : wr.cell? ⟨w.heap.size, 3, none⟩ = some (.int .i64 h.o) := X1.out.cell (j := 3) rfl
                go_wp2_with fail
                clear pX1_0 pX1_1 pX1_2 pX1_3
                clear hca
                have C := ofN M1.out hvk.out
                try unfold Hd.val at C
                refine (C).mono ?_
                rintro e w14 ⟨rfl, hb⟩
                have hbx := Lib.hid hb
                have hbp := Lib.hid hb
                replace E : Hid (Below w.heap.size w w14) := E.out.trans (hb.mono E.out.size)
                replace M1 := Lib.hid (M1.out.below hb)
                replace X1 := Lib.hid (X1.out.below hb X1.out.lt)
                clear hb
                clear hbp
                clear C
                have R2 := Lib.hid (R1.out.below (hbx.out.mono hBB.out))
                have hB2 := Lib.hid (Nat.le_trans hBB.out hbx.out.size)
                have tkk : ((k : Int) != (k : Int)) = false := by simp
                by_cases hj0 : j = 0
                · have t4 : ¬ 0 < (j : Int) := by omega
                  clear hj0
                  have pX1_0 : w14.cell? ⟨w.heap.size, 0, none⟩ = some (.slice h.a1 h.n1 h.c1) := X1.out.cell (j := 0) rfl
                  have pX1_1 : w14.cell? ⟨w.heap.size, 1, none⟩ = some (.slice h.a2 h.n2 h.c2) := X1.out.cell (j := 1) rfl
                  have pX1_2 : w14.cell? ⟨w.heap.size, 2, none⟩ = some (.slice h.a3 h.n3 h.c3) := X1.out.cell (j := 2) rfl
                  have pX1_3 : w14.cell? ⟨w.heap.size, 3, none⟩ = some (.int .i64 h.o) := X1.out.cell (j := 3) rfl
                  go_wp2_with fail
                  clear pX1_0 pX1_1 pX1_2 pX1_3
                  go_roundw
                  case rel => exact ⟨j + 1, by omega, by go_num, by have := hcj'.out; first | go_num | (rw [show ct + (j + 1) = cj + 1 by omega]; go_num), ⟨E.out, M1.out, X1.out, R2.out, hB2.out⟩⟩
                  case measure => simp [intOf]; omega
                · have t4 : 0 < (j : Int) := by omega
                  obtain ⟨u, hu⟩ : ∃ v, (d.memI l k)[j - 1]? = some v := ⟨_, List.getElem?_eq_getElem (by have := hn1'.out; omega)⟩
                  have tuv : ¬ v ≤ u := by have := memI_next hu (by rw [show j - 1 + 1 = j by omega]; exact hv'.out); omega
                  have hu' := Lib.hid hu
                  clear hu
                  have hj0' := Lib.hid hj0
                  clear hj0
                  have pX1_0 : w14.cell? ⟨w.heap.size, 0, none⟩ = some (.slice h.a1 h.n1 h.c1) := X1.out.cell (j := 0) rfl
                  have pX1_1 : w14.cell? ⟨w.heap.size, 1, none⟩ = some (.slice h.a2 h.n2 h.c2) := X1.out.cell (j := 1) rfl
                  have pX1_2 : w14.cell? ⟨w.heap.size, 2, none⟩ = some (.slice h.a3 h.n3 h.c3) := X1.out.cell (j := 2) rfl
                  have pX1_3 : w14.cell? ⟨w.heap.size, 3, none⟩ = some (.int .i64 h.o) := X1.out.cell (j := 3) rfl
                  go_wp2_with fail
                  clear pX1_0 pX1_1 pX1_2 pX1_3
                  have C := memZ (by have := hln.out; omega) l k M1.out
                  try unfold Hd.val at C
                  refine (C).mono ?_
                  rintro e w15 ⟨A2, n2, c2, rfl, hn2, hs2, r2, hb⟩
                  have hby := Lib.hid hb
                  have hbp := Lib.hid hb
                  replace E : Hid (Below w.heap.size w w15) := E.out.trans (hb.mono E.out.size)
                  replace M1 := Lib.hid (M1.out.below hb)
                  replace X1 := Lib.hid (X1.out.below hb X1.out.lt)
                  clear hb
                  clear hbp
                  clear C
                  obtain ⟨ae, eae, _, hcb⟩ := r2.look (k := j - 1) (u := iv u) (by rw [List.getElem?_map, hu'.out]; rfl)
                  subst eae
                  unfold iv at hcb
                  have tj : (j : Int) - 1 = ((j - 1 : Nat) : Int) := by have := hj0'.out; omega
                  have tjn : ((j - 1 : Nat) : Int) < (n2 : Int) := by have := hn1'.out; omega
                  have tj0 : 0 ≤ ((j - 1 : Nat) : Int) := by omega
                  generalize j - 1 = jm at tj tjn tj0 hcb
                  replace R2 := Lib.hid (R2.out.below (hby.out.mono hB2.out))
                  replace hB2 := Lib.hid (Nat.le_trans hB2.out hby.out.size)
                  clear r2 hn2 hs2
                  go_wp2_with fail
                  go_roundw
                  case rel => exact ⟨j + 1, by omega, by go_num, by have := hcj'.out; first | go_num | (rw [show ct + (j + 1) = cj + 1 by omega]; go_num), ⟨E.out, M1.out, X1.out, R2.out, hB2.out⟩⟩
                  case measure => simp [intOf]; omega
              · have t2 : ¬ (j : Int) < (nn : Int) := by omega
                obtain rfl : j = nn := by omega
                have hcc : Hid (cj = d.cntB l (k + 1)) := by show _ = _; rw [hnx.out, hcj'.out]
                go_wp2_with fail
                go_roundw
                case rel => exact ⟨k + 1, by omega, by go_num, by rw [← hcc.out], ⟨E.out, M1.out, X1.out⟩⟩
                case measure => simp [intOf]; omega
          · have t : ¬ (k : Int) < (S : Int) := by omega
            obtain rfl : k = S := by omega
            have hcn : ct = h.n1 := by rw [hct'.out]; exact hall2.out
            have tcn : ((ct : Int) != (h.n1 : Int)) = false := by rw [hcn]; simp
            clear hcn
            go_wp2_with fail
            have hl4 := hl4'.out
            go_roundw
            case rel => exact ⟨l + 1, by omega, by go_num, ⟨E.out, M1.out, X1.out⟩⟩
            case measure => simp [intOf]; omega
    · have t : ¬ (l : Int) < 4 := by omega
      go_wp2_with fail
      refine (sanity_any10 _).mono ?_
      rintro e w16 ⟨rfl, hb⟩
      have hbp := Lib.hid hb
      replace E : Hid (Below w.heap.size w w16) := E.out.trans (hb.mono E.out.size)
      replace M1 := Lib.hid (M1.out.below hb)
      replace X1 := Lib.hid (X1.out.below hb X1.out.lt)
      clear hb
      clear hbp
      go_wp2_with fail
      go_ret
      exact ⟨rfl, E.out⟩
end Go.Proofs.Ytoonpgedioocgaa
