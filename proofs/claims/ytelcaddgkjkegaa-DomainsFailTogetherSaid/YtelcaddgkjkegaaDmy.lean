/-
  Stage 10 (domain): sanity, the walk. (Written by tools/gendmy.py.)
-/
import Derived.Test.YtelcaddgkjkegaaDmx
import Derived.Test.YtelcaddgkjkegaaDmh
import Derived.Test.YtelcaddgkjkegaaDmm
import Derived.Test.YtelcaddgkjkegaaDmp
namespace Go.Proofs.Ytelcaddgkjkegaa
set_option linter.unusedVariables false
set_option linter.unusedSimpArgs false
open Go.RowKit

def soldD : Dm := ⟨[0, 0, 1, 2], [(0, false), (0, false), (1, true)], [0, 0], 2⟩
def drivD : Dm := ⟨[0, 0, 1, 2], [(0, false), (0, false), (0, true)], [0, 1], 2⟩
theorem sold_fit : DmFit soldD := ⟨ex_fit.f1, ex_fit.f2, by intro x hx; simp [soldD] at hx; subst hx; constructor <;> decide, ex_fit.f4, ex_fit.l1, ex_fit.l2, ex_fit.l3⟩
theorem driv_fit : DmFit drivD := ⟨ex_fit.f1, by intro x hx; simp [drivD] at hx; rcases hx with rfl | rfl <;> constructor <;> decide, ex_fit.f3, ex_fit.f4, ex_fit.l1, ex_fit.l2, ex_fit.l3⟩
theorem fit0 : Wm.Fits 0 := ⟨by decide, by decide⟩
theorem fit1 : Wm.Fits 1 := ⟨by decide, by decide⟩
theorem fit2 : Wm.Fits 2 := ⟨by decide, by decide⟩
section
variable {B : Nat} {h : Hd} {w : World}
theorem sn_sell (m : DomM w B h exD) : Calls Try.prog 19 #[h.val, .int .i64 1, .int .i64 0] w fun e w' => ∃ h' : Hd, e = .returned (.tuple #[h'.val, .int .i64 0]) ∧ DomM w' w'.heap.size h' soldD ∧ Below w.heap.size w w' := by
  refine (dsell_any h exD 1 0 w m fit1 fit0).mono ?_
  rintro e w' ⟨v1, v2, v3, rfl, o, hb⟩
  have e1 : exD.sellD 1 0 = soldD := rfl
  have e2 : exD.sellE 1 0 = 0 := rfl
  rw [e1] at o ⊢
  rw [e2]
  obtain ⟨h', rfl, rfl, rfl, eo, m'⟩ := o.dom sold_fit
  exact ⟨h', by unfold Hd.val; rw [eo], m', hb⟩
theorem sn_ship (m : DomM w B h exD) : Calls Try.prog 20 #[h.val, .int .i64 2, .int .i64 0] w fun e w' => ∃ h' : Hd, e = .returned (.tuple #[h'.val, .int .i64 0]) ∧ DomM w' w'.heap.size h' drivD ∧ Below w.heap.size w w' := by
  refine (dship_any h exD 2 0 w m fit2 fit0).mono ?_
  rintro e w' ⟨v1, v2, v3, rfl, o, hb⟩
  have e1 : exD.shipD 2 0 = drivD := rfl
  have e2 : exD.shipE 2 0 = 0 := rfl
  rw [e1] at o ⊢
  rw [e2]
  obtain ⟨h', rfl, rfl, rfl, eo, m'⟩ := o.dom driv_fit
  exact ⟨h', by unfold Hd.val; rw [eo], m', hb⟩
theorem sn_shipN (m : DomM w B h exD) : Calls Try.prog 20 #[h.val, .int .i64 0, .int .i64 1] w fun e w' => ∃ h' : Hd, e = .returned (.tuple #[h'.val, .int .i64 4]) ∧ Below w.heap.size w w' := by
  refine (dship_any h exD 0 1 w m fit0 fit1).mono ?_
  rintro e w' ⟨v1, v2, v3, rfl, o, hb⟩
  have e1 : exD.shipD 0 1 = Dm.none := rfl
  have e2 : exD.shipE 0 1 = 4 := rfl
  rw [e1] at o ⊢
  rw [e2]
  obtain ⟨h', rfl, rfl, rfl, eo, m'⟩ := o.dom none_fit
  exact ⟨h', by unfold Hd.val; rw [eo], hb⟩
theorem sn_check (m : DomM w B h exD) : Calls Try.prog 4 #[h.val] w fun e w' => e = .returned (.int .i64 0) ∧ Below w.heap.size w w' := dcheck_any h exD w m
theorem sn_size (m : DomM w B h exD) : Calls Try.prog 7 #[h.val, .int .i64 2] w fun e w' => e = .returned (.int .i64 2) ∧ Below w.heap.size w w' := dsize_any h exD 2 w m
theorem sn_of (m : DomM w B h exD) : Calls Try.prog 11 #[h.val, .int .i64 3, .int .i64 3] w fun e w' => e = .returned (.int .i64 1) ∧ Below w.heap.size w w' := dof_any h exD 3 3 w m
theorem sn_rel {d : Dm} {a b r : Int} (m : DomM w B h d) (hr : d.rel a b = r) : Calls Try.prog 22 #[h.val, .int .i64 a, .int .i64 b] w fun e w' => e = .returned (.int .i64 r) ∧ Below w.heap.size w w' := by rw [← hr]; exact drel_any h d a b w m
theorem sn_mem (m : DomM w B h exD) : Calls Try.prog 10 #[h.val, .int .i64 2, .int .i64 0] w fun e w' => ∃ A c, e = .returned (.slice A 3 c) ∧ Rds w' w'.heap.size A (([0, 1, 2] : List Int).map iv) ∧ Below w.heap.size w w' := by
  refine (dmem_any h exD 2 0 w m (by decide)).mono ?_
  rintro e w' ⟨v, rfl, o, hb⟩
  have e1 : exD.memI 2 0 = [0, 1, 2] := rfl
  rw [e1] at o
  obtain ⟨A, c, rfl, _, _, _, r⟩ := o.slice
  exact ⟨A, c, rfl, r, hb⟩
theorem sn_holds {g : Nat} (m : DomM w B h exD) (hl : Blk w g [.int .i64 0, .int .i64 2, .int .i64 3, .int .i64 (-1)] 3) : Calls Try.prog 8 #[h.val, .int .i64 2, .slice (some ⟨g, 0, none⟩) 4 4] w fun e w' => ∃ A c, e = .returned (.slice A 2 c) ∧ Rds w' w'.heap.size A (([2, 1] : List Int).map iv) ∧ Below w.heap.size w w' := by
  refine (holds_any h exD 2 [0, 2, 3, -1] (some ⟨g, 0, none⟩) 4 4 w (m.up m.le (Nat.le_refl _)) (hl.rds 0 4) rfl (by decide)).mono ?_
  rintro e w' ⟨v, rfl, o, hb⟩
  have e1 : exD.holdsI 2 [0, 2, 3, -1] = [2, 1] := rfl
  rw [e1] at o
  obtain ⟨A, c, rfl, _, _, _, r⟩ := o.slice
  exact ⟨A, c, rfl, r, hb⟩
theorem sn_left {g k : Nat} (m : DomM w B h exD) (hk : k = w.heap.size) (hl : Blk w g [.int .i64 0, .int .i64 2, .int .i64 3, .int .i64 (-1)] 3) : Calls Try.prog 6 #[h.val, .int .i64 1, .slice (some ⟨g, 0, none⟩) 4 4, .slice (some ⟨k, 0, none⟩) 1 1] (w.alloc (.cells #[.int .i64 1] 3)) fun e w' => e = .returned (.int .i64 5) ∧ Below w.heap.size w w' := by
  subst hk
  have hb : Below w.heap.size w (w.alloc (.cells #[.int .i64 1] 3)) := (Below.refl _ _).alloc (Nat.le_refl _) _
  refine (left_any h exD 1 [0, 2, 3, -1] [1] (some ⟨g, 0, none⟩) (some ⟨w.heap.size, 0, none⟩) 4 4 1 1 _ ((m.below hb).up (Nat.le_trans m.le hb.size) (Nat.le_refl _)) ((hl.below hb hl.lt).rds 0 4) rfl (by decide) ((Blk.new w [.int .i64 1] 3).rds 0 1) rfl (by decide)).mono ?_
  rintro e w' ⟨rfl, hb'⟩
  exact ⟨rfl, hb.trans (hb'.mono hb.size)⟩
theorem sn_same3 {A : Option Addr} {c k : Nat} (hk : k = w.heap.size) (hr : Rds w w.heap.size A (([0, 1, 2] : List Int).map iv)) : Calls Try.prog 21 #[.slice A 3 c, .slice (some ⟨k, 0, none⟩) 3 3] (w.alloc (.cells #[.int .i64 0, .int .i64 1, .int .i64 2] 3)) fun e w' => e = .returned (.bool true) ∧ Below w.heap.size w w' := by
  subst hk
  have hb : Below w.heap.size w (w.alloc (.cells #[.int .i64 0, .int .i64 1, .int .i64 2] 3)) := (Below.refl _ _).alloc (Nat.le_refl _) _
  refine (sameZ_any [0, 1, 2] [0, 1, 2] A (some ⟨w.heap.size, 0, none⟩) 3 3 c 3 _ (hr.below hb) ((Blk.new w [.int .i64 0, .int .i64 1, .int .i64 2] 3).rds 0 3) rfl rfl (by decide)).mono ?_
  rintro e w' ⟨rfl, n, rfl⟩
  exact ⟨rfl, below_drewN hb n⟩
theorem sn_same2 {A : Option Addr} {c k : Nat} (hk : k = w.heap.size) (hr : Rds w w.heap.size A (([2, 1] : List Int).map iv)) : Calls Try.prog 21 #[.slice A 2 c, .slice (some ⟨k, 0, none⟩) 2 2] (w.alloc (.cells #[.int .i64 2, .int .i64 1] 3)) fun e w' => e = .returned (.bool true) ∧ Below w.heap.size w w' := by
  subst hk
  have hb : Below w.heap.size w (w.alloc (.cells #[.int .i64 2, .int .i64 1] 3)) := (Below.refl _ _).alloc (Nat.le_refl _) _
  refine (sameZ_any [2, 1] [2, 1] A (some ⟨w.heap.size, 0, none⟩) 2 2 c 2 _ (hr.below hb) ((Blk.new w [.int .i64 2, .int .i64 1] 3).rds 0 2) rfl rfl (by decide)).mono ?_
  rintro e w' ⟨rfl, n, rfl⟩
  exact ⟨rfl, below_drewN hb n⟩
end

set_option maxRecDepth 100000 in
set_option maxHeartbeats 8000000 in
theorem sanity_any10 (w : World) : Calls Try.prog 5 #[] w fun e w' => e = .returned (.bool true) ∧ Below w.heap.size w w' := by
  have hdd := Lib.hid size_dom
  have hun : Hid (Try.prog.underlying 25 = _) := Try.underlying25
  go_enter Try.func5, Try.ntmps5
  go_wp2_with fail
  refine (example_any w).mono ?_
  rintro e w1 ⟨h1, rfl, m1, hb1⟩
  obtain ⟨W, hW⟩ : ∃ W, W = (w1.alloc (.cells h1.cells.toArray 25)).alloc (.cells #[.int .i64 0, .int .i64 2, .int .i64 3, .int .i64 (-1)] 3) := ⟨_, rfl⟩
  have hb : Below w1.heap.size w1 W := by rw [hW]; exact ((Below.refl _ _).alloc (Nat.le_refl _) _).alloc (by simp) _
  have E := Lib.hid (hb1.trans (hb.mono hb1.size))
  have M1 := Lib.hid (m1.below hb)
  have X1 : Hid (Blk W w1.heap.size h1.cells 25) := by show Blk _ _ _ _; rw [hW]; exact (Blk.new _ _ _).alloc _
  have L : Hid (Blk W (w1.heap.size + 1) [.int .i64 0, .int .i64 2, .int .i64 3, .int .i64 (-1)] 3) := by show Blk _ _ _ _; rw [hW]; exact (Blk.new _ _ _).at (by simp)
  have hW' := Lib.hid hW
  clear hW hb hb1 m1
  generalize hg1 : w1.heap.size = g1 at X1 L ⊢
  unfold Hd.cells at hW' X1
  unfold Hd.val
  go_wp2_with fail
  generalize hg : (w1.alloc _).alloc _ = Wg
  have hgW : W = Wg := by rw [← hg, hW'.out]
  clear hg hW'
  subst hgW
  have C := sn_sell M1.out
  try unfold Hd.val at C
  refine C.mono ?_
  rintro e w2 ⟨h2, rfl, m2, hb⟩
  clear C
  replace E : Hid (Below w.heap.size w w2) := E.out.trans (hb.mono E.out.size)
  replace M1 := Lib.hid (M1.out.below hb)
  replace X1 := Lib.hid (X1.out.below hb X1.out.lt)
  replace L := Lib.hid (L.out.below hb L.out.lt)
  clear hb
  have M2 := Lib.hid m2
  clear m2
  have p0 : ∀ o, (w2.alloc o).cell? ⟨g1, 0, none⟩ = some (.slice h1.a1 h1.n1 h1.c1) := fun o => (X1.out.alloc o).cell (j := 0) rfl
  have p1 : ∀ o, (w2.alloc o).cell? ⟨g1, 1, none⟩ = some (.slice h1.a2 h1.n2 h1.c2) := fun o => (X1.out.alloc o).cell (j := 1) rfl
  have p2 : ∀ o, (w2.alloc o).cell? ⟨g1, 2, none⟩ = some (.slice h1.a3 h1.n3 h1.c3) := fun o => (X1.out.alloc o).cell (j := 2) rfl
  have p3 : ∀ o, (w2.alloc o).cell? ⟨g1, 3, none⟩ = some (.int .i64 h1.o) := fun o => (X1.out.alloc o).cell (j := 3) rfl
  obtain ⟨W2, hW⟩ : ∃ W, W = w2.alloc (.cells h2.cells.toArray 25) := ⟨_, rfl⟩
  have hb : Below w2.heap.size w2 W2 := by rw [hW]; exact (Below.refl _ _).alloc (Nat.le_refl _) _
  replace E : Hid (Below w.heap.size w W2) := E.out.trans (hb.mono E.out.size)
  replace M1 := Lib.hid (M1.out.below hb)
  replace M2 := Lib.hid (M2.out.below hb)
  replace X1 := Lib.hid (X1.out.below hb X1.out.lt)
  replace L := Lib.hid (L.out.below hb L.out.lt)
  have X2 : Hid (Blk W2 w2.heap.size h2.cells 25) := by show Blk _ _ _ _; rw [hW]; exact Blk.new _ _ _
  have hW' := Lib.hid hW
  clear hW hb
  generalize hg1 : w2.heap.size = g2 at X2 ⊢
  unfold Hd.cells at hW' X2
  try unfold Hd.val
  go_wp2_with fail
  generalize hg : w2.alloc _ = Wg
  have hgW : W2 = Wg := by rw [← hg, hW'.out]
  clear hg hW' p0 p1 p2 p3
  subst hgW
  have C := sn_ship M1.out
  try unfold Hd.val at C
  refine C.mono ?_
  rintro e w3 ⟨h3, rfl, m3, hb⟩
  clear C
  replace E : Hid (Below w.heap.size w w3) := E.out.trans (hb.mono E.out.size)
  replace M1 := Lib.hid (M1.out.below hb)
  replace M2 := Lib.hid (M2.out.below hb)
  replace X1 := Lib.hid (X1.out.below hb X1.out.lt)
  replace L := Lib.hid (L.out.below hb L.out.lt)
  replace X2 := Lib.hid (X2.out.below hb X2.out.lt)
  clear hb
  have M3 := Lib.hid m3
  clear m3
  have p0 : ∀ o, (w3.alloc o).cell? ⟨g1, 0, none⟩ = some (.slice h1.a1 h1.n1 h1.c1) := fun o => (X1.out.alloc o).cell (j := 0) rfl
  have p1 : ∀ o, (w3.alloc o).cell? ⟨g1, 1, none⟩ = some (.slice h1.a2 h1.n2 h1.c2) := fun o => (X1.out.alloc o).cell (j := 1) rfl
  have p2 : ∀ o, (w3.alloc o).cell? ⟨g1, 2, none⟩ = some (.slice h1.a3 h1.n3 h1.c3) := fun o => (X1.out.alloc o).cell (j := 2) rfl
  have p3 : ∀ o, (w3.alloc o).cell? ⟨g1, 3, none⟩ = some (.int .i64 h1.o) := fun o => (X1.out.alloc o).cell (j := 3) rfl
  obtain ⟨W3, hW⟩ : ∃ W, W = w3.alloc (.cells h3.cells.toArray 25) := ⟨_, rfl⟩
  have hb : Below w3.heap.size w3 W3 := by rw [hW]; exact (Below.refl _ _).alloc (Nat.le_refl _) _
  replace E : Hid (Below w.heap.size w W3) := E.out.trans (hb.mono E.out.size)
  replace M1 := Lib.hid (M1.out.below hb)
  replace M2 := Lib.hid (M2.out.below hb)
  replace M3 := Lib.hid (M3.out.below hb)
  replace X1 := Lib.hid (X1.out.below hb X1.out.lt)
  replace L := Lib.hid (L.out.below hb L.out.lt)
  replace X2 := Lib.hid (X2.out.below hb X2.out.lt)
  have X3 : Hid (Blk W3 w3.heap.size h3.cells 25) := by show Blk _ _ _ _; rw [hW]; exact Blk.new _ _ _
  have hW' := Lib.hid hW
  clear hW hb
  generalize hg1 : w3.heap.size = g3 at X3 ⊢
  unfold Hd.cells at hW' X3
  try unfold Hd.val
  go_wp2_with fail
  generalize hg : w3.alloc _ = Wg
  have hgW : W3 = Wg := by rw [← hg, hW'.out]
  clear hg hW' p0 p1 p2 p3
  subst hgW
  have C := sn_shipN M1.out
  try unfold Hd.val at C
  refine C.mono ?_
  rintro e w4 ⟨h4, rfl, hb⟩
  clear C
  replace E : Hid (Below w.heap.size w w4) := E.out.trans (hb.mono E.out.size)
  replace M1 := Lib.hid (M1.out.below hb)
  replace M2 := Lib.hid (M2.out.below hb)
  replace M3 := Lib.hid (M3.out.below hb)
  replace X1 := Lib.hid (X1.out.below hb X1.out.lt)
  replace L := Lib.hid (L.out.below hb L.out.lt)
  replace X2 := Lib.hid (X2.out.below hb X2.out.lt)
  replace X3 := Lib.hid (X3.out.below hb X3.out.lt)
  clear hb
  have p0 : ∀ o, (w4.alloc o).cell? ⟨g1, 0, none⟩ = some (.slice h1.a1 h1.n1 h1.c1) := fun o => (X1.out.alloc o).cell (j := 0) rfl
  have p1 : ∀ o, (w4.alloc o).cell? ⟨g1, 1, none⟩ = some (.slice h1.a2 h1.n2 h1.c2) := fun o => (X1.out.alloc o).cell (j := 1) rfl
  have p2 : ∀ o, (w4.alloc o).cell? ⟨g1, 2, none⟩ = some (.slice h1.a3 h1.n3 h1.c3) := fun o => (X1.out.alloc o).cell (j := 2) rfl
  have p3 : ∀ o, (w4.alloc o).cell? ⟨g1, 3, none⟩ = some (.int .i64 h1.o) := fun o => (X1.out.alloc o).cell (j := 3) rfl
  obtain ⟨W4, hW⟩ : ∃ W, W = w4.alloc (.cells h4.cells.toArray 25) := ⟨_, rfl⟩
  have hb : Below w4.heap.size w4 W4 := by rw [hW]; exact (Below.refl _ _).alloc (Nat.le_refl _) _
  replace E : Hid (Below w.heap.size w W4) := E.out.trans (hb.mono E.out.size)
  replace M1 := Lib.hid (M1.out.below hb)
  replace M2 := Lib.hid (M2.out.below hb)
  replace M3 := Lib.hid (M3.out.below hb)
  replace X1 := Lib.hid (X1.out.below hb X1.out.lt)
  replace L := Lib.hid (L.out.below hb L.out.lt)
  replace X2 := Lib.hid (X2.out.below hb X2.out.lt)
  replace X3 := Lib.hid (X3.out.below hb X3.out.lt)
  have X4 : Hid (Blk W4 w4.heap.size h4.cells 25) := by show Blk _ _ _ _; rw [hW]; exact Blk.new _ _ _
  have hW' := Lib.hid hW
  clear hW hb
  generalize hg1 : w4.heap.size = g4 at X4 ⊢
  unfold Hd.cells at hW' X4
  try unfold Hd.val
  go_wp2_with fail
  generalize hg : w4.alloc _ = Wg
  have hgW : W4 = Wg := by rw [← hg, hW'.out]
  clear hg hW' p0 p1 p2 p3
  subst hgW
  have C := sn_check M1.out
  try unfold Hd.val at C
  refine C.mono ?_
  rintro e w5 ⟨rfl, hb⟩
  clear C
  replace E : Hid (Below w.heap.size w w5) := E.out.trans (hb.mono E.out.size)
  replace M1 := Lib.hid (M1.out.below hb)
  replace M2 := Lib.hid (M2.out.below hb)
  replace M3 := Lib.hid (M3.out.below hb)
  replace X1 := Lib.hid (X1.out.below hb X1.out.lt)
  replace L := Lib.hid (L.out.below hb L.out.lt)
  replace X2 := Lib.hid (X2.out.below hb X2.out.lt)
  replace X3 := Lib.hid (X3.out.below hb X3.out.lt)
  replace X4 := Lib.hid (X4.out.below hb X4.out.lt)
  clear hb
  go_wp2_with (first | (refine wpList_blk_load rfl 25 _ rfl 0 rfl X1.out _ (take_all0 _) _ hun.out rfl hdd.out ?_) | (refine wpList_blk_loadW (by rfl) 25 _ rfl 0 rfl X1.out _ (take_all0 _) _ hun.out rfl hdd.out ?_))
  have C := sn_size M1.out
  try unfold Hd.val at C
  refine C.mono ?_
  rintro e w6 ⟨rfl, hb⟩
  clear C
  replace E : Hid (Below w.heap.size w w6) := E.out.trans (hb.mono E.out.size)
  replace M1 := Lib.hid (M1.out.below hb)
  replace M2 := Lib.hid (M2.out.below hb)
  replace M3 := Lib.hid (M3.out.below hb)
  replace X1 := Lib.hid (X1.out.below hb X1.out.lt)
  replace L := Lib.hid (L.out.below hb L.out.lt)
  replace X2 := Lib.hid (X2.out.below hb X2.out.lt)
  replace X3 := Lib.hid (X3.out.below hb X3.out.lt)
  replace X4 := Lib.hid (X4.out.below hb X4.out.lt)
  clear hb
  go_wp2_with (first | (refine wpList_blk_load rfl 25 _ rfl 0 rfl X1.out _ (take_all0 _) _ hun.out rfl hdd.out ?_) | (refine wpList_blk_loadW (by rfl) 25 _ rfl 0 rfl X1.out _ (take_all0 _) _ hun.out rfl hdd.out ?_))
  have C := sn_of M1.out
  try unfold Hd.val at C
  refine C.mono ?_
  rintro e w7 ⟨rfl, hb⟩
  clear C
  replace E : Hid (Below w.heap.size w w7) := E.out.trans (hb.mono E.out.size)
  replace M1 := Lib.hid (M1.out.below hb)
  replace M2 := Lib.hid (M2.out.below hb)
  replace M3 := Lib.hid (M3.out.below hb)
  replace X1 := Lib.hid (X1.out.below hb X1.out.lt)
  replace L := Lib.hid (L.out.below hb L.out.lt)
  replace X2 := Lib.hid (X2.out.below hb X2.out.lt)
  replace X3 := Lib.hid (X3.out.below hb X3.out.lt)
  replace X4 := Lib.hid (X4.out.below hb X4.out.lt)
  clear hb
  go_wp2_with (first | (refine wpList_blk_load rfl 25 _ rfl 0 rfl X1.out _ (take_all0 _) _ hun.out rfl hdd.out ?_) | (refine wpList_blk_loadW (by rfl) 25 _ rfl 0 rfl X1.out _ (take_all0 _) _ hun.out rfl hdd.out ?_))
  have C := sn_mem M1.out
  try unfold Hd.val at C
  refine C.mono ?_
  rintro e w8 ⟨A8, c8, rfl, r8, hb⟩
  clear C
  replace E : Hid (Below w.heap.size w w8) := E.out.trans (hb.mono E.out.size)
  replace M1 := Lib.hid (M1.out.below hb)
  replace M2 := Lib.hid (M2.out.below hb)
  replace M3 := Lib.hid (M3.out.below hb)
  replace X1 := Lib.hid (X1.out.below hb X1.out.lt)
  replace L := Lib.hid (L.out.below hb L.out.lt)
  replace X2 := Lib.hid (X2.out.below hb X2.out.lt)
  replace X3 := Lib.hid (X3.out.below hb X3.out.lt)
  replace X4 := Lib.hid (X4.out.below hb X4.out.lt)
  clear hb
  have r8' := Lib.hid r8
  clear r8
  go_wp2_with fail
  have C := sn_same3 (c := c8) rfl r8'.out
  try unfold Hd.val at C
  refine C.mono ?_
  rintro e w9 ⟨rfl, hb⟩
  clear C
  replace E : Hid (Below w.heap.size w w9) := E.out.trans (hb.mono E.out.size)
  replace M1 := Lib.hid (M1.out.below hb)
  replace M2 := Lib.hid (M2.out.below hb)
  replace M3 := Lib.hid (M3.out.below hb)
  replace X1 := Lib.hid (X1.out.below hb X1.out.lt)
  replace L := Lib.hid (L.out.below hb L.out.lt)
  replace X2 := Lib.hid (X2.out.below hb X2.out.lt)
  replace X3 := Lib.hid (X3.out.below hb X3.out.lt)
  replace X4 := Lib.hid (X4.out.below hb X4.out.lt)
  clear hb
  go_wp2_with (first | (refine wpList_blk_load rfl 25 _ rfl 0 rfl X1.out _ (take_all0 _) _ hun.out rfl hdd.out ?_) | (refine wpList_blk_loadW (by rfl) 25 _ rfl 0 rfl X1.out _ (take_all0 _) _ hun.out rfl hdd.out ?_))
  have C := sn_rel (a := 0) (b := 1) (r := 1) M1.out rfl
  try unfold Hd.val at C
  refine C.mono ?_
  rintro e w10 ⟨rfl, hb⟩
  clear C
  replace E : Hid (Below w.heap.size w w10) := E.out.trans (hb.mono E.out.size)
  replace M1 := Lib.hid (M1.out.below hb)
  replace M2 := Lib.hid (M2.out.below hb)
  replace M3 := Lib.hid (M3.out.below hb)
  replace X1 := Lib.hid (X1.out.below hb X1.out.lt)
  replace L := Lib.hid (L.out.below hb L.out.lt)
  replace X2 := Lib.hid (X2.out.below hb X2.out.lt)
  replace X3 := Lib.hid (X3.out.below hb X3.out.lt)
  replace X4 := Lib.hid (X4.out.below hb X4.out.lt)
  clear hb
  go_wp2_with (first | (refine wpList_blk_load rfl 25 _ rfl 0 rfl X1.out _ (take_all0 _) _ hun.out rfl hdd.out ?_) | (refine wpList_blk_loadW (by rfl) 25 _ rfl 0 rfl X1.out _ (take_all0 _) _ hun.out rfl hdd.out ?_))
  have C := sn_rel (a := 0) (b := 2) (r := 2) M1.out rfl
  try unfold Hd.val at C
  refine C.mono ?_
  rintro e w11 ⟨rfl, hb⟩
  clear C
  replace E : Hid (Below w.heap.size w w11) := E.out.trans (hb.mono E.out.size)
  replace M1 := Lib.hid (M1.out.below hb)
  replace M2 := Lib.hid (M2.out.below hb)
  replace M3 := Lib.hid (M3.out.below hb)
  replace X1 := Lib.hid (X1.out.below hb X1.out.lt)
  replace L := Lib.hid (L.out.below hb L.out.lt)
  replace X2 := Lib.hid (X2.out.below hb X2.out.lt)
  replace X3 := Lib.hid (X3.out.below hb X3.out.lt)
  replace X4 := Lib.hid (X4.out.below hb X4.out.lt)
  clear hb
  go_wp2_with (first | (refine wpList_blk_load rfl 25 _ rfl 0 rfl X1.out _ (take_all0 _) _ hun.out rfl hdd.out ?_) | (refine wpList_blk_loadW (by rfl) 25 _ rfl 0 rfl X1.out _ (take_all0 _) _ hun.out rfl hdd.out ?_))
  have C := sn_rel (a := 0) (b := 3) (r := 4) M1.out rfl
  try unfold Hd.val at C
  refine C.mono ?_
  rintro e w12 ⟨rfl, hb⟩
  clear C
  replace E : Hid (Below w.heap.size w w12) := E.out.trans (hb.mono E.out.size)
  replace M1 := Lib.hid (M1.out.below hb)
  replace M2 := Lib.hid (M2.out.below hb)
  replace M3 := Lib.hid (M3.out.below hb)
  replace X1 := Lib.hid (X1.out.below hb X1.out.lt)
  replace L := Lib.hid (L.out.below hb L.out.lt)
  replace X2 := Lib.hid (X2.out.below hb X2.out.lt)
  replace X3 := Lib.hid (X3.out.below hb X3.out.lt)
  replace X4 := Lib.hid (X4.out.below hb X4.out.lt)
  clear hb
  go_wp2_with (first | (refine wpList_blk_load rfl 25 _ rfl 0 rfl X1.out _ (take_all0 _) _ hun.out rfl hdd.out ?_) | (refine wpList_blk_loadW (by rfl) 25 _ rfl 0 rfl X1.out _ (take_all0 _) _ hun.out rfl hdd.out ?_))
  have C := sn_rel (a := 3) (b := 3) (r := 0) M1.out rfl
  try unfold Hd.val at C
  refine C.mono ?_
  rintro e w13 ⟨rfl, hb⟩
  clear C
  replace E : Hid (Below w.heap.size w w13) := E.out.trans (hb.mono E.out.size)
  replace M1 := Lib.hid (M1.out.below hb)
  replace M2 := Lib.hid (M2.out.below hb)
  replace M3 := Lib.hid (M3.out.below hb)
  replace X1 := Lib.hid (X1.out.below hb X1.out.lt)
  replace L := Lib.hid (L.out.below hb L.out.lt)
  replace X2 := Lib.hid (X2.out.below hb X2.out.lt)
  replace X3 := Lib.hid (X3.out.below hb X3.out.lt)
  replace X4 := Lib.hid (X4.out.below hb X4.out.lt)
  clear hb
  go_wp2_with (first | (refine wpList_blk_load rfl 25 _ rfl 0 rfl X1.out _ (take_all0 _) _ hun.out rfl hdd.out ?_) | (refine wpList_blk_loadW (by rfl) 25 _ rfl 0 rfl X1.out _ (take_all0 _) _ hun.out rfl hdd.out ?_))
  have C := sn_holds M1.out L.out
  try unfold Hd.val at C
  refine C.mono ?_
  rintro e w14 ⟨A14, c14, rfl, r14, hb⟩
  clear C
  replace E : Hid (Below w.heap.size w w14) := E.out.trans (hb.mono E.out.size)
  replace M1 := Lib.hid (M1.out.below hb)
  replace M2 := Lib.hid (M2.out.below hb)
  replace M3 := Lib.hid (M3.out.below hb)
  replace X1 := Lib.hid (X1.out.below hb X1.out.lt)
  replace L := Lib.hid (L.out.below hb L.out.lt)
  replace X2 := Lib.hid (X2.out.below hb X2.out.lt)
  replace X3 := Lib.hid (X3.out.below hb X3.out.lt)
  replace X4 := Lib.hid (X4.out.below hb X4.out.lt)
  clear hb
  have r14' := Lib.hid r14
  clear r14
  go_wp2_with fail
  have C := sn_same2 (c := c14) rfl r14'.out
  try unfold Hd.val at C
  refine C.mono ?_
  rintro e w15 ⟨rfl, hb⟩
  clear C
  replace E : Hid (Below w.heap.size w w15) := E.out.trans (hb.mono E.out.size)
  replace M1 := Lib.hid (M1.out.below hb)
  replace M2 := Lib.hid (M2.out.below hb)
  replace M3 := Lib.hid (M3.out.below hb)
  replace X1 := Lib.hid (X1.out.below hb X1.out.lt)
  replace L := Lib.hid (L.out.below hb L.out.lt)
  replace X2 := Lib.hid (X2.out.below hb X2.out.lt)
  replace X3 := Lib.hid (X3.out.below hb X3.out.lt)
  replace X4 := Lib.hid (X4.out.below hb X4.out.lt)
  clear hb
  go_wp2_with (first | (refine wpList_blk_load rfl 25 _ rfl 0 rfl X1.out _ (take_all0 _) _ hun.out rfl hdd.out ?_) | (refine wpList_blk_loadW (by rfl) 25 _ rfl 0 rfl X1.out _ (take_all0 _) _ hun.out rfl hdd.out ?_))
  have C := sn_left M1.out rfl L.out
  try unfold Hd.val at C
  refine C.mono ?_
  rintro e w16 ⟨rfl, hb⟩
  clear C
  replace E : Hid (Below w.heap.size w w16) := E.out.trans (hb.mono E.out.size)
  replace M1 := Lib.hid (M1.out.below hb)
  replace M2 := Lib.hid (M2.out.below hb)
  replace M3 := Lib.hid (M3.out.below hb)
  replace X1 := Lib.hid (X1.out.below hb X1.out.lt)
  replace L := Lib.hid (L.out.below hb L.out.lt)
  replace X2 := Lib.hid (X2.out.below hb X2.out.lt)
  replace X3 := Lib.hid (X3.out.below hb X3.out.lt)
  replace X4 := Lib.hid (X4.out.below hb X4.out.lt)
  clear hb
  go_wp2_with (first | (refine wpList_blk_load rfl 25 _ rfl 0 rfl X2.out _ (take_all0 _) _ hun.out rfl hdd.out ?_) | (refine wpList_blk_loadW (by rfl) 25 _ rfl 0 rfl X2.out _ (take_all0 _) _ hun.out rfl hdd.out ?_))
  have C := sn_rel (a := 0) (b := 3) (r := 3) M2.out rfl
  try unfold Hd.val at C
  refine C.mono ?_
  rintro e w17 ⟨rfl, hb⟩
  clear C
  replace E : Hid (Below w.heap.size w w17) := E.out.trans (hb.mono E.out.size)
  replace M1 := Lib.hid (M1.out.below hb)
  replace M2 := Lib.hid (M2.out.below hb)
  replace M3 := Lib.hid (M3.out.below hb)
  replace X1 := Lib.hid (X1.out.below hb X1.out.lt)
  replace L := Lib.hid (L.out.below hb L.out.lt)
  replace X2 := Lib.hid (X2.out.below hb X2.out.lt)
  replace X3 := Lib.hid (X3.out.below hb X3.out.lt)
  replace X4 := Lib.hid (X4.out.below hb X4.out.lt)
  clear hb
  go_wp2_with (first | (refine wpList_blk_load rfl 25 _ rfl 0 rfl X3.out _ (take_all0 _) _ hun.out rfl hdd.out ?_) | (refine wpList_blk_loadW (by rfl) 25 _ rfl 0 rfl X3.out _ (take_all0 _) _ hun.out rfl hdd.out ?_))
  have C := sn_rel (a := 0) (b := 3) (r := 2) M3.out rfl
  try unfold Hd.val at C
  refine C.mono ?_
  rintro e w18 ⟨rfl, hb⟩
  clear C
  replace E : Hid (Below w.heap.size w w18) := E.out.trans (hb.mono E.out.size)
  replace M1 := Lib.hid (M1.out.below hb)
  replace M2 := Lib.hid (M2.out.below hb)
  replace M3 := Lib.hid (M3.out.below hb)
  replace X1 := Lib.hid (X1.out.below hb X1.out.lt)
  replace L := Lib.hid (L.out.below hb L.out.lt)
  replace X2 := Lib.hid (X2.out.below hb X2.out.lt)
  replace X3 := Lib.hid (X3.out.below hb X3.out.lt)
  replace X4 := Lib.hid (X4.out.below hb X4.out.lt)
  clear hb
  go_wp2_with fail
  go_ret
  exact ⟨rfl, E.out⟩
end Go.Proofs.Ytelcaddgkjkegaa
