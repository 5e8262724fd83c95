/-
  Stage 10 (domain): the walk of DomainsFailTogether. (Written by tools/gendnf.py.)
-/
import Derived.Test.YtelcaddgkjkegaaDmz
import Derived.Test.YtelcaddgkjkegaaDne
import Derived.Test.YtelcaddgkjkegaaOpj
import Derived.Deep.CutRange
namespace Go.Proofs.Ytelcaddgkjkegaa
set_option linter.unusedVariables false
set_option linter.unusedSimpArgs false
open Go.RowKit

section
variable {W : World} {B B' B'' : Nat} {h : Hd} {d : Dm} {lv : Int} {L F : List Int} {A A' : Option Addr} {np c nf cf z : Nat}
theorem ofF {k z : Int} (m : DomM W B h d) (he : d.of lv k = z) : Calls Try.prog 11 #[h.val, .int .i64 lv, .int .i64 k] W fun e w' => e = .returned (.int .i64 z) ∧ Below W.heap.size W w' := by
  rw [← he]
  exact dof_any h d lv k W m
theorem sizeF {z : Int} (m : DomM W B h d) (he : d.size lv = z) : Calls Try.prog 7 #[h.val, .int .i64 lv] W fun e w' => e = .returned (.int .i64 z) ∧ Below W.heap.size W w' := by
  rw [← he]
  exact dsize_any h d lv W m
theorem leftV (m : DomM W B h d) (r : Rds W B' A (L.map iv)) (hB' : B' ≤ W.heap.size) (r' : Rds W B'' A' (F.map iv)) (hB'' : B'' ≤ W.heap.size) (hnp : np = L.length) (hnl : np ≤ 140737488355328) (hnf : nf = F.length) (hnlf : nf ≤ 140737488355328) (hz : d.left lv L F = z) :
    Calls Try.prog 6 #[h.val, .int .i64 lv, .slice A np c, .slice A' nf cf] W fun e w' => e = .returned (.int .i64 (z : Nat)) ∧ Below W.heap.size W w' := by
  rw [← hz]
  exact left_any h d lv L F A A' np c nf cf W (m.up m.le (Nat.le_refl _)) (r.more hB') hnp hnl (r'.more hB'') hnf hnlf
theorem leftK {k : Int} {kk : Nat} (m : DomM W B h d) (r : Rds W B' A (L.map iv)) (hB' : B' ≤ W.heap.size) (hk : kk = W.heap.size) (hnp : np = L.length) (hnl : np ≤ 140737488355328) (hz : d.left lv L [k] = z) :
    Calls Try.prog 6 #[h.val, .int .i64 lv, .slice A np c, .slice (some ⟨kk, 0, none⟩) 1 1] (W.alloc (.cells #[.int .i64 k] 3)) fun e w' => e = .returned (.int .i64 (z : Nat)) ∧ Below W.heap.size W w' := by
  subst hk
  have hb : Below W.heap.size W (W.alloc (.cells #[.int .i64 k] 3)) := (Below.refl _ _).alloc (Nat.le_refl _) _
  refine (leftV (c := c) (cf := 1) (nf := 1) (F := [k]) (m.below hb) (r.below (hb.mono hB')) (Nat.le_trans hB' hb.size) ((Blk.new W [.int .i64 k] 3).rds 0 1) (Nat.le_refl _) hnp hnl rfl (by decide) hz).mono ?_
  rintro e w' ⟨rfl, hb'⟩
  exact ⟨rfl, hb.trans (hb'.mono hb.size)⟩
theorem holdsV (m : DomM W B h d) (r : Rds W B' A (L.map iv)) (hB' : B' ≤ W.heap.size) (hnp : np = L.length) (hnl : np ≤ 140737488355328) :
    Calls Try.prog 8 #[h.val, .int .i64 lv, .slice A np c] W fun e w' => ∃ A n c, e = .returned (.slice A n c) ∧ n = (d.holdsI lv L).length ∧ Rds w' w'.heap.size A ((d.holdsI lv L).map iv) ∧ Below W.heap.size W w' := by
  refine (holds_any h d lv L A np c W (m.up m.le (Nat.le_refl _)) (r.more hB') hnp hnl).mono ?_
  rintro e w' ⟨v, rfl, o, hb⟩
  obtain ⟨A, c, rfl, _, _, _, r⟩ := o.slice
  exact ⟨A, _, c, rfl, rfl, r, hb⟩
end
theorem countF {n m : Nat} (w : World) (hn : n < 16777216) (hm : cntN n = m) : Calls Try.prog 9 #[.int .i64 n] w fun e w' => e = .returned (.int .i64 (m : Nat)) ∧ Below w.heap.size w w' := by
  rw [← hm]
  refine (countN_any n w (by omega)).mono ?_
  rintro e w' ⟨rfl, rfl⟩
  exact ⟨rfl, Below.refl _ _⟩
theorem belowI_next {d : Dm} {lv k x : Int} {j : Nat} (h : (d.memI lv k)[j]? = some x) : (d.belowI lv k).take (j + 1) = (d.belowI lv k).take j ++ [d.of (lv - 1) x] := by
  have : (d.belowI lv k)[j]? = some (d.of (lv - 1) x) := by unfold Dm.belowI; rw [List.getElem?_map, h]; rfl
  rw [List.take_add_one, this]
  rfl
theorem rem_disk2 (x n : Nat) (hn : 0 < n) : ∃ i : Nat, i < n ∧ Int.tmod (x : Int) (n : Int) = (i : Int) := ⟨x % n, Nat.mod_lt _ hn, by rw [Int.tmod_eq_emod_of_nonneg (by omega)]; omega⟩

set_option maxRecDepth 100000 in
set_option maxHeartbeats 16000000 in
theorem fail_walk (h : Hd) (d : Dm) (A : Option Addr) (c : Nat) (l : List Int) (A2 : Option Addr) (n2 c2 : Nat) (l2 : List Int) (A3 : Option Addr) (n3 c3 : Nat) (l3 : List Int) (x y : Nat) (w : World) (m : DomM w w.heap.size h d) (sl : SlI w A l.length c l) (s2 : SlJ w A2 n2 c2 l2) (s3 : SlJ w A3 n3 c3 l3) (fx : x < 256) (fy : y < 256) :
    Calls Try.prog 3 #[h.val, .slice A l.length c, .agg #[.slice A2 n2 c2, .slice A3 n3 c3], .agg #[.int .u8 x, .int .u8 y]] w fun e w' => e = .returned (.bool true) ∧ Below w.heap.size w w' := by
  have hdd := Lib.hid size_dom
  have hun : Hid (Try.prog.underlying 25 = _) := Try.underlying25
  obtain ⟨Ck, hCk⟩ : ∃ x, x = d.chk := ⟨_, rfl⟩
  obtain ⟨n, hn⟩ : ∃ n, n = l.length := ⟨_, rfl⟩
  rw [← hn] at sl ⊢
  have CC : Hid (∀ W, DomM W w.heap.size h d → Calls Try.prog 4 #[h.val] W fun e w' => e = .returned (.int .i64 Ck) ∧ Below W.heap.size W w') := fun W m => by rw [hCk]; exact dcheck_any h d W m
  obtain ⟨W0, hW⟩ : ∃ W, W = ((w.alloc (.cells h.cells.toArray 25)).alloc (.cells #[.slice A2 n2 c2, .slice A3 n3 c3] 26)).alloc (.cells #[.int .u8 x, .int .u8 y] 27) := ⟨_, rfl⟩
  have hb : Below w.heap.size w W0 := by rw [hW]; exact (((Below.refl _ _).alloc (Nat.le_refl _) _).alloc (by simp) _).alloc (by simp; omega) _
  have E := Lib.hid hb
  have M1 := Lib.hid (m.below hb)
  have R1 := Lib.hid (sl.rds.below hb)
  have R2 := Lib.hid (s2.rds.below hb)
  have R3 := Lib.hid (s3.rds.below hb)
  have X1 : Hid (Blk W0 w.heap.size h.cells 25) := by show Blk _ _ _ _; rw [hW]; exact ((Blk.new _ _ _).alloc _).alloc _
  have X2 : Hid (Blk W0 (w.heap.size + 1) [.slice A2 n2 c2, .slice A3 n3 c3] 26) := by show Blk _ _ _ _; rw [hW]; exact ((Blk.new _ _ _).at (by simp)).alloc _
  have X3 : Hid (Blk W0 (w.heap.size + 1 + 1) [.int .u8 x, .int .u8 y] 27) := by show Blk _ _ _ _; rw [hW]; exact (Blk.new _ _ _).at (by simp)
  have hW' := Lib.hid hW
  have hCk' := Lib.hid hCk
  have hnn := Lib.hid hn
  have hn2 := Lib.hid s2.len
  have hn3 := Lib.hid s3.len
  have z2 := Lib.hid s2.nil
  have z3 := Lib.hid s3.nil
  have hns : n ≤ 140737488355328 := by have := sl.reach; omega
  clear hW hb m hCk hn sl s2 s3
  unfold Hd.cells at hW' X1
  unfold Hd.val at CC ⊢
  by_cases hk0 : Ck = 0
  rotate_left
  · have tk : (Ck != 0) = true := by simpa using hk0
    clear hk0
    go_enter Try.func3, Try.ntmps3
    go_wp2_with fail
    generalize hg : ((w.alloc _).alloc _).alloc _ = Wg
    have hgW : W0 = Wg := by rw [← hg, hW'.out]
    clear hg hW'
    subst hgW
    have q0 : ∀ q : ExtOf W0.drew, q.world.cell? ⟨w.heap.size + 1, 0, none⟩ = some (.slice A2 n2 c2) := fun q => (X2.out.drew.below q.ext X2.out.lt).cell (j := 0) rfl
    have q1 : ∀ q : ExtOf W0.drew, q.world.cell? ⟨w.heap.size + 1, 1, none⟩ = some (.slice A3 n3 c3) := fun q => (X2.out.drew.below q.ext X2.out.lt).cell (j := 1) rfl
    refine wp_region_planM [] [(true, 0), (true, 1), (true, 2), (true, 3), (true, 4), (true, 5)] (by decide) (by kernel_rfl) (by kernel_rfl) (by decide) (by intro c a d v w h; cases d <;> exact h) ?_
    change wpPlanM _ _ _ _ _ _ W0.drew
    iterate 6 (refine wpPlanM_plain rfl (fun K hK => ?_); go_simp; refine hK _ ?_; clear hK K)
    refine wpPlanM_nil ?_
    clear q0 q1
    have hb : Below W0.heap.size W0 W0.drew := (Below.refl _ _).drew
    generalize hgd : W0.drew = w2 at hb ⊢
    replace R1 := Lib.hid (R1.out.below (hb.mono E.out.size))
    replace R2 := Lib.hid (R2.out.below (hb.mono E.out.size))
    replace R3 := Lib.hid (R3.out.below (hb.mono E.out.size))
    replace E : Hid (Below w.heap.size w w2) := E.out.trans (hb.mono E.out.size)
    replace M1 := Lib.hid (M1.out.below hb)
    replace X1 := Lib.hid (X1.out.below hb X1.out.lt)
    replace X2 := Lib.hid (X2.out.below hb X2.out.lt)
    replace X3 := Lib.hid (X3.out.below hb X3.out.lt)
    clear hb hgd
    have pX1_0 : w2.cell? ⟨w.heap.size, 0, none⟩ = some (.slice h.a1 h.n1 h.c1) := X1.out.cell (j := 0) rfl
    have pX1_1 : w2.cell? ⟨w.heap.size, 1, none⟩ = some (.slice h.a2 h.n2 h.c2) := X1.out.cell (j := 1) rfl
    have pX1_2 : w2.cell? ⟨w.heap.size, 2, none⟩ = some (.slice h.a3 h.n3 h.c3) := X1.out.cell (j := 2) rfl
    have pX1_3 : w2.cell? ⟨w.heap.size, 3, none⟩ = some (.int .i64 h.o) := X1.out.cell (j := 3) rfl
    go_wp2_with fail
    clear pX1_0 pX1_1 pX1_2 pX1_3
    have C := CC.out _ M1.out
    try unfold Hd.val at C
    refine (C).mono ?_
    rintro e w3 ⟨rfl, hb⟩
    have hbp := Lib.hid hb
    replace R1 := Lib.hid (R1.out.below (hb.mono E.out.size))
    replace R2 := Lib.hid (R2.out.below (hb.mono E.out.size))
    replace R3 := Lib.hid (R3.out.below (hb.mono E.out.size))
    replace E : Hid (Below w.heap.size w w3) := E.out.trans (hb.mono E.out.size)
    replace M1 := Lib.hid (M1.out.below hb)
    replace X1 := Lib.hid (X1.out.below hb X1.out.lt)
    replace X2 := Lib.hid (X2.out.below hb X2.out.lt)
    replace X3 := Lib.hid (X3.out.below hb X3.out.lt)
    clear hb
    clear hbp
    clear C
    go_wp2_with fail
    refine (sanity_any10 _).mono ?_
    rintro e w4 ⟨rfl, hb⟩
    have hbp := Lib.hid hb
    replace R1 := Lib.hid (R1.out.below (hb.mono E.out.size))
    replace R2 := Lib.hid (R2.out.below (hb.mono E.out.size))
    replace R3 := Lib.hid (R3.out.below (hb.mono E.out.size))
    replace E : Hid (Below w.heap.size w w4) := E.out.trans (hb.mono E.out.size)
    replace M1 := Lib.hid (M1.out.below hb)
    replace X1 := Lib.hid (X1.out.below hb X1.out.lt)
    replace X2 := Lib.hid (X2.out.below hb X2.out.lt)
    replace X3 := Lib.hid (X3.out.below hb X3.out.lt)
    clear hb
    clear hbp
    go_wp2_with fail
    go_ret
    exact ⟨rfl, E.out⟩
  have tk : (Ck != 0) = false := by simpa using hk0
  have hc : Hid (d.chk = 0) := by show _ = _; rw [← hCk'.out]; exact hk0
  clear hk0 hCk'
  by_cases hln : 24 < n
  · have tn : (24 : Int) < (n : Int) := by omega
    go_enter Try.func3, Try.ntmps3
    go_wp2_with fail
    generalize hg : ((w.alloc _).alloc _).alloc _ = Wg
    have hgW : W0 = Wg := by rw [← hg, hW'.out]
    clear hg hW'
    subst hgW
    have q0 : ∀ q : ExtOf W0.drew, q.world.cell? ⟨w.heap.size + 1, 0, none⟩ = some (.slice A2 n2 c2) := fun q => (X2.out.drew.below q.ext X2.out.lt).cell (j := 0) rfl
    have q1 : ∀ q : ExtOf W0.drew, q.world.cell? ⟨w.heap.size + 1, 1, none⟩ = some (.slice A3 n3 c3) := fun q => (X2.out.drew.below q.ext X2.out.lt).cell (j := 1) rfl
    refine wp_region_planM [] [(true, 0), (true, 1), (true, 2), (true, 3), (true, 4), (true, 5)] (by decide) (by kernel_rfl) (by kernel_rfl) (by decide) (by intro c a d v w h; cases d <;> exact h) ?_
    change wpPlanM _ _ _ _ _ _ W0.drew
    iterate 6 (refine wpPlanM_plain rfl (fun K hK => ?_); go_simp; refine hK _ ?_; clear hK K)
    refine wpPlanM_nil ?_
    clear q0 q1
    have hb : Below W0.heap.size W0 W0.drew := (Below.refl _ _).drew
    generalize hgd : W0.drew = w2 at hb ⊢
    replace R1 := Lib.hid (R1.out.below (hb.mono E.out.size))
    replace R2 := Lib.hid (R2.out.below (hb.mono E.out.size))
    replace R3 := Lib.hid (R3.out.below (hb.mono E.out.size))
    replace E : Hid (Below w.heap.size w w2) := E.out.trans (hb.mono E.out.size)
    replace M1 := Lib.hid (M1.out.below hb)
    replace X1 := Lib.hid (X1.out.below hb X1.out.lt)
    replace X2 := Lib.hid (X2.out.below hb X2.out.lt)
    replace X3 := Lib.hid (X3.out.below hb X3.out.lt)
    clear hb hgd
    have pX1_0 : w2.cell? ⟨w.heap.size, 0, none⟩ = some (.slice h.a1 h.n1 h.c1) := X1.out.cell (j := 0) rfl
    have pX1_1 : w2.cell? ⟨w.heap.size, 1, none⟩ = some (.slice h.a2 h.n2 h.c2) := X1.out.cell (j := 1) rfl
    have pX1_2 : w2.cell? ⟨w.heap.size, 2, none⟩ = some (.slice h.a3 h.n3 h.c3) := X1.out.cell (j := 2) rfl
    have pX1_3 : w2.cell? ⟨w.heap.size, 3, none⟩ = some (.int .i64 h.o) := X1.out.cell (j := 3) rfl
    go_wp2_with fail
    clear pX1_0 pX1_1 pX1_2 pX1_3
    have C := CC.out _ M1.out
    try unfold Hd.val at C
    refine (C).mono ?_
    rintro e w3 ⟨rfl, hb⟩
    have hbp := Lib.hid hb
    replace R1 := Lib.hid (R1.out.below (hb.mono E.out.size))
    replace R2 := Lib.hid (R2.out.below (hb.mono E.out.size))
    replace R3 := Lib.hid (R3.out.below (hb.mono E.out.size))
    replace E : Hid (Below w.heap.size w w3) := E.out.trans (hb.mono E.out.size)
    replace M1 := Lib.hid (M1.out.below hb)
    replace X1 := Lib.hid (X1.out.below hb X1.out.lt)
    replace X2 := Lib.hid (X2.out.below hb X2.out.lt)
    replace X3 := Lib.hid (X3.out.below hb X3.out.lt)
    clear hb
    clear hbp
    clear C
    go_wp2_with fail
    refine (sanity_any10 _).mono ?_
    rintro e w4 ⟨rfl, hb⟩
    have hbp := Lib.hid hb
    replace R1 := Lib.hid (R1.out.below (hb.mono E.out.size))
    replace R2 := Lib.hid (R2.out.below (hb.mono E.out.size))
    replace R3 := Lib.hid (R3.out.below (hb.mono E.out.size))
    replace E : Hid (Below w.heap.size w w4) := E.out.trans (hb.mono E.out.size)
    replace M1 := Lib.hid (M1.out.below hb)
    replace X1 := Lib.hid (X1.out.below hb X1.out.lt)
    replace X2 := Lib.hid (X2.out.below hb X2.out.lt)
    replace X3 := Lib.hid (X3.out.below hb X3.out.lt)
    clear hb
    clear hbp
    go_wp2_with fail
    go_ret
    exact ⟨rfl, E.out⟩
  have tn : ¬ (24 : Int) < (n : Int) := by omega
  by_cases hln2 : 12 < n2
  · have tn2 : (12 : Int) < (n2 : Int) := by omega
    go_enter Try.func3, Try.ntmps3
    go_wp2_with fail
    generalize hg : ((w.alloc _).alloc _).alloc _ = Wg
    have hgW : W0 = Wg := by rw [← hg, hW'.out]
    clear hg hW'
    subst hgW
    have q0 : ∀ q : ExtOf W0.drew, q.world.cell? ⟨w.heap.size + 1, 0, none⟩ = some (.slice A2 n2 c2) := fun q => (X2.out.drew.below q.ext X2.out.lt).cell (j := 0) rfl
    have q1 : ∀ q : ExtOf W0.drew, q.world.cell? ⟨w.heap.size + 1, 1, none⟩ = some (.slice A3 n3 c3) := fun q => (X2.out.drew.below q.ext X2.out.lt).cell (j := 1) rfl
    refine wp_region_planM [] [(true, 0), (true, 1), (true, 2), (true, 3), (true, 4), (true, 5)] (by decide) (by kernel_rfl) (by kernel_rfl) (by decide) (by intro c a d v w h; cases d <;> exact h) ?_
    change wpPlanM _ _ _ _ _ _ W0.drew
    iterate 6 (refine wpPlanM_plain rfl (fun K hK => ?_); go_simp; refine hK _ ?_; clear hK K)
    refine wpPlanM_nil ?_
    clear q0 q1
    have hb : Below W0.heap.size W0 W0.drew := (Below.refl _ _).drew
    generalize hgd : W0.drew = w2 at hb ⊢
    replace R1 := Lib.hid (R1.out.below (hb.mono E.out.size))
    replace R2 := Lib.hid (R2.out.below (hb.mono E.out.size))
    replace R3 := Lib.hid (R3.out.below (hb.mono E.out.size))
    replace E : Hid (Below w.heap.size w w2) := E.out.trans (hb.mono E.out.size)
    replace M1 := Lib.hid (M1.out.below hb)
    replace X1 := Lib.hid (X1.out.below hb X1.out.lt)
    replace X2 := Lib.hid (X2.out.below hb X2.out.lt)
    replace X3 := Lib.hid (X3.out.below hb X3.out.lt)
    clear hb hgd
    have pX1_0 : w2.cell? ⟨w.heap.size, 0, none⟩ = some (.slice h.a1 h.n1 h.c1) := X1.out.cell (j := 0) rfl
    have pX1_1 : w2.cell? ⟨w.heap.size, 1, none⟩ = some (.slice h.a2 h.n2 h.c2) := X1.out.cell (j := 1) rfl
    have pX1_2 : w2.cell? ⟨w.heap.size, 2, none⟩ = some (.slice h.a3 h.n3 h.c3) := X1.out.cell (j := 2) rfl
    have pX1_3 : w2.cell? ⟨w.heap.size, 3, none⟩ = some (.int .i64 h.o) := X1.out.cell (j := 3) rfl
    go_wp2_with fail
    clear pX1_0 pX1_1 pX1_2 pX1_3
    have C := CC.out _ M1.out
    try unfold Hd.val at C
    refine (C).mono ?_
    rintro e w3 ⟨rfl, hb⟩
    have hbp := Lib.hid hb
    replace R1 := Lib.hid (R1.out.below (hb.mono E.out.size))
    replace R2 := Lib.hid (R2.out.below (hb.mono E.out.size))
    replace R3 := Lib.hid (R3.out.below (hb.mono E.out.size))
    replace E : Hid (Below w.heap.size w w3) := E.out.trans (hb.mono E.out.size)
    replace M1 := Lib.hid (M1.out.below hb)
    replace X1 := Lib.hid (X1.out.below hb X1.out.lt)
    replace X2 := Lib.hid (X2.out.below hb X2.out.lt)
    replace X3 := Lib.hid (X3.out.below hb X3.out.lt)
    clear hb
    clear hbp
    clear C
    go_wp2_with fail
    refine (sanity_any10 _).mono ?_
    rintro e w4 ⟨rfl, hb⟩
    have hbp := Lib.hid hb
    replace R1 := Lib.hid (R1.out.below (hb.mono E.out.size))
    replace R2 := Lib.hid (R2.out.below (hb.mono E.out.size))
    replace R3 := Lib.hid (R3.out.below (hb.mono E.out.size))
    replace E : Hid (Below w.heap.size w w4) := E.out.trans (hb.mono E.out.size)
    replace M1 := Lib.hid (M1.out.below hb)
    replace X1 := Lib.hid (X1.out.below hb X1.out.lt)
    replace X2 := Lib.hid (X2.out.below hb X2.out.lt)
    replace X3 := Lib.hid (X3.out.below hb X3.out.lt)
    clear hb
    clear hbp
    go_wp2_with fail
    go_ret
    exact ⟨rfl, E.out⟩
  have tn2 : ¬ (12 : Int) < (n2 : Int) := by omega
  by_cases hln3 : 12 < n3
  · have tn3 : (12 : Int) < (n3 : Int) := by omega
    go_enter Try.func3, Try.ntmps3
    go_wp2_with fail
    generalize hg : ((w.alloc _).alloc _).alloc _ = Wg
    have hgW : W0 = Wg := by rw [← hg, hW'.out]
    clear hg hW'
    subst hgW
    have q0 : ∀ q : ExtOf W0.drew, q.world.cell? ⟨w.heap.size + 1, 0, none⟩ = some (.slice A2 n2 c2) := fun q => (X2.out.drew.below q.ext X2.out.lt).cell (j := 0) rfl
    have q1 : ∀ q : ExtOf W0.drew, q.world.cell? ⟨w.heap.size + 1, 1, none⟩ = some (.slice A3 n3 c3) := fun q => (X2.out.drew.below q.ext X2.out.lt).cell (j := 1) rfl
    refine wp_region_planM [] [(true, 0), (true, 1), (true, 2), (true, 3), (true, 4), (true, 5)] (by decide) (by kernel_rfl) (by kernel_rfl) (by decide) (by intro c a d v w h; cases d <;> exact h) ?_
    change wpPlanM _ _ _ _ _ _ W0.drew
    iterate 6 (refine wpPlanM_plain rfl (fun K hK => ?_); go_simp; refine hK _ ?_; clear hK K)
    refine wpPlanM_nil ?_
    clear q0 q1
    have hb : Below W0.heap.size W0 W0.drew := (Below.refl _ _).drew
    generalize hgd : W0.drew = w2 at hb ⊢
    replace R1 := Lib.hid (R1.out.below (hb.mono E.out.size))
    replace R2 := Lib.hid (R2.out.below (hb.mono E.out.size))
    replace R3 := Lib.hid (R3.out.below (hb.mono E.out.size))
    replace E : Hid (Below w.heap.size w w2) := E.out.trans (hb.mono E.out.size)
    replace M1 := Lib.hid (M1.out.below hb)
    replace X1 := Lib.hid (X1.out.below hb X1.out.lt)
    replace X2 := Lib.hid (X2.out.below hb X2.out.lt)
    replace X3 := Lib.hid (X3.out.below hb X3.out.lt)
    clear hb hgd
    have pX1_0 : w2.cell? ⟨w.heap.size, 0, none⟩ = some (.slice h.a1 h.n1 h.c1) := X1.out.cell (j := 0) rfl
    have pX1_1 : w2.cell? ⟨w.heap.size, 1, none⟩ = some (.slice h.a2 h.n2 h.c2) := X1.out.cell (j := 1) rfl
    have pX1_2 : w2.cell? ⟨w.heap.size, 2, none⟩ = some (.slice h.a3 h.n3 h.c3) := X1.out.cell (j := 2) rfl
    have pX1_3 : w2.cell? ⟨w.heap.size, 3, none⟩ = some (.int .i64 h.o) := X1.out.cell (j := 3) rfl
    go_wp2_with fail
    clear pX1_0 pX1_1 pX1_2 pX1_3
    have C := CC.out _ M1.out
    try unfold Hd.val at C
    refine (C).mono ?_
    rintro e w3 ⟨rfl, hb⟩
    have hbp := Lib.hid hb
    replace R1 := Lib.hid (R1.out.below (hb.mono E.out.size))
    replace R2 := Lib.hid (R2.out.below (hb.mono E.out.size))
    replace R3 := Lib.hid (R3.out.below (hb.mono E.out.size))
    replace E : Hid (Below w.heap.size w w3) := E.out.trans (hb.mono E.out.size)
    replace M1 := Lib.hid (M1.out.below hb)
    replace X1 := Lib.hid (X1.out.below hb X1.out.lt)
    replace X2 := Lib.hid (X2.out.below hb X2.out.lt)
    replace X3 := Lib.hid (X3.out.below hb X3.out.lt)
    clear hb
    clear hbp
    clear C
    go_wp2_with fail
    refine (sanity_any10 _).mono ?_
    rintro e w4 ⟨rfl, hb⟩
    have hbp := Lib.hid hb
    replace R1 := Lib.hid (R1.out.below (hb.mono E.out.size))
    replace R2 := Lib.hid (R2.out.below (hb.mono E.out.size))
    replace R3 := Lib.hid (R3.out.below (hb.mono E.out.size))
    replace E : Hid (Below w.heap.size w w4) := E.out.trans (hb.mono E.out.size)
    replace M1 := Lib.hid (M1.out.below hb)
    replace X1 := Lib.hid (X1.out.below hb X1.out.lt)
    replace X2 := Lib.hid (X2.out.below hb X2.out.lt)
    replace X3 := Lib.hid (X3.out.below hb X3.out.lt)
    clear hb
    clear hbp
    go_wp2_with fail
    go_ret
    exact ⟨rfl, E.out⟩
  have tn3 : ¬ (12 : Int) < (n3 : Int) := by omega
  obtain ⟨lv, hlv, ta⟩ := rem_disk2 x 4 (by omega)
  replace ta : Int.tmod (x : Int) 4 = (lv : Int) := ta
  have wa : IntKind.i64.wrap (x : Int) = (x : Int) := by rw [IntKind.wrap_i64]; omega
  have wb : IntKind.i64.wrap (y : Int) = (y : Int) := by rw [IntKind.wrap_i64]; omega
  obtain ⟨ALL, hALL⟩ : ∃ z, z = d.left lv l [] := ⟨_, rfl⟩
  have gALL : Hid (d.left lv l [] = ALL) := hALL.symm
  have bALL : ALL < 16777216 := by rw [hALL]; exact left_lt _ _ _ _
  obtain ⟨ONE, hONE⟩ : ∃ z, z = d.left lv l l2 := ⟨_, rfl⟩
  have gONE : Hid (d.left lv l l2 = ONE) := hONE.symm
  have bONE : ONE < 16777216 := by rw [hONE]; exact left_lt _ _ _ _
  obtain ⟨BOTH, hBOTH⟩ : ∃ z, z = d.left lv l (l2 ++ l3) := ⟨_, rfl⟩
  have gBOTH : Hid (d.left lv l (l2 ++ l3) = BOTH) := hBOTH.symm
  have bBOTH : BOTH < 16777216 := by rw [hBOTH]; exact left_lt _ _ _ _
  obtain ⟨LB, hLB⟩ : ∃ z, z = d.left lv l l3 := ⟨_, rfl⟩
  have gLB : Hid (d.left lv l l3 = LB) := hLB.symm
  have bLB : LB < 16777216 := by rw [hLB]; exact left_lt _ _ _ _
  have tb1 : bits BinOp.andNot IntKind.i64 (ONE : Int) (ALL : Int) = 0 := andNot_sub _ _ (by omega) (by omega) (by rw [hONE, hALL]; exact left_nil)
  have tb2 : bits BinOp.andNot IntKind.i64 (BOTH : Int) (ONE : Int) = 0 := andNot_sub _ _ (by omega) (by omega) (by rw [hONE, hBOTH]; exact left_both)
  have tb3 : bits BinOp.and IntKind.i64 (ONE : Int) (LB : Int) = (BOTH : Int) := by rw [and_i64s _ _ (by omega) (by omega), hONE, hLB, hBOTH, left_app]
  clear hALL hONE hBOTH hLB
  have tBB : ((BOTH : Int) != (BOTH : Int)) = false := by simp
  obtain ⟨S, hS⟩ : ∃ S : Nat, d.size lv = (S : Int) := ⟨(d.size lv).toNat, by have := (Dm.size_ge (d := d) lv).1; omega⟩
  have hS64 : S ≤ 64 := by have := (Dm.size_ge (d := d) lv).2; omega
  have hS' := Lib.hid hS
  clear hS
  have hl2s : Hid (n2 ≤ 12 ∧ n3 ≤ 12) := ⟨by omega, by omega⟩
  clear hln hln2 hln3
  go_enter Try.func3, Try.ntmps3
  go_wp2_with fail
  generalize hg : ((w.alloc _).alloc _).alloc _ = Wg
  have hgW : W0 = Wg := by rw [← hg, hW'.out]
  clear hg hW'
  subst hgW
  have q0 : ∀ q : ExtOf W0.drew, q.world.cell? ⟨w.heap.size + 1, 0, none⟩ = some (.slice A2 n2 c2) := fun q => (X2.out.drew.below q.ext X2.out.lt).cell (j := 0) rfl
  have q1 : ∀ q : ExtOf W0.drew, q.world.cell? ⟨w.heap.size + 1, 1, none⟩ = some (.slice A3 n3 c3) := fun q => (X2.out.drew.below q.ext X2.out.lt).cell (j := 1) rfl
  refine wp_region_planM [] [(true, 0), (true, 1), (true, 2), (true, 3), (true, 4), (true, 5)] (by decide) (by kernel_rfl) (by kernel_rfl) (by decide) (by intro c a d v w h; cases d <;> exact h) ?_
  change wpPlanM _ _ _ _ _ _ W0.drew
  iterate 6 (refine wpPlanM_plain rfl (fun K hK => ?_); go_simp; refine hK _ ?_; clear hK K)
  refine wpPlanM_nil ?_
  clear q0 q1
  have hb : Below W0.heap.size W0 W0.drew := (Below.refl _ _).drew
  generalize hgd : W0.drew = w2 at hb ⊢
  replace R1 := Lib.hid (R1.out.below (hb.mono E.out.size))
  replace R2 := Lib.hid (R2.out.below (hb.mono E.out.size))
  replace R3 := Lib.hid (R3.out.below (hb.mono E.out.size))
  replace E : Hid (Below w.heap.size w w2) := E.out.trans (hb.mono E.out.size)
  replace M1 := Lib.hid (M1.out.below hb)
  replace X1 := Lib.hid (X1.out.below hb X1.out.lt)
  replace X2 := Lib.hid (X2.out.below hb X2.out.lt)
  replace X3 := Lib.hid (X3.out.below hb X3.out.lt)
  clear hb hgd
  have pX1_0 : w2.cell? ⟨w.heap.size, 0, none⟩ = some (.slice h.a1 h.n1 h.c1) := X1.out.cell (j := 0) rfl
  have pX1_1 : w2.cell? ⟨w.heap.size, 1, none⟩ = some (.slice h.a2 h.n2 h.c2) := X1.out.cell (j := 1) rfl
  have pX1_2 : w2.cell? ⟨w.heap.size, 2, none⟩ = some (.slice h.a3 h.n3 h.c3) := X1.out.cell (j := 2) rfl
  have pX1_3 : w2.cell? ⟨w.heap.size, 3, none⟩ = some (.int .i64 h.o) := X1.out.cell (j := 3) rfl
  go_wp2_with fail
  clear pX1_0 pX1_1 pX1_2 pX1_3
  have C := CC.out _ M1.out
  try unfold Hd.val at C
  refine (C).mono ?_
  rintro e w3 ⟨rfl, hb⟩
  have hbp := Lib.hid hb
  replace R1 := Lib.hid (R1.out.below (hb.mono E.out.size))
  replace R2 := Lib.hid (R2.out.below (hb.mono E.out.size))
  replace R3 := Lib.hid (R3.out.below (hb.mono E.out.size))
  replace E : Hid (Below w.heap.size w w3) := E.out.trans (hb.mono E.out.size)
  replace M1 := Lib.hid (M1.out.below hb)
  replace X1 := Lib.hid (X1.out.below hb X1.out.lt)
  replace X2 := Lib.hid (X2.out.below hb X2.out.lt)
  replace X3 := Lib.hid (X3.out.below hb X3.out.lt)
  clear hb
  clear hbp
  clear C
  have pX1_0 : w3.cell? ⟨w.heap.size, 0, none⟩ = some (.slice h.a1 h.n1 h.c1) := X1.out.cell (j := 0) rfl
  have pX1_1 : w3.cell? ⟨w.heap.size, 1, none⟩ = some (.slice h.a2 h.n2 h.c2) := X1.out.cell (j := 1) rfl
  have pX1_2 : w3.cell? ⟨w.heap.size, 2, none⟩ = some (.slice h.a3 h.n3 h.c3) := X1.out.cell (j := 2) rfl
  have pX1_3 : w3.cell? ⟨w.heap.size, 3, none⟩ = some (.int .i64 h.o) := X1.out.cell (j := 3) rfl
  have pX3_0 : w3.cell? ⟨w.heap.size + 1 + 1, 0, none⟩ = some (.int .u8 x) := X3.out.cell (j := 0) rfl
  have pX3_1 : w3.cell? ⟨w.heap.size + 1 + 1, 1, none⟩ = some (.int .u8 y) := X3.out.cell (j := 1) rfl
  go_wp2_with fail
  clear pX1_0 pX1_1 pX1_2 pX1_3 pX3_0 pX3_1
  have C := leftV (c := c) (A' := none) (cf := 0) (nf := 0) (F := []) M1.out R1.out E.out.size Rds.empty (Nat.zero_le _) hnn.out hns rfl (by decide) gALL.out
  try unfold Hd.val at C
  refine (C).mono ?_
  rintro e w4 ⟨rfl, hb⟩
  have hbp := Lib.hid hb
  replace R1 := Lib.hid (R1.out.below (hb.mono E.out.size))
  replace R2 := Lib.hid (R2.out.below (hb.mono E.out.size))
  replace R3 := Lib.hid (R3.out.below (hb.mono E.out.size))
  replace E : Hid (Below w.heap.size w w4) := E.out.trans (hb.mono E.out.size)
  replace M1 := Lib.hid (M1.out.below hb)
  replace X1 := Lib.hid (X1.out.below hb X1.out.lt)
  replace X2 := Lib.hid (X2.out.below hb X2.out.lt)
  replace X3 := Lib.hid (X3.out.below hb X3.out.lt)
  clear hb
  clear hbp
  clear C
  have pX1_0 : w4.cell? ⟨w.heap.size, 0, none⟩ = some (.slice h.a1 h.n1 h.c1) := X1.out.cell (j := 0) rfl
  have pX1_1 : w4.cell? ⟨w.heap.size, 1, none⟩ = some (.slice h.a2 h.n2 h.c2) := X1.out.cell (j := 1) rfl
  have pX1_2 : w4.cell? ⟨w.heap.size, 2, none⟩ = some (.slice h.a3 h.n3 h.c3) := X1.out.cell (j := 2) rfl
  have pX1_3 : w4.cell? ⟨w.heap.size, 3, none⟩ = some (.int .i64 h.o) := X1.out.cell (j := 3) rfl
  go_wp2_with fail
  clear pX1_0 pX1_1 pX1_2 pX1_3
  have C := leftV (c := c) (cf := c2) M1.out R1.out E.out.size R2.out E.out.size hnn.out hns hn2.out (by have := hl2s.out.1; omega) gONE.out
  try unfold Hd.val at C
  refine (C).mono ?_
  rintro e w5 ⟨rfl, hb⟩
  have hbp := Lib.hid hb
  replace R1 := Lib.hid (R1.out.below (hb.mono E.out.size))
  replace R2 := Lib.hid (R2.out.below (hb.mono E.out.size))
  replace R3 := Lib.hid (R3.out.below (hb.mono E.out.size))
  replace E : Hid (Below w.heap.size w w5) := E.out.trans (hb.mono E.out.size)
  replace M1 := Lib.hid (M1.out.below hb)
  replace X1 := Lib.hid (X1.out.below hb X1.out.lt)
  replace X2 := Lib.hid (X2.out.below hb X2.out.lt)
  replace X3 := Lib.hid (X3.out.below hb X3.out.lt)
  clear hb
  clear hbp
  clear C
  go_wp2_with fail
  have lo7 := Lib.hid X1.out.lt
  refine wp_region_planR (R := Below w5.heap.size) (fun w => Below.refl _ w) (fun _ _ _ h k => h.trans k) [] [(true, 0), (true, 1), (true, 2), (true, 4), (true, 6), (false, 3), (false, 5), (false, 7), (false, 8), (true, 9)] (by decide) (by kernel_rfl) (by kernel_rfl) (by decide) (by intro c a d v w h; cases d <;> exact h) ?_
  change wpPlanR _ _ _ _ _ _ _ w5.drew
  have hb : Below w5.heap.size w5 w5.drew := (Below.refl _ _).drew
  have hz7 : Hid (w5.drew.heap.size = w5.heap.size) := show _ = _ from rfl
  generalize hgd : w5.drew = w6 at hb hz7 ⊢
  replace R1 := Lib.hid (R1.out.below (hb.mono E.out.size))
  replace R2 := Lib.hid (R2.out.below (hb.mono E.out.size))
  replace R3 := Lib.hid (R3.out.below (hb.mono E.out.size))
  replace E : Hid (Below w.heap.size w w6) := E.out.trans (hb.mono E.out.size)
  replace M1 := Lib.hid (M1.out.below hb)
  replace X1 := Lib.hid (X1.out.below hb X1.out.lt)
  replace X2 := Lib.hid (X2.out.below hb X2.out.lt)
  replace X3 := Lib.hid (X3.out.below hb X3.out.lt)
  clear hb hgd
  refine wpPlanR_runW rfl (by rfl) _ (fun q => load_run 25 _ rfl w.heap.size 0 rfl [.slice h.a1 h.n1 h.c1, .slice h.a2 h.n2 h.c2, .slice h.a3 h.n3 h.c3, .int .i64 h.o] _ hun.out rfl hdd.out q.world ((Blk.below X1.out q.rel lo7.out).range 0 _ (take_all0 _))) ?_
  iterate 4 (refine wpPlanR_plain rfl (fun K hK => ?_); go_simp; first | refine hK _ ?_ | refine ⟨_, fun _ => rfl, hK _ ?_⟩; clear hK K)
  have hO := Lib.hid (ownZ_made w6 w6.heap.size (Nat.le_refl _))
  have hb : Below w6.heap.size w6 (w6.alloc (.cells #[] 3)) := (Below.refl _ _).alloc (Nat.le_refl _) _
  have hbp := Lib.hid (hb.mono (Nat.le_of_eq hz7.out.symm))
  refine wpPlanR_call rfl (fun K hK => ?_)
  go_wp2_with fail
  refine planPostR_normal ⟨.inr hbp.out, hK _ _ ?_⟩
  clear hK K hbp
  obtain ⟨gb, hgb⟩ : ∃ g, g = w6.heap.size := ⟨_, rfl⟩
  rw [← hgb] at hO
  try rw [← hgb]
  have hgbs : Hid (gb = w6.heap.size) := hgb
  have hg7 : Hid (w5.heap.size ≤ gb) := by show _ ≤ _; rw [hgb, hz7.out]; exact Nat.le_refl _
  have hwg : Hid (w.heap.size ≤ gb ∧ w.heap.size < gb ∧ w.heap.size + 1 < gb ∧ w.heap.size + 1 + 1 < gb) := by
    have h1 := X1.out.lt
    have h2 := X2.out.lt
    have h3 := X3.out.lt
    have h4 := hgbs.out
    exact ⟨by omega, by omega, by omega, by omega⟩
  clear hgb
  generalize w6.alloc _ = w7 at hO hb ⊢
  have hbs : Hid (gb ≤ w7.heap.size) := by show _ ≤ _; rw [hgbs.out]; exact hb.size
  replace R1 := Lib.hid (R1.out.below (hb.mono E.out.size))
  replace R2 := Lib.hid (R2.out.below (hb.mono E.out.size))
  replace R3 := Lib.hid (R3.out.below (hb.mono E.out.size))
  replace E : Hid (Below w.heap.size w w7) := E.out.trans (hb.mono E.out.size)
  replace M1 := Lib.hid (M1.out.below hb)
  replace X1 := Lib.hid (X1.out.below hb X1.out.lt)
  replace X2 := Lib.hid (X2.out.below hb X2.out.lt)
  replace X3 := Lib.hid (X3.out.below hb X3.out.lt)
  clear hb
  refine wpPlanR_call rfl (fun K hK => ?_)
  refine push_zs rfl _ _ rfl gb _ [] l2 _ A2 n2 c2 hn2.out z2.out rfl rfl R2.out hO.out (by have h1 := hn2.out; have h2 := hn3.out; have h3 := hl2s.out; simp; omega) hbs.out ?_
  intro v5 w8 ho5 hb5 hg5 hob5
  have hb : Below gb w7 w8 := hb5
  have hbR := Lib.hid (hb.mono hg7.out)
  replace hbs : Hid (gb ≤ w8.heap.size) := Nat.le_trans hbs.out hb.size
  rw [List.nil_append] at ho5
  replace hO := Lib.hid ho5
  replace R1 := Lib.hid (R1.out.below (hb.mono hwg.out.1))
  replace R2 := Lib.hid (R2.out.below (hb.mono hwg.out.1))
  replace R3 := Lib.hid (R3.out.below (hb.mono hwg.out.1))
  replace M1 := Lib.hid (M1.out.keep (hb.mono hwg.out.1))
  replace X1 := Lib.hid (X1.out.below hb (Nat.lt_of_lt_of_le hwg.out.2.1 (Nat.le_refl _)))
  replace X2 := Lib.hid (X2.out.below hb (Nat.lt_of_lt_of_le hwg.out.2.2.1 (Nat.le_refl _)))
  replace X3 := Lib.hid (X3.out.below hb (Nat.lt_of_lt_of_le hwg.out.2.2.2 (Nat.le_refl _)))
  replace E : Hid (Below w.heap.size w w8) := E.out.trans (hb.mono hwg.out.1)
  clear ho5 hb5 hg5 hob5 hb
  go_wp2_with fail
  refine planPostR_normal ⟨.inr hbR.out, hK _ _ ?_⟩
  clear hK K hbR
  refine wpPlanR_call rfl (fun K hK => ?_)
  refine push_zs rfl _ _ rfl gb _ l2 l3 _ A3 n3 c3 hn3.out z3.out rfl rfl R3.out hO.out (by have h1 := hn2.out; have h2 := hn3.out; have h3 := hl2s.out; simp; omega) hbs.out ?_
  intro v7 w9 ho5 hb5 hg5 hob5
  have hb : Below gb w8 w9 := hb5
  have hbR := Lib.hid (hb.mono hg7.out)
  replace hbs : Hid (gb ≤ w9.heap.size) := Nat.le_trans hbs.out hb.size
  replace hO := Lib.hid ho5
  replace R1 := Lib.hid (R1.out.below (hb.mono hwg.out.1))
  replace R2 := Lib.hid (R2.out.below (hb.mono hwg.out.1))
  replace R3 := Lib.hid (R3.out.below (hb.mono hwg.out.1))
  replace M1 := Lib.hid (M1.out.keep (hb.mono hwg.out.1))
  replace X1 := Lib.hid (X1.out.below hb (Nat.lt_of_lt_of_le hwg.out.2.1 (Nat.le_refl _)))
  replace X2 := Lib.hid (X2.out.below hb (Nat.lt_of_lt_of_le hwg.out.2.2.1 (Nat.le_refl _)))
  replace X3 := Lib.hid (X3.out.below hb (Nat.lt_of_lt_of_le hwg.out.2.2.2 (Nat.le_refl _)))
  replace E : Hid (Below w.heap.size w w9) := E.out.trans (hb.mono hwg.out.1)
  clear ho5 hb5 hg5 hob5 hb
  go_wp2_with fail
  refine planPostR_normal ⟨.inr hbR.out, hK _ _ ?_⟩
  clear hK K hbR
  obtain ⟨A7, c7, e7, _, _, _, r7⟩ := hO.out.slice
  subst e7
  have r7' := Lib.hid r7
  clear r7
  obtain ⟨n7, hn7⟩ : ∃ n, n = (l2 ++ l3).length := ⟨_, rfl⟩
  have hn7' := Lib.hid hn7
  rw [← hn7]
  clear hn7
  refine wpPlanR_call rfl (fun K hK => ?_)
  go_wp2_with fail
  have C := leftV (c := c) (cf := c7) M1.out R1.out E.out.size r7'.out (Nat.le_refl _) hnn.out hns hn7'.out (by have h1 := hn7'.out; have h2 := hn2.out; have h3 := hn3.out; have h4 := hl2s.out; rw [List.length_append] at h1; omega) gBOTH.out
  try unfold Hd.val at C
  refine C.mono ?_
  rintro e w10 ⟨rfl, hb⟩
  clear C
  have hbR := Lib.hid (hb.mono (Nat.le_trans hg7.out hbs.out))
  replace R1 := Lib.hid (R1.out.below (hb.mono E.out.size))
  replace R2 := Lib.hid (R2.out.below (hb.mono E.out.size))
  replace R3 := Lib.hid (R3.out.below (hb.mono E.out.size))
  replace E : Hid (Below w.heap.size w w10) := E.out.trans (hb.mono E.out.size)
  replace M1 := Lib.hid (M1.out.below hb)
  replace X1 := Lib.hid (X1.out.below hb X1.out.lt)
  replace X2 := Lib.hid (X2.out.below hb X2.out.lt)
  replace X3 := Lib.hid (X3.out.below hb X3.out.lt)
  clear hb
  go_wp2_with fail
  refine planPostR_normal ⟨.inr hbR.out, hK _ _ ?_⟩
  clear hK K hbR
  clear r7' hO
  iterate 1 (refine wpPlanR_plain rfl (fun K hK => ?_); go_simp; first | refine hK _ ?_ | refine ⟨_, fun _ => rfl, hK _ ?_⟩; clear hK K)
  refine wpPlanR_nil ?_
  have pX1_0 : w10.cell? ⟨w.heap.size, 0, none⟩ = some (.slice h.a1 h.n1 h.c1) := X1.out.cell (j := 0) rfl
  have pX1_1 : w10.cell? ⟨w.heap.size, 1, none⟩ = some (.slice h.a2 h.n2 h.c2) := X1.out.cell (j := 1) rfl
  have pX1_2 : w10.cell? ⟨w.heap.size, 2, none⟩ = some (.slice h.a3 h.n3 h.c3) := X1.out.cell (j := 2) rfl
  have pX1_3 : w10.cell? ⟨w.heap.size, 3, none⟩ = some (.int .i64 h.o) := X1.out.cell (j := 3) rfl
  go_wp2_with fail
  clear pX1_0 pX1_1 pX1_2 pX1_3
  have C := leftV (c := c) (cf := c3) M1.out R1.out E.out.size R3.out E.out.size hnn.out hns hn3.out (by have := hl2s.out.2; omega) gLB.out
  try unfold Hd.val at C
  refine (C).mono ?_
  rintro e w11 ⟨rfl, hb⟩
  have hbp := Lib.hid hb
  replace R1 := Lib.hid (R1.out.below (hb.mono E.out.size))
  replace R2 := Lib.hid (R2.out.below (hb.mono E.out.size))
  replace R3 := Lib.hid (R3.out.below (hb.mono E.out.size))
  replace E : Hid (Below w.heap.size w w11) := E.out.trans (hb.mono E.out.size)
  replace M1 := Lib.hid (M1.out.below hb)
  replace X1 := Lib.hid (X1.out.below hb X1.out.lt)
  replace X2 := Lib.hid (X2.out.below hb X2.out.lt)
  replace X3 := Lib.hid (X3.out.below hb X3.out.lt)
  clear hb
  clear hbp
  clear C
  clear R2 R3 tb1 tb2
  have pX1_0 : w11.cell? ⟨w.heap.size, 0, none⟩ = some (.slice h.a1 h.n1 h.c1) := X1.out.cell (j := 0) rfl
  have pX1_1 : w11.cell? ⟨w.heap.size, 1, none⟩ = some (.slice h.a2 h.n2 h.c2) := X1.out.cell (j := 1) rfl
  have pX1_2 : w11.cell? ⟨w.heap.size, 2, none⟩ = some (.slice h.a3 h.n3 h.c3) := X1.out.cell (j := 2) rfl
  have pX1_3 : w11.cell? ⟨w.heap.size, 3, none⟩ = some (.int .i64 h.o) := X1.out.cell (j := 3) rfl
  go_wp2_with fail
  clear pX1_0 pX1_1 pX1_2 pX1_3
  have C := sizeF M1.out hS'.out
  try unfold Hd.val at C
  refine (C).mono ?_
  rintro e w12 ⟨rfl, hb⟩
  have hbp := Lib.hid hb
  replace R1 := Lib.hid (R1.out.below (hb.mono E.out.size))
  replace E : Hid (Below w.heap.size w w12) := E.out.trans (hb.mono E.out.size)
  replace M1 := Lib.hid (M1.out.below hb)
  replace X1 := Lib.hid (X1.out.below hb X1.out.lt)
  replace X2 := Lib.hid (X2.out.below hb X2.out.lt)
  replace X3 := Lib.hid (X3.out.below hb X3.out.lt)
  clear hb
  clear hbp
  clear C
  by_cases hS0 : S = 0
  · have tS : ((S : Int) == 0) = true := by simp; omega
    have tA : ((ALL : Int) == 0) = true := by have := gALL.out; rw [left_size0 (by rw [hS'.out, hS0]; rfl)] at this; rw [← this]; rfl
    clear hS0
    go_wp2_with fail
    refine (sanity_any10 _).mono ?_
    rintro e w13 ⟨rfl, hb⟩
    have hbp := Lib.hid hb
    replace R1 := Lib.hid (R1.out.below (hb.mono E.out.size))
    replace E : Hid (Below w.heap.size w w13) := E.out.trans (hb.mono E.out.size)
    replace M1 := Lib.hid (M1.out.below hb)
    replace X1 := Lib.hid (X1.out.below hb X1.out.lt)
    replace X2 := Lib.hid (X2.out.below hb X2.out.lt)
    replace X3 := Lib.hid (X3.out.below hb X3.out.lt)
    clear hb
    clear hbp
    go_wp2_with fail
    go_ret
    exact ⟨rfl, E.out⟩
  have tS : ((S : Int) == 0) = false := by simp; omega
  have tS2 : ¬ S = 0 := hS0
  obtain ⟨k, hk, tk2⟩ := rem_disk2 y S (by omega)
  clear hS0
  obtain ⟨REST, hREST⟩ : ∃ z, z = d.left lv l [(k : Int)] := ⟨_, rfl⟩
  have gREST : Hid (d.left lv l [(k : Int)] = REST) := hREST.symm
  have bREST : REST < 16777216 := by rw [hREST]; exact left_lt _ _ _ _
  obtain ⟨cA, hcA⟩ : ∃ z, z = cntN ALL := ⟨_, rfl⟩
  obtain ⟨cR, hcR⟩ : ∃ z, z = cntN REST := ⟨_, rfl⟩
  obtain ⟨cC, hcC⟩ : ∃ z, z = d.cnt lv (Dm.cap l) k := ⟨_, rfl⟩
  have ts : (cA : Int) - (cR : Int) = (cC : Int) := by have := left_one (d := d) (lv := lv) (L := l) (k := k); rw [gALL.out, gREST.out, ← hcA, ← hcR, ← hcC] at this; omega
  have hcC24 : cC ≤ 24 := by rw [hcC]; exact Nat.le_trans (List.length_filter_le _ _) (cap_len l)
  have hcA' : Hid (cntN ALL = cA) := hcA.symm
  have hcR' : Hid (cntN REST = cR) := hcR.symm
  have hat : Hid ((d.holdsI lv l)[k]? = some (cC : Int)) := by show _ = _; rw [hcC]; exact holdsI_at (by rw [hS'.out]; omega)
  have hcc : ((cC : Int) != (cC : Int)) = false := by simp
  have twc : IntKind.i64.wrap (cC : Int) = (cC : Int) := by rw [IntKind.wrap_i64]; omega
  have hbel : Hid (∀ q : Nat, lv = q + 1 → d.left ((q : Nat) : Int) l (d.belowI lv k) = REST) := fun q hq => by subst hq; rw [← gREST.out]; exact (left_below hc.out (by omega) (by rw [hS'.out]; omega)).symm
  clear hREST hcA hcR hcC
  have pX1_0 : w12.cell? ⟨w.heap.size, 0, none⟩ = some (.slice h.a1 h.n1 h.c1) := X1.out.cell (j := 0) rfl
  have pX1_1 : w12.cell? ⟨w.heap.size, 1, none⟩ = some (.slice h.a2 h.n2 h.c2) := X1.out.cell (j := 1) rfl
  have pX1_2 : w12.cell? ⟨w.heap.size, 2, none⟩ = some (.slice h.a3 h.n3 h.c3) := X1.out.cell (j := 2) rfl
  have pX1_3 : w12.cell? ⟨w.heap.size, 3, none⟩ = some (.int .i64 h.o) := X1.out.cell (j := 3) rfl
  have pX3_0 : w12.cell? ⟨w.heap.size + 1 + 1, 0, none⟩ = some (.int .u8 x) := X3.out.cell (j := 0) rfl
  have pX3_1 : w12.cell? ⟨w.heap.size + 1 + 1, 1, none⟩ = some (.int .u8 y) := X3.out.cell (j := 1) rfl
  go_wp2_with fail
  clear pX1_0 pX1_1 pX1_2 pX1_3 pX3_0 pX3_1
  have C := leftK (c := c) (k := (k : Int)) M1.out R1.out E.out.size rfl hnn.out hns gREST.out
  try unfold Hd.val at C
  refine (C).mono ?_
  rintro e w13 ⟨rfl, hb⟩
  have hbp := Lib.hid hb
  replace R1 := Lib.hid (R1.out.below (hb.mono E.out.size))
  replace E : Hid (Below w.heap.size w w13) := E.out.trans (hb.mono E.out.size)
  replace M1 := Lib.hid (M1.out.below hb)
  replace X1 := Lib.hid (X1.out.below hb X1.out.lt)
  replace X2 := Lib.hid (X2.out.below hb X2.out.lt)
  replace X3 := Lib.hid (X3.out.below hb X3.out.lt)
  clear hb
  clear hbp
  clear C
  clear wa wb ta tk2 tS2 fx fy X2 X3
  have pX1_0 : w13.cell? ⟨w.heap.size, 0, none⟩ = some (.slice h.a1 h.n1 h.c1) := X1.out.cell (j := 0) rfl
  have pX1_1 : w13.cell? ⟨w.heap.size, 1, none⟩ = some (.slice h.a2 h.n2 h.c2) := X1.out.cell (j := 1) rfl
  have pX1_2 : w13.cell? ⟨w.heap.size, 2, none⟩ = some (.slice h.a3 h.n3 h.c3) := X1.out.cell (j := 2) rfl
  have pX1_3 : w13.cell? ⟨w.heap.size, 3, none⟩ = some (.int .i64 h.o) := X1.out.cell (j := 3) rfl
  go_wp2_with fail
  clear pX1_0 pX1_1 pX1_2 pX1_3
  have C := holdsV (lv := (lv : Int)) (c := c) M1.out R1.out E.out.size hnn.out hns
  try unfold Hd.val at C
  refine (C).mono ?_
  rintro e w14 ⟨A5, n5, c5, rfl, hn5, r5, hb⟩
  have hbp := Lib.hid hb
  replace R1 := Lib.hid (R1.out.below (hb.mono E.out.size))
  replace E : Hid (Below w.heap.size w w14) := E.out.trans (hb.mono E.out.size)
  replace M1 := Lib.hid (M1.out.below hb)
  replace X1 := Lib.hid (X1.out.below hb X1.out.lt)
  clear hb
  have hn5' := Lib.hid hn5
  clear hn5
  have r5' := Lib.hid r5
  clear r5
  clear hbp
  clear C
  obtain ⟨ad5, e5, lt5, ce5⟩ := r5'.out.look (k := k) (u := iv (cC : Int)) (by rw [List.getElem?_map, hat.out]; rfl)
  subst e5
  unfold iv at ce5
  have t5 : n5 = S := by have h1 := hn5'.out; have h2 := holdsI_len (d := d) (lv := lv) (L := l); rw [hS'.out, ← h1] at h2; omega
  subst t5
  have tkS : (k : Int) < (n5 : Int) := by omega
  have tk0 : 0 ≤ (k : Int) := by omega
  have tnn : ((n5 : Int) != (n5 : Int)) = false := by simp
  have ce5' := Lib.hid ce5
  clear ce5
  go_wp2_with fail
  refine wp_region_planM [] [(true, 0), (true, 1), (true, 2), (true, 3), (true, 4), (true, 5), (true, 7), (true, 10), (true, 11), (true, 12), (true, 13), (false, 6), (false, 8), (true, 9), (true, 14), (true, 15)] (by decide) (by kernel_rfl) (by kernel_rfl) (by decide) (by intro c a d v w h; cases d <;> exact h) ?_
  change wpPlanM _ _ _ _ _ _ w14.drew
  have hb : Below w14.heap.size w14 w14.drew := (Below.refl _ _).drew
  generalize hgd : w14.drew = w15 at hb ⊢
  have hbD := Lib.hid hb
  replace R1 := Lib.hid (R1.out.below (hb.mono E.out.size))
  replace E : Hid (Below w.heap.size w w15) := E.out.trans (hb.mono E.out.size)
  replace M1 := Lib.hid (M1.out.below hb)
  replace X1 := Lib.hid (X1.out.below hb X1.out.lt)
  clear hb hgd
  have q5 : ∀ q : ExtOf w15, q.world.cell? (ad5.add k) = some (.int .i64 (cC : Int)) := fun q => ((hbD.out.trans ((show Below w15.heap.size w15 q.world from q.ext).mono hbD.out.size)).cell (World.block_lt_of_cell? w14 _ ce5'.out)).trans ce5'.out
  iterate 11 (refine wpPlanM_plain rfl (fun K hK => ?_); go_simp; refine hK _ ?_; clear hK K)
  clear q5
  refine wpPlanM_call rfl (fun K hK => ?_)
  go_wp2_with fail
  have C := countF w15 bALL hcA'.out
  try unfold Hd.val at C
  refine (C).mono ?_
  rintro e w16 ⟨rfl, hb⟩
  have hbp := Lib.hid hb
  replace R1 := Lib.hid (R1.out.below (hb.mono E.out.size))
  replace E : Hid (Below w.heap.size w w16) := E.out.trans (hb.mono E.out.size)
  replace M1 := Lib.hid (M1.out.below hb)
  replace X1 := Lib.hid (X1.out.below hb X1.out.lt)
  clear hb
  go_wp2_with fail
  refine planPostL_normal ⟨.inr hbp.out, hK _ _ ?_⟩
  clear hK K hbp
  clear C
  refine wpPlanM_call rfl (fun K hK => ?_)
  go_wp2_with fail
  have C := countF w16 bREST hcR'.out
  try unfold Hd.val at C
  refine (C).mono ?_
  rintro e w17 ⟨rfl, hb⟩
  have hbp := Lib.hid hb
  replace R1 := Lib.hid (R1.out.below (hb.mono E.out.size))
  replace E : Hid (Below w.heap.size w w17) := E.out.trans (hb.mono E.out.size)
  replace M1 := Lib.hid (M1.out.below hb)
  replace X1 := Lib.hid (X1.out.below hb X1.out.lt)
  clear hb
  go_wp2_with fail
  refine planPostL_normal ⟨.inr hbp.out, hK _ _ ?_⟩
  clear hK K hbp
  clear C
  iterate 3 (refine wpPlanM_plain rfl (fun K hK => ?_); go_simp; refine hK _ ?_; clear hK K)
  refine wpPlanM_nil ?_
  by_cases hl0 : lv = 0
  · have tl : ((lv : Int) == 0) = true := by simp; omega
    clear hl0
    go_wp2_with fail
    refine (sanity_any10 _).mono ?_
    rintro e w18 ⟨rfl, hb⟩
    have hbp := Lib.hid hb
    replace R1 := Lib.hid (R1.out.below (hb.mono E.out.size))
    replace E : Hid (Below w.heap.size w w18) := E.out.trans (hb.mono E.out.size)
    replace M1 := Lib.hid (M1.out.below hb)
    replace X1 := Lib.hid (X1.out.below hb X1.out.lt)
    clear hb
    clear hbp
    go_wp2_with fail
    go_ret
    exact ⟨rfl, E.out⟩
  have tl : ((lv : Int) == 0) = false := by simp; omega
  obtain ⟨q, hq⟩ : ∃ q, lv = q + 1 := ⟨lv - 1, by omega⟩
  have gR := Lib.hid (hbel.out q hq)
  have tq : (lv : Int) - 1 = (q : Int) := by omega
  have hq3 : q ≤ 2 := by omega
  clear hq hl0 hbel
  have pX1_0 : w17.cell? ⟨w.heap.size, 0, none⟩ = some (.slice h.a1 h.n1 h.c1) := X1.out.cell (j := 0) rfl
  have pX1_1 : w17.cell? ⟨w.heap.size, 1, none⟩ = some (.slice h.a2 h.n2 h.c2) := X1.out.cell (j := 1) rfl
  have pX1_2 : w17.cell? ⟨w.heap.size, 2, none⟩ = some (.slice h.a3 h.n3 h.c3) := X1.out.cell (j := 2) rfl
  have pX1_3 : w17.cell? ⟨w.heap.size, 3, none⟩ = some (.int .i64 h.o) := X1.out.cell (j := 3) rfl
  go_wp2_with fail
  clear pX1_0 pX1_1 pX1_2 pX1_3
  have C := memZ (by have := (Dm.ok_le hc.out).1; omega) lv k M1.out
  try unfold Hd.val at C
  refine (C).mono ?_
  rintro e w18 ⟨A6, nn, c6, rfl, hn6, hs6, r6, hb⟩
  have hbp := Lib.hid hb
  replace R1 := Lib.hid (R1.out.below (hb.mono E.out.size))
  replace E : Hid (Below w.heap.size w w18) := E.out.trans (hb.mono E.out.size)
  replace M1 := Lib.hid (M1.out.below hb)
  replace X1 := Lib.hid (X1.out.below hb X1.out.lt)
  clear hb
  have hn6' := Lib.hid hn6
  clear hn6
  have r6' := Lib.hid r6
  clear r6
  clear hbp
  clear C
  have hO := Lib.hid (ownZ_nil w18 w18.heap.size)
  go_wp2_with fail
  go_loopw [137, 19] (fun i v wr => ∃ j : Nat, j ≤ nn ∧ i = .int .i64 j ∧ Hid (OwnZ wr w18.heap.size v ((d.belowI lv k).take j)) ∧ Hid (Below w18.heap.size w18 wr)) (fun i _ _ => nn - (intOf i).toNat)
  case atStart => exact ⟨0, by omega, rfl, hO.out, Below.refl _ _⟩
  case round =>
    obtain ⟨j, hj, rfl, ho, hBw⟩ := hrel
    have M2 := Lib.hid (M1.out.below hBw.out)
    have Y1 := Lib.hid (X1.out.below hBw.out X1.out.lt)
    have R4 := Lib.hid (R1.out.below (hBw.out.mono E.out.size))
    have r8 := Lib.hid (r6'.out.below hBw.out)
    have E2 : Hid (Below w.heap.size w wr) := E.out.trans (hBw.out.mono E.out.size)
    by_cases hjn : j < nn
    · have t2 : (j : Int) < (nn : Int) := by omega
      have t3 : 0 ≤ (j : Int) := by omega
      obtain ⟨v, hv⟩ : ∃ v, (d.memI lv k)[j]? = some v := ⟨_, List.getElem?_eq_getElem (by have := hn6'.out; omega)⟩
      obtain ⟨ad, ead, _, hca⟩ := r8.out.look (k := j) (u := iv v) (by rw [List.getElem?_map, hv]; rfl)
      have hnx := Lib.hid (belowI_next hv)
      subst ead
      unfold iv at hca
      clear hv
      obtain ⟨ov, hov⟩ : ∃ z, z = d.of (q : Int) v := ⟨_, rfl⟩
      have hov' : Hid (d.of (q : Int) v = ov) := hov.symm
      have hnx2 : Hid ((d.belowI lv k).take (j + 1) = (d.belowI lv k).take j ++ [ov]) := by have := hnx.out; rw [tq, ← hov] at this; exact this
      clear hov hnx
      have hll : ((d.belowI lv k).take j).length ≤ 1000000000000 := by rw [List.length_take]; omega
      generalize (d.belowI lv k).take j = LL at ho hnx2 hll
      have p0 : wr.cell? ⟨w.heap.size, 0, none⟩ = some (.slice h.a1 h.n1 h.c1) := Y1.out.cell (j := 0) rfl
      have p1 : wr.cell? ⟨w.heap.size, 1, none⟩ = some (.slice h.a2 h.n2 h.c2) := Y1.out.cell (j := 1) rfl
      have p2 : wr.cell? ⟨w.heap.size, 2, none⟩ = some (.slice h.a3 h.n3 h.c3) := Y1.out.cell (j := 2) rfl
      have p3 : wr.cell? ⟨w.heap.size, 3, none⟩ = some (.int .i64 h.o) := Y1.out.cell (j := 3) rfl
      go_wp2_with fail
      clear p0 p1 p2 p3 hca
      have C := ofF M2.out hov'.out
      unfold Hd.val at C
      refine C.mono ?_
      rintro e w21 ⟨rfl, hb⟩
      clear C
      have ho2 := Lib.hid (ho.out.keep hb)
      have hsz : w18.heap.size ≤ w21.heap.size := Nat.le_trans hBw.out.size hb.size
      have hB2 := Lib.hid (hBw.out.trans (hb.mono hBw.out.size))
      clear hb
      go_wp2_with (at_builtin; go_must (refine push_z rfl _ _ rfl w18.heap.size u19 LL ov rfl rfl ho2.out hll hsz ?_); intro v' w3 ho3 hg3)
      have hB3 := Lib.hid (below_grown hB2.out ho2.out hg3 hsz)
      go_roundw
      case rel => exact ⟨j + 1, by omega, by go_num, by rw [hnx2.out]; exact ho3, hB3⟩
      case measure => simp [intOf]; omega
    · have t2 : ¬ (j : Int) < (nn : Int) := by omega
      obtain rfl : j = nn := by omega
      have hbl : Hid ((d.belowI lv k).take j = d.belowI lv k ∧ (d.belowI lv k).length = j) := by
        have hlen : (d.belowI lv k).length = j := by unfold Dm.belowI; rw [List.length_map, ← hn6'.out]
        exact ⟨by rw [List.take_of_length_le (by omega)], hlen⟩
      have ho' := ho.out
      rw [hbl.out.1] at ho'
      obtain ⟨A9, c9, e9, _, _, _, r9⟩ := ho'.slice
      have h9 := hbl.out.2
      rw [h9] at e9
      subst e9
      have r9' := Lib.hid r9
      clear r9 h9 ho' ho hO
      go_wp2_with fail
      refine (sanity_any10 _).mono ?_
      rintro e w31 ⟨rfl, hb⟩
      have M3 := Lib.hid (M2.out.below hb)
      have Y2 := Lib.hid (Y1.out.below hb Y1.out.lt)
      have E3 : Hid (Below w.heap.size w w31) := E2.out.trans (hb.mono E2.out.size)
      have R5 := Lib.hid (R4.out.below (hb.mono E2.out.size))
      have r10 := Lib.hid (r9'.out.below hb)
      have hws := Lib.hid hb.size
      clear hb
      have p0 : w31.cell? ⟨w.heap.size, 0, none⟩ = some (.slice h.a1 h.n1 h.c1) := Y2.out.cell (j := 0) rfl
      have p1 : w31.cell? ⟨w.heap.size, 1, none⟩ = some (.slice h.a2 h.n2 h.c2) := Y2.out.cell (j := 1) rfl
      have p2 : w31.cell? ⟨w.heap.size, 2, none⟩ = some (.slice h.a3 h.n3 h.c3) := Y2.out.cell (j := 2) rfl
      have p3 : w31.cell? ⟨w.heap.size, 3, none⟩ = some (.int .i64 h.o) := Y2.out.cell (j := 3) rfl
      go_wp2_with fail
      clear p0 p1 p2 p3
      have C := leftV (c := c) (cf := c9) M3.out R5.out E3.out.size r10.out hws.out hnn.out hns hbl.out.2.symm (by omega) gR.out
      unfold Hd.val at C
      refine C.mono ?_
      rintro e w32 ⟨rfl, hb⟩
      clear C
      have hend := Lib.hid (E3.out.trans (hb.mono E3.out.size))
      clear hb
      have trr : ((REST : Int) == (REST : Int)) = true := by simp
      go_wp2_with fail
      go_ret
      exact ⟨rfl, hend.out⟩
end Go.Proofs.Ytelcaddgkjkegaa
