/-
  Stage 10 (domain): clone.
-/
import Derived.Test.YtelcaddgkjkegaaDmq
namespace Go.Proofs.Ytelcaddgkjkegaa
set_option linter.unusedVariables false
set_option linter.unusedSimpArgs false
open Go.RowKit

/-- Domains that a call made itself, their lists apart. -/
structure OwnDom (w : World) (base : Nat) (v1 v2 v3 : Value) (d : Dm) : Prop where
  o1 : OwnZ w base v1 d.D
  o2 : OwnR w base v2 d.R
  o3 : OwnZ w base v3 d.H
  a12 : ∀ g, v1.ownBlock = some g → v2.ownBlock ≠ some g
  a13 : ∀ g, v1.ownBlock = some g → v3.ownBlock ≠ some g
  a23 : ∀ g, v2.ownBlock = some g → v3.ownBlock ≠ some g
theorem OwnDom.keep {w w' : World} {base : Nat} {v1 v2 v3 : Value} {d : Dm} (h : OwnDom w base v1 v2 v3 d) (hb : Below w.heap.size w w') : OwnDom w' base v1 v2 v3 d :=
  ⟨h.o1.keep hb, h.o2.keep hb, h.o3.keep hb, h.a12, h.a13, h.a23⟩
theorem OwnR.slice {w : World} {base : Nat} {v : Value} {l : List (Int × Bool)} (h : OwnR w base v l) : ∃ A c, v = .slice A l.length c ∧ l.length ≤ c ∧ c ≤ maxLen ∧ (A = none → c = 0) ∧ Rds w w.heap.size A (rflat l) := by
  have ⟨A, c, hv, h1, h2, h3⟩ : ∃ A c, v = .slice A l.length c ∧ l.length ≤ c ∧ c ≤ maxLen ∧ (A = none → c = 0) := by
    rcases h.2 with ⟨rfl, h0⟩ | ⟨g, cap, cur, rfl, _, _, h1, h2, _⟩
    · exact ⟨none, 0, by rw [h0], by omega, Nat.zero_le _, fun _ => rfl⟩
    · exact ⟨_, cap, rfl, h1, h2, fun h => by cases h⟩
  subst hv
  refine ⟨A, c, rfl, h1, h2, h3, fun hn => ?_⟩
  have hpos : 0 < l.length := by
    rcases Nat.eq_zero_or_pos l.length with h0 | h0
    · exact absurd (by rw [List.eq_nil_of_length_eq_zero h0]; rfl) hn
    · exact h0
  obtain ⟨g, cap, hv, _, hlt⟩ := h.form hpos
  have hA : A = some ⟨g, 0, none⟩ := by injection hv
  subst hA
  exact ⟨_, rfl, hlt, h.cells (g := g) rfl⟩
/-- What is known of the numbers of domains. -/
structure DmFit (d : Dm) : Prop where
  f1 : ∀ x ∈ d.D, Wm.Fits x
  f2 : ∀ r ∈ d.R, Wm.Fits r.1
  f3 : ∀ x ∈ d.H, Wm.Fits x
  f4 : Wm.Fits d.O
  l1 : d.D.length ≤ 140737488355328
  l2 : d.R.length ≤ 140737488355328
  l3 : d.H.length ≤ 140737488355328
theorem DomM.fit {w : World} {B : Nat} {h : Hd} {d : Dm} (m : DomM w B h d) : DmFit d := ⟨m.f1, m.f2, m.f3, m.f4, by rw [← m.l1]; exact m.s1, by rw [← m.l2]; exact m.s2, by rw [← m.l3]; exact m.s3⟩
theorem OwnDom.dom {w : World} {base : Nat} {v1 v2 v3 : Value} {d : Dm} (h : OwnDom w base v1 v2 v3 d) (f : DmFit d) : ∃ h' : Hd, v1 = .slice h'.a1 h'.n1 h'.c1 ∧ v2 = .slice h'.a2 h'.n2 h'.c2 ∧ v3 = .slice h'.a3 h'.n3 h'.c3 ∧ h'.o = d.O ∧ DomM w w.heap.size h' d := by
  obtain ⟨A1, c1, e1, p1, q1, r1, s1⟩ := h.o1.slice
  obtain ⟨A2, c2, e2, p2, q2, r2, s2⟩ := h.o2.slice
  obtain ⟨A3, c3, e3, p3, q3, r3, s3⟩ := h.o3.slice
  exact ⟨⟨A1, d.D.length, c1, A2, d.R.length, c2, A3, d.H.length, c3, d.O⟩, e1, e2, e3, rfl, ⟨s1, s2, s3, rfl, rfl, rfl, ⟨p1, q1, r1⟩, ⟨p2, q2, r2⟩, ⟨p3, q3, r3⟩, f.l1, f.l2, f.l3, rfl, Nat.le_refl _, f.f1, f.f2, f.f3, f.f4⟩⟩
theorem slice_one (A : Option Addr) (n c : Nat) : ∀ u ∈ (Value.slice A n c).cells.toList, u.oneCell' = true := by
  intro u hu
  simp [Value.cells] at hu
  subst hu
  rfl
theorem size_ints : (Try.prog.info? 22).map (·.size) = some 1 := by kernel_rfl
theorem size_racks : (Try.prog.info? 23).map (·.size) = some 1 := by kernel_rfl
theorem cells_one (h : Hd) : ∀ u ∈ h.cells, u.oneCell' = true := by
  intro u hu
  unfold Hd.cells at hu
  simp at hu
  rcases hu with rfl | rfl | rfl | rfl <;> rfl
/-- A box of its own is built of the zero value, or loaded and stored. -/
def zeroD : List Value := [.slice none 0 0, .slice none 0 0, .slice none 0 0, .int .i64 0]

set_option maxRecDepth 100000 in
set_option maxHeartbeats 4000000 in
theorem dclone_any {B : Nat} (h : Hd) (d : Dm) (w : World) (m : DomM w B h d) (hs : h.n1 ≤ 1000000 ∧ h.n2 ≤ 1000000 ∧ h.n3 ≤ 1000000) :
    Calls Try.prog 29 #[h.val] w fun e w' => ∃ v1 v2 v3, e = .returned (.agg #[v1, v2, v3, .int .i64 d.O]) ∧ OwnDom w' w.heap.size v1 v2 v3 d ∧ Below w.heap.size w w' := by
  obtain ⟨W1, hW1⟩ : ∃ W1, W1 = (w.alloc (.cells h.cells.toArray 25)).alloc (.cells zeroD.toArray 25) := ⟨_, rfl⟩
  have hB1 : Hid (Below w.heap.size w W1) := by show Below _ _ _; rw [hW1]; exact ((Below.refl _ _).alloc (Nat.le_refl _) _).alloc (by simp) _
  have s1 : Hid (W1.heap.size = w.heap.size + 1 + 1) := by show _ = _; rw [hW1]; simp
  have hR1 : Hid (Blk W1 w.heap.size h.cells 25) := by show Blk _ _ _ _; rw [hW1]; exact (Blk.new _ _ _).alloc _
  have hZ1 : Hid (Blk W1 (w.heap.size + 1) zeroD 25) := by show Blk _ _ _ _; rw [hW1]; exact (Blk.new _ _ _).at (by simp)
  have hm1 := Lib.hid (m.below hB1.out)
  have hle := Lib.hid m.le
  have C1 := Lib.hid (fun W (hW : Below W1.heap.size W1 W) => have mm := hm1.out.below hW; cloneZ_any d.D h.a1 h.n1 h.c1 W mm.l1 mm.r1 mm.le mm.k1.2.2 hs.1)
  have C2 := Lib.hid (fun W (hW : Below W1.heap.size W1 W) => have mm := hm1.out.below hW; cloneR_any d.R h.a2 h.n2 h.c2 W mm.l2 mm.r2 mm.le mm.k2.2.2 hs.2.1)
  have C3 := Lib.hid (fun W (hW : Below W1.heap.size W1 W) => have mm := hm1.out.below hW; cloneZ_any d.H h.a3 h.n3 h.c3 W mm.l3 mm.r3 mm.le mm.k3.2.2 hs.2.2)
  have hW1' := Lib.hid hW1
  have hdd := Lib.hid size_dom
  have hii := Lib.hid size_ints
  have hrr := Lib.hid size_racks
  have hun : Hid (Try.prog.underlying 25 = _) := Try.underlying25
  have hlt1 := Lib.hid hR1.out.lt
  have heo : Hid (h.o = d.O) := m.eo
  unfold Hd.cells at hR1 hW1'
  have q1 : ∀ x : ExtOf W1.drew, x.world.cell? ⟨w.heap.size, 0, none⟩ = some (.slice h.a1 h.n1 h.c1) := fun x => (hR1.out.drew.below x.ext hlt1.out).cell (j := 0) rfl
  have q2 : ∀ x : ExtOf W1.drew, x.world.cell? ⟨w.heap.size, 1, none⟩ = some (.slice h.a2 h.n2 h.c2) := fun x => (hR1.out.drew.below x.ext hlt1.out).cell (j := 1) rfl
  have q3 : ∀ x : ExtOf W1.drew, x.world.cell? ⟨w.heap.size, 2, none⟩ = some (.slice h.a3 h.n3 h.c3) := fun x => (hR1.out.drew.below x.ext hlt1.out).cell (j := 2) rfl
  clear hW1 m hs
  obtain ⟨a1, n1, c1, a2, n2, c2, a3, n3, c3, o⟩ := h
  dsimp only at *
  unfold Hd.val zeroD at *
  dsimp only
  go_enter Try.func29, Try.ntmps29
  go_wp2_with fail
  generalize hg : (w.alloc _).alloc _ = Wg
  have hgW : W1 = Wg := by rw [← hg, hW1'.out]
  clear hg hW1'
  subst hgW
  refine wp_region_planM [10, 12, 14] [(true, 0), (true, 1), (true, 3), (true, 4), (true, 6), (true, 7), (false, 2), (true, 9), (false, 5), (false, 8), (false, 10), (true, 11), (false, 12), (true, 13), (false, 14)] (by decide) (by kernel_rfl) (by kernel_rfl) (by decide) (by intro c a d v w h; cases d <;> exact h) ?_
  change wpPlanM _ _ _ _ _ _ W1.drew
  iterate 6 (refine wpPlanM_plain rfl (fun K hK => ?_); go_simp; refine hK _ ?_; clear hK K)
  clear q1 q2 q3
  have hd0 : Hid (Below W1.heap.size W1 W1.drew) := (Below.refl _ _).drew
  refine wpPlanM_call rfl (fun K hK => ?_)
  go_wp2_with fail
  refine (C1.out W1.drew hd0.out).mono ?_
  rintro e w2 ⟨v1, rfl, ho1, hb2⟩
  have hb2' := Lib.hid hb2
  have hB2 : Hid (Below W1.heap.size W1 w2) := hd0.out.trans (hb2.mono hd0.out.size)
  have ho1' := Lib.hid ho1
  clear hb2 ho1
  go_wp2_with fail
  refine planPostL_normal ⟨.inr hb2'.out, hK _ _ ?_⟩
  clear hK K
  iterate 1 (refine wpPlanM_plain rfl (fun K hK => ?_); go_simp; refine hK _ ?_; clear hK K)
  refine wpPlanM_call rfl (fun K hK => ?_)
  go_wp2_with fail
  refine (C2.out w2 hB2.out).mono ?_
  rintro e w3 ⟨v2, rfl, ho2, hb3⟩
  have hb3' := Lib.hid hb3
  have hB3 : Hid (Below W1.heap.size W1 w3) := hB2.out.trans (hb3.mono hB2.out.size)
  have ho2' := Lib.hid ho2
  clear hb3 ho2
  go_wp2_with fail
  refine planPostL_normal ⟨.inr hb3'.out, hK _ _ ?_⟩
  clear hK K
  refine wpPlanM_call rfl (fun K hK => ?_)
  go_wp2_with fail
  refine (C3.out w3 hB3.out).mono ?_
  rintro e w4 ⟨v3, rfl, ho3, hb4⟩
  have hb4' := Lib.hid hb4
  have hB4 : Hid (Below W1.heap.size W1 w4) := hB3.out.trans (hb4.mono hB3.out.size)
  have ho3' := Lib.hid ho3
  clear hb4 ho3
  go_wp2_with fail
  refine planPostL_normal ⟨.inr hb4'.out, hK _ _ ?_⟩
  clear hK K
  have hOD : Hid (OwnDom w4 W1.heap.size v1 v2 v3 d) := by
    refine ⟨((ho1'.out.keep hb3'.out).keep hb4'.out).lower (hd0.out.size), (ho2'.out.keep hb4'.out).lower hB2.out.size, ho3'.out.lower hB3.out.size, fun g h1 h2 => ?_, fun g h1 h2 => ?_, fun g h1 h2 => ?_⟩
    · have e1 := (ho1'.out.lt g h1).2; have e2 := (ho2'.out.lt g h2).1; omega
    · have e1 := (ho1'.out.lt g h1).2; have e2 := (ho3'.out.lt g h2).1; have e3 := hb3'.out.size; omega
    · have e1 := (ho2'.out.lt g h1).2; have e2 := (ho3'.out.lt g h2).1; omega
  obtain ⟨A1, k1, e1, _⟩ := hOD.out.o1.slice
  obtain ⟨A2, k2, e2, _⟩ := hOD.out.o2.slice
  obtain ⟨A3, k3, e3, _⟩ := hOD.out.o3.slice
  have hR4 := Lib.hid (hR1.out.below hB4.out hlt1.out)
  have hZ4 := Lib.hid (hZ1.out.below hB4.out hZ1.out.lt)
  clear ho1' ho2' ho3' hb2' hb3' hb4' C1 C2 C3 hR1 hZ1
  subst e1
  subst e2
  subst e3
  generalize d.D.length = m1 at *
  generalize d.R.length = m2 at *
  generalize d.H.length = m3 at *
  refine wpPlanM_call rfl (fun K hK => ?_)
  refine wpList_blk_store rfl 22 _ _ rfl 0 (.slice A1 m1 k1) rfl rfl hR4.out hii.out (by simp [Value.cells]) (slice_one _ _ _) ?_
  intro w5 hw5 ho5
  refine wpList_end (planPostL_normal ⟨.inl (by simp), hK _ _ ?_⟩)
  clear hK K
  have hR5 : Hid (Blk w5 w.heap.size [.slice A1 m1 k1, .slice a2 n2 c2, .slice a3 n3 c3, .int .i64 o] 25) := hw5
  iterate 1 (refine wpPlanM_plain rfl (fun K hK => ?_); go_simp; refine hK _ ?_; clear hK K)
  refine wpPlanM_call rfl (fun K hK => ?_)
  refine wpList_blk_store rfl 23 _ _ rfl 1 (.slice A2 m2 k2) rfl rfl hR5.out hrr.out (by simp [Value.cells]) (slice_one _ _ _) ?_
  intro w6 hw6 ho6
  refine wpList_end (planPostL_normal ⟨.inl (by simp), hK _ _ ?_⟩)
  clear hK K
  have hR6 : Hid (Blk w6 w.heap.size [.slice A1 m1 k1, .slice A2 m2 k2, .slice a3 n3 c3, .int .i64 o] 25) := hw6
  iterate 1 (refine wpPlanM_plain rfl (fun K hK => ?_); go_simp; refine hK _ ?_; clear hK K)
  refine wpPlanM_call rfl (fun K hK => ?_)
  refine wpList_blk_store rfl 22 _ _ rfl 2 (.slice A3 m3 k3) rfl rfl hR6.out hii.out (by simp [Value.cells]) (slice_one _ _ _) ?_
  intro w7 hw7 ho7
  refine wpList_end (planPostL_normal ⟨.inl (by simp), hK _ _ ?_⟩)
  clear hK K
  have hR7 : Hid (Blk w7 w.heap.size [.slice A1 m1 k1, .slice A2 m2 k2, .slice A3 m3 k3, .int .i64 o] 25) := hw7
  have hon : Hid (Only w.heap.size w4 w7) := (ho5.trans ho6).trans ho7
  have hZ7 := Lib.hid (hZ4.out.only hon.out (by omega))
  refine wpPlanM_nil ?_
  clear hw5 hw6 hw7 ho5 ho6 ho7 hR4 hR5 hR6 hZ4
  go_wp2_with (first | (refine wpList_blk_load rfl 25 _ rfl 0 rfl hR7.out _ (take_all0 _) _ hun.out rfl hdd.out ?_) | (refine wpList_row_store rfl 25 _ _ rfl [.slice A1 m1 k1, .slice A2 m2 k2, .slice A3 m3 k3, .int .i64 o] rfl rfl hZ7.out hdd.out rfl (by intro u hu; simp at hu; rcases hu with rfl | rfl | rfl | rfl <;> rfl) ?_; intro w8 hw8 ho8))
  have hBz : Below w.heap.size w w8 := ((hB1.out.trans (hB4.out.mono hB1.out.size)).trans (hon.out.below (Nat.le_refl _))).trans (ho8.below (by omega))
  have s1' := s1.out
  refine bodyPost_ret (ret_blk rfl _ _ (g := w.heap.size + 1) rfl hw8.out _ hun.out rfl hdd.out) rfl ?_
  refine ⟨_, _, _, by rw [← heo.out], ?_, hBz⟩
  have hk4 : ∀ (v : Value), (∀ g, v.ownBlock = some g → W1.heap.size ≤ g ∧ g < w4.heap.size) → w4.grownBy w7 (some w.heap.size) ∧ (v.ownBlock = none ∨ v.ownBlock ≠ some w.heap.size) := fun v hv => by
    refine ⟨⟨hon.out.os, hon.out.tape, hon.out.output, by rw [hon.out.size]; exact Nat.le_refl _, fun i hi hne => hon.out.block i (fun e => hne (by rw [e]))⟩, ?_⟩
    cases hb : v.ownBlock with
    | none => exact .inl rfl
    | some g => exact .inr (fun e => by injection e with e; have := (hv g hb).1; omega)
  have hk8 : ∀ (v : Value), (∀ g, v.ownBlock = some g → W1.heap.size ≤ g) → w7.grownBy w8 (some (w.heap.size + 1)) ∧ (v.ownBlock = none ∨ v.ownBlock ≠ some (w.heap.size + 1)) := fun v hv => by
    refine ⟨⟨ho8.os, ho8.tape, ho8.output, by rw [ho8.size]; exact Nat.le_refl _, fun i hi hne => ho8.block i (fun e => hne (by rw [e]))⟩, ?_⟩
    cases hb : v.ownBlock with
    | none => exact .inl rfl
    | some g => exact .inr (fun e => by injection e with e; have := hv g hb; omega)
  obtain ⟨o1, o2, o3, x1, x2, x3⟩ := hOD.out
  have r1 := hk4 _ (fun g hg => o1.lt g hg)
  have r2 := hk4 _ (fun g hg => o2.lt g hg)
  have r3 := hk4 _ (fun g hg => o3.lt g hg)
  have t1 := hk8 _ (fun g hg => (o1.lt g hg).1)
  have t2 := hk8 _ (fun g hg => (o2.lt g hg).1)
  have t3 := hk8 _ (fun g hg => (o3.lt g hg).1)
  exact ⟨OwnZ.lower ((o1.kept r1.1 r1.2).kept t1.1 t1.2) (by omega), OwnR.lower ((o2.kept r2.1 r2.2).kept t2.1 t2.2) (by omega), OwnZ.lower ((o3.kept r3.1 r3.2).kept t3.1 t3.2) (by omega), x1, x2, x3⟩
end Go.Proofs.Ytelcaddgkjkegaa
