/-
  Stage 10 (domain): the reference's Copy.
-/
import Derived.Test.YtoonpgedioocgaaDms
namespace Go.Proofs.Ytoonpgedioocgaa
set_option linter.unusedVariables false
set_option linter.unusedSimpArgs false
open Go.RowKit

theorem keptNone {w w' : World} {base size n : Nat} {e : TypeId} {v : Value} {xs : List Value} (h : w.ownsRow base e size v n xs) (hg : w.grownBy w' none) : w'.ownsRow base e size v n xs := by
  cases hk : v.ownBlock with
  | none => exact h.kept hg (.inl hk)
  | some k => exact h.kept hg (.inr (by rw [hk]; simp))
set_option maxRecDepth 100000 in
theorem build_owners (o : Int) (w : World) : (Instr.build 25 #[(3, .int .i64 o)]).run Try.prog w = .ok (.agg #[.slice none 0 0, .slice none 0 0, .slice none 0 0, .int .i64 o]) w := by
  first | rfl | kernel_rfl

set_option maxRecDepth 100000 in
set_option maxHeartbeats 4000000 in
theorem rcopy_any {B : Nat} (h : Hd) (d : Dm) (w : World) (m : DomM w B h d) (hs : h.n1 ≤ 1000000 ∧ h.n2 ≤ 1000000 ∧ h.n3 ≤ 1000000) :
    Calls Try.prog 40 #[h.val] w fun e w' => ∃ v1 v2 v3, e = .returned (.agg #[v1, v2, v3, .int .i64 d.O]) ∧ OwnDom w' w.heap.size v1 v2 v3 d ∧ Below w.heap.size w w' := by
  have hbz := fun (o : Int) W => build_owners o W
  obtain ⟨W1, hW1⟩ : ∃ W1, W1 = ((w.alloc (.cells h.cells.toArray 25)).alloc (.cells zeroD.toArray 25)).alloc (.cells #[.slice none 0 0, .slice none 0 0, .slice none 0 0, .int .i64 h.o] 25) := ⟨_, rfl⟩
  have hB1 : Hid (Below w.heap.size w W1) := by show Below _ _ _; rw [hW1]; exact (((Below.refl _ _).alloc (Nat.le_refl _) _).alloc (by simp) _).alloc (by simp; omega) _
  have s1 : Hid (W1.heap.size = w.heap.size + 1 + 1 + 1) := by show _ = _; rw [hW1]; simp
  have hR1 : Hid (Blk W1 w.heap.size h.cells 25) := by show Blk _ _ _ _; rw [hW1]; exact ((Blk.new _ _ _).alloc _).alloc _
  have hZ1 : Hid (Blk W1 (w.heap.size + 1) zeroD 25) := by show Blk _ _ _ _; rw [hW1]; exact ((Blk.new _ _ _).alloc _).at (by simp)
  have hO1 : Hid (Blk W1 (w.heap.size + 1 + 1) [.slice none 0 0, .slice none 0 0, .slice none 0 0, .int .i64 h.o] 25) := by show Blk _ _ _ _; rw [hW1]; exact (Blk.new _ [_, _, _, _] _).at (by simp)
  have hm1 := Lib.hid (m.below hB1.out)
  have hle := Lib.hid m.le
  have hW1' := Lib.hid hW1
  have hdd := Lib.hid size_dom
  have hii := Lib.hid size_ints
  have hrr := Lib.hid size_racks
  have hun : Hid (Try.prog.underlying 25 = _) := Try.underlying25
  have heo : Hid (h.o = d.O) := m.eo
  have hss := Lib.hid hs
  unfold Hd.cells at hR1 hW1'
  clear hW1 m hs
  obtain ⟨a1, n1, c1, a2, n2, c2, a3, n3, c3, o⟩ := h
  dsimp only at *
  unfold Hd.val zeroD at *
  dsimp only
  have q0 := hR1.out.cell (j := 0) rfl
  have q1 := hR1.out.cell (j := 1) rfl
  have q2 := hR1.out.cell (j := 2) rfl
  have r0 := hO1.out.cell (j := 0) rfl
  have r1 := hO1.out.cell (j := 1) rfl
  have r2 := hO1.out.cell (j := 2) rfl
  have hl0 : Hid (([] : List Int).length + d.D.length ≤ 1000000000000) := by show _ ≤ _; have := hm1.out.l1; dsimp only at this; have := hss.out; simp; omega
  have hl1 : Hid (([] : List (Int × Bool)).length + d.R.length ≤ 1000000000000) := by show _ ≤ _; have := hm1.out.l2; dsimp only at this; have := hss.out; simp; omega
  have hl2 : Hid (([] : List Int).length + d.H.length ≤ 1000000000000) := by show _ ≤ _; have := hm1.out.l3; dsimp only at this; have := hss.out; simp; omega
  have F1 : Hid True := trivial
  have F2 : Hid True := trivial
  have F3 : Hid True := trivial
  have F4 : Hid True := trivial
  have F5 : Hid True := trivial
  have F6 : Hid True := trivial
  have F7 : Hid True := trivial
  have eW := hW1'.out
  subst eW
  go_enter Try.func40, Try.ntmps40
  go_wp2_with (first | (clear F1; refine push_zs rfl _ _ rfl (w.heap.size + 1 + 1 + 1) _ [] d.D _ a1 n1 c1 hm1.out.l1 hm1.out.k1.2.2 rfl rfl hm1.out.r1 (ownZ_nil _ _) hl0.out (Nat.le_of_eq s1.out.symm) ?_; intro v1 wA oA bA gA obA; replace oA : OwnZ wA (w.heap.size + 1 + 1 + 1) v1 d.D := oA; obtain ⟨A1, k1, e1, _⟩ := oA.slice; subst e1; have hmA := Lib.hid (hm1.out.keep (bA.mono (by have := hle.out; omega))); have bA' := Lib.hid bA; have oA' := Lib.hid oA; have obA' := Lib.hid obA; have hkA := Lib.hid (hO1.out.below bA (by omega)); clear bA oA gA obA) | (clear F2; refine wpList_blk_store rfl 22 _ _ rfl 0 (.slice A1 d.D.length k1) rfl rfl hkA.out hii.out (by simp [Value.cells]) (slice_one _ _ _) ?_; intro wB hB oB; have hB' := Lib.hid hB.out; have oB' := Lib.hid oB; have hmB := Lib.hid (hmA.out.keep (oB.below (by have := hle.out; omega))); have x1 := Blk.cell hB.out (j := 1) rfl; have x2 := (Blk.only (hR1.out.below bA'.out (by omega)) oB (by omega)).cell (j := 1) rfl; clear hB oB) | (clear F3; refine push_rs rfl _ _ rfl (w.heap.size + 1 + 1 + 1) _ [] d.R _ a2 n2 c2 hmB.out.l2 hmB.out.k2.2.2 rfl rfl hmB.out.r2 (ownR_nil _ _) hl1.out (by rw [oB'.out.size]; exact Nat.le_trans (Nat.le_of_eq s1.out.symm) bA'.out.size) ?_; intro v2 wC oC bC gC obC; replace oC : OwnR wC (w.heap.size + 1 + 1 + 1) v2 d.R := oC; have gC' : Hid (wB.grownBy wC none) := gC; obtain ⟨A2, k2, e2, _⟩ := oC.slice; subst e2; have hmC := Lib.hid (hmB.out.keep (bC.mono (by have := hle.out; omega))); have bC' := Lib.hid bC; have oC' := Lib.hid oC; have obC' := Lib.hid obC; have hkC := Lib.hid (Blk.below hB'.out bC (by omega)); clear bC oC gC obC x1 x2) | (clear F4; refine wpList_blk_store rfl 23 _ _ rfl 1 (.slice A2 d.R.length k2) rfl rfl hkC.out hrr.out (by simp [Value.cells, splice]) (slice_one _ _ _) ?_; intro wD hD oD; have hD' := Lib.hid hD.out; have oD' := Lib.hid oD; have hmD := Lib.hid (hmC.out.keep (oD.below (by have := hle.out; omega))); have x1 := Blk.cell hD.out (j := 2) rfl; have x2 := (Blk.only ((Blk.only (hR1.out.below bA'.out (by omega)) oB'.out (by omega)).below bC'.out (by omega)) oD (by omega)).cell (j := 2) rfl; clear hD oD) | (clear F5; refine push_zs rfl _ _ rfl (w.heap.size + 1 + 1 + 1) _ [] d.H _ a3 n3 c3 hmD.out.l3 hmD.out.k3.2.2 rfl rfl hmD.out.r3 (ownZ_nil _ _) hl2.out (by rw [oD'.out.size]; refine Nat.le_trans ?_ bC'.out.size; rw [oB'.out.size]; exact Nat.le_trans (Nat.le_of_eq s1.out.symm) bA'.out.size) ?_; intro v3 wE oE bE gE obE; replace oE : OwnZ wE (w.heap.size + 1 + 1 + 1) v3 d.H := oE; have gE' : Hid (wD.grownBy wE none) := gE; obtain ⟨A3, k3, e3, _⟩ := oE.slice; subst e3; have bE' := Lib.hid bE; have oE' := Lib.hid oE; have obE' := Lib.hid obE; have hkE := Lib.hid (Blk.below hD'.out bE (by omega)); clear bE oE gE obE x1 x2) | (clear F6; refine wpList_blk_store rfl 22 _ _ rfl 2 (.slice A3 d.H.length k3) rfl rfl hkE.out hii.out (by simp [Value.cells, splice]) (slice_one _ _ _) ?_; intro wF hF oF; have oF' := Lib.hid oF; have hF' : Hid (Blk wF (w.heap.size + 1 + 1) [.slice A1 d.D.length k1, .slice A2 d.R.length k2, .slice A3 d.H.length k3, .int .i64 o] 25) := hF; have hZF := Lib.hid (Blk.only (((Blk.only ((Blk.only (hZ1.out.below bA'.out (by omega)) oB'.out (by omega)).below bC'.out (by omega)) oD'.out (by omega))).below bE'.out (by omega)) oF (by omega)); clear hF oF) | (refine wpList_blk_load rfl 25 _ rfl 0 rfl hF'.out _ (take_all0 _) _ hun.out rfl hdd.out ?_) | (clear F7; refine wpList_row_store rfl 25 _ _ rfl [.slice A1 d.D.length k1, .slice A2 d.R.length k2, .slice A3 d.H.length k3, .int .i64 o] rfl rfl hZF.out hdd.out rfl (by intro u hu; simp at hu; rcases hu with rfl | rfl | rfl | rfl <;> rfl) ?_; intro wG hG oG))
  refine bodyPost_ret (ret_blk rfl _ _ (g := w.heap.size + 1) rfl hG.out _ hun.out rfl hdd.out) rfl ?_
  have z1 := s1.out
  have zA := bA'.out.size
  have zB := oB'.out.size
  have zC := bC'.out.size
  have zD := oD'.out.size
  have zE := bE'.out.size
  have zF := oF'.out.size
  have tB : Below w.heap.size w wF := (((((hB1.out.trans (bA'.out.mono (by omega))).trans (oB'.out.below (by omega))).trans (bC'.out.mono (by omega))).trans (oD'.out.below (by omega))).trans (bE'.out.mono (by omega))).trans (oF'.out.below (by omega))
  refine ⟨_, _, _, (by rw [← heo.out]), ?_, tB.trans (oG.below (by omega))⟩
  have n1 := notB oA'.out (b := w.heap.size + 1 + 1) (by omega)
  have n2 := notB oA'.out (b := w.heap.size + 1) (by omega)
  have n3 := notB oC'.out (b := w.heap.size + 1 + 1) (by omega)
  have n4 := notB oC'.out (b := w.heap.size + 1) (by omega)
  have n5 := notB oE'.out (b := w.heap.size + 1 + 1) (by omega)
  have n6 := notB oE'.out (b := w.heap.size + 1) (by omega)
  have u1 := ((((keptNone (oA'.out.kept (onlyGrown oB'.out) n1) gC'.out).kept (onlyGrown oD'.out) n1) |> fun hh => keptNone hh gE'.out).kept (onlyGrown oF'.out) n1).kept (onlyGrown oG) n2
  have u2 := ((keptNone (oC'.out.kept (onlyGrown oD'.out) n3) gE'.out).kept (onlyGrown oF'.out) n3).kept (onlyGrown oG) n4
  have u3 := (oE'.out.kept (onlyGrown oF'.out) n5).kept (onlyGrown oG) n6
  refine ⟨OwnZ.lower u1 (by omega), OwnR.lower u2 (by omega), OwnZ.lower u3 (by omega), fun g h1 h2 => ?_, fun g h1 h2 => ?_, fun g h1 h2 => ?_⟩
  · have e1 := (oA'.out.lt g h1).2
    rcases obC'.out with h | h
    · rw [h] at h2; cases h2
    · rw [h] at h2; injection h2 with h2; omega
  · have e1 := (oA'.out.lt g h1).2
    rcases obE'.out with h | h
    · rw [h] at h2; cases h2
    · rw [h] at h2; injection h2 with h2; omega
  · have e1 := (oC'.out.lt g h1).2
    rcases obE'.out with h | h
    · rw [h] at h2; cases h2
    · rw [h] at h2; injection h2 with h2; omega
end Go.Proofs.Ytoonpgedioocgaa
