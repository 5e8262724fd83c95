/-
  Contracts of stage 7: Distance. (Written by tools/gences.py.)
-/
import Derived.Test.YtcnljemnkhmfcaaDoorCe5
import Derived.Test.YtcnljemnkhmfcaaDoorCe3
import Derived.Test.YtcnljemnkhmfcaaDoorCe6
import Derived.Deep.CutRange
namespace Go.Proofs.YtcnljemnkhmfcaaDoor
set_option linter.unusedVariables false
set_option linter.unusedSimpArgs false
open Go.RowKit
attribute [local go_sem] Oper.semAt_some

theorem size_int7 : (Tryd.prog.info? 3).map (·.size) = some 1 := by kernel_rfl
theorem one_int7 (k : IntKind) (z : Int) : ∀ u ∈ (Value.int k z).cells.toList, u.oneCell' = true := by
  intro u hu
  simp [Value.cells] at hu
  subst hu
  rfl
/-- What remains of p pieces where those of y are lost. -/
def lef7 (p y : Nat) : Nat := 2 ^ p - (y + 1)
/-- What Distance says of a code in order. -/
def DisR (D p : Nat) (Gs : List (List Int)) (d : Nat) : Prop :=
  (∀ y, 0 < y → y < 2 ^ p → cnt7 y < d → Full7 (pcL D Gs (lef7 p y) p) D) ∧ d ≤ p ∧ (d = p ∨ ∃ y, 0 < y ∧ y < 2 ^ p ∧ cnt7 y = d ∧ ¬ Full7 (pcL D Gs (lef7 p y) p) D)
/-- What Distance ends with. -/
def DisEnd (w : World) (D G : Int) (Gs : List (List Int)) (e : Ending) (w' : World) : Prop :=
  (∃ d : Nat, ∃ er : Int, e = .returned (.tuple #[.int .i64 (d : Int), .int .i64 er]) ∧ ((chkE D Gs G ≠ 0 ∧ er = chkE D Gs G ∧ d = 0) ∨ (chkE D Gs G = 0 ∧ er = 0 ∧ DisR D.toNat (D.toNat + (Gs.length + G.toNat)) Gs d))) ∧ Below w.heap.size w w'
/-- What stands behind Distance's drawing region. -/
def DisC (W1 : World) (D N p : Nat) (Gs : List (List Int)) (v5 v6 : Value) (W : World) : Prop :=
  ∃ gR gL x bl, v5 = .pointer (some ⟨gR, 0, none⟩) ∧ v6 = .pointer (some ⟨gL, 0, none⟩) ∧ W1.heap.size ≤ gR ∧ W1.heap.size ≤ gL ∧ gR ≠ gL ∧ x ≠ gL ∧ (∀ b ∈ bl, b ≠ gL) ∧ Blk W gR [.slice (some ⟨x, 0, none⟩) N N] 29 ∧ Blk W gL [.int .i64 (p : Int)] 3 ∧ Om W W1.heap.size x bl (PM (par D Gs) N) [] ∧ Below W1.heap.size W1 W
theorem Om.lts7 {w : World} {base g : Nat} {bs : List Nat} {M : List (List UInt8)} {rest : List Value} (h : Om w base g bs M rest) : g < w.heap.size ∧ ∀ b ∈ bs, b < w.heap.size := ⟨h.out.lt, fun b hb' => by
  obtain ⟨j, hj⟩ := List.getElem?_of_mem hb'
  have hjl := (List.getElem?_eq_some_iff.1 hj).1
  exact (h.row j b _ hj (List.getElem?_eq_getElem (by rw [← h.len]; exact hjl))).lt⟩
set_option maxRecDepth 100000 in
set_option maxHeartbeats 1000000 in
theorem distance_bad {B : Nat} (D G : Int) (Gs : List (List Int)) (n c : Nat) (A : Option Addr) (w : World) (hM : CodM w B D A n c G Gs) (h0 : chkE D Gs G ≠ 0) :
    Calls Tryd.prog 26 #[cdv D A n c G] w (DisEnd w D G Gs) := by
  obtain ⟨W1, hW1⟩ : ∃ W1, W1 = w.alloc (.cells #[.int .i64 D, .slice A n c, .int .i64 G] 24) := ⟨_, rfl⟩
  have hB1 : Hid (Below w.heap.size w W1) := by show Below _ _ _; rw [hW1]; exact (Below.refl _ _).alloc (Nat.le_refl _) _
  have hC1 : Hid (Blk W1 w.heap.size [.int .i64 D, .slice A n c, .int .i64 G] 24) := by show Blk _ _ _ _; rw [hW1]; exact Blk.new _ [_, _, _] _
  have CC := Lib.hid (ccheck_any D G Gs n c A W1 (hM.keep hB1.out))
  have p0 := hC1.out.cell (j := 0) rfl
  have p1 := hC1.out.cell (j := 1) rfl
  have p2 := hC1.out.cell (j := 2) rfl
  have h0H := Lib.hid h0
  have t0 : (chkE D Gs G != 0) = true := by simpa using h0
  have hans : Hid (DisEnd w D G Gs = DisEnd w D G Gs) := rfl
  obtain ⟨Ck, hCk⟩ : ∃ x, x = chkE D Gs G := ⟨_, rfl⟩
  have hCkH := Lib.hid hCk
  rw [← hCk] at CC t0
  unfold cdv at CC ⊢
  subst hW1
  clear hM h0 hCk
  go_enter Tryd.func26, Tryd.ntmps26
  go_wp2_with fail
  refine CC.out.mono ?_
  rintro e w2 ⟨rfl, hb⟩
  have hB2 : Hid (Below w.heap.size w w2) := hB1.out.trans (hb.mono hB1.out.size)
  clear hb
  go_wp2_with fail
  go_ret2
  exact ⟨⟨0, Ck, rfl, .inl ⟨h0H.out, hCkH.out, rfl⟩⟩, hB2.out⟩
set_option maxRecDepth 100000 in
set_option maxHeartbeats 16000000 in
theorem distance_ok {B D n c G : Nat} {Gs : List (List Int)} {A : Option Addr} (w : World) (hM : CodM w B (D : Int) A n c (G : Int) Gs) (h0 : chkE D Gs G = 0) (ht : PTab 0 w) :
    Calls Tryd.prog 26 #[cdv D A n c G] w (DisEnd w D G Gs) := by
  refine (callsIn_wide (n := 5)).1 ?_
  have hro : Fence.wide.round = none := rfl
  have hun : Hid (Tryd.prog.underlying 24 = _) := Tryd.underlying24
  have hszc := Lib.hid size_cod
  have h0H := Lib.hid h0
  obtain ⟨b1, b2, b3, b4, b5, b6⟩ := cchk_ok h0
  have hin := grpE_rng Gs 0 b6
  rw [Int.toNat_natCast] at hin
  have hnl := hM.len
  have hD16 : D ≤ 16 := by omega
  have hD1 : 1 ≤ D := by omega
  have hG4 : G ≤ 4 := by omega
  obtain ⟨N, hN⟩ : ∃ N, N = n + G := ⟨_, rfl⟩
  obtain ⟨p, hp⟩ : ∃ p, p = D + N := ⟨_, rfl⟩
  have hp24 : p ≤ 24 := by omega
  have hN24 : N ≤ 24 := by omega
  obtain ⟨W1, hW1⟩ : ∃ W1, W1 = w.alloc (.cells #[.int .i64 D, .slice A n c, .int .i64 G] 24) := ⟨_, rfl⟩
  have hB1 : Hid (Below w.heap.size w W1) := by show Below _ _ _; rw [hW1]; exact (Below.refl _ _).alloc (Nat.le_refl _) _
  have hC1 : Hid (Blk W1 w.heap.size [.int .i64 D, .slice A n c, .int .i64 G] 24) := by show Blk _ _ _ _; rw [hW1]; exact Blk.new _ [_, _, _] _
  have M1 := Lib.hid (hM.keep hB1.out)
  have T1 := Lib.hid (ht.on hB1.out)
  have hW' := Lib.hid hW1
  have CC := Lib.hid (ccheck_any D G Gs n c A W1 M1.out)
  rw [h0] at CC
  have CP : Hid (∀ W, CodM W B (D : Int) A n c (G : Int) Gs → PTab 0 W → Calls Tryd.prog 34 #[.agg #[.int .i64 D, .slice A n c, .int .i64 G]] W fun e w' => (∃ x bs, e = .returned (.slice (some ⟨x, 0, none⟩) N N) ∧ Om w' W.heap.size x bs (PM (par D Gs) N) []) ∧ Below W.heap.size W w') := fun W m t => by rw [hN]; exact parities_any D n c G Gs A W m hD16 hG4 (by omega) hin t
  have CN : Hid (∀ W, Calls Tryd.prog 33 #[.agg #[.int .i64 D, .slice A n c, .int .i64 G]] W fun e w' => e = .returned (.int .i64 (p : Int)) ∧ Below W.heap.size W w') := fun W => by
    have := count_any D n G c A W hD16 hG4 (by omega)
    rw [show D + n + G = p by omega] at this
    exact this
  have CS : Hid (∀ W base x bl y, Om W base x bl (PM (par D Gs) N) [] → PTab 0 W → y < 2 ^ p → Calls Tryd.prog 48 #[.agg #[.int .i64 D, .slice A n c, .int .i64 G], .slice (some ⟨x, 0, none⟩) N N, .int .i64 ((lef7 p y : Nat) : Int)] W (SayEnd W (Full7 (pcL D Gs (lef7 p y) p) D))) := fun W base x bl y hO hT hy => by
    have h24 : 2 ^ p ≤ 2 ^ 24 := Nat.pow_le_pow_right (by omega) hp24
    have := suffices_any (B := W.heap.size) (D := D) (n := n) (c := c) (N := N) (nc := N) (s := lef7 p y) (G := (G : Int)) (A := A) W hO.mat (Nat.le_refl _) (by simp [PM]) par_rows (by omega) rfl hD16 (by unfold lef7; omega) hT
    rw [lost_full, ← hp] at this
    exact this
  have hans : Hid (∀ d : Nat, DisR D p Gs d → ∀ w', Below w.heap.size w w' → DisEnd w D G Gs (.returned (.tuple #[.int .i64 (d : Int), .int .i64 0])) w') := fun d hd w' hb => ⟨⟨d, 0, rfl, .inr ⟨h0, rfl, by rw [Int.toNat_natCast, Int.toNat_natCast, ← hnl, ← hN, ← hp]; exact hd⟩⟩, hb⟩
  have hpH := Lib.hid hp
  have s1 : W1.heap.size = w.heap.size + 1 := by rw [hW1]; simp
  unfold cdv at CC ⊢
  clear hM ht h0 b1 b2 b3 b4 b5 b6 hin hnl hN hW1 hp
  refine callsIn_of_wp_marks Tryd.func26 rfl trivial ?_ hro
  simp only [Tryd.ntmps26, List.size_toArray, List.length_cons, List.length_nil, Nat.reduceAdd, Nat.reduceSub, Array.replicate_succ, Array.replicate_zero, List.push_toArray, List.append_toArray, List.nil_append, List.cons_append]
  gi_wp2_with fail
  generalize hg : w.alloc _ = Wg
  have hgW : W1 = Wg := by rw [← hg, hW'.out]
  clear hg hW'
  subst hgW
  have hc0 := hC1.out.cell (j := 0) rfl
  have hc1 := hC1.out.cell (j := 1) rfl
  have hc2 := hC1.out.cell (j := 2) rfl
  refine ⟨trivial, (callsIn_wide.2 CC.out).mono ?_⟩
  rintro e w2 ⟨rfl, hb⟩
  have hB2 : Hid (Below w.heap.size w w2) := hB1.out.trans (hb.mono hB1.out.size)
  have hC2 := Lib.hid (hC1.out.below hb hC1.out.lt)
  have M2 := Lib.hid (M1.out.keep hb)
  have T2 := Lib.hid (T1.out.on hb)
  have hs2 : w.heap.size < w2.heap.size := hC2.out.lt
  clear hb hc0 hc1 hc2 hC1 M1 T1 hB1 CC
  have t0 : ((0 : Int) != 0) = false := rfl
  gi_wp2_with fail
  refine wpIn_wide.2 ?_
  go_cut [5, 6] from 14 to 20 (fun v5 v6 W => Hid (DisC w2 D N p Gs v5 v6 W))
  case first J KK hJ hKK =>
    refine wp_mono (Q := Exit.then KK fun _ _ _ => False) ?_ (fun e a w h => by cases e <;> first | exact h | exact h.elim)
    refine wp_region_planH (fun W => Below w2.heap.size w2 W) [0, 2] 6 (by kernel_rfl) (by kernel_rfl) (by kernel_rfl) (by kernel_rfl) (by intro c a d v w h; cases d <;> exact h) ((Below.refl _ _).drew) ?_
    change wpPlanH _ _ _ _ _ _ _ _ _ w2.drew
    iterate 2 (refine wpPlanH_runW rfl (by rfl) _ (fun q => load_run 24 _ rfl w.heap.size 0 rfl [.int .i64 D, .slice A n c, .int .i64 G] _ hun.out rfl hszc.out q.world ((Blk.below hC2.out q.meets hC2.out.lt).range 0 _ (take_all0 _))) ?_)
    have E : Hid (Below w2.heap.size w2 w2.drew) := (Below.refl _ _).drew
    generalize w2.drew = v0 at E ⊢
    refine wpAnyH_each (rs := [1, 4, 5]) (by kernel_rfl) (by decide) (fun K hK i hi => ?_)
    simp only [List.mem_cons, List.not_mem_nil, or_false] at hi
    rcases hi with rfl | rfl | rfl
    · skip
      refine wpOp_listed rfl ?_
      go_wp2_with fail
      refine (CP.out v0 (M2.out.keep E.out) (T2.out.on E.out)).mono ?_
      rintro e v1 ⟨⟨x, bl, rfl, hOm⟩, hb⟩
      have OMn := Lib.hid (hOm.up7 E.out.size)
      replace E : Hid (Below w2.heap.size w2 v1) := E.out.trans (hb.mono E.out.size)
      have OM := OMn; clear OMn
      clear hOm
      go_wp2_with fail
      refine postH_normal (hK _ _ _ E.out ?_)
      clear hK K hb
      refine wpAnyH_each (rs := [3, 4, 5]) (by kernel_rfl) (by decide) (fun K hK i hi => ?_)
      simp only [List.mem_cons, List.not_mem_nil, or_false] at hi
      rcases hi with rfl | rfl | rfl
      · skip
        refine wpOp_listed rfl ?_
        go_wp2_with fail
        refine (CN.out v1).mono ?_
        rintro e v2 ⟨rfl, hb⟩
        replace E : Hid (Below w2.heap.size w2 v2) := E.out.trans (hb.mono E.out.size)
        replace OM := Lib.hid (OM.out.keep hb)
        go_wp2_with fail
        refine postH_normal (hK _ _ _ E.out ?_)
        clear hK K hb
        refine wpAnyH_each (rs := [4, 5]) (by kernel_rfl) (by decide) (fun K hK i hi => ?_)
        simp only [List.mem_cons, List.not_mem_nil, or_false] at hi
        rcases hi with rfl | rfl
        · skip
          refine wpOp_listed rfl ?_
          go_wp2_with fail
          obtain ⟨gR, hg⟩ : ∃ x, x = v2.heap.size := ⟨_, rfl⟩
          have hb : Below v2.heap.size v2 (v2.alloc (.cells #[.slice none 0 0] 29)) := (Below.refl _ _).alloc (Nat.le_refl _) _
          have Bn : Hid (Blk (v2.alloc (.cells #[.slice none 0 0] 29)) gR [.slice none 0 0] 29) := by show Blk _ _ _ _; rw [hg]; exact Blk.new _ [_] _
          have hlgR : Hid (w2.heap.size ≤ gR) := by show _ ≤ _; rw [hg]; exact E.out.size
          have NR : Hid (x ≠ gR ∧ ∀ b ∈ bl, b ≠ gR) := ⟨by have := OM.out.lts7.1; omega, fun b hb' => by have := OM.out.lts7.2 b hb'; omega⟩
          replace E : Hid (Below w2.heap.size w2 (v2.alloc (.cells #[.slice none 0 0] 29))) := E.out.trans (hb.mono E.out.size)
          replace OM := Lib.hid (OM.out.keep hb)
          have BR := Bn; clear Bn
          rw [← hg]
          refine postH_normal (hK _ _ _ E.out ?_)
          clear hK K hb hg
          generalize v2.alloc _ = v3 at E BR OM ⊢
          refine wpAnyH_each (rs := [5]) (by kernel_rfl) (by decide) (fun K hK i hi => ?_)
          obtain rfl := List.mem_singleton.1 hi
          refine wpOp_listed rfl ?_
          go_wp2_with fail
          obtain ⟨gL, hg⟩ : ∃ x, x = v3.heap.size := ⟨_, rfl⟩
          have hb : Below v3.heap.size v3 (v3.alloc (.cells #[.int .i64 0] 3)) := (Below.refl _ _).alloc (Nat.le_refl _) _
          have Bn : Hid (Blk (v3.alloc (.cells #[.int .i64 0] 3)) gL [.int .i64 0] 3) := by show Blk _ _ _ _; rw [hg]; exact Blk.new _ [_] _
          have hlgL : Hid (w2.heap.size ≤ gL) := by show _ ≤ _; rw [hg]; exact E.out.size
          have NL : Hid (x ≠ gL ∧ ∀ b ∈ bl, b ≠ gL) := ⟨by have := OM.out.lts7.1; omega, fun b hb' => by have := OM.out.lts7.2 b hb'; omega⟩
          have NG : Hid (gR ≠ gL) := by have := BR.out.lt; show _ ≠ _; omega
          replace E : Hid (Below w2.heap.size w2 (v3.alloc (.cells #[.int .i64 0] 3))) := E.out.trans (hb.mono E.out.size)
          replace OM := Lib.hid (OM.out.keep hb)
          replace BR := Lib.hid (BR.out.below hb BR.out.lt)
          have BL := Bn; clear Bn
          rw [← hg]
          refine postH_normal (hK _ _ _ E.out ?_)
          clear hK K hb hg
          generalize v3.alloc _ = v4 at E BR BL OM ⊢
          refine wpAnyH_each (rs := [6]) (by kernel_rfl) (by decide) (fun K hK i hi => ?_)
          obtain rfl := List.mem_singleton.1 hi
          refine wpOp_listed rfl ?_
          refine wpList_blk_store rfl 29 _ _ rfl 0 (.slice (some ⟨x, 0, none⟩) N N) rfl rfl BR.out size_rows7 (Nat.le_refl 1) (one_slice _ _ _) ?_
          intro v5 hw6 ho6
          have Bn : Hid (Blk v5 gR [.slice (some ⟨x, 0, none⟩) N N] 29) := hw6.out
          replace E : Hid (Below w2.heap.size w2 v5) := E.out.trans (ho6.below hlgR.out)
          replace OM := Lib.hid (OM.out.only7 ho6 NR.out.1 NR.out.2)
          replace BL := Lib.hid (BL.out.only ho6 (Ne.symm NG.out))
          clear BR; have BR := Bn; clear Bn
          refine wpList_end (postH_normal (hK _ _ _ E.out ?_))
          clear hK K hw6 ho6
          refine wpAnyH_each (rs := [7]) (by kernel_rfl) (by decide) (fun K hK i hi => ?_)
          obtain rfl := List.mem_singleton.1 hi
          refine wpOp_listed rfl ?_
          refine wpList_blk_store rfl 3 _ _ rfl 0 (.int .i64 (p : Int)) rfl rfl BL.out size_int7 (Nat.le_refl 1) (one_int7 _ _) ?_
          intro v6 hw6 ho6
          have Bn : Hid (Blk v6 gL [.int .i64 (p : Int)] 3) := hw6.out
          replace E : Hid (Below w2.heap.size w2 v6) := E.out.trans (ho6.below hlgL.out)
          replace OM := Lib.hid (OM.out.only7 ho6 NL.out.1 NL.out.2)
          replace BR := Lib.hid (BR.out.only ho6 NG.out)
          clear BL; have BL := Bn; clear Bn
          refine wpList_end (postH_normal (hK _ _ _ E.out ?_))
          clear hK K hw6 ho6
          refine wpAnyH_done (by kernel_rfl) ?_ _
          try go_wp2_with fail
          go_meet
          exact ⟨gR, gL, x, bl, by first | rfl | (go_simp; done), by first | rfl | (go_simp; done), hlgR.out, hlgL.out, NG.out, NL.out.1, NL.out.2, BR.out, BL.out, OM.out, E.out⟩
        · skip
          refine wpOp_listed rfl ?_
          go_wp2_with fail
          obtain ⟨gL, hg⟩ : ∃ x, x = v2.heap.size := ⟨_, rfl⟩
          have hb : Below v2.heap.size v2 (v2.alloc (.cells #[.int .i64 0] 3)) := (Below.refl _ _).alloc (Nat.le_refl _) _
          have Bn : Hid (Blk (v2.alloc (.cells #[.int .i64 0] 3)) gL [.int .i64 0] 3) := by show Blk _ _ _ _; rw [hg]; exact Blk.new _ [_] _
          have hlgL : Hid (w2.heap.size ≤ gL) := by show _ ≤ _; rw [hg]; exact E.out.size
          have NL : Hid (x ≠ gL ∧ ∀ b ∈ bl, b ≠ gL) := ⟨by have := OM.out.lts7.1; omega, fun b hb' => by have := OM.out.lts7.2 b hb'; omega⟩
          replace E : Hid (Below w2.heap.size w2 (v2.alloc (.cells #[.int .i64 0] 3))) := E.out.trans (hb.mono E.out.size)
          replace OM := Lib.hid (OM.out.keep hb)
          have BL := Bn; clear Bn
          rw [← hg]
          refine postH_normal (hK _ _ _ E.out ?_)
          clear hK K hb hg
          generalize v2.alloc _ = v3 at E BL OM ⊢
          refine wpAnyH_each (rs := [4]) (by kernel_rfl) (by decide) (fun K hK i hi => ?_)
          obtain rfl := List.mem_singleton.1 hi
          refine wpOp_listed rfl ?_
          go_wp2_with fail
          obtain ⟨gR, hg⟩ : ∃ x, x = v3.heap.size := ⟨_, rfl⟩
          have hb : Below v3.heap.size v3 (v3.alloc (.cells #[.slice none 0 0] 29)) := (Below.refl _ _).alloc (Nat.le_refl _) _
          have Bn : Hid (Blk (v3.alloc (.cells #[.slice none 0 0] 29)) gR [.slice none 0 0] 29) := by show Blk _ _ _ _; rw [hg]; exact Blk.new _ [_] _
          have hlgR : Hid (w2.heap.size ≤ gR) := by show _ ≤ _; rw [hg]; exact E.out.size
          have NR : Hid (x ≠ gR ∧ ∀ b ∈ bl, b ≠ gR) := ⟨by have := OM.out.lts7.1; omega, fun b hb' => by have := OM.out.lts7.2 b hb'; omega⟩
          have NG : Hid (gR ≠ gL) := by have := BL.out.lt; show _ ≠ _; omega
          replace E : Hid (Below w2.heap.size w2 (v3.alloc (.cells #[.slice none 0 0] 29))) := E.out.trans (hb.mono E.out.size)
          replace OM := Lib.hid (OM.out.keep hb)
          replace BL := Lib.hid (BL.out.below hb BL.out.lt)
          have BR := Bn; clear Bn
          rw [← hg]
          refine postH_normal (hK _ _ _ E.out ?_)
          clear hK K hb hg
          generalize v3.alloc _ = v4 at E BR BL OM ⊢
          refine wpAnyH_each (rs := [6]) (by kernel_rfl) (by decide) (fun K hK i hi => ?_)
          obtain rfl := List.mem_singleton.1 hi
          refine wpOp_listed rfl ?_
          refine wpList_blk_store rfl 29 _ _ rfl 0 (.slice (some ⟨x, 0, none⟩) N N) rfl rfl BR.out size_rows7 (Nat.le_refl 1) (one_slice _ _ _) ?_
          intro v5 hw6 ho6
          have Bn : Hid (Blk v5 gR [.slice (some ⟨x, 0, none⟩) N N] 29) := hw6.out
          replace E : Hid (Below w2.heap.size w2 v5) := E.out.trans (ho6.below hlgR.out)
          replace OM := Lib.hid (OM.out.only7 ho6 NR.out.1 NR.out.2)
          replace BL := Lib.hid (BL.out.only ho6 (Ne.symm NG.out))
          clear BR; have BR := Bn; clear Bn
          refine wpList_end (postH_normal (hK _ _ _ E.out ?_))
          clear hK K hw6 ho6
          refine wpAnyH_each (rs := [7]) (by kernel_rfl) (by decide) (fun K hK i hi => ?_)
          obtain rfl := List.mem_singleton.1 hi
          refine wpOp_listed rfl ?_
          refine wpList_blk_store rfl 3 _ _ rfl 0 (.int .i64 (p : Int)) rfl rfl BL.out size_int7 (Nat.le_refl 1) (one_int7 _ _) ?_
          intro v6 hw6 ho6
          have Bn : Hid (Blk v6 gL [.int .i64 (p : Int)] 3) := hw6.out
          replace E : Hid (Below w2.heap.size w2 v6) := E.out.trans (ho6.below hlgL.out)
          replace OM := Lib.hid (OM.out.only7 ho6 NL.out.1 NL.out.2)
          replace BR := Lib.hid (BR.out.only ho6 NG.out)
          clear BL; have BL := Bn; clear Bn
          refine wpList_end (postH_normal (hK _ _ _ E.out ?_))
          clear hK K hw6 ho6
          refine wpAnyH_done (by kernel_rfl) ?_ _
          try go_wp2_with fail
          go_meet
          exact ⟨gR, gL, x, bl, by first | rfl | (go_simp; done), by first | rfl | (go_simp; done), hlgR.out, hlgL.out, NG.out, NL.out.1, NL.out.2, BR.out, BL.out, OM.out, E.out⟩
      · skip
        refine wpOp_listed rfl ?_
        go_wp2_with fail
        obtain ⟨gR, hg⟩ : ∃ x, x = v1.heap.size := ⟨_, rfl⟩
        have hb : Below v1.heap.size v1 (v1.alloc (.cells #[.slice none 0 0] 29)) := (Below.refl _ _).alloc (Nat.le_refl _) _
        have Bn : Hid (Blk (v1.alloc (.cells #[.slice none 0 0] 29)) gR [.slice none 0 0] 29) := by show Blk _ _ _ _; rw [hg]; exact Blk.new _ [_] _
        have hlgR : Hid (w2.heap.size ≤ gR) := by show _ ≤ _; rw [hg]; exact E.out.size
        have NR : Hid (x ≠ gR ∧ ∀ b ∈ bl, b ≠ gR) := ⟨by have := OM.out.lts7.1; omega, fun b hb' => by have := OM.out.lts7.2 b hb'; omega⟩
        replace E : Hid (Below w2.heap.size w2 (v1.alloc (.cells #[.slice none 0 0] 29))) := E.out.trans (hb.mono E.out.size)
        replace OM := Lib.hid (OM.out.keep hb)
        have BR := Bn; clear Bn
        rw [← hg]
        refine postH_normal (hK _ _ _ E.out ?_)
        clear hK K hb hg
        generalize v1.alloc _ = v2 at E BR OM ⊢
        refine wpAnyH_each (rs := [3, 5]) (by kernel_rfl) (by decide) (fun K hK i hi => ?_)
        simp only [List.mem_cons, List.not_mem_nil, or_false] at hi
        rcases hi with rfl | rfl
        · skip
          refine wpOp_listed rfl ?_
          go_wp2_with fail
          refine (CN.out v2).mono ?_
          rintro e v3 ⟨rfl, hb⟩
          replace E : Hid (Below w2.heap.size w2 v3) := E.out.trans (hb.mono E.out.size)
          replace OM := Lib.hid (OM.out.keep hb)
          replace BR := Lib.hid (BR.out.below hb BR.out.lt)
          go_wp2_with fail
          refine postH_normal (hK _ _ _ E.out ?_)
          clear hK K hb
          refine wpAnyH_each (rs := [5]) (by kernel_rfl) (by decide) (fun K hK i hi => ?_)
          obtain rfl := List.mem_singleton.1 hi
          refine wpOp_listed rfl ?_
          go_wp2_with fail
          obtain ⟨gL, hg⟩ : ∃ x, x = v3.heap.size := ⟨_, rfl⟩
          have hb : Below v3.heap.size v3 (v3.alloc (.cells #[.int .i64 0] 3)) := (Below.refl _ _).alloc (Nat.le_refl _) _
          have Bn : Hid (Blk (v3.alloc (.cells #[.int .i64 0] 3)) gL [.int .i64 0] 3) := by show Blk _ _ _ _; rw [hg]; exact Blk.new _ [_] _
          have hlgL : Hid (w2.heap.size ≤ gL) := by show _ ≤ _; rw [hg]; exact E.out.size
          have NL : Hid (x ≠ gL ∧ ∀ b ∈ bl, b ≠ gL) := ⟨by have := OM.out.lts7.1; omega, fun b hb' => by have := OM.out.lts7.2 b hb'; omega⟩
          have NG : Hid (gR ≠ gL) := by have := BR.out.lt; show _ ≠ _; omega
          replace E : Hid (Below w2.heap.size w2 (v3.alloc (.cells #[.int .i64 0] 3))) := E.out.trans (hb.mono E.out.size)
          replace OM := Lib.hid (OM.out.keep hb)
          replace BR := Lib.hid (BR.out.below hb BR.out.lt)
          have BL := Bn; clear Bn
          rw [← hg]
          refine postH_normal (hK _ _ _ E.out ?_)
          clear hK K hb hg
          generalize v3.alloc _ = v4 at E BR BL OM ⊢
          refine wpAnyH_each (rs := [6]) (by kernel_rfl) (by decide) (fun K hK i hi => ?_)
          obtain rfl := List.mem_singleton.1 hi
          refine wpOp_listed rfl ?_
          refine wpList_blk_store rfl 29 _ _ rfl 0 (.slice (some ⟨x, 0, none⟩) N N) rfl rfl BR.out size_rows7 (Nat.le_refl 1) (one_slice _ _ _) ?_
          intro v5 hw6 ho6
          have Bn : Hid (Blk v5 gR [.slice (some ⟨x, 0, none⟩) N N] 29) := hw6.out
          replace E : Hid (Below w2.heap.size w2 v5) := E.out.trans (ho6.below hlgR.out)
          replace OM := Lib.hid (OM.out.only7 ho6 NR.out.1 NR.out.2)
          replace BL := Lib.hid (BL.out.only ho6 (Ne.symm NG.out))
          clear BR; have BR := Bn; clear Bn
          refine wpList_end (postH_normal (hK _ _ _ E.out ?_))
          clear hK K hw6 ho6
          refine wpAnyH_each (rs := [7]) (by kernel_rfl) (by decide) (fun K hK i hi => ?_)
          obtain rfl := List.mem_singleton.1 hi
          refine wpOp_listed rfl ?_
          refine wpList_blk_store rfl 3 _ _ rfl 0 (.int .i64 (p : Int)) rfl rfl BL.out size_int7 (Nat.le_refl 1) (one_int7 _ _) ?_
          intro v6 hw6 ho6
          have Bn : Hid (Blk v6 gL [.int .i64 (p : Int)] 3) := hw6.out
          replace E : Hid (Below w2.heap.size w2 v6) := E.out.trans (ho6.below hlgL.out)
          replace OM := Lib.hid (OM.out.only7 ho6 NL.out.1 NL.out.2)
          replace BR := Lib.hid (BR.out.only ho6 NG.out)
          clear BL; have BL := Bn; clear Bn
          refine wpList_end (postH_normal (hK _ _ _ E.out ?_))
          clear hK K hw6 ho6
          refine wpAnyH_done (by kernel_rfl) ?_ _
          try go_wp2_with fail
          go_meet
          exact ⟨gR, gL, x, bl, by first | rfl | (go_simp; done), by first | rfl | (go_simp; done), hlgR.out, hlgL.out, NG.out, NL.out.1, NL.out.2, BR.out, BL.out, OM.out, E.out⟩
        · skip
          refine wpOp_listed rfl ?_
          go_wp2_with fail
          obtain ⟨gL, hg⟩ : ∃ x, x = v2.heap.size := ⟨_, rfl⟩
          have hb : Below v2.heap.size v2 (v2.alloc (.cells #[.int .i64 0] 3)) := (Below.refl _ _).alloc (Nat.le_refl _) _
          have Bn : Hid (Blk (v2.alloc (.cells #[.int .i64 0] 3)) gL [.int .i64 0] 3) := by show Blk _ _ _ _; rw [hg]; exact Blk.new _ [_] _
          have hlgL : Hid (w2.heap.size ≤ gL) := by show _ ≤ _; rw [hg]; exact E.out.size
          have NL : Hid (x ≠ gL ∧ ∀ b ∈ bl, b ≠ gL) := ⟨by have := OM.out.lts7.1; omega, fun b hb' => by have := OM.out.lts7.2 b hb'; omega⟩
          have NG : Hid (gR ≠ gL) := by have := BR.out.lt; show _ ≠ _; omega
          replace E : Hid (Below w2.heap.size w2 (v2.alloc (.cells #[.int .i64 0] 3))) := E.out.trans (hb.mono E.out.size)
          replace OM := Lib.hid (OM.out.keep hb)
          replace BR := Lib.hid (BR.out.below hb BR.out.lt)
          have BL := Bn; clear Bn
          rw [← hg]
          refine postH_normal (hK _ _ _ E.out ?_)
          clear hK K hb hg
          generalize v2.alloc _ = v3 at E BR BL OM ⊢
          refine wpAnyH_each (rs := [3]) (by kernel_rfl) (by decide) (fun K hK i hi => ?_)
          obtain rfl := List.mem_singleton.1 hi
          refine wpOp_listed rfl ?_
          go_wp2_with fail
          refine (CN.out v3).mono ?_
          rintro e v4 ⟨rfl, hb⟩
          replace E : Hid (Below w2.heap.size w2 v4) := E.out.trans (hb.mono E.out.size)
          replace OM := Lib.hid (OM.out.keep hb)
          replace BR := Lib.hid (BR.out.below hb BR.out.lt)
          replace BL := Lib.hid (BL.out.below hb BL.out.lt)
          go_wp2_with fail
          refine postH_normal (hK _ _ _ E.out ?_)
          clear hK K hb
          refine wpAnyH_each (rs := [6]) (by kernel_rfl) (by decide) (fun K hK i hi => ?_)
          obtain rfl := List.mem_singleton.1 hi
          refine wpOp_listed rfl ?_
          refine wpList_blk_store rfl 29 _ _ rfl 0 (.slice (some ⟨x, 0, none⟩) N N) rfl rfl BR.out size_rows7 (Nat.le_refl 1) (one_slice _ _ _) ?_
          intro v5 hw6 ho6
          have Bn : Hid (Blk v5 gR [.slice (some ⟨x, 0, none⟩) N N] 29) := hw6.out
          replace E : Hid (Below w2.heap.size w2 v5) := E.out.trans (ho6.below hlgR.out)
          replace OM := Lib.hid (OM.out.only7 ho6 NR.out.1 NR.out.2)
          replace BL := Lib.hid (BL.out.only ho6 (Ne.symm NG.out))
          clear BR; have BR := Bn; clear Bn
          refine wpList_end (postH_normal (hK _ _ _ E.out ?_))
          clear hK K hw6 ho6
          refine wpAnyH_each (rs := [7]) (by kernel_rfl) (by decide) (fun K hK i hi => ?_)
          obtain rfl := List.mem_singleton.1 hi
          refine wpOp_listed rfl ?_
          refine wpList_blk_store rfl 3 _ _ rfl 0 (.int .i64 (p : Int)) rfl rfl BL.out size_int7 (Nat.le_refl 1) (one_int7 _ _) ?_
          intro v6 hw6 ho6
          have Bn : Hid (Blk v6 gL [.int .i64 (p : Int)] 3) := hw6.out
          replace E : Hid (Below w2.heap.size w2 v6) := E.out.trans (ho6.below hlgL.out)
          replace OM := Lib.hid (OM.out.only7 ho6 NL.out.1 NL.out.2)
          replace BR := Lib.hid (BR.out.only ho6 NG.out)
          clear BL; have BL := Bn; clear Bn
          refine wpList_end (postH_normal (hK _ _ _ E.out ?_))
          clear hK K hw6 ho6
          refine wpAnyH_done (by kernel_rfl) ?_ _
          try go_wp2_with fail
          go_meet
          exact ⟨gR, gL, x, bl, by first | rfl | (go_simp; done), by first | rfl | (go_simp; done), hlgR.out, hlgL.out, NG.out, NL.out.1, NL.out.2, BR.out, BL.out, OM.out, E.out⟩
      · skip
        refine wpOp_listed rfl ?_
        go_wp2_with fail
        obtain ⟨gL, hg⟩ : ∃ x, x = v1.heap.size := ⟨_, rfl⟩
        have hb : Below v1.heap.size v1 (v1.alloc (.cells #[.int .i64 0] 3)) := (Below.refl _ _).alloc (Nat.le_refl _) _
        have Bn : Hid (Blk (v1.alloc (.cells #[.int .i64 0] 3)) gL [.int .i64 0] 3) := by show Blk _ _ _ _; rw [hg]; exact Blk.new _ [_] _
        have hlgL : Hid (w2.heap.size ≤ gL) := by show _ ≤ _; rw [hg]; exact E.out.size
        have NL : Hid (x ≠ gL ∧ ∀ b ∈ bl, b ≠ gL) := ⟨by have := OM.out.lts7.1; omega, fun b hb' => by have := OM.out.lts7.2 b hb'; omega⟩
        replace E : Hid (Below w2.heap.size w2 (v1.alloc (.cells #[.int .i64 0] 3))) := E.out.trans (hb.mono E.out.size)
        replace OM := Lib.hid (OM.out.keep hb)
        have BL := Bn; clear Bn
        rw [← hg]
        refine postH_normal (hK _ _ _ E.out ?_)
        clear hK K hb hg
        generalize v1.alloc _ = v2 at E BL OM ⊢
        refine wpAnyH_each (rs := [3, 4]) (by kernel_rfl) (by decide) (fun K hK i hi => ?_)
        simp only [List.mem_cons, List.not_mem_nil, or_false] at hi
        rcases hi with rfl | rfl
        · skip
          refine wpOp_listed rfl ?_
          go_wp2_with fail
          refine (CN.out v2).mono ?_
          rintro e v3 ⟨rfl, hb⟩
          replace E : Hid (Below w2.heap.size w2 v3) := E.out.trans (hb.mono E.out.size)
          replace OM := Lib.hid (OM.out.keep hb)
          replace BL := Lib.hid (BL.out.below hb BL.out.lt)
          go_wp2_with fail
          refine postH_normal (hK _ _ _ E.out ?_)
          clear hK K hb
          refine wpAnyH_each (rs := [4]) (by kernel_rfl) (by decide) (fun K hK i hi => ?_)
          obtain rfl := List.mem_singleton.1 hi
          refine wpOp_listed rfl ?_
          go_wp2_with fail
          obtain ⟨gR, hg⟩ : ∃ x, x = v3.heap.size := ⟨_, rfl⟩
          have hb : Below v3.heap.size v3 (v3.alloc (.cells #[.slice none 0 0] 29)) := (Below.refl _ _).alloc (Nat.le_refl _) _
          have Bn : Hid (Blk (v3.alloc (.cells #[.slice none 0 0] 29)) gR [.slice none 0 0] 29) := by show Blk _ _ _ _; rw [hg]; exact Blk.new _ [_] _
          have hlgR : Hid (w2.heap.size ≤ gR) := by show _ ≤ _; rw [hg]; exact E.out.size
          have NR : Hid (x ≠ gR ∧ ∀ b ∈ bl, b ≠ gR) := ⟨by have := OM.out.lts7.1; omega, fun b hb' => by have := OM.out.lts7.2 b hb'; omega⟩
          have NG : Hid (gR ≠ gL) := by have := BL.out.lt; show _ ≠ _; omega
          replace E : Hid (Below w2.heap.size w2 (v3.alloc (.cells #[.slice none 0 0] 29))) := E.out.trans (hb.mono E.out.size)
          replace OM := Lib.hid (OM.out.keep hb)
          replace BL := Lib.hid (BL.out.below hb BL.out.lt)
          have BR := Bn; clear Bn
          rw [← hg]
          refine postH_normal (hK _ _ _ E.out ?_)
          clear hK K hb hg
          generalize v3.alloc _ = v4 at E BR BL OM ⊢
          refine wpAnyH_each (rs := [6]) (by kernel_rfl) (by decide) (fun K hK i hi => ?_)
          obtain rfl := List.mem_singleton.1 hi
          refine wpOp_listed rfl ?_
          refine wpList_blk_store rfl 29 _ _ rfl 0 (.slice (some ⟨x, 0, none⟩) N N) rfl rfl BR.out size_rows7 (Nat.le_refl 1) (one_slice _ _ _) ?_
          intro v5 hw6 ho6
          have Bn : Hid (Blk v5 gR [.slice (some ⟨x, 0, none⟩) N N] 29) := hw6.out
          replace E : Hid (Below w2.heap.size w2 v5) := E.out.trans (ho6.below hlgR.out)
          replace OM := Lib.hid (OM.out.only7 ho6 NR.out.1 NR.out.2)
          replace BL := Lib.hid (BL.out.only ho6 (Ne.symm NG.out))
          clear BR; have BR := Bn; clear Bn
          refine wpList_end (postH_normal (hK _ _ _ E.out ?_))
          clear hK K hw6 ho6
          refine wpAnyH_each (rs := [7]) (by kernel_rfl) (by decide) (fun K hK i hi => ?_)
          obtain rfl := List.mem_singleton.1 hi
          refine wpOp_listed rfl ?_
          refine wpList_blk_store rfl 3 _ _ rfl 0 (.int .i64 (p : Int)) rfl rfl BL.out size_int7 (Nat.le_refl 1) (one_int7 _ _) ?_
          intro v6 hw6 ho6
          have Bn : Hid (Blk v6 gL [.int .i64 (p : Int)] 3) := hw6.out
          replace E : Hid (Below w2.heap.size w2 v6) := E.out.trans (ho6.below hlgL.out)
          replace OM := Lib.hid (OM.out.only7 ho6 NL.out.1 NL.out.2)
          replace BR := Lib.hid (BR.out.only ho6 NG.out)
          clear BL; have BL := Bn; clear Bn
          refine wpList_end (postH_normal (hK _ _ _ E.out ?_))
          clear hK K hw6 ho6
          refine wpAnyH_done (by kernel_rfl) ?_ _
          try go_wp2_with fail
          go_meet
          exact ⟨gR, gL, x, bl, by first | rfl | (go_simp; done), by first | rfl | (go_simp; done), hlgR.out, hlgL.out, NG.out, NL.out.1, NL.out.2, BR.out, BL.out, OM.out, E.out⟩
        · skip
          refine wpOp_listed rfl ?_
          go_wp2_with fail
          obtain ⟨gR, hg⟩ : ∃ x, x = v2.heap.size := ⟨_, rfl⟩
          have hb : Below v2.heap.size v2 (v2.alloc (.cells #[.slice none 0 0] 29)) := (Below.refl _ _).alloc (Nat.le_refl _) _
          have Bn : Hid (Blk (v2.alloc (.cells #[.slice none 0 0] 29)) gR [.slice none 0 0] 29) := by show Blk _ _ _ _; rw [hg]; exact Blk.new _ [_] _
          have hlgR : Hid (w2.heap.size ≤ gR) := by show _ ≤ _; rw [hg]; exact E.out.size
          have NR : Hid (x ≠ gR ∧ ∀ b ∈ bl, b ≠ gR) := ⟨by have := OM.out.lts7.1; omega, fun b hb' => by have := OM.out.lts7.2 b hb'; omega⟩
          have NG : Hid (gR ≠ gL) := by have := BL.out.lt; show _ ≠ _; omega
          replace E : Hid (Below w2.heap.size w2 (v2.alloc (.cells #[.slice none 0 0] 29))) := E.out.trans (hb.mono E.out.size)
          replace OM := Lib.hid (OM.out.keep hb)
          replace BL := Lib.hid (BL.out.below hb BL.out.lt)
          have BR := Bn; clear Bn
          rw [← hg]
          refine postH_normal (hK _ _ _ E.out ?_)
          clear hK K hb hg
          generalize v2.alloc _ = v3 at E BR BL OM ⊢
          refine wpAnyH_each (rs := [3]) (by kernel_rfl) (by decide) (fun K hK i hi => ?_)
          obtain rfl := List.mem_singleton.1 hi
          refine wpOp_listed rfl ?_
          go_wp2_with fail
          refine (CN.out v3).mono ?_
          rintro e v4 ⟨rfl, hb⟩
          replace E : Hid (Below w2.heap.size w2 v4) := E.out.trans (hb.mono E.out.size)
          replace OM := Lib.hid (OM.out.keep hb)
          replace BR := Lib.hid (BR.out.below hb BR.out.lt)
          replace BL := Lib.hid (BL.out.below hb BL.out.lt)
          go_wp2_with fail
          refine postH_normal (hK _ _ _ E.out ?_)
          clear hK K hb
          refine wpAnyH_each (rs := [6]) (by kernel_rfl) (by decide) (fun K hK i hi => ?_)
          obtain rfl := List.mem_singleton.1 hi
          refine wpOp_listed rfl ?_
          refine wpList_blk_store rfl 29 _ _ rfl 0 (.slice (some ⟨x, 0, none⟩) N N) rfl rfl BR.out size_rows7 (Nat.le_refl 1) (one_slice _ _ _) ?_
          intro v5 hw6 ho6
          have Bn : Hid (Blk v5 gR [.slice (some ⟨x, 0, none⟩) N N] 29) := hw6.out
          replace E : Hid (Below w2.heap.size w2 v5) := E.out.trans (ho6.below hlgR.out)
          replace OM := Lib.hid (OM.out.only7 ho6 NR.out.1 NR.out.2)
          replace BL := Lib.hid (BL.out.only ho6 (Ne.symm NG.out))
          clear BR; have BR := Bn; clear Bn
          refine wpList_end (postH_normal (hK _ _ _ E.out ?_))
          clear hK K hw6 ho6
          refine wpAnyH_each (rs := [7]) (by kernel_rfl) (by decide) (fun K hK i hi => ?_)
          obtain rfl := List.mem_singleton.1 hi
          refine wpOp_listed rfl ?_
          refine wpList_blk_store rfl 3 _ _ rfl 0 (.int .i64 (p : Int)) rfl rfl BL.out size_int7 (Nat.le_refl 1) (one_int7 _ _) ?_
          intro v6 hw6 ho6
          have Bn : Hid (Blk v6 gL [.int .i64 (p : Int)] 3) := hw6.out
          replace E : Hid (Below w2.heap.size w2 v6) := E.out.trans (ho6.below hlgL.out)
          replace OM := Lib.hid (OM.out.only7 ho6 NL.out.1 NL.out.2)
          replace BR := Lib.hid (BR.out.only ho6 NG.out)
          clear BL; have BL := Bn; clear Bn
          refine wpList_end (postH_normal (hK _ _ _ E.out ?_))
          clear hK K hw6 ho6
          refine wpAnyH_done (by kernel_rfl) ?_ _
          try go_wp2_with fail
          go_meet
          exact ⟨gR, gL, x, bl, by first | rfl | (go_simp; done), by first | rfl | (go_simp; done), hlgR.out, hlgL.out, NG.out, NL.out.1, NL.out.2, BR.out, BL.out, OM.out, E.out⟩
    · skip
      refine wpOp_listed rfl ?_
      go_wp2_with fail
      obtain ⟨gR, hg⟩ : ∃ x, x = v0.heap.size := ⟨_, rfl⟩
      have hb : Below v0.heap.size v0 (v0.alloc (.cells #[.slice none 0 0] 29)) := (Below.refl _ _).alloc (Nat.le_refl _) _
      have Bn : Hid (Blk (v0.alloc (.cells #[.slice none 0 0] 29)) gR [.slice none 0 0] 29) := by show Blk _ _ _ _; rw [hg]; exact Blk.new _ [_] _
      have hlgR : Hid (w2.heap.size ≤ gR) := by show _ ≤ _; rw [hg]; exact E.out.size
      replace E : Hid (Below w2.heap.size w2 (v0.alloc (.cells #[.slice none 0 0] 29))) := E.out.trans (hb.mono E.out.size)
      have BR := Bn; clear Bn
      rw [← hg]
      refine postH_normal (hK _ _ _ E.out ?_)
      clear hK K hb hg
      generalize v0.alloc _ = v1 at E BR ⊢
      refine wpAnyH_each (rs := [1, 5]) (by kernel_rfl) (by decide) (fun K hK i hi => ?_)
      simp only [List.mem_cons, List.not_mem_nil, or_false] at hi
      rcases hi with rfl | rfl
      · skip
        refine wpOp_listed rfl ?_
        go_wp2_with fail
        refine (CP.out v1 (M2.out.keep E.out) (T2.out.on E.out)).mono ?_
        rintro e v2 ⟨⟨x, bl, rfl, hOm⟩, hb⟩
        have NR : Hid (x ≠ gR ∧ ∀ b ∈ bl, b ≠ gR) := ⟨by have := hOm.low; have := BR.out.lt; omega, fun b hb' => by have := hOm.lows b hb'; have := BR.out.lt; omega⟩
        have OMn := Lib.hid (hOm.up7 E.out.size)
        replace E : Hid (Below w2.heap.size w2 v2) := E.out.trans (hb.mono E.out.size)
        replace BR := Lib.hid (BR.out.below hb BR.out.lt)
        have OM := OMn; clear OMn
        clear hOm
        go_wp2_with fail
        refine postH_normal (hK _ _ _ E.out ?_)
        clear hK K hb
        refine wpAnyH_each (rs := [3, 5]) (by kernel_rfl) (by decide) (fun K hK i hi => ?_)
        simp only [List.mem_cons, List.not_mem_nil, or_false] at hi
        rcases hi with rfl | rfl
        · skip
          refine wpOp_listed rfl ?_
          go_wp2_with fail
          refine (CN.out v2).mono ?_
          rintro e v3 ⟨rfl, hb⟩
          replace E : Hid (Below w2.heap.size w2 v3) := E.out.trans (hb.mono E.out.size)
          replace OM := Lib.hid (OM.out.keep hb)
          replace BR := Lib.hid (BR.out.below hb BR.out.lt)
          go_wp2_with fail
          refine postH_normal (hK _ _ _ E.out ?_)
          clear hK K hb
          refine wpAnyH_each (rs := [5]) (by kernel_rfl) (by decide) (fun K hK i hi => ?_)
          obtain rfl := List.mem_singleton.1 hi
          refine wpOp_listed rfl ?_
          go_wp2_with fail
          obtain ⟨gL, hg⟩ : ∃ x, x = v3.heap.size := ⟨_, rfl⟩
          have hb : Below v3.heap.size v3 (v3.alloc (.cells #[.int .i64 0] 3)) := (Below.refl _ _).alloc (Nat.le_refl _) _
          have Bn : Hid (Blk (v3.alloc (.cells #[.int .i64 0] 3)) gL [.int .i64 0] 3) := by show Blk _ _ _ _; rw [hg]; exact Blk.new _ [_] _
          have hlgL : Hid (w2.heap.size ≤ gL) := by show _ ≤ _; rw [hg]; exact E.out.size
          have NL : Hid (x ≠ gL ∧ ∀ b ∈ bl, b ≠ gL) := ⟨by have := OM.out.lts7.1; omega, fun b hb' => by have := OM.out.lts7.2 b hb'; omega⟩
          have NG : Hid (gR ≠ gL) := by have := BR.out.lt; show _ ≠ _; omega
          replace E : Hid (Below w2.heap.size w2 (v3.alloc (.cells #[.int .i64 0] 3))) := E.out.trans (hb.mono E.out.size)
          replace OM := Lib.hid (OM.out.keep hb)
          replace BR := Lib.hid (BR.out.below hb BR.out.lt)
          have BL := Bn; clear Bn
          rw [← hg]
          refine postH_normal (hK _ _ _ E.out ?_)
          clear hK K hb hg
          generalize v3.alloc _ = v4 at E BR BL OM ⊢
          refine wpAnyH_each (rs := [6]) (by kernel_rfl) (by decide) (fun K hK i hi => ?_)
          obtain rfl := List.mem_singleton.1 hi
          refine wpOp_listed rfl ?_
          refine wpList_blk_store rfl 29 _ _ rfl 0 (.slice (some ⟨x, 0, none⟩) N N) rfl rfl BR.out size_rows7 (Nat.le_refl 1) (one_slice _ _ _) ?_
          intro v5 hw6 ho6
          have Bn : Hid (Blk v5 gR [.slice (some ⟨x, 0, none⟩) N N] 29) := hw6.out
          replace E : Hid (Below w2.heap.size w2 v5) := E.out.trans (ho6.below hlgR.out)
          replace OM := Lib.hid (OM.out.only7 ho6 NR.out.1 NR.out.2)
          replace BL := Lib.hid (BL.out.only ho6 (Ne.symm NG.out))
          clear BR; have BR := Bn; clear Bn
          refine wpList_end (postH_normal (hK _ _ _ E.out ?_))
          clear hK K hw6 ho6
          refine wpAnyH_each (rs := [7]) (by kernel_rfl) (by decide) (fun K hK i hi => ?_)
          obtain rfl := List.mem_singleton.1 hi
          refine wpOp_listed rfl ?_
          refine wpList_blk_store rfl 3 _ _ rfl 0 (.int .i64 (p : Int)) rfl rfl BL.out size_int7 (Nat.le_refl 1) (one_int7 _ _) ?_
          intro v6 hw6 ho6
          have Bn : Hid (Blk v6 gL [.int .i64 (p : Int)] 3) := hw6.out
          replace E : Hid (Below w2.heap.size w2 v6) := E.out.trans (ho6.below hlgL.out)
          replace OM := Lib.hid (OM.out.only7 ho6 NL.out.1 NL.out.2)
          replace BR := Lib.hid (BR.out.only ho6 NG.out)
          clear BL; have BL := Bn; clear Bn
          refine wpList_end (postH_normal (hK _ _ _ E.out ?_))
          clear hK K hw6 ho6
          refine wpAnyH_done (by kernel_rfl) ?_ _
          try go_wp2_with fail
          go_meet
          exact ⟨gR, gL, x, bl, by first | rfl | (go_simp; done), by first | rfl | (go_simp; done), hlgR.out, hlgL.out, NG.out, NL.out.1, NL.out.2, BR.out, BL.out, OM.out, E.out⟩
        · skip
          refine wpOp_listed rfl ?_
          go_wp2_with fail
          obtain ⟨gL, hg⟩ : ∃ x, x = v2.heap.size := ⟨_, rfl⟩
          have hb : Below v2.heap.size v2 (v2.alloc (.cells #[.int .i64 0] 3)) := (Below.refl _ _).alloc (Nat.le_refl _) _
          have Bn : Hid (Blk (v2.alloc (.cells #[.int .i64 0] 3)) gL [.int .i64 0] 3) := by show Blk _ _ _ _; rw [hg]; exact Blk.new _ [_] _
          have hlgL : Hid (w2.heap.size ≤ gL) := by show _ ≤ _; rw [hg]; exact E.out.size
          have NL : Hid (x ≠ gL ∧ ∀ b ∈ bl, b ≠ gL) := ⟨by have := OM.out.lts7.1; omega, fun b hb' => by have := OM.out.lts7.2 b hb'; omega⟩
          have NG : Hid (gR ≠ gL) := by have := BR.out.lt; show _ ≠ _; omega
          replace E : Hid (Below w2.heap.size w2 (v2.alloc (.cells #[.int .i64 0] 3))) := E.out.trans (hb.mono E.out.size)
          replace OM := Lib.hid (OM.out.keep hb)
          replace BR := Lib.hid (BR.out.below hb BR.out.lt)
          have BL := Bn; clear Bn
          rw [← hg]
          refine postH_normal (hK _ _ _ E.out ?_)
          clear hK K hb hg
          generalize v2.alloc _ = v3 at E BR BL OM ⊢
          refine wpAnyH_each (rs := [3]) (by kernel_rfl) (by decide) (fun K hK i hi => ?_)
          obtain rfl := List.mem_singleton.1 hi
          refine wpOp_listed rfl ?_
          go_wp2_with fail
          refine (CN.out v3).mono ?_
          rintro e v4 ⟨rfl, hb⟩
          replace E : Hid (Below w2.heap.size w2 v4) := E.out.trans (hb.mono E.out.size)
          replace OM := Lib.hid (OM.out.keep hb)
          replace BR := Lib.hid (BR.out.below hb BR.out.lt)
          replace BL := Lib.hid (BL.out.below hb BL.out.lt)
          go_wp2_with fail
          refine postH_normal (hK _ _ _ E.out ?_)
          clear hK K hb
          refine wpAnyH_each (rs := [6]) (by kernel_rfl) (by decide) (fun K hK i hi => ?_)
          obtain rfl := List.mem_singleton.1 hi
          refine wpOp_listed rfl ?_
          refine wpList_blk_store rfl 29 _ _ rfl 0 (.slice (some ⟨x, 0, none⟩) N N) rfl rfl BR.out size_rows7 (Nat.le_refl 1) (one_slice _ _ _) ?_
          intro v5 hw6 ho6
          have Bn : Hid (Blk v5 gR [.slice (some ⟨x, 0, none⟩) N N] 29) := hw6.out
          replace E : Hid (Below w2.heap.size w2 v5) := E.out.trans (ho6.below hlgR.out)
          replace OM := Lib.hid (OM.out.only7 ho6 NR.out.1 NR.out.2)
          replace BL := Lib.hid (BL.out.only ho6 (Ne.symm NG.out))
          clear BR; have BR := Bn; clear Bn
          refine wpList_end (postH_normal (hK _ _ _ E.out ?_))
          clear hK K hw6 ho6
          refine wpAnyH_each (rs := [7]) (by kernel_rfl) (by decide) (fun K hK i hi => ?_)
          obtain rfl := List.mem_singleton.1 hi
          refine wpOp_listed rfl ?_
          refine wpList_blk_store rfl 3 _ _ rfl 0 (.int .i64 (p : Int)) rfl rfl BL.out size_int7 (Nat.le_refl 1) (one_int7 _ _) ?_
          intro v6 hw6 ho6
          have Bn : Hid (Blk v6 gL [.int .i64 (p : Int)] 3) := hw6.out
          replace E : Hid (Below w2.heap.size w2 v6) := E.out.trans (ho6.below hlgL.out)
          replace OM := Lib.hid (OM.out.only7 ho6 NL.out.1 NL.out.2)
          replace BR := Lib.hid (BR.out.only ho6 NG.out)
          clear BL; have BL := Bn; clear Bn
          refine wpList_end (postH_normal (hK _ _ _ E.out ?_))
          clear hK K hw6 ho6
          refine wpAnyH_done (by kernel_rfl) ?_ _
          try go_wp2_with fail
          go_meet
          exact ⟨gR, gL, x, bl, by first | rfl | (go_simp; done), by first | rfl | (go_simp; done), hlgR.out, hlgL.out, NG.out, NL.out.1, NL.out.2, BR.out, BL.out, OM.out, E.out⟩
      · skip
        refine wpOp_listed rfl ?_
        go_wp2_with fail
        obtain ⟨gL, hg⟩ : ∃ x, x = v1.heap.size := ⟨_, rfl⟩
        have hb : Below v1.heap.size v1 (v1.alloc (.cells #[.int .i64 0] 3)) := (Below.refl _ _).alloc (Nat.le_refl _) _
        have Bn : Hid (Blk (v1.alloc (.cells #[.int .i64 0] 3)) gL [.int .i64 0] 3) := by show Blk _ _ _ _; rw [hg]; exact Blk.new _ [_] _
        have hlgL : Hid (w2.heap.size ≤ gL) := by show _ ≤ _; rw [hg]; exact E.out.size
        have NG : Hid (gR ≠ gL) := by have := BR.out.lt; show _ ≠ _; omega
        replace E : Hid (Below w2.heap.size w2 (v1.alloc (.cells #[.int .i64 0] 3))) := E.out.trans (hb.mono E.out.size)
        replace BR := Lib.hid (BR.out.below hb BR.out.lt)
        have BL := Bn; clear Bn
        rw [← hg]
        refine postH_normal (hK _ _ _ E.out ?_)
        clear hK K hb hg
        generalize v1.alloc _ = v2 at E BR BL ⊢
        refine wpAnyH_each (rs := [1]) (by kernel_rfl) (by decide) (fun K hK i hi => ?_)
        obtain rfl := List.mem_singleton.1 hi
        refine wpOp_listed rfl ?_
        go_wp2_with fail
        refine (CP.out v2 (M2.out.keep E.out) (T2.out.on E.out)).mono ?_
        rintro e v3 ⟨⟨x, bl, rfl, hOm⟩, hb⟩
        have NR : Hid (x ≠ gR ∧ ∀ b ∈ bl, b ≠ gR) := ⟨by have := hOm.low; have := BR.out.lt; omega, fun b hb' => by have := hOm.lows b hb'; have := BR.out.lt; omega⟩
        have NL : Hid (x ≠ gL ∧ ∀ b ∈ bl, b ≠ gL) := ⟨by have := hOm.low; have := BL.out.lt; omega, fun b hb' => by have := hOm.lows b hb'; have := BL.out.lt; omega⟩
        have OMn := Lib.hid (hOm.up7 E.out.size)
        replace E : Hid (Below w2.heap.size w2 v3) := E.out.trans (hb.mono E.out.size)
        replace BR := Lib.hid (BR.out.below hb BR.out.lt)
        replace BL := Lib.hid (BL.out.below hb BL.out.lt)
        have OM := OMn; clear OMn
        clear hOm
        go_wp2_with fail
        refine postH_normal (hK _ _ _ E.out ?_)
        clear hK K hb
        refine wpAnyH_each (rs := [3]) (by kernel_rfl) (by decide) (fun K hK i hi => ?_)
        obtain rfl := List.mem_singleton.1 hi
        refine wpOp_listed rfl ?_
        go_wp2_with fail
        refine (CN.out v3).mono ?_
        rintro e v4 ⟨rfl, hb⟩
        replace E : Hid (Below w2.heap.size w2 v4) := E.out.trans (hb.mono E.out.size)
        replace OM := Lib.hid (OM.out.keep hb)
        replace BR := Lib.hid (BR.out.below hb BR.out.lt)
        replace BL := Lib.hid (BL.out.below hb BL.out.lt)
        go_wp2_with fail
        refine postH_normal (hK _ _ _ E.out ?_)
        clear hK K hb
        refine wpAnyH_each (rs := [6]) (by kernel_rfl) (by decide) (fun K hK i hi => ?_)
        obtain rfl := List.mem_singleton.1 hi
        refine wpOp_listed rfl ?_
        refine wpList_blk_store rfl 29 _ _ rfl 0 (.slice (some ⟨x, 0, none⟩) N N) rfl rfl BR.out size_rows7 (Nat.le_refl 1) (one_slice _ _ _) ?_
        intro v5 hw6 ho6
        have Bn : Hid (Blk v5 gR [.slice (some ⟨x, 0, none⟩) N N] 29) := hw6.out
        replace E : Hid (Below w2.heap.size w2 v5) := E.out.trans (ho6.below hlgR.out)
        replace OM := Lib.hid (OM.out.only7 ho6 NR.out.1 NR.out.2)
        replace BL := Lib.hid (BL.out.only ho6 (Ne.symm NG.out))
        clear BR; have BR := Bn; clear Bn
        refine wpList_end (postH_normal (hK _ _ _ E.out ?_))
        clear hK K hw6 ho6
        refine wpAnyH_each (rs := [7]) (by kernel_rfl) (by decide) (fun K hK i hi => ?_)
        obtain rfl := List.mem_singleton.1 hi
        refine wpOp_listed rfl ?_
        refine wpList_blk_store rfl 3 _ _ rfl 0 (.int .i64 (p : Int)) rfl rfl BL.out size_int7 (Nat.le_refl 1) (one_int7 _ _) ?_
        intro v6 hw6 ho6
        have Bn : Hid (Blk v6 gL [.int .i64 (p : Int)] 3) := hw6.out
        replace E : Hid (Below w2.heap.size w2 v6) := E.out.trans (ho6.below hlgL.out)
        replace OM := Lib.hid (OM.out.only7 ho6 NL.out.1 NL.out.2)
        replace BR := Lib.hid (BR.out.only ho6 NG.out)
        clear BL; have BL := Bn; clear Bn
        refine wpList_end (postH_normal (hK _ _ _ E.out ?_))
        clear hK K hw6 ho6
        refine wpAnyH_done (by kernel_rfl) ?_ _
        try go_wp2_with fail
        go_meet
        exact ⟨gR, gL, x, bl, by first | rfl | (go_simp; done), by first | rfl | (go_simp; done), hlgR.out, hlgL.out, NG.out, NL.out.1, NL.out.2, BR.out, BL.out, OM.out, E.out⟩
    · skip
      refine wpOp_listed rfl ?_
      go_wp2_with fail
      obtain ⟨gL, hg⟩ : ∃ x, x = v0.heap.size := ⟨_, rfl⟩
      have hb : Below v0.heap.size v0 (v0.alloc (.cells #[.int .i64 0] 3)) := (Below.refl _ _).alloc (Nat.le_refl _) _
      have Bn : Hid (Blk (v0.alloc (.cells #[.int .i64 0] 3)) gL [.int .i64 0] 3) := by show Blk _ _ _ _; rw [hg]; exact Blk.new _ [_] _
      have hlgL : Hid (w2.heap.size ≤ gL) := by show _ ≤ _; rw [hg]; exact E.out.size
      replace E : Hid (Below w2.heap.size w2 (v0.alloc (.cells #[.int .i64 0] 3))) := E.out.trans (hb.mono E.out.size)
      have BL := Bn; clear Bn
      rw [← hg]
      refine postH_normal (hK _ _ _ E.out ?_)
      clear hK K hb hg
      generalize v0.alloc _ = v1 at E BL ⊢
      refine wpAnyH_each (rs := [1, 4]) (by kernel_rfl) (by decide) (fun K hK i hi => ?_)
      simp only [List.mem_cons, List.not_mem_nil, or_false] at hi
      rcases hi with rfl | rfl
      · skip
        refine wpOp_listed rfl ?_
        go_wp2_with fail
        refine (CP.out v1 (M2.out.keep E.out) (T2.out.on E.out)).mono ?_
        rintro e v2 ⟨⟨x, bl, rfl, hOm⟩, hb⟩
        have NL : Hid (x ≠ gL ∧ ∀ b ∈ bl, b ≠ gL) := ⟨by have := hOm.low; have := BL.out.lt; omega, fun b hb' => by have := hOm.lows b hb'; have := BL.out.lt; omega⟩
        have OMn := Lib.hid (hOm.up7 E.out.size)
        replace E : Hid (Below w2.heap.size w2 v2) := E.out.trans (hb.mono E.out.size)
        replace BL := Lib.hid (BL.out.below hb BL.out.lt)
        have OM := OMn; clear OMn
        clear hOm
        go_wp2_with fail
        refine postH_normal (hK _ _ _ E.out ?_)
        clear hK K hb
        refine wpAnyH_each (rs := [3, 4]) (by kernel_rfl) (by decide) (fun K hK i hi => ?_)
        simp only [List.mem_cons, List.not_mem_nil, or_false] at hi
        rcases hi with rfl | rfl
        · skip
          refine wpOp_listed rfl ?_
          go_wp2_with fail
          refine (CN.out v2).mono ?_
          rintro e v3 ⟨rfl, hb⟩
          replace E : Hid (Below w2.heap.size w2 v3) := E.out.trans (hb.mono E.out.size)
          replace OM := Lib.hid (OM.out.keep hb)
          replace BL := Lib.hid (BL.out.below hb BL.out.lt)
          go_wp2_with fail
          refine postH_normal (hK _ _ _ E.out ?_)
          clear hK K hb
          refine wpAnyH_each (rs := [4]) (by kernel_rfl) (by decide) (fun K hK i hi => ?_)
          obtain rfl := List.mem_singleton.1 hi
          refine wpOp_listed rfl ?_
          go_wp2_with fail
          obtain ⟨gR, hg⟩ : ∃ x, x = v3.heap.size := ⟨_, rfl⟩
          have hb : Below v3.heap.size v3 (v3.alloc (.cells #[.slice none 0 0] 29)) := (Below.refl _ _).alloc (Nat.le_refl _) _
          have Bn : Hid (Blk (v3.alloc (.cells #[.slice none 0 0] 29)) gR [.slice none 0 0] 29) := by show Blk _ _ _ _; rw [hg]; exact Blk.new _ [_] _
          have hlgR : Hid (w2.heap.size ≤ gR) := by show _ ≤ _; rw [hg]; exact E.out.size
          have NR : Hid (x ≠ gR ∧ ∀ b ∈ bl, b ≠ gR) := ⟨by have := OM.out.lts7.1; omega, fun b hb' => by have := OM.out.lts7.2 b hb'; omega⟩
          have NG : Hid (gR ≠ gL) := by have := BL.out.lt; show _ ≠ _; omega
          replace E : Hid (Below w2.heap.size w2 (v3.alloc (.cells #[.slice none 0 0] 29))) := E.out.trans (hb.mono E.out.size)
          replace OM := Lib.hid (OM.out.keep hb)
          replace BL := Lib.hid (BL.out.below hb BL.out.lt)
          have BR := Bn; clear Bn
          rw [← hg]
          refine postH_normal (hK _ _ _ E.out ?_)
          clear hK K hb hg
          generalize v3.alloc _ = v4 at E BR BL OM ⊢
          refine wpAnyH_each (rs := [6]) (by kernel_rfl) (by decide) (fun K hK i hi => ?_)
          obtain rfl := List.mem_singleton.1 hi
          refine wpOp_listed rfl ?_
          refine wpList_blk_store rfl 29 _ _ rfl 0 (.slice (some ⟨x, 0, none⟩) N N) rfl rfl BR.out size_rows7 (Nat.le_refl 1) (one_slice _ _ _) ?_
          intro v5 hw6 ho6
          have Bn : Hid (Blk v5 gR [.slice (some ⟨x, 0, none⟩) N N] 29) := hw6.out
          replace E : Hid (Below w2.heap.size w2 v5) := E.out.trans (ho6.below hlgR.out)
          replace OM := Lib.hid (OM.out.only7 ho6 NR.out.1 NR.out.2)
          replace BL := Lib.hid (BL.out.only ho6 (Ne.symm NG.out))
          clear BR; have BR := Bn; clear Bn
          refine wpList_end (postH_normal (hK _ _ _ E.out ?_))
          clear hK K hw6 ho6
          refine wpAnyH_each (rs := [7]) (by kernel_rfl) (by decide) (fun K hK i hi => ?_)
          obtain rfl := List.mem_singleton.1 hi
          refine wpOp_listed rfl ?_
          refine wpList_blk_store rfl 3 _ _ rfl 0 (.int .i64 (p : Int)) rfl rfl BL.out size_int7 (Nat.le_refl 1) (one_int7 _ _) ?_
          intro v6 hw6 ho6
          have Bn : Hid (Blk v6 gL [.int .i64 (p : Int)] 3) := hw6.out
          replace E : Hid (Below w2.heap.size w2 v6) := E.out.trans (ho6.below hlgL.out)
          replace OM := Lib.hid (OM.out.only7 ho6 NL.out.1 NL.out.2)
          replace BR := Lib.hid (BR.out.only ho6 NG.out)
          clear BL; have BL := Bn; clear Bn
          refine wpList_end (postH_normal (hK _ _ _ E.out ?_))
          clear hK K hw6 ho6
          refine wpAnyH_done (by kernel_rfl) ?_ _
          try go_wp2_with fail
          go_meet
          exact ⟨gR, gL, x, bl, by first | rfl | (go_simp; done), by first | rfl | (go_simp; done), hlgR.out, hlgL.out, NG.out, NL.out.1, NL.out.2, BR.out, BL.out, OM.out, E.out⟩
        · skip
          refine wpOp_listed rfl ?_
          go_wp2_with fail
          obtain ⟨gR, hg⟩ : ∃ x, x = v2.heap.size := ⟨_, rfl⟩
          have hb : Below v2.heap.size v2 (v2.alloc (.cells #[.slice none 0 0] 29)) := (Below.refl _ _).alloc (Nat.le_refl _) _
          have Bn : Hid (Blk (v2.alloc (.cells #[.slice none 0 0] 29)) gR [.slice none 0 0] 29) := by show Blk _ _ _ _; rw [hg]; exact Blk.new _ [_] _
          have hlgR : Hid (w2.heap.size ≤ gR) := by show _ ≤ _; rw [hg]; exact E.out.size
          have NR : Hid (x ≠ gR ∧ ∀ b ∈ bl, b ≠ gR) := ⟨by have := OM.out.lts7.1; omega, fun b hb' => by have := OM.out.lts7.2 b hb'; omega⟩
          have NG : Hid (gR ≠ gL) := by have := BL.out.lt; show _ ≠ _; omega
          replace E : Hid (Below w2.heap.size w2 (v2.alloc (.cells #[.slice none 0 0] 29))) := E.out.trans (hb.mono E.out.size)
          replace OM := Lib.hid (OM.out.keep hb)
          replace BL := Lib.hid (BL.out.below hb BL.out.lt)
          have BR := Bn; clear Bn
          rw [← hg]
          refine postH_normal (hK _ _ _ E.out ?_)
          clear hK K hb hg
          generalize v2.alloc _ = v3 at E BR BL OM ⊢
          refine wpAnyH_each (rs := [3]) (by kernel_rfl) (by decide) (fun K hK i hi => ?_)
          obtain rfl := List.mem_singleton.1 hi
          refine wpOp_listed rfl ?_
          go_wp2_with fail
          refine (CN.out v3).mono ?_
          rintro e v4 ⟨rfl, hb⟩
          replace E : Hid (Below w2.heap.size w2 v4) := E.out.trans (hb.mono E.out.size)
          replace OM := Lib.hid (OM.out.keep hb)
          replace BR := Lib.hid (BR.out.below hb BR.out.lt)
          replace BL := Lib.hid (BL.out.below hb BL.out.lt)
          go_wp2_with fail
          refine postH_normal (hK _ _ _ E.out ?_)
          clear hK K hb
          refine wpAnyH_each (rs := [6]) (by kernel_rfl) (by decide) (fun K hK i hi => ?_)
          obtain rfl := List.mem_singleton.1 hi
          refine wpOp_listed rfl ?_
          refine wpList_blk_store rfl 29 _ _ rfl 0 (.slice (some ⟨x, 0, none⟩) N N) rfl rfl BR.out size_rows7 (Nat.le_refl 1) (one_slice _ _ _) ?_
          intro v5 hw6 ho6
          have Bn : Hid (Blk v5 gR [.slice (some ⟨x, 0, none⟩) N N] 29) := hw6.out
          replace E : Hid (Below w2.heap.size w2 v5) := E.out.trans (ho6.below hlgR.out)
          replace OM := Lib.hid (OM.out.only7 ho6 NR.out.1 NR.out.2)
          replace BL := Lib.hid (BL.out.only ho6 (Ne.symm NG.out))
          clear BR; have BR := Bn; clear Bn
          refine wpList_end (postH_normal (hK _ _ _ E.out ?_))
          clear hK K hw6 ho6
          refine wpAnyH_each (rs := [7]) (by kernel_rfl) (by decide) (fun K hK i hi => ?_)
          obtain rfl := List.mem_singleton.1 hi
          refine wpOp_listed rfl ?_
          refine wpList_blk_store rfl 3 _ _ rfl 0 (.int .i64 (p : Int)) rfl rfl BL.out size_int7 (Nat.le_refl 1) (one_int7 _ _) ?_
          intro v6 hw6 ho6
          have Bn : Hid (Blk v6 gL [.int .i64 (p : Int)] 3) := hw6.out
          replace E : Hid (Below w2.heap.size w2 v6) := E.out.trans (ho6.below hlgL.out)
          replace OM := Lib.hid (OM.out.only7 ho6 NL.out.1 NL.out.2)
          replace BR := Lib.hid (BR.out.only ho6 NG.out)
          clear BL; have BL := Bn; clear Bn
          refine wpList_end (postH_normal (hK _ _ _ E.out ?_))
          clear hK K hw6 ho6
          refine wpAnyH_done (by kernel_rfl) ?_ _
          try go_wp2_with fail
          go_meet
          exact ⟨gR, gL, x, bl, by first | rfl | (go_simp; done), by first | rfl | (go_simp; done), hlgR.out, hlgL.out, NG.out, NL.out.1, NL.out.2, BR.out, BL.out, OM.out, E.out⟩
      · skip
        refine wpOp_listed rfl ?_
        go_wp2_with fail
        obtain ⟨gR, hg⟩ : ∃ x, x = v1.heap.size := ⟨_, rfl⟩
        have hb : Below v1.heap.size v1 (v1.alloc (.cells #[.slice none 0 0] 29)) := (Below.refl _ _).alloc (Nat.le_refl _) _
        have Bn : Hid (Blk (v1.alloc (.cells #[.slice none 0 0] 29)) gR [.slice none 0 0] 29) := by show Blk _ _ _ _; rw [hg]; exact Blk.new _ [_] _
        have hlgR : Hid (w2.heap.size ≤ gR) := by show _ ≤ _; rw [hg]; exact E.out.size
        have NG : Hid (gR ≠ gL) := by have := BL.out.lt; show _ ≠ _; omega
        replace E : Hid (Below w2.heap.size w2 (v1.alloc (.cells #[.slice none 0 0] 29))) := E.out.trans (hb.mono E.out.size)
        replace BL := Lib.hid (BL.out.below hb BL.out.lt)
        have BR := Bn; clear Bn
        rw [← hg]
        refine postH_normal (hK _ _ _ E.out ?_)
        clear hK K hb hg
        generalize v1.alloc _ = v2 at E BR BL ⊢
        refine wpAnyH_each (rs := [1]) (by kernel_rfl) (by decide) (fun K hK i hi => ?_)
        obtain rfl := List.mem_singleton.1 hi
        refine wpOp_listed rfl ?_
        go_wp2_with fail
        refine (CP.out v2 (M2.out.keep E.out) (T2.out.on E.out)).mono ?_
        rintro e v3 ⟨⟨x, bl, rfl, hOm⟩, hb⟩
        have NR : Hid (x ≠ gR ∧ ∀ b ∈ bl, b ≠ gR) := ⟨by have := hOm.low; have := BR.out.lt; omega, fun b hb' => by have := hOm.lows b hb'; have := BR.out.lt; omega⟩
        have NL : Hid (x ≠ gL ∧ ∀ b ∈ bl, b ≠ gL) := ⟨by have := hOm.low; have := BL.out.lt; omega, fun b hb' => by have := hOm.lows b hb'; have := BL.out.lt; omega⟩
        have OMn := Lib.hid (hOm.up7 E.out.size)
        replace E : Hid (Below w2.heap.size w2 v3) := E.out.trans (hb.mono E.out.size)
        replace BR := Lib.hid (BR.out.below hb BR.out.lt)
        replace BL := Lib.hid (BL.out.below hb BL.out.lt)
        have OM := OMn; clear OMn
        clear hOm
        go_wp2_with fail
        refine postH_normal (hK _ _ _ E.out ?_)
        clear hK K hb
        refine wpAnyH_each (rs := [3]) (by kernel_rfl) (by decide) (fun K hK i hi => ?_)
        obtain rfl := List.mem_singleton.1 hi
        refine wpOp_listed rfl ?_
        go_wp2_with fail
        refine (CN.out v3).mono ?_
        rintro e v4 ⟨rfl, hb⟩
        replace E : Hid (Below w2.heap.size w2 v4) := E.out.trans (hb.mono E.out.size)
        replace OM := Lib.hid (OM.out.keep hb)
        replace BR := Lib.hid (BR.out.below hb BR.out.lt)
        replace BL := Lib.hid (BL.out.below hb BL.out.lt)
        go_wp2_with fail
        refine postH_normal (hK _ _ _ E.out ?_)
        clear hK K hb
        refine wpAnyH_each (rs := [6]) (by kernel_rfl) (by decide) (fun K hK i hi => ?_)
        obtain rfl := List.mem_singleton.1 hi
        refine wpOp_listed rfl ?_
        refine wpList_blk_store rfl 29 _ _ rfl 0 (.slice (some ⟨x, 0, none⟩) N N) rfl rfl BR.out size_rows7 (Nat.le_refl 1) (one_slice _ _ _) ?_
        intro v5 hw6 ho6
        have Bn : Hid (Blk v5 gR [.slice (some ⟨x, 0, none⟩) N N] 29) := hw6.out
        replace E : Hid (Below w2.heap.size w2 v5) := E.out.trans (ho6.below hlgR.out)
        replace OM := Lib.hid (OM.out.only7 ho6 NR.out.1 NR.out.2)
        replace BL := Lib.hid (BL.out.only ho6 (Ne.symm NG.out))
        clear BR; have BR := Bn; clear Bn
        refine wpList_end (postH_normal (hK _ _ _ E.out ?_))
        clear hK K hw6 ho6
        refine wpAnyH_each (rs := [7]) (by kernel_rfl) (by decide) (fun K hK i hi => ?_)
        obtain rfl := List.mem_singleton.1 hi
        refine wpOp_listed rfl ?_
        refine wpList_blk_store rfl 3 _ _ rfl 0 (.int .i64 (p : Int)) rfl rfl BL.out size_int7 (Nat.le_refl 1) (one_int7 _ _) ?_
        intro v6 hw6 ho6
        have Bn : Hid (Blk v6 gL [.int .i64 (p : Int)] 3) := hw6.out
        replace E : Hid (Below w2.heap.size w2 v6) := E.out.trans (ho6.below hlgL.out)
        replace OM := Lib.hid (OM.out.only7 ho6 NL.out.1 NL.out.2)
        replace BR := Lib.hid (BR.out.only ho6 NG.out)
        clear BL; have BL := Bn; clear Bn
        refine wpList_end (postH_normal (hK _ _ _ E.out ?_))
        clear hK K hw6 ho6
        refine wpAnyH_done (by kernel_rfl) ?_ _
        try go_wp2_with fail
        go_meet
        exact ⟨gR, gL, x, bl, by first | rfl | (go_simp; done), by first | rfl | (go_simp; done), hlgR.out, hlgL.out, NG.out, NL.out.1, NL.out.2, BR.out, BL.out, OM.out, E.out⟩
  case rest =>
    obtain ⟨gR, gL, xr, bl, rfl, rfl, l1, l2, n1, n2, n3, BR0, BL0, OM0, E0⟩ := hcut.out
    have BR := Lib.hid BR0
    have BL := Lib.hid BL0
    have OM := Lib.hid OM0
    have E := Lib.hid E0
    have NE : Hid (gR ≠ gL ∧ xr ≠ gL ∧ ∀ b ∈ bl, b ≠ gL) := ⟨n1, n2, n3⟩
    have hlL : Hid (w2.heap.size ≤ gL) := l2
    have q1 := BL0.cell (j := 0) rfl
    clear l1 l2 n1 n2 n3 BR0 BL0 OM0 E0 hcut
    obtain ⟨hP1, hP2⟩ := two_wrap hp24
    obtain ⟨PP, hPP⟩ : ∃ P, P = 2 ^ p := ⟨_, rfl⟩
    have hPPH := Lib.hid hPP
    rw [← hPP] at hP1 hP2
    have hPPpos : 1 ≤ PP := by rw [hPP]; exact Nat.one_le_two_pow
    have v1 : ¬ (p : Int) < 0 := by omega
    have v0 : 0 ≤ (p : Int) := by omega
    have hminp : min p 64 = p := by omega
    have hSS : ((PP : Int) - 1) = ((PP - 1 : Nat) : Int) := by omega
    have hSw : wrap64 ((PP : Int) - 1) = ((PP - 1 : Nat) : Int) := by unfold wrap64; omega
    clear hPP
    obtain ⟨W3, hW3⟩ : ∃ W3, W3 = wc.alloc (.cells #[.int .i64 ((PP - 1 : Nat) : Int)] 3) := ⟨_, rfl⟩
    have hb3 : Below wc.heap.size wc W3 := by rw [hW3]; exact (Below.refl _ _).alloc (Nat.le_refl _) _
    have BA : Hid (Blk W3 wc.heap.size [.int .i64 ((PP - 1 : Nat) : Int)] 3) := by show Blk _ _ _ _; rw [hW3]; exact Blk.new _ [_] _
    have q2 : (wc.alloc (.cells #[.int .i64 ((PP - 1 : Nat) : Int)] 3)).cell? ⟨gL, 0, none⟩ = some (.int .i64 (p : Int)) := by rw [← hW3]; exact (BL.out.below hb3 BL.out.lt).cell (j := 0) rfl
    have CL : Hid (Calls Tryd.prog 50 #[.int .i64 (p : Int)] (wc.alloc (.cells #[.int .i64 ((PP - 1 : Nat) : Int)] 3)) fun e w' => e = .returned (.func (.func 75) #[] #[.pointer (some ⟨W3.heap.size, 0, none⟩)]) ∧ w' = W3.alloc (.cells #[.int .i64 p] 3)) := by rw [← hW3]; exact losses_any (p : Int) W3
    gi_wp2_with (refine ⟨trivial, ?_⟩; gi_at_call 50; refine (callsIn_wide.2 CL.out).mono ?_; rintro e W4 ⟨rfl, hW4⟩)
    rw [show wc.heap.size + 1 = W3.heap.size by rw [hW3]; simp]
    rw [← hW3]
    obtain ⟨W4, hW4⟩ : ∃ W4, W4 = W3.alloc (.cells #[.int .i64 (p : Int)] 3) := ⟨_, rfl⟩
    rw [← hW4]
    have hb4 : Below wc.heap.size wc W4 := by rw [hW4]; exact hb3.alloc hb3.size _
    have X4 : Blk W4 W3.heap.size [.int .i64 (p : Int)] 3 := by rw [hW4]; exact Blk.new _ [_] _
    have h34 : Below W3.heap.size W3 W4 := by rw [hW4]; exact (Below.refl _ _).alloc (Nat.le_refl _) _
    have hE4 : Below w2.heap.size w2 W4 := E.out.trans (hb4.mono E.out.size)
    have hlt3 : W3.heap.size < W4.heap.size := X4.lt
    have A4 := Lib.hid (BA.out.below h34 BA.out.lt)
    have R4 := Lib.hid (BR.out.below hb4 BR.out.lt)
    have L4 := Lib.hid (BL.out.below hb4 BL.out.lt)
    have O4 := Lib.hid (OM.out.keep hb4)
    have C4 := Lib.hid (hC2.out.below hE4 hC2.out.lt)
    have T4 := Lib.hid (T2.out.on hE4)
    have hB4 : Hid (Below w.heap.size w W4) := hB2.out.trans (hE4.mono hB2.out.size)
    have hlLw : Hid (w.heap.size ≤ gL) := Nat.le_trans hB2.out.size hlL.out
    have hgL4 : Hid (gL < W4.heap.size) := L4.out.lt
    have hS := losses_stops (B := W4.heap.size) 4 W3.heap.size p hp24 W4 X4
    have han : ∀ x : LS p, bits BinOp.andNot IntKind.i64 ((PP - 1 : Nat) : Int) (x.1 : Int) = ((lef7 p x.1 : Nat) : Int) := fun x => by rw [hPPH.out]; exact andNot_all hp24 x.2.2
    have hanH := Lib.hid han
    have hans' := Lib.hid hans
    have E4 := Lib.hid hE4
    have hpH4 := Lib.hid hp24
    have hwcH : Hid (wc.heap.size < W4.heap.size) := A4.out.lt
    clear hW3 hW4 hb3 BA q2 q1 CL hb4 X4 h34 hE4 han hans hP1 hP2 v1 v0 hSS hSw hminp BR BL OM E
    refine wpIn_rangeFunc_ownG hro (by omega) (gf := 75) (lb := #[.pointer (some ⟨W3.heap.size, 0, none⟩)]) rfl trivial (enters_of Tryd.func75 (by kernel_rfl) rfl)
      hS keepC_t (keepC_b hlt3 (Nat.le_refl _)) (Below.refl _ _) (fun _ => rfl)
      (fun (pre : List (LS p)) W => (∀ z ∈ pre, Full7 (pcL D Gs (lef7 p z.1) p) D) ∧ Below W4.heap.size W4 W)
      (fun c pre W => (c = Code.exit 0 ∧ ∃ pre' y, pre = pre' ++ [y] ∧ (∀ z ∈ pre', Full7 (pcL D Gs (lef7 p z.1) p) D) ∧ ¬ Full7 (pcL D Gs (lef7 p y.1) p) D ∧ Boxed W gL 3 (.int .i64 (cnt7 y.1 : Nat))) ∧ Below w.heap.size w W)
      (OwnFrom.and (Own.from (fun s X Y row hs hg hr => hs) _) (ownFrom_below (Nat.le_refl _) (Nat.le_refl _)))
      (fun c => OwnFrom.and (Own.from (fun s X Y row hs hg hr => ⟨hs.1, by obtain ⟨_, pre', y, h1, h2, h3, h4⟩ := hs; exact ⟨pre', y, h1, h2, h3, (grownBy_keeps_cells hg hr h4 rfl).trans h4⟩⟩) _) (ownFrom_below (Nat.le_refl _) hB4.out.size))
      ⟨fun _ h => (by cases h), Below.refl _ _⟩
      (fun x => { tmps := #[.agg #[.int .i64 D, .slice A n c, .int .i64 G], .pointer (some ⟨w.heap.size, 0, none⟩), .int .i64 0, .int .i64 0, .int .i64 0, .pointer (some ⟨gR, 0, none⟩), .pointer (some ⟨gL, 0, none⟩), .pointer (some ⟨wc.heap.size, 0, none⟩), .int .i64 (x.1 : Int), .agg #[.int .i64 D, .slice A n c, .int .i64 G], .int .i64 0, .int .i64 0, .bool false, undef, u14, u15, u16, u17, .int .i64 (p : Int), .int .i64 (PP : Int), .int .i64 ((PP - 1 : Nat) : Int), .int .i64 (p : Int), .func (.func 75) #[] #[.pointer (some ⟨W3.heap.size, 0, none⟩)], .int .i64 (x.1 : Int), undef, undef, undef, undef, undef, undef, undef, undef, undef, undef, undef], defers := [] }) ?assign ?body ?done ?stop
    case assign =>
      intro l x W K hK
      gi_wp2
      exact hK
    case body =>
      rintro l pre x W ⟨hpre, hB⟩ hlt
      have hpreH := Lib.hid hpre
      have hBH := Lib.hid hB
      have C5 := C4.out.below hB C4.out.lt
      have R5 := R4.out.below hB R4.out.lt
      have A5 := A4.out.below hB A4.out.lt
      have c0 := C5.cell (j := 0) rfl
      have c1 := C5.cell (j := 1) rfl
      have c2 := C5.cell (j := 2) rfl
      have r0 := R5.cell (j := 0) rfl
      have a0 := A5.cell (j := 0) rfl
      have hx := hanH.out x
      have HC := Lib.hid (CS.out W _ xr bl x.1 (O4.out.keep hB) (T4.out.on hB) x.2.2)
      have hxl := x.2.2
      have hx24 : (x.1 : Nat) < 16777216 := by have h := Nat.pow_le_pow_right (n := 2) (by omega) hpH4.out; omega
      have L5 : Hid (Blk W gL [.int .i64 (p : Int)] 3) := L4.out.below hB L4.out.lt
      have hgLW : Hid (gL < W.heap.size) := L5.out.lt
      clear C5 R5 A5 hpre hB
      gi_wp2_with (refine ⟨trivial, ?_⟩; gi_at_call 48; refine (CallsIn.inRound l (callsIn_wide.2 HC.out)).mono ?_; rintro e w3 ⟨⟨bb, rfl, hq⟩, hb⟩; have hqH := Lib.hid hq; have hbH := Lib.hid hb; clear hq hb; cases bb)
      · have hno : Hid (¬ Full7 (pcL D Gs (lef7 p x.1) p) D) := fun h => by have := hqH.out.2 h; simp at this
        have L6 : Boxed w3 gL 3 (.int .i64 (p : Int)) := L5.out.below hbH.out L5.out.lt
        have g0 := L6.cell
        have L6H := Lib.hid L6
        have CO := Lib.hid (fun W => onesCount_any x.1 (by omega) W)
        rw [ones_cnt7 64 x.1 (by omega)] at CO
        have hw : IntKind.u64.wrap (x.1 : Int) = (x.1 : Int) := by rw [IntKind.wrap_u64]; omega
        have gz := L6.frozen
        clear hqH L6
        gi_wp2_with (refine ⟨trivial, ?_⟩; gi_at_call 51; refine (CallsIn.inRound l (callsIn_wide.2 (CO.out _))).mono ?_; rintro e w4 ⟨rfl, rfl⟩)
        exact ⟨⟨by rw [World.size_setCell]; exact hbH.out.size, fun k o _ hk ho => by
          have hne : k ≠ gL := fun e => by
            rw [e] at hk
            have := hk.symm.trans L5.out
            injection this with this
            rw [this] at ho
            cases ho
          exact (Below.heap_setCell _ _ _ _ hne).trans ((hbH.out.block k (Array.getElem?_eq_some_iff.1 hk).1).trans hk)⟩, ⟨rfl, pre, x, rfl, hpreH.out, hno.out, L6H.out.set _⟩, (hB4.out.trans ((hBH.out.mono hB4.out.size).trans (hbH.out.mono (Nat.le_trans hB4.out.size hBH.out.size)))).trans ((Below.refl _ _).setCell (p := ⟨gL, 0, none⟩) hlLw.out _)⟩
      · have hyes : Hid (Full7 (pcL D Gs (lef7 p x.1) p) D) := hqH.out.1 (by first | rfl | trivial)
        clear hqH
        gi_wp2_with fail
        exact ⟨⟨hbH.out.size, fun k o _ hk ho => (hbH.out.block k (Array.getElem?_eq_some_iff.1 hk).1).trans hk⟩, ⟨hbH.out.mono hBH.out.size, hbH.out.block _ (Nat.lt_of_lt_of_le hlt3 hBH.out.size)⟩, fun z hz => by
          rcases List.mem_append.1 hz with h | h
          · exact hpreH.out z h
          · rw [List.mem_singleton.1 h]; exact hyes.out, hBH.out.trans (hbH.out.mono hBH.out.size)⟩
    case done =>
      rintro Dd ys W hDd rfl ⟨hall, hB⟩ hK
      have L5 := L4.out.below hB L4.out.lt
      have g0 := L5.cell (j := 0) rfl
      have hdis : Hid (DisR D p Gs p) := ⟨fun y h0 h1 h2 => hall _ (mem_los7 h0 h1 (Nat.le_of_lt h2)), Nat.le_refl _, .inl rfl⟩
      have hfin : Hid (Below w.heap.size w W) := hB4.out.trans (hB.mono hB4.out.size)
      clear hall
      gi_wp2
      refine ⟨by simp, .inl ⟨_, _, rfl, run_takeDeferred hK, ?_⟩⟩
      exact ⟨_, results_tmp2 (t := 2) (u := 3) rfl _ _ _, hans'.out p hdis.out _ (hfin.out.trans (belowK_b (w := w) (Nat.le_refl _) W Dd _ _ (Nat.le_trans hB4.out.size hDd) hK rfl rfl))⟩
    case stop =>
      rintro Dd cc pre W hDd hleft ⟨⟨rfl, pre', y, hpe, h1, h2, h3⟩, hB⟩ hK
      have g0 := h3.cell
      have hdis : Hid (DisR D p Gs (cnt7 y.1)) := by
        obtain ⟨m, x, e1, e2, hm⟩ := hleft
        rw [e1] at hpe
        obtain ⟨e3, e4⟩ := List.append_inj' hpe rfl
        have e5 : x = y := by injection e4
        rw [← e5]
        refine ⟨fun z h0 hz1 hz2 => ?_, by omega, .inr ⟨x.1, x.2.1, x.2.2, rfl, by rw [e5]; exact h2⟩⟩
        have := h1 ⟨z, h0, hz1⟩ (by rw [← e3]; exact List.mem_append_left _ (mem_los7 h0 hz1 (by omega)))
        exact this
      have hfin := Lib.hid hB
      clear hleft hpe h1 h2
      gi_wp2
      refine ⟨by simp, .inl ⟨_, _, rfl, run_takeDeferred hK, ?_⟩⟩
      exact ⟨_, results_tmp2 (t := 2) (u := 3) rfl _ _ _, hans'.out _ hdis.out _ (hfin.out.trans (belowK_b (w := w) (Nat.le_refl _) W Dd _ _ (Nat.le_trans hB4.out.size hDd) hK rfl rfl))⟩

end Go.Proofs.YtcnljemnkhmfcaaDoor
