/-
  Contracts of stage 5: the reference's Reduce.
-/
import Derived.Test.YtfbdhcpclccikaaDoorMrt
import Derived.Test.YtfbdhcpclccikaaDoorMra
namespace Go.Proofs.YtfbdhcpclccikaaDoor
set_option linter.unusedVariables false
set_option linter.unusedSimpArgs false
open Go.RowKit

theorem size_red : (Tryd.prog.info? 38).map (·.size) = some 2 := by kernel_rfl
theorem row_red : ∃ d, Tryd.prog.underlying 38 = some d ∧ d.isRow = true := ⟨_, Tryd.underlying38, rfl⟩
theorem red_one (A : Option Addr) (n c : Nat) (A' : Option Addr) (n' c' : Nat) : ∀ u ∈ [Value.slice A n c, Value.slice A' n' c'], u.oneCell' = true := by
  intro u hu
  simp only [List.mem_cons, List.not_mem_nil, or_false] at hu
  rcases hu with rfl | rfl <;> rfl
/-- What Reduce's loop knows of the rows and of the pivots. -/
def RRel (g cc n : Nat) (w : World) (v4 v3 : Value) (M : List (List UInt8)) (piv : List Nat) : Prop :=
  ∃ A c A2 c2, v3 = .slice A n c ∧ v4 = .slice A2 piv.length c2 ∧ n ≤ c ∧ M.length = n ∧ Rect M cc ∧ Mat w w.heap.size A M ∧ (0 < cc → MatX g w A M) ∧ OwnP w (g + 1) v4 piv
/-- What Reduce ends with. -/
def RefRed (w : World) (M : List (List UInt8)) (e : Ending) (w' : World) : Prop :=
  ∃ A c A2 c2, e = .returned (.agg #[.slice A (redP M).length c, .slice A2 (redP M).length c2]) ∧ Mat w' w'.heap.size A (redR M) ∧ Rds w' w'.heap.size A2 ((redP M).map pv) ∧ Below w.heap.size w w'

set_option maxRecDepth 100000 in
set_option maxHeartbeats 8000000 in
theorem refReduce_any (M : List (List UInt8)) (A : Option Addr) (c n cc : Nat) (w : World) (h : Mat w w.heap.size A M) (hn : M.length = n) (hnc : n ≤ c) (hrect : Rect M cc) (hl : n ≤ 100000) (hcc : cc ≤ 100000) :
    Calls Tryd.prog 25 #[.slice A n c] w (RefRed w M) := by
  obtain ⟨dd, hdu, hdr⟩ := row_red
  have hdu' := Lib.hid hdu
  obtain ⟨W1, hW1⟩ : ∃ W1, W1 = w.alloc (.cells #[.slice none 0 0, .slice none 0 0] 38) := ⟨_, rfl⟩
  have hB1 : Hid (Below w.heap.size w W1) := by show Below _ _ _; rw [hW1]; exact (Below.refl _ _).alloc (Nat.le_refl _) _
  have hR1 : Hid (Blk W1 w.heap.size [.slice none 0 0, .slice none 0 0] 38) := by show Blk _ _ _ _; rw [hW1]; exact Blk.new _ [_, _] _
  have hs1 : Hid (W1.heap.size = w.heap.size + 1) := by show _ = _; rw [hW1]; simp
  have hW1' := Lib.hid hW1
  have hM0 := Lib.hid h
  have hM1 : Hid (Mat W1 w.heap.size A M) := h.below hB1.out
  obtain ⟨q, hq⟩ : ∃ q, cols M = q := ⟨_, rfl⟩
  have hqc : M = [] ∧ q = 0 ∨ q = cc := by
    cases M with
    | nil => left; exact ⟨rfl, by rw [← hq]; rfl⟩
    | cons m M => right; rw [← hq]; exact hrect m (List.mem_cons_self ..)
  have hq100 : q ≤ 100000 := by rcases hqc with ⟨_, h⟩ | h <;> omega
  have hqlt : ∀ k, k < q → k < cc := fun k hk => by rcases hqc with ⟨_, h⟩ | h <;> omega
  have hqlt' := Lib.hid hqlt
  have CC : Hid (∀ W, Below W1.heap.size W1 W → Calls Tryd.prog 37 #[.slice A n c] W fun e w' => e = .returned (.int .i64 q) ∧ w' = W) := fun W hW => by
    rw [← hn, ← hq]
    exact refColumns_any M A c W (hM1.out.below (hW.mono (by rw [hs1.out]; omega)))
  have hrel0 : Hid (RRel w.heap.size cc n W1 (.slice none 0 0) (.slice A n c) (red M 0).1 (red M 0).2) := by
    refine ⟨A, c, none, 0, rfl, rfl, hnc, hn, hrect, hM1.out.more hB1.out.size, fun h0 => hM1.out.off hrect h0 (by rw [hs1.out]; omega) (Nat.le_refl _), ?_⟩
    exact ownP_nil W1 _
  have hend : Hid (q = cols M) := hq.symm
  have hlen : Hid (∀ k, (red M k).2.length ≤ n ∧ (red M k).2.length ≤ k ∧ (red M k).1.length = n) := fun k => ⟨by rw [← hn]; exact red_piv_le hrect k, red_piv_le_n hrect k, by rw [red_len hrect, hn]⟩
  have hrr : Hid (∀ k, Rect (red M k).1 cc) := fun k => red_rect hrect k
  clear hdu hW1 h hn hq hqc hqlt hrect hM0 hnc
  go_enter Tryd.func25, Tryd.ntmps25
  go_wp2_with fail
  generalize hg : w.alloc _ = Wg
  have hgW : W1 = Wg := by rw [← hg, hW1'.out]
  clear hg hW1'
  subst hgW
  go_loopw [3, 4, 5] (fun v3 v4 i wr => ∃ k : Nat, k ≤ q ∧ i = .int .i64 k ∧ RRel w.heap.size cc n wr v4 v3 (red M k).1 (red M k).2 ∧ Below W1.heap.size W1 wr) (fun _ _ i _ => q - (intOf i).toNat)
  case atStart => exact ⟨0, Nat.zero_le _, rfl, hrel0.out, Below.refl _ _⟩
  case round =>
    obtain ⟨k, hk, rfl, hR0, hb0⟩ := hrel
    have hb := Lib.hid hb0
    have C1 := Lib.hid (CC.out _ hb0)
    obtain ⟨A3, c3, A4, c4, rfl, rfl, hc3, hl3, hr3, hm3, hx3, hp3⟩ := hR0
    have hm3' := Lib.hid hm3
    have hx3' := Lib.hid hx3
    have hp3' := Lib.hid hp3
    have hr3' := Lib.hid hr3
    have hl3' := Lib.hid hl3
    have hlk := Lib.hid (hlen.out k)
    obtain ⟨p, hp⟩ : ∃ p, (red M k).2.length = p := ⟨_, rfl⟩
    have hpp := Lib.hid hp
    have hpn : p ≤ n := by rw [← hp]; exact hlk.out.1
    rw [hp]
    clear hb0 hm3 hx3 hp3 hr3 hl3 hp
    go_wp2_with fail
    refine C1.out.mono ?_
    rintro e w3 ⟨rfl, rfl⟩
    by_cases hlt : k < q
    · have t : (k : Int) < (q : Int) := by omega
      have tk0 : 0 ≤ (k : Int) := by omega
      have hkcc := hqlt'.out k hlt
      have LD := Lib.hid (lead_any (red M k).1 A3 c3 p k cc w3 hm3'.out hr3'.out hkcc (by rw [hl3'.out]; omega))
      rw [hl3'.out] at LD
      obtain ⟨f, hf⟩ : ∃ f, findP (red M k).1 k p = f := ⟨_, rfl⟩
      unfold leadI at LD
      rw [hf] at LD
      have hf' := Lib.hid hf
      clear hf C1
      cases f with
      | none =>
        have hnext : Hid (red M (k + 1) = red M k) := by
          show _ = _
          rw [red_succ, redGo_none (by rw [hpp.out]; exact hf'.out)]
          rfl
        have hR : Hid (RRel w.heap.size cc n w3 (.slice A4 p c4) (.slice A3 n c3) (red M (k + 1)).1 (red M (k + 1)).2) := by
          show RRel _ _ _ _ _ _ _ _
          rw [hnext.out]
          refine ⟨A3, c3, A4, c4, rfl, by rw [hpp.out], hc3, hl3'.out, hr3'.out, hm3'.out, hx3'.out, ?_⟩
          have := hp3'.out
          rw [hpp.out] at this
          exact this
        go_wp2_with fail
        refine LD.out.mono ?_
        rintro e w4 ⟨rfl, rfl⟩
        go_wp2_with fail
        go_roundw
        case rel => exact ⟨k + 1, by omega, by go_num, hR.out, hb.out⟩
        case measure => simp [intOf]; omega
      | some i =>
        obtain ⟨hti, hi, hne⟩ := findP_lt hf'.out
        rw [hl3'.out] at hi
        have hnext : Hid (red M (k + 1) = (pivStep (red M k).1 p k i, (red M k).2 ++ [k])) := by
          show _ = _
          have h1 := redGo_some (cs := []) (show findP (red M k).1 k (red M k).2.length = some i by rw [hpp.out]; exact hf'.out)
          rw [red_succ, h1, hpp.out]
          rfl
        have hpp1 := hlen.out (k + 1)
        rw [hnext.out] at hpp1
        have hpn1 : p + 1 ≤ n := by have := hpp1.1; simp only [List.length_append, List.length_singleton, hpp.out] at this; exact this
        have hrn : Hid (Rect (red M (k + 1)).1 cc) := hrr.out (k + 1)
        have hgx : w.heap.size < w3.heap.size := by have := hb.out.size; rw [hs1.out] at this; omega
        have CL := Lib.hid (cleared_any w.heap.size (red M k).1 A3 c3 n p i k cc w3 (hx3'.out (by omega)) hgx hl3'.out hr3'.out hkcc (by omega) hi hne hl hcc)
        have hti0 : 0 ≤ (i : Int) := by omega
        clear hpp1 hne
        go_wp2_with fail
        refine LD.out.mono ?_
        rintro e w4 ⟨rfl, rfl⟩
        go_wp2_with fail
        refine CL.out.mono ?_
        rintro e w5 ⟨A5, c5, rfl, hc5, hm5c, hm5, hb5⟩
        have hm5' := Lib.hid hm5
        have hb5' := Lib.hid hb5
        have hp5 : Hid (OwnP w5 (w.heap.size + 1) (.slice A4 p c4) (red M k).2) := by
          have := hp3'.out
          rw [hpp.out] at this
          exact this.kept fun b _ hbl => hb5.block b hbl
        have hpb : Hid (∀ b, (Value.slice A4 p c4).ownBlock = some b → b < w4.heap.size) := fun b hb => by
          have := hp3'.out
          rw [hpp.out] at this
          exact (World.ownsRow.lt this b hb).2
        have hbb : Hid (Below W1.heap.size W1 w5) := hb.out.trans (hb5.mono hb.out.size)
        have hg5 : Hid (w.heap.size < w4.heap.size) := hgx
        clear hm5 hb5 CL LD
        go_wp2_with (at_builtin; go_must (refine push_piv rfl (.tmp 27) (.tmp 29) rfl (w.heap.size + 1) (.slice A4 p c4) (red M k).2 k (.int .i64 k) rfl rfl rfl hp5.out (by rw [hpp.out]; omega) (by have := hb5'.out.size; have := hg5.out; omega) ?_); intro v6 w6 hp6 hg6)
        have hR : Hid (RRel w.heap.size cc n w6 v6 (.slice A5 n c5) (red M (k + 1)).1 (red M (k + 1)).2) := by
          have hmx : MatX w.heap.size w6 A5 (pivStep (red M k).1 p k i) := (hm5'.out w.heap.size hg5.out).both (fun b hb => hm5'.out b (hpb.out b hb)) hg6
          obtain ⟨A6, c6, hv6, _⟩ := own_form hp6
          refine ⟨A5, c5, A6, c6, rfl, ?_, hc5, ?_, hrn.out, ?_, fun _ => ?_, ?_⟩
          · rw [hnext.out]; exact hv6
          · rw [hnext.out, pivStep_len]; exact hl3'.out
          · rw [hnext.out]; exact hmx.mat
          · rw [hnext.out]; exact hmx
          · rw [hnext.out]; exact hp6
        have hB6 : Hid (Below W1.heap.size W1 w6) := hbb.out.grown hg6 hbb.out.size (fun b hb => by
          have := (World.ownsRow.lt hp5.out b hb).1
          rw [hs1.out]
          exact this)
        clear hp6 hg6 hm5' hp5
        go_roundw
        case rel => exact ⟨k + 1, by omega, by go_num, hR.out, hB6.out⟩
        case measure => simp [intOf]; omega
    · have t : ¬ (k : Int) < (q : Int) := by omega
      have ek : q = k := by omega
      subst ek
      have hR3 : Hid (Blk w3 w.heap.size [.slice none 0 0, .slice none 0 0] 38) := hR1.out.below hb.out hR1.out.lt
      have tp : (p : Int) ≤ (c3 : Int) := by omega
      have tp0 : 0 ≤ (p : Int) := by omega
      have hP : Hid ((redP M).length = p ∧ redP M = (red M q).2 ∧ redR M = (red M q).1.take p) := by
        have e1 : redP M = (red M q).2 := by unfold redP; rw [← hend.out]
        refine ⟨by rw [e1]; exact hpp.out, e1, ?_⟩
        unfold redR
        rw [← hend.out, hpp.out]
      have hfin : Hid (∀ w4, Only w.heap.size w3 w4 → Mat w4 w4.heap.size A3 (redR M) ∧ Rds w4 w4.heap.size A4 ((redP M).map pv) ∧ Below w.heap.size w w4) := fun w4 ho4 => by
        have hgb : w3.grownBy w4 (some w.heap.size) := ⟨ho4.os, ho4.tape, ho4.output, Nat.le_of_eq ho4.size.symm, fun j _ hj => ho4.block j (fun e => hj (by rw [e]))⟩
        refine ⟨?_, ?_, (hB1.out.trans (hb.out.mono hB1.out.size)).trans (ho4.below (Nat.le_refl _))⟩
        · rw [hP.out.2.2]
          rcases Nat.eq_zero_or_pos cc with h0 | h0
          · have : p = 0 := by
              have h1 := hlk.out.2.1
              rw [hpp.out] at h1
              rcases Nat.eq_zero_or_pos q with h2 | h2
              · omega
              · have := hqlt'.out 0 h2; omega
            rw [this, List.take_zero]
            exact Mat.nil
          · have hx := hx3'.out h0
            exact (hx.both (fun b hb => by cases hb; exact hx) hgb).mat.take p
        · have hp4 := hp3'.out
          rw [hpp.out] at hp4
          have hk4 : OwnP w4 (w.heap.size + 1) (.slice A4 p c4) (red M q).2 := hp4.kept fun b hb _ => by
            have := (World.ownsRow.lt hp4 b hb).1
            exact ho4.block b (by omega)
          obtain ⟨A6, c6, hv6, _, _, _, h6⟩ := own_form hk4
          cases hv6
          rw [hP.out.2.1]
          exact h6
      go_wp2_with (refine wpList_row_store rfl 38 _ _ rfl [.slice A3 p c3, .slice A4 p c4] rfl rfl hR3.out size_red rfl (red_one _ _ _ _ _ _) ?_; intro w4 hw4 ho4)
      refine bodyPost_ret (ret_blk rfl _ w4 (g := w.heap.size) rfl hw4.out dd hdu'.out hdr size_red) rfl ⟨A3, c3, A4, c4, ?_, hfin.out w4 ho4⟩
      rw [hP.out.1]
end Go.Proofs.YtfbdhcpclccikaaDoor
