/-
  Contracts of stage 5: Transpose.
-/
import Derived.Test.YtfbdhcpclccikaaDoorMb
namespace Go.Proofs.YtfbdhcpclccikaaDoor
set_option linter.unusedVariables false
set_option linter.unusedSimpArgs false
open Go.RowKit

/-- An element of a matrix. -/
def el (M : List (List UInt8)) (i j : Nat) : UInt8 := (M.getD i []).getD j 0
theorem el_of {M : List (List UInt8)} {i j : Nat} {m : List UInt8} {b : UInt8} (hi : M[i]? = some m) (hj : m[j]? = some b) : el M i j = b := by
  unfold el
  simp [List.getD_eq_getElem?_getD, hi, hj]
/-- Valid: at most 48 rows of at most 48 elements, all of one length. -/
structure Ok (M : List (List UInt8)) : Prop where
  rows : M.length ≤ 48
  cols48 : ∀ m ∈ M, m.length ≤ 48
  same : ∀ m ∈ M, m.length = cols M
theorem ok_of {M : List (List UInt8)} (h : chk M = 0) : Ok M := by
  unfold chk at h
  split at h
  · cases h
  · rename_i h1
    split at h
    · cases h
    · rename_i h2
      simp only [not_or, Nat.not_lt, Bool.not_eq_true, List.any_eq_false, decide_eq_true_eq] at h1
      simp only [Bool.not_eq_true, List.any_eq_false, decide_eq_true_eq, ne_eq, Decidable.not_not] at h2
      exact ⟨h1.1, h1.2, h2⟩
theorem Ok.cols_le {M : List (List UInt8)} (h : Ok M) : cols M ≤ 48 := by
  unfold cols
  cases M with
  | nil => simp
  | cons m M => exact h.cols48 m (List.mem_cons_self ..)
theorem Ok.get {M : List (List UInt8)} (h : Ok M) {i : Nat} (hi : i < M.length) : ∃ m, M[i]? = some m ∧ m.length = cols M := ⟨_, List.getElem?_eq_getElem hi, h.same _ (List.getElem_mem hi)⟩
theorem Ok.el {M : List (List UInt8)} (h : Ok M) {i j : Nat} (hi : i < M.length) (hj : j < cols M) : ∃ m, M[i]? = some m ∧ m.length = cols M ∧ m[j]? = some (el M i j) := by
  obtain ⟨m, hm, hl⟩ := h.get hi
  obtain ⟨b, hb⟩ : ∃ b, m[j]? = some b := ⟨_, List.getElem?_eq_getElem (by omega)⟩
  exact ⟨m, hm, hl, by rw [el_of hm hb]; exact hb⟩
theorem chk_cases (M : List (List UInt8)) : chk M = 0 ∨ chk M = 1 ∨ chk M = 2 := by
  unfold chk; split
  · simp
  · split <;> simp
/-- What a call that returns a matrix and an error ends with. -/
def MatRet (w : World) (T : List (List UInt8)) (E : Int) (e : Ending) (w' : World) : Prop :=
  (∃ A c, e = .returned (.tuple #[.slice A T.length c, .int .i64 E]) ∧ T.length ≤ c ∧ c ≤ maxLen ∧ (A = none → c = 0) ∧ Mat w' w'.heap.size A T) ∧ Below w.heap.size w w'
theorem MatRet.nothing {w w' : World} {E : Int} (h : Below w.heap.size w w') : MatRet w [] E (.returned (.tuple #[.slice none 0 0, .int .i64 E])) w' :=
  ⟨⟨none, 0, rfl, by simp, by unfold maxLen; decide, fun _ => rfl, Mat.nil⟩, h⟩
theorem MatRet.own {w w' W : World} {base g n : Nat} {bs : List Nat} {T : List (List UInt8)} (hn : T.length = n) (hO : Om w' base g bs T []) (h : Below w.heap.size w w') (hm : n ≤ 1000000) : MatRet w T 0 (.returned (.tuple #[.slice (some ⟨g, 0, none⟩) n n, .int .i64 0])) w' := by
  subst hn
  exact ⟨⟨_, _, rfl, Nat.le_refl _, by unfold maxLen; omega, (fun hh => by cases hh), hO.mat⟩, h⟩

set_option maxRecDepth 100000 in
theorem trans1_any {B : Nat} (M : List (List UInt8)) (A : Option Addr) (n c tb i j : Nat) (w : World) (h : Mat w B A M) (hok : Ok M) (hn : n = M.length) (hb : w.cell? ⟨tb, 0, none⟩ = some (.slice A n c)) (hi : i < cols M) (hj : j < M.length) :
    Calls Tryd.prog 69 #[.int .i64 i, .int .i64 j, .pointer (some ⟨tb, 0, none⟩)] w fun e w' => e = .returned (bv (el M j i)) ∧ w' = w := by
  obtain ⟨m, hm, hml, hme⟩ := hok.el hj hi
  obtain ⟨ad, a, c', rfl, _, h1, _, h2⟩ := h.head hm hme
  have t1 : (j : Int) < (n : Int) := by omega
  have t2 : (i : Int) < (m.length : Int) := by omega
  have t3 : 0 ≤ (j : Int) := by omega
  have t4 : 0 ≤ (i : Int) := by omega
  generalize el M j i = z at h2 ⊢
  obtain ⟨q, hq⟩ : ∃ q, q = m.length := ⟨_, rfl⟩
  rw [← hq] at t2 h1
  unfold bv at h2 ⊢
  clear hme hm hml h hok hn hi hj hq
  go_enter Tryd.func69, Tryd.ntmps69
  go_wp2_with fail
  go_ret
  exact ⟨rfl, rfl⟩

/-- The transpose. -/
def tr (M : List (List UInt8)) : List (List UInt8) := matF (fun i j => el M j i) (cols M) M.length

set_option maxRecDepth 100000 in
set_option maxHeartbeats 1000000 in
theorem transpose_any (M : List (List UInt8)) (A : Option Addr) (c : Nat) (w : World) (h : Mat w w.heap.size A M) (hl : M.length ≤ 1000000) :
    Calls Tryd.prog 20 #[.slice A M.length c] w (MatRet w (if chk M = 0 then tr M else []) (chk M)) := by
  obtain ⟨W1, hW1⟩ : ∃ W1, W1 = w.alloc (.cells #[.slice A M.length c] 22) := ⟨_, rfl⟩
  have hB1 : Hid (Below w.heap.size w W1) := by show Below _ _ _; rw [hW1]; exact (Below.refl _ _).alloc (Nat.le_refl _) _
  have hK1 : Hid (Blk W1 w.heap.size [.slice A M.length c] 22) := by show Blk _ _ _ _; rw [hW1]; exact Blk.new w [_] _
  have hs1 : Hid (W1.heap.size = w.heap.size + 1) := by show _ = _; rw [hW1]; simp
  have hM1 : Hid (Mat W1 w.heap.size A M) := h.below hB1.out
  have CK := Lib.hid (check_any M A c W1 (hM1.out.more hB1.out.size) (by omega))
  have hW1' := Lib.hid hW1
  have q1 : W1.cell? ⟨w.heap.size, 0, none⟩ = some (.slice A M.length c) := hK1.out.cell rfl
  have hmf : ∀ (fn : Fn) (first cap : Array Value) (w : World), (Instr.makeFunc fn first cap).run Tryd.prog w = .ok (.func fn first cap) w := fun _ _ _ _ => rfl
  have hok : Hid (chk M = 0 → Ok M) := ok_of
  obtain ⟨r, hr⟩ : ∃ r, r = chk M := ⟨_, rfl⟩
  have hr' := Lib.hid hr
  have hrc : Hid (r = 0 ∨ r = 1 ∨ r = 2) := by show _ ∨ _ ∨ _; rw [hr]; exact chk_cases M
  rw [← hr] at CK hok ⊢
  obtain ⟨R, hR0⟩ : ∃ R, R = if r = 0 then tr M else [] := ⟨_, rfl⟩
  rw [← hR0]
  have hR := Lib.hid hR0
  clear hW1 hr h hR0
  go_enter Tryd.func20, Tryd.ntmps20
  go_wp2_with fail
  generalize hg : w.alloc _ = Wg
  have hgW : W1 = Wg := by rw [← hg, hW1'.out]
  clear hg hW1'
  subst hgW
  refine CK.out.mono ?_
  rintro e w2 ⟨rfl, hb2⟩
  have hB2 : Hid (Below w.heap.size w w2) := hB1.out.trans (hb2.mono hB1.out.size)
  have hK2 : Hid (Blk w2 w.heap.size [.slice A M.length c] 22) := hK1.out.below hb2 hK1.out.lt
  have hM2 : Hid (Mat w2 w.heap.size A M) := hM1.out.below (hb2.mono hB1.out.size)
  clear hb2
  by_cases h0 : r = 0
  · have hok' := Lib.hid (hok.out h0)
    subst h0
    have q2 : ∀ z : ExtOf w2.drew, z.world.cell? ⟨w.heap.size, 0, none⟩ = some (.slice A M.length c) := fun z => (hK2.out.drew.below z.ext hK2.out.drew.lt).cell rfl
    have CC := Lib.hid (columns_any M A c w2.drew (B := w.heap.size) hM2.out)
    have BB := Lib.hid (build_of 69 [.pointer (some ⟨w.heap.size, 0, none⟩)] (fun i j => el M j i) (cols M) M.length w2.drew (by have := hok'.out.cols_le; omega) (by omega) (enter_of Tryd.func69 (by kernel_rfl) (by kernel_rfl)) (fun i j hi hj W hB => (trans1_any M A M.length c w.heap.size i j W (hM2.out.below (Below.mono (show Below w2.heap.size w2 W from ⟨hB.os, hB.tape, hB.output, hB.size, hB.block⟩) hB2.out.size)) hok'.out rfl ((hK2.out.drew.below hB hK2.out.drew.lt).cell rfl) hi hj).mono fun e w' hh => ⟨hh.1, 0, hh.2⟩))
    have hcl : Hid (cols M ≤ 1000000) := by have := hok'.out.cols_le; show _ ≤ _; omega
    have htl : Hid ((tr M).length = cols M) := matF_len _ _ _
    have hT : Hid (matF (fun i j => el M j i) (cols M) M.length = tr M) := rfl
    have hRT : Hid (R = tr M) := by show _ = _; rw [hR.out, if_pos rfl]
    rw [hT.out, ← hRT.out] at BB
    rw [← hRT.out] at htl
    generalize cols M = q at CC BB htl hcl
    clear hT
    go_wp2_with fail
    refine wp_region_planL 99 [(true, 0), (true, 2), (true, 3), (true, 4), (false, 1), (false, 5), (true, 6), (true, 7)] (by kernel_rfl) (by decide) (by kernel_rfl) (by kernel_rfl) (by kernel_rfl) (by decide) (by intro c a d v w h; cases d <;> exact h) ?_
    change wpPlanL _ _ _ _ _ _ w2.drew
    iterate 4 (refine wpPlanL_plain rfl (fun K hK => ?_); go_simp; refine hK _ ?_; clear hK K)
    clear q2
    refine wpPlanL_call rfl (fun K hK => ?_)
    go_wp2_with fail
    refine CC.out.mono ?_
    rintro e w3 ⟨rfl, rfl⟩
    go_wp2_with fail
    refine planPostL_normal ⟨.inr (Ext.refl _), hK _ _ ?_⟩
    clear hK K
    refine wpPlanL_call rfl (fun K hK => ?_)
    go_wp2_with fail
    refine BB.out.mono ?_
    rintro e w4 ⟨⟨g, bs, rfl, hO4⟩, hb4⟩
    go_wp2_with fail
    refine planPostL_normal ⟨.inr hb4, hK _ _ ?_⟩
    clear hK K
    iterate 2 (refine wpPlanL_plain rfl (fun K hK => ?_); go_simp; refine hK _ ?_; clear hK K)
    refine wpPlanL_nil ?_
    have hfin := Lib.hid (MatRet.own (W := w) htl.out hO4 (hB2.out.trans (Below.mono (show Below w2.heap.size w2 w4 from ⟨hb4.os, hb4.tape, hb4.output, hb4.size, hb4.block⟩) hB2.out.size)) hcl.out)
    clear hO4 hb4
    go_wp2_with fail
    go_ret2
    exact hfin.out
  · have hRT : R = [] := by rw [hR.out, if_neg h0]
    subst hRT
    have t : (r == 0) = false := by simpa using h0
    have hfin := Lib.hid (MatRet.nothing (E := r) hB2.out)
    go_wp2_with fail
    go_ret2
    exact hfin.out
end Go.Proofs.YtfbdhcpclccikaaDoor
