/-
  Contracts of stage 5: Reduce, Rank.
-/
import Derived.Test.YtfbdhcpclccikaaDoorMr
namespace Go.Proofs.YtfbdhcpclccikaaDoor
set_option linter.unusedVariables false
set_option linter.unusedSimpArgs false
open Go.RowKit

theorem findP_lt {M : List (List UInt8)} {col top i : Nat} (h : findP M col top = some i) : top ≤ i ∧ i < M.length ∧ el M i col ≠ 0 := by
  unfold findP at h
  have h1 := List.find?_some h
  have h2 := List.mem_of_find?_eq_some h
  simp only [Bool.and_eq_true, decide_eq_true_eq, bne_iff_ne, ne_eq] at h1
  exact ⟨h1.1, by simpa using h2, h1.2⟩
theorem redGo_facts (c : Nat) : ∀ (cs : List Nat) (M : List (List UInt8)) (piv : List Nat), Rect M c → piv.length ≤ M.length →
    (redGo M piv cs).1.length = M.length ∧ Rect (redGo M piv cs).1 c ∧ (redGo M piv cs).2.length ≤ M.length ∧ (∀ p ∈ (redGo M piv cs).2, p ∈ piv ∨ p ∈ cs) ∧ (redGo M piv cs).2.length ≤ piv.length + cs.length
  | [], M, piv, h, hp => ⟨rfl, h, hp, fun p hh => .inl hh, by unfold redGo; simp⟩
  | col :: cs, M, piv, h, hp => by
    unfold redGo
    cases hf : findP M col piv.length with
    | none =>
      obtain ⟨h1, h2, h3, h4, h5⟩ := redGo_facts c cs M piv h hp
      exact ⟨h1, h2, h3, fun p hh => (h4 p hh).imp id (List.mem_cons_of_mem _), by simp only [List.length_cons]; omega⟩
    | some i =>
      obtain ⟨hl1, hl2, _⟩ := findP_lt hf
      have hpl : (pivStep M piv.length col i).length = M.length := pivStep_len _ _ _ _
      obtain ⟨h1, h2, h3, h4, h5⟩ := redGo_facts c cs (pivStep M piv.length col i) (piv ++ [col]) (h.step col (by omega) hl2) (by rw [hpl]; simp; omega)
      refine ⟨h1.trans hpl, h2, by rw [hpl] at h3; exact h3, fun p hh => ?_, by simp only [List.length_append, List.length_cons, List.length_nil] at h5 ⊢; omega⟩
      rcases h4 p hh with hh | hh
      · rcases List.mem_append.1 hh with hh | hh
        · exact .inl hh
        · rw [List.mem_singleton.1 hh]; exact .inr (List.mem_cons_self ..)
      · exact .inr (List.mem_cons_of_mem _ hh)
theorem red_len {M : List (List UInt8)} {c : Nat} (h : Rect M c) (n : Nat) : (red M n).1.length = M.length := (redGo_facts c _ M [] h (by simp)).1
theorem red_rect {M : List (List UInt8)} {c : Nat} (h : Rect M c) (n : Nat) : Rect (red M n).1 c := (redGo_facts c _ M [] h (by simp)).2.1
theorem red_piv_le {M : List (List UInt8)} {c : Nat} (h : Rect M c) (n : Nat) : (red M n).2.length ≤ M.length := (redGo_facts c _ M [] h (by simp)).2.2.1
theorem red_piv_lt {M : List (List UInt8)} {c : Nat} (h : Rect M c) (n : Nat) : ∀ p ∈ (red M n).2, p < n := fun p hp => by
  rcases (redGo_facts c _ M [] h (by simp)).2.2.2.1 p hp with hh | hh
  · cases hh
  · simpa using hh
theorem red_piv_le_n {M : List (List UInt8)} {c : Nat} (h : Rect M c) (n : Nat) : (red M n).2.length ≤ n := by
  have := (redGo_facts c (List.range n) M [] h (by simp)).2.2.2.2
  show (redGo M [] (List.range n)).2.length ≤ n
  simpa using this
theorem wid_zero (M : List (List UInt8)) : wid M 0 = M := by
  unfold wid pad0
  simp
theorem Ok.rect {M : List (List UInt8)} (h : Ok M) : Rect M (cols M) := h.same

/-- The reduced rows, and the pivots, of a valid matrix. -/
def redR (M : List (List UInt8)) : List (List UInt8) := (red M (cols M)).1.take (red M (cols M)).2.length
def redP (M : List (List UInt8)) : List Nat := (red M (cols M)).2
/-- A slice of numbers that reads as a list. -/
def IntsAt (w : World) (v : Value) (l : List Nat) : Prop := ∃ a c, v = .slice a l.length c ∧ l.length ≤ c ∧ c ≤ maxLen ∧ (a = none → c = 0) ∧ Rds w w.heap.size a (l.map pv)
theorem OwnP.ints {w : World} {base : Nat} {v : Value} {l : List Nat} (h : OwnP w base v l) : IntsAt w v l := by
  obtain ⟨A, c, h1, h2, h3, h4, h5⟩ := own_form h
  exact ⟨A, c, h1, h2, h3, h4, h5⟩
/-- What Reduce ends with. -/
def RedRet (w : World) (R : List (List UInt8)) (piv : List Nat) (E : Int) (e : Ending) (w' : World) : Prop :=
  (∃ A c vp, e = .returned (.tuple #[.slice A R.length c, vp, .int .i64 E]) ∧ R.length ≤ c ∧ c ≤ maxLen ∧ (A = none → c = 0) ∧ Mat w' w'.heap.size A R ∧ IntsAt w' vp piv) ∧ Below w.heap.size w w'

set_option maxRecDepth 100000 in
set_option maxHeartbeats 2000000 in
theorem reduceF_any (M : List (List UInt8)) (A : Option Addr) (c : Nat) (w : World) (h : Mat w w.heap.size A M) (hl : M.length ≤ 100000) (ht : PTab 0 w) (hg0 : 0 < w.heap.size) :
    Calls Tryd.prog 21 #[.slice A M.length c] w (RedRet w (if chk M = 0 then redR M else []) (if chk M = 0 then redP M else []) (chk M)) := by
  have CK := Lib.hid (check_any M A c w h (by omega))
  have hok : Hid (chk M = 0 → Ok M) := ok_of
  obtain ⟨r, hr⟩ : ∃ r, r = chk M := ⟨_, rfl⟩
  rw [← hr] at CK hok ⊢
  obtain ⟨R, hR0⟩ : ∃ R, R = if r = 0 then redR M else [] := ⟨_, rfl⟩
  obtain ⟨Pv, hP0⟩ : ∃ R, R = if r = 0 then redP M else [] := ⟨_, rfl⟩
  rw [← hR0, ← hP0]
  have hR := Lib.hid hR0
  have hPv := Lib.hid hP0
  have hM := Lib.hid h
  have hT := Lib.hid ht
  have hg0' := Lib.hid hg0
  obtain ⟨nr, hnr⟩ : ∃ n, n = M.length := ⟨_, rfl⟩
  have hnr' := Lib.hid hnr
  clear hr h ht hR0 hP0 hg0
  go_enter Tryd.func21, Tryd.ntmps21
  go_wp2_with fail
  refine CK.out.mono ?_
  rintro e w2 ⟨rfl, hb2⟩
  have hB2 := Lib.hid hb2
  have hM2 := Lib.hid (hM.out.below hb2)
  clear hb2
  by_cases h0 : r = 0
  · have hok' := Lib.hid (hok.out h0)
    subst h0
    have hRT : Hid (R = redR M ∧ Pv = redP M) := ⟨by rw [hR.out, if_pos rfl], by rw [hPv.out, if_pos rfl]⟩
    have WID := Lib.hid (widened_any M A c 0 w2 hM2.out hB2.out.size (by omega) (fun m hm => by have := hok'.out.cols48 m hm; omega) (by omega))
    rw [wid_zero] at WID
    clear hR hPv
    go_wp2_with fail
    refine WID.out.mono ?_
    rintro e w3 ⟨⟨g, bs, rfl, hO3⟩, hb3⟩
    have hB3 := Lib.hid (hB2.out.trans (hb3.mono hB2.out.size))
    have hO3' := Lib.hid hO3
    have hM3 := Lib.hid (hM.out.below hB3.out)
    have hb3' := Lib.hid hb3
    have COL := Lib.hid (columns_any M A c w3 hM3.out)
    have RED := Lib.hid (reduce_any M bs g w2.heap.size (cols M) (cols M) w3 hO3 hok'.out.rect (Nat.le_refl _) (by have := hok'.out.cols_le; omega) hl (hT.out.on hB3.out) (Nat.lt_of_lt_of_le hg0'.out hB2.out.size))
    obtain ⟨q, hq⟩ : ∃ q, q = cols M := ⟨_, rfl⟩
    rw [← hq] at COL RED
    have hq' := Lib.hid hq
    clear hO3 hb3 hq
    go_wp2_with fail
    refine COL.out.mono ?_
    rintro e w4 ⟨rfl, rfl⟩
    go_wp2_with fail
    refine RED.out.mono ?_
    rintro e w5 ⟨vp, bs5, rfl, hv5, hO5, hp5, hC5⟩
    have hrl : (red M q).2.length ≤ M.length := red_piv_le (hok'.out.rect) q
    obtain ⟨Ap, cp, hvp, _, _, _, _⟩ := own_form hv5
    obtain ⟨pl, hpl⟩ : ∃ n, n = (red M q).2.length := ⟨_, rfl⟩
    rw [← hpl] at hvp hrl
    have hfin : Hid (RedRet w R Pv 0 (.returned (.tuple #[.slice (some ⟨g, 0, none⟩) pl M.length, vp, .int .i64 0])) w5) := by
      have hB5 : Below w2.heap.size w2 w5 := hb3'.out.trans (hC5.below (fun x hx => by
        rcases List.mem_cons.1 hx with rfl | hx
        · exact hO3'.out.low
        · exact hO3'.out.lows x hx) hb3'.out.size)
      refine ⟨⟨some ⟨g, 0, none⟩, M.length, vp, ?_, ?_, by unfold maxLen; omega, (fun hh => by cases hh), ?_, ?_⟩, hB2.out.trans (hB5.mono hB2.out.size)⟩
      · rw [hRT.out.1, hpl]
        unfold redR
        rw [← hq'.out, List.length_take, red_len hok'.out.rect, Nat.min_eq_left (by rw [← hpl]; exact hrl)]
      · rw [hRT.out.1]
        unfold redR
        rw [List.length_take, red_len hok'.out.rect]
        omega
      · rw [hRT.out.1]
        unfold redR
        rw [← hq'.out]
        exact hO5.mat.take _
      · rw [hRT.out.2]
        unfold redP
        rw [← hq'.out]
        exact hv5.ints
    subst hvp
    have tpl : (pl : Int) ≤ (M.length : Int) := by omega
    have tpl0 : 0 ≤ (pl : Int) := by omega
    clear hpl hv5 hO5 hp5 hC5 hRT
    go_wp2_with fail
    go_ret3
    exact hfin.out
  · have hRT : R = [] := by rw [hR.out, if_neg h0]
    have hPT : Pv = [] := by rw [hPv.out, if_neg h0]
    subst hRT
    subst hPT
    have t : (r == 0) = false := by simpa using h0
    have hfin : Hid (RedRet w [] [] r (.returned (.tuple #[.slice none 0 0, .slice none 0 0, .int .i64 r])) w2) :=
      ⟨⟨none, 0, _, rfl, by simp, by unfold maxLen; decide, fun _ => rfl, Mat.nil, ⟨none, 0, rfl, by simp, by unfold maxLen; decide, fun _ => rfl, Rds.empty⟩⟩, hB2.out⟩
    go_wp2_with fail
    go_ret3
    exact hfin.out

set_option maxRecDepth 100000 in
theorem rank_any (M : List (List UInt8)) (A : Option Addr) (c : Nat) (w : World) (h : Mat w w.heap.size A M) (hl : M.length ≤ 100000) (ht : PTab 0 w) (hg0 : 0 < w.heap.size) :
    Calls Tryd.prog 22 #[.slice A M.length c] w fun e w' => e = .returned (.tuple #[.int .i64 ((if chk M = 0 then redP M else []).length : Nat), .int .i64 (chk M)]) ∧ Below w.heap.size w w' := by
  have RF := Lib.hid (reduceF_any M A c w h hl ht hg0)
  generalize (if chk M = 0 then redP M else []) = Pv at RF ⊢
  generalize (if chk M = 0 then redR M else []) = R at RF
  generalize chk M = r at RF ⊢
  clear h ht
  go_enter Tryd.func22, Tryd.ntmps22
  go_wp2_with fail
  refine RF.out.mono ?_
  rintro e w2 ⟨⟨A2, c2, vp, rfl, _, _, _, _, a, c3, rfl, _⟩, hb⟩
  have hb' := Lib.hid hb
  clear hb
  go_wp2_with fail
  go_ret2
  exact ⟨rfl, hb'.out⟩
end Go.Proofs.YtfbdhcpclccikaaDoor
