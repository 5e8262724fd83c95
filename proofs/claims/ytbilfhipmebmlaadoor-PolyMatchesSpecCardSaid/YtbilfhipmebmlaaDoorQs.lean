/-
  Stage 6: contracts of the program and of the reference in one form, for the laws that compare them.
-/
import Derived.Test.YtbilfhipmebmlaaDoorQr
namespace Go.Proofs.YtbilfhipmebmlaaDoor
set_option linter.unusedVariables false
set_option linter.unusedSimpArgs false
open Go.RowKit

theorem rowV_nil (W : World) : RowV W none 0 0 [] := ⟨rfl, Nat.le_refl _, Nat.zero_le _, fun _ => rfl, Rds.empty⟩
open Classical in
/-- What Interpolate returns. -/
noncomputable def ipR (l m : List UInt8) (n n' : Nat) : List UInt8 × Int := if Dist l n ∧ n = n' then (lineP l m n, 0) else ([], 1)
open Classical in
/-- What Through returns. -/
noncomputable def thR (l m : List UInt8) (n n' : Nat) (d : Int) : List UInt8 × Int :=
  if Dist l n ∧ n = n' then (if d < 0 ∨ (n : Int) ≤ d then ([], 3) else if dg (lineP l m n) ≤ d.toNat + 1 then (lineP l m n, 0) else ([], 8)) else ([], 1)
theorem co_take_lt {p : List UInt8} {k j : Nat} (h : j < k) : co (p.take k) j = co p j := by rw [co_take, if_pos h]
theorem thr_spec {l m : List UInt8} {n k : Nat} (hd : Dist l n) (hk : k < n) : (missL (thr l m k) l m n = [] ↔ dg (lineP l m n) ≤ k + 1) ∧ (dg (lineP l m n) ≤ k + 1 → thr l m k = lineP l m n) := by
  have hdt : Dist (l.take (k + 1)) (k + 1) := dist_take hd (by omega)
  have e1 : thr l m k = lineP (l.take (k + 1)) (m.take (k + 1)) (k + 1) := line_eq hdt
  have h2 : dg (lineP l m n) ≤ k + 1 → thr l m k = lineP l m n := fun h => by
    rw [e1, lineP_uni hdt h (fun j hj => by rw [co_take_lt hj, co_take_lt hj]; exact (lineP_spec hd).2 j (by omega)), lineP_trim]
  refine ⟨⟨fun h => ?_, fun h => ?_⟩, h2⟩
  · have hz := hits_miss (thr l m k) l m n
    rw [h] at hz
    have hall : ∀ i, i < n → ev (thr l m k) (co l i) = co m i := fun i hi => by
      refine Classical.byContradiction fun hne => ?_
      have : i ∈ missL (thr l m k) l m n := by unfold missL; rw [List.mem_filter]; exact ⟨List.mem_range.2 hi, by simp [hne]⟩
      rw [h] at this
      cases this
    have hdg : dg (thr l m k) ≤ k + 1 := by rw [e1]; exact (lineP_spec hdt).1
    rw [lineP_uni hd (by omega) hall, dg_trim]
    exact hdg
  · rw [h2 h]
    unfold missL
    rw [List.filter_eq_nil_iff]
    intro i hi
    simp [(lineP_spec hd).2 i (List.mem_range.1 hi)]
section
variable {W : World} {A A' : Option Addr} {n c n' c' : Nat} {l m : List UInt8}
theorem ip_v (h : RowV W A n c l) (h' : RowV W A' n' c' m) (hl : n ≤ 1000) (hl' : n' ≤ 1000) (ht : PTab 0 W) (P : List UInt8) (E : Int) (hP : P = (ipR l m n n').1) (hE : E = (ipR l m n n').2) : Calls Tryd.prog 29 #[.slice A n c, .slice A' n' c'] W fun e w' => ∃ A n2 c, e = .returned (.tuple #[.slice A n2 c, .int .i64 E]) ∧ RowV w' A n2 c P ∧ Below W.heap.size W w' := by
  subst hP hE
  unfold ipR
  by_cases hD : Dist l n ∧ n = n'
  · rw [if_pos hD]
    exact interp_v h h' hD.2 hl hD.1 ht
  · rw [if_neg hD]
    refine (interpno_v (A' := A') (c' := c') h (by omega) (by omega) hD).mono ?_
    rintro e w' ⟨rfl, hb⟩
    exact ⟨none, 0, 0, rfl, rowV_nil _, hb⟩
theorem rip_v (h : RowV W A n c l) (h' : RowV W A' n' c' m) (hl : n ≤ 1000) (hl' : n' ≤ 1000) (P : List UInt8) (E : Int) (hP : P = (ipR l m n n').1) (hE : E = (ipR l m n n').2) : Calls Tryd.prog 30 #[.slice A n c, .slice A' n' c'] W fun e w' => ∃ A n2 c, e = .returned (.agg #[.slice A n2 c, .int .i64 E]) ∧ RowV w' A n2 c P ∧ Below W.heap.size W w' := by
  subst hP hE
  unfold ipR
  refine (refInterpolate_any l m A A' c c' n n' W h.rds h'.rds (Nat.le_refl _) h.len h'.len hl hl').mono ?_
  rintro e w' (⟨hD, ⟨A2, c2, rfl, ho⟩, hb⟩ | ⟨hD, ⟨A2, c2, rfl, ho⟩, hb⟩)
  · rw [if_pos hD, ← line_eq hD.1]
    exact ⟨A2, _, c2, rfl, rowV_of ho, hb⟩
  · rw [if_neg hD]
    exact ⟨A2, _, c2, rfl, rowV_of ho, hb⟩
theorem th_v (h : RowV W A n c l) (h' : RowV W A' n' c' m) (hl : n ≤ 1000) (hl' : n' ≤ 1000) (d : Int) (ht : PTab 0 W) (P : List UInt8) (E : Int) (hP : P = (thR l m n n' d).1) (hE : E = (thR l m n n' d).2) : Calls Tryd.prog 31 #[.slice A n c, .slice A' n' c', .int .i64 d] W fun e w' => ∃ A n2 c, e = .returned (.tuple #[.slice A n2 c, .int .i64 E]) ∧ RowV w' A n2 c P ∧ Below W.heap.size W w' := by
  subst hP hE
  unfold thR
  by_cases hD : Dist l n ∧ n = n'
  · rw [if_pos hD]
    by_cases hr : d < 0 ∨ (n : Int) ≤ d
    · rw [if_pos hr]
      refine (through_range l A A' c c' n n' d W h.rds (Nat.le_refl _) h.len (by omega) hD.1 hD.2 hr).mono ?_
      rintro e w' ⟨rfl, hb⟩
      exact ⟨none, 0, 0, rfl, rowV_nil _, hb⟩
    · rw [if_neg hr]
      obtain ⟨k, rfl⟩ : ∃ k : Nat, d = k := ⟨d.toNat, by omega⟩
      rw [Int.toNat_natCast]
      by_cases hg : dg (lineP l m n) ≤ k + 1
      · rw [if_pos hg]
        exact through_v h h' hD.2 hl hD.1 k (by omega) hg ht
      · rw [if_neg hg]
        refine (throughx_v h h' hD.2 hl hD.1 k (by omega) (by omega) ht).mono ?_
        rintro e w' ⟨rfl, hb⟩
        exact ⟨none, 0, 0, rfl, rowV_nil _, hb⟩
  · rw [if_neg hD]
    refine (through_no l A A' c c' n n' d W h.rds (Nat.le_refl _) h.len (by omega) (by omega) hD).mono ?_
    rintro e w' ⟨rfl, hb⟩
    exact ⟨none, 0, 0, rfl, rowV_nil _, hb⟩
theorem rth_v (h : RowV W A n c l) (h' : RowV W A' n' c' m) (hl : n ≤ 1000) (hl' : n' ≤ 1000) (d : Int) (P : List UInt8) (E : Int) (hP : P = (thR l m n n' d).1) (hE : E = (thR l m n n' d).2) : Calls Tryd.prog 32 #[.slice A n c, .slice A' n' c', .int .i64 d] W fun e w' => ∃ A n2 c, e = .returned (.agg #[.slice A n2 c, .int .i64 E]) ∧ RowV w' A n2 c P ∧ Below W.heap.size W w' := by
  subst hP hE
  unfold thR
  refine (refThrough_any l m A A' c c' n n' d W h.rds h'.rds (Nat.le_refl _) h.len h'.len hl hl' h.cap h'.cap).mono ?_
  rintro e w' (⟨hD, ⟨A2, c2, rfl, ho⟩, hb⟩ | ⟨hD, hr, ⟨A2, c2, rfl, ho⟩, hb⟩ | ⟨hD, k, rfl, hk, h3⟩)
  · rw [if_neg hD]
    exact ⟨A2, _, c2, rfl, rowV_of ho, hb⟩
  · rw [if_pos hD, if_pos hr]
    exact ⟨A2, _, c2, rfl, rowV_of ho, hb⟩
  · rw [if_pos hD, if_neg (by omega), Int.toNat_natCast]
    obtain ⟨s1, s2⟩ := thr_spec (m := m) hD.1 hk
    rcases h3 with ⟨hm, ⟨A2, c2, rfl, ho⟩, hb⟩ | ⟨hm, ⟨A2, c2, rfl, ho⟩, hb⟩
    · rw [if_neg (fun hg => by rw [s1.2 hg] at hm; simp at hm)]
      exact ⟨A2, _, c2, rfl, rowV_of ho, hb⟩
    · rw [if_pos (s1.1 hm), ← s2 (s1.1 hm)]
      exact ⟨A2, _, c2, rfl, rowV_of ho, hb⟩
theorem reval_v (h : RowV W A n c l) (x : UInt8) (hl : n ≤ 100000) : Calls Tryd.prog 17 #[.slice A n c, .int .u8 (x.toNat : Int)] W fun e w' => e = .returned (.int .u8 ((ev l x).toNat : Int)) ∧ Below W.heap.size W w' := by
  have := refEval_any l x A c W h.rds (by rw [← h.len]; omega)
  rw [← h.len] at this
  refine this.mono ?_
  rintro e w' ⟨rfl, rfl⟩
  exact ⟨rfl, Below.refl _ _⟩
theorem rdegree_v (h : RowV W A n c l) (hl : n ≤ 100000) : Calls Tryd.prog 19 #[.slice A n c] W fun e w' => e = .returned (.int .i64 ((dg l : Int) - 1)) ∧ w' = W := by
  have := refDegree_any l A c W h.rds (by rw [← h.len]; omega)
  rw [← h.len] at this
  exact this
theorem rtrim_v (h : RowV W A n c l) (hl : n ≤ 100000) : Calls Tryd.prog 22 #[.slice A n c] W fun e w' => ∃ A n c, e = .returned (.slice A n c) ∧ RowV w' A n c (trim l) ∧ Below W.heap.size W w' := by
  have := refTrim_any l A c W h.rds (Nat.le_refl _) (by rw [← h.len]; omega)
  rw [← h.len] at this
  refine this.mono ?_
  rintro e w' ⟨v, rfl, ho, hb⟩
  obtain ⟨A2, n2, c2, rfl, h2⟩ := rowV_own ho
  exact ⟨A2, n2, c2, rfl, h2, hb⟩
theorem radd_v (h : RowV W A n c l) (h' : RowV W A' n' c' m) (hl : n ≤ 100000) (hl' : n' ≤ 100000) : Calls Tryd.prog 24 #[.slice A n c, .slice A' n' c'] W fun e w' => ∃ A n c, e = .returned (.slice A n c) ∧ RowV w' A n c (trim (Gf.vsum l m)) ∧ Below W.heap.size W w' := by
  have := refAdd_any l m A A' c c' W h.rds h'.rds (Nat.le_refl _) (by rw [← h.len]; exact hl) (by rw [← h'.len]; exact hl')
  rw [← h.len, ← h'.len] at this
  refine this.mono ?_
  rintro e w' ⟨v, rfl, ho, hb⟩
  obtain ⟨A2, n2, c2, rfl, h2⟩ := rowV_own ho
  exact ⟨A2, n2, c2, rfl, h2, hb⟩
theorem rprod_v (h : RowV W A n c l) (h' : RowV W A' n' c' m) (hl : n ≤ 100000) (hl' : n' ≤ 100000) : Calls Tryd.prog 28 #[.slice A n c, .slice A' n' c'] W fun e w' => ∃ A n c, e = .returned (.slice A n c) ∧ RowV w' A n c (trim (pmul l m)) ∧ Below W.heap.size W w' := by
  have := refProduct6_any l m A A' c c' W h.rds h'.rds (Nat.le_refl _) (by rw [← h.len]; exact hl) (by rw [← h'.len]; exact hl')
  rw [← h.len, ← h'.len] at this
  refine this.mono ?_
  rintro e w' ⟨v, rfl, ho, hb⟩
  obtain ⟨A2, n2, c2, rfl, h2⟩ := rowV_own ho
  exact ⟨A2, n2, c2, rfl, h2, hb⟩
end
end Go.Proofs.YtbilfhipmebmlaaDoor
