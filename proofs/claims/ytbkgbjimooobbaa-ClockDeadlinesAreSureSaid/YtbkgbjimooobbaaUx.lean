/-
  Stage 14 (clock): what ClockIsMonotone asks, as facts of numbers.
-/
import Derived.Test.YtbkgbjimooobbaaUr
namespace Go.Proofs.Ytbkgbjimooobbaa
set_option linter.unusedVariables false

theorem nw_zero {rate x : Int} {l : List Rdg} (h : nwE rate l x = 0) :
    chkK rate l = 0 ∧ (0 ≤ x ∧ x ≤ 3600000000) ∧ bndLo rate l x ≤ bndHi rate l x ∧ nwLo rate l x = bndLo rate l x ∧ nwHi rate l x = bndHi rate l x := by
  by_cases hc : chkA rate l x = 0
  · obtain ⟨h1, h2, h3⟩ := nw_ok hc
    obtain ⟨a, b⟩ := chkA_ok.1 hc
    rw [h3] at h
    unfold ocE at h
    by_cases hb : bndHi rate l x < bndLo rate l x
    · rw [if_pos hb] at h; cases h
    · rw [h1, h2]
      unfold ocLo ocHi
      rw [if_neg hb, if_neg hb]
      exact ⟨a, inst_iff.1 b, by omega, rfl, rfl⟩
  · rw [(nw_no hc).2.2] at h; exact absurd h hc
theorem mo_now {rate a b : Int} {l : List Rdg} (hab : a ≤ b) (ha : nwE rate l a = 0) (hb : nwE rate l b = 0) : nwLo rate l a ≤ nwLo rate l b ∧ nwHi rate l a ≤ nwHi rate l b := by
  obtain ⟨hk, _, _, e1, e2⟩ := nw_zero ha
  obtain ⟨_, _, _, e3, e4⟩ := nw_zero hb
  obtain ⟨k0, k1, _⟩ := chk_facts hk
  rw [e1, e2, e3, e4]
  exact ⟨bndLo_mono k0 k1 hab, bndHi_mono k0 k1 hab⟩
theorem mo_lat {rate due n a : Int} {l : List Rdg} (h : LatR rate l due n 0) (ha : nwE rate l a = 0) : (a ≤ n → nwHi rate l a ≤ due) ∧ (n < a → due < nwHi rate l a) := by
  obtain ⟨hk, ⟨x0, x1⟩, _, _, e2⟩ := nw_zero ha
  rw [e2]
  rcases h with ⟨h1, _, h2⟩ | ⟨_, i, ⟨s1, s2, s3⟩, ⟨_, _, h2⟩ | ⟨h1, h2, _⟩⟩
  · exact absurd h2.symm h1
  · cases h2
  · obtain ⟨j, rfl⟩ : ∃ j : Nat, a = (j : Int) := ⟨a.toNat, by omega⟩
    exact ⟨fun hh => by have := of_decide_eq_false (s2 j (by omega)); omega, fun hh => of_decide_eq_true (s3 j (by omega) (by omega))⟩
theorem mo_ear {rate due n a : Int} {l : List Rdg} (h : EarR rate l due n 0) (ha : nwE rate l a = 0) : (n ≤ a → due ≤ nwLo rate l a) ∧ (a < n → nwLo rate l a < due) := by
  obtain ⟨hk, ⟨x0, x1⟩, _, e1, _⟩ := nw_zero ha
  rw [e1]
  rcases h with ⟨h1, _, h2⟩ | ⟨_, i, ⟨s1, s2, s3⟩, ⟨_, _, h2⟩ | ⟨h1, h2, _⟩⟩
  · exact absurd h2.symm h1
  · cases h2
  · obtain ⟨j, rfl⟩ : ∃ j : Nat, a = (j : Int) := ⟨a.toNat, by omega⟩
    exact ⟨fun hh => of_decide_eq_true (s3 j (by omega) (by omega)), fun hh => by have := of_decide_eq_false (s2 j (by omega)); omega⟩
theorem mo_syn {rate a : Int} {l : List Rdg} {r : Rdg} (hs : syE rate l r = 0) (hl : ¬ 16 ≤ l.length) (ha : nwE rate l a = 0) (hz : nwE (syR rate l r) (syL rate l r) a = 0) :
    nwLo rate l a ≤ nwLo (syR rate l r) (syL rate l r) a ∧ nwHi (syR rate l r) (syL rate l r) a ≤ nwHi rate l a := by
  obtain ⟨_, _, _, e1, e2⟩ := nw_zero ha
  obtain ⟨_, _, _, e3, e4⟩ := nw_zero hz
  have hL : syL rate l r = l ++ [syN rate l r] := by unfold syL; rw [if_pos hs, if_neg (by omega)]
  have hR : syR rate l r = rate := by unfold syR; rw [if_pos hs]
  rw [e1, e2, e3, e4, hL, hR]
  unfold bndLo bndHi
  rw [bLo_snoc, bHi_snoc]
  omega
end Go.Proofs.Ytbkgbjimooobbaa
