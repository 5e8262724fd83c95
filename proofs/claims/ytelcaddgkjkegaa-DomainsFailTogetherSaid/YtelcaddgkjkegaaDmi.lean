/-
  Stage 10 (domain): the reference's Check.
-/
import Derived.Test.YtelcaddgkjkegaaDmd
import Derived.Deep.LoopGhost
namespace Go.Proofs.Ytelcaddgkjkegaa
set_option linter.unusedVariables false
set_option linter.unusedSimpArgs false
open Go.RowKit

theorem Dm.chk_D {d : Dm} (h : ¬ d.many) {k : Nat} (hk : k < d.D.length) (hb : inB (d.rk k) d.R.length = false) : d.chk = 1 := by
  rw [Dm.chk_few h, if_pos]
  unfold Dm.badD
  rw [List.any_eq_true]
  exact ⟨d.rk k, by unfold Dm.rk; rw [List.getD_eq_getElem?_getD, List.getElem?_eq_getElem hk]; exact List.getElem_mem hk, by rw [hb]; rfl⟩
theorem Dm.chk_R {d : Dm} (h : ¬ d.many) {k : Nat} (hk : k < d.R.length) (hb : inB (d.hsR k) d.H.length = false) : d.chk = 1 := by
  rw [Dm.chk_few h]
  by_cases h1 : d.badD = true
  · rw [if_pos h1]
  rw [if_neg h1, if_pos]
  unfold Dm.badR
  rw [List.any_eq_true]
  refine ⟨d.R.getD k (0, false), by rw [List.getD_eq_getElem?_getD, List.getElem?_eq_getElem hk]; exact List.getElem_mem hk, ?_⟩
  unfold Dm.hsR at hb
  rw [Int.toNat_natCast] at hb
  rw [hb]; rfl
theorem Dm.chk_H {d : Dm} (h : ¬ d.many) {k : Nat} (hk : k < d.H.length) (hb : inB (d.owH k) d.O = false) : d.chk = 1 := by
  rw [Dm.chk_few h]
  by_cases h1 : d.badD = true
  · rw [if_pos h1]
  rw [if_neg h1]
  by_cases h2 : d.badR = true
  · rw [if_pos h2]
  rw [if_neg h2, if_pos]
  unfold Dm.badH
  rw [List.any_eq_true]
  refine ⟨d.H.getD k 0, by rw [List.getD_eq_getElem?_getD, List.getElem?_eq_getElem hk]; exact List.getElem_mem hk, ?_⟩
  unfold Dm.owH at hb
  rw [Int.toNat_natCast] at hb
  rw [hb]; rfl
theorem Dm.chk_ok {d : Dm} (h : ¬ d.many) (h1 : ∀ k : Nat, k < d.D.length → inB (d.rk k) d.R.length = true) (h2 : ∀ k : Nat, k < d.R.length → inB (d.hsR k) d.H.length = true) (h3 : ∀ k : Nat, k < d.H.length → inB (d.owH k) d.O = true) : d.chk = 0 := by
  rw [Dm.chk_few h]
  have e1 : d.badD = false := by
    unfold Dm.badD
    rw [List.any_eq_false]
    intro x hx
    obtain ⟨k, hk, rfl⟩ := List.getElem_of_mem hx
    have := h1 k hk
    unfold Dm.rk at this
    rw [List.getD_eq_getElem?_getD, List.getElem?_eq_getElem hk] at this
    simpa using this
  have e2 : d.badR = false := by
    unfold Dm.badR
    rw [List.any_eq_false]
    intro x hx
    obtain ⟨k, hk, rfl⟩ := List.getElem_of_mem hx
    have := h2 k hk
    unfold Dm.hsR at this
    rw [Int.toNat_natCast, List.getD_eq_getElem?_getD, List.getElem?_eq_getElem hk] at this
    simpa using this
  have e3 : d.badH = false := by
    unfold Dm.badH
    rw [List.any_eq_false]
    intro x hx
    obtain ⟨k, hk, rfl⟩ := List.getElem_of_mem hx
    have := h3 k hk
    unfold Dm.owH at this
    rw [Int.toNat_natCast, List.getD_eq_getElem?_getD, List.getElem?_eq_getElem hk] at this
    simpa using this
  rw [e1, e2, e3]; rfl
theorem all_next {P : Nat → Prop} {k : Nat} (no : ∀ l : Nat, l < k → P l) (h : P k) : ∀ l : Nat, l < k + 1 → P l := fun l hl => by
  by_cases e : l = k
  · rw [e]; exact h
  · exact no l (by omega)

end Go.Proofs.Ytelcaddgkjkegaa
