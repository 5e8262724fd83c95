/-
  Stage 10 (domain): what Sell and Ship change.
-/
import Derived.Test.YtoonpgedioocgaaDms
namespace Go.Proofs.Ytoonpgedioocgaa
set_option linter.unusedVariables false

section
variable {d : Dm} {a b : Int}
theorem Dm.chk_of (h1 : ¬ d.many) (h2 : d.badD = false) (h3 : d.badR = false) (h4 : d.badH = false) : d.chk = 0 := by
  unfold Dm.chk
  rw [if_neg h1, if_neg (by rw [h2]; decide), if_neg (by rw [h3]; decide), if_neg (by rw [h4]; decide)]
theorem sell_ok (h : d.sellE a b = 0) : d.chk = 0 ∧ (0 ≤ a ∧ a < d.H.length) ∧ (0 ≤ b ∧ b < d.O) ∧ d.sellD a b = { d with H := d.H.set a.toNat b } := by
  have hD : d.sellD a b = { d with H := d.H.set a.toNat b } := by unfold Dm.sellD; rw [if_pos h]
  unfold Dm.sellE at h
  by_cases hc : d.chk = 0
  · rw [if_pos hc] at h
    by_cases hi : inB a d.H.length = true ∧ inB b d.O = true
    · exact ⟨hc, inB_iff.1 hi.1, inB_iff.1 hi.2, hD⟩
    · rw [if_neg hi] at h; omega
  · rw [if_neg hc] at h; omega
theorem ship_ok (h : d.shipE a b = 0) : d.chk = 0 ∧ (0 ≤ a ∧ a < d.R.length) ∧ (0 ≤ b ∧ b < d.H.length) ∧ d.shipD a b = { d with R := d.R.set a.toNat (b, true) } := by
  have hD : d.shipD a b = { d with R := d.R.set a.toNat (b, true) } := by unfold Dm.shipD; rw [if_pos h]
  unfold Dm.shipE at h
  by_cases hc : d.chk = 0
  · rw [if_pos hc] at h
    by_cases hi : inB a d.R.length = true ∧ inB b d.H.length = true
    · exact ⟨hc, inB_iff.1 hi.1, inB_iff.1 hi.2, hD⟩
    · rw [if_neg hi] at h; omega
  · rw [if_neg hc] at h; omega
theorem sell_chk (hc : d.chk = 0) (hb : 0 ≤ b ∧ b < d.O) (i : Nat) : ({ d with H := d.H.set i b } : Dm).chk = 0 := by
  obtain ⟨h1, h2, h3, h4⟩ := Dm.ok_few hc
  refine Dm.chk_of ?_ h2 ?_ ?_
  · unfold Dm.many at h1 ⊢; simpa using h1
  · unfold Dm.badR at h3 ⊢; simpa using h3
  · unfold Dm.badH at h4 ⊢
    rw [List.any_eq_false] at h4 ⊢
    intro x hx
    rcases List.mem_or_eq_of_mem_set hx with hx | hx
    · exact h4 x hx
    · subst hx; simp [inB_iff.2 hb]
theorem ship_chk (hc : d.chk = 0) (hb : 0 ≤ b ∧ b < d.H.length) (i : Nat) (v : Bool) : ({ d with R := d.R.set i (b, v) } : Dm).chk = 0 := by
  obtain ⟨h1, h2, h3, h4⟩ := Dm.ok_few hc
  refine Dm.chk_of ?_ ?_ ?_ h4
  · unfold Dm.many at h1 ⊢; simpa using h1
  · unfold Dm.badD at h2 ⊢; simpa using h2
  · unfold Dm.badR at h3 ⊢
    rw [List.any_eq_false] at h3 ⊢
    intro x hx
    rcases List.mem_or_eq_of_mem_set hx with hx | hx
    · exact h3 x hx
    · subst hx; simp [inB_iff.2 hb]
theorem sell_of (h : d.sellE a b = 0) {k : Nat} (hk : k < d.D.length) :
    (d.sellD a b).of 2 k = d.of 2 k ∧ (d.of 2 k ≠ a → (d.sellD a b).of 3 k = d.of 3 k) ∧ (d.of 2 k = a → (d.sellD a b).of 3 k = b) := by
  obtain ⟨hc, ha, hb, e⟩ := sell_ok h
  rw [e]
  have hx := sell_chk hc hb a.toNat
  rw [Dm.of_in (lv := 2) hx (by decide) (by decide) (k := k) hk, Dm.of_in (lv := 3) hx (by decide) (by decide) (k := k) hk, Dm.of_in (lv := 2) hc (by decide) (by decide) hk, Dm.of_in (lv := 3) hc (by decide) (by decide) hk]
  have h1 := Dm.ok_rk hc hk
  have h2 := Dm.ok_hs hc h1.1 h1.2
  have u2 : d.up 2 k = d.hsR (d.rk k) := rfl
  have u2' : ({ d with H := d.H.set a.toNat b } : Dm).up 2 k = d.hsR (d.rk k) := rfl
  have u3 : d.up 3 k = d.H.getD (d.hsR (d.rk k)).toNat 0 := rfl
  have u3' : ({ d with H := d.H.set a.toNat b } : Dm).up 3 k = (d.H.set a.toNat b).getD (d.hsR (d.rk k)).toNat 0 := rfl
  rw [u2, u2', u3, u3']
  refine ⟨rfl, fun hn => ?_, fun he => ?_⟩
  · rw [List.getD_eq_getElem?_getD, List.getD_eq_getElem?_getD, List.getElem?_set_ne (by omega)]
  · rw [he, List.getD_eq_getElem?_getD, List.getElem?_set_self (by omega)]; rfl
theorem ship_of (h : d.shipE a b = 0) {k : Nat} (hk : k < d.D.length) :
    (d.shipD a b).of 1 k = d.of 1 k ∧ (d.of 1 k ≠ a → (d.shipD a b).of 2 k = d.of 2 k) ∧ (d.of 1 k = a → (d.shipD a b).of 2 k = b) := by
  obtain ⟨hc, ha, hb, e⟩ := ship_ok h
  rw [e]
  have hx := ship_chk hc hb a.toNat true
  rw [Dm.of_in (lv := 1) hx (by decide) (by decide) (k := k) hk, Dm.of_in (lv := 2) hx (by decide) (by decide) (k := k) hk, Dm.of_in (lv := 1) hc (by decide) (by decide) hk, Dm.of_in (lv := 2) hc (by decide) (by decide) hk]
  have h1 := Dm.ok_rk hc hk
  have u1 : d.up 1 k = d.rk k := rfl
  have u1' : ({ d with R := d.R.set a.toNat (b, true) } : Dm).up 1 k = d.rk k := rfl
  have u2 : d.up 2 k = (d.R.getD (d.rk k).toNat (0, false)).1 := rfl
  have u2' : ({ d with R := d.R.set a.toNat (b, true) } : Dm).up 2 k = ((d.R.set a.toNat (b, true)).getD (d.rk k).toNat (0, false)).1 := rfl
  rw [u1, u1', u2, u2']
  refine ⟨rfl, fun hn => ?_, fun he => ?_⟩
  · rw [List.getD_eq_getElem?_getD, List.getD_eq_getElem?_getD, List.getElem?_set_ne (by omega)]
  · rw [he, List.getD_eq_getElem?_getD, List.getElem?_set_self (by omega)]; rfl
end
end Go.Proofs.Ytoonpgedioocgaa
