/-
  Stage 12 (risk): what the specification's Compare compares (maths).
-/
import Derived.Test.YtgajlgnniidgmaaDoorVmr
import Derived.Test.YtgajlgnniidgmaaDoorVpl
namespace Go.Proofs.YtgajlgnniidgmaaDoor
set_option linter.unusedVariables false
set_option linter.unusedSimpArgs false
open Go.RowKit Go.Maps

theorem cmpI_mul {a b t : Int} (ht : 0 < t) : cmpI (a * t) (b * t) = cmpI a b := by
  unfold cmpI
  by_cases h1 : a < b
  · rw [if_pos (Int.mul_lt_mul_of_pos_right h1 ht), if_pos h1]
  · by_cases h2 : b < a
    · have := Int.mul_lt_mul_of_pos_right h2 ht
      rw [if_neg (by omega), if_neg h1, if_pos this, if_pos h2]
    · have : a = b := by omega
      rw [this]
      simp
/-- What a loss is out of 16^m. -/
noncomputable def scm (p : Prl) (m : Nat) : Int := lsum p (2 ^ p.ch.length) * 16 ^ (m - p.ch.length)
theorem scm_scl {p : Prl} {m : Nat} (h : p.ch.length ≤ m) (hm : m ≤ 12) : scl p = scm p m * 16 ^ (12 - m) := by
  unfold scl scm
  rw [Int.mul_assoc, ← Int.pow_add, show m - p.ch.length + (12 - m) = 12 - p.ch.length by omega]
theorem scm_cmp {p q : Prl} {m : Nat} (h : p.ch.length ≤ m) (h2 : q.ch.length ≤ m) (hm : m ≤ 12) : cmpI (scm p m) (scm q m) = cmpI (scl p) (scl q) := by
  rw [scm_scl h hm, scm_scl h2 hm, cmpI_mul (Int.pow_pos (by omega))]
theorem scm_rng {p : Prl} (ok : PrlOk p) {m : Nat} (h : p.ch.length ≤ m) (hm : m ≤ 12) : 0 ≤ scm p m ∧ scm p m ≤ 281474976710656 := by
  have h1 : (0 : Int) ≤ 16 ^ (m - p.ch.length) := Int.le_of_lt (Int.pow_pos (by omega))
  have h0 := (lsum_rng ok.l12 ok.ch (2 ^ p.ch.length)).1
  unfold scm
  refine ⟨Int.mul_nonneg h0 h1, Int.le_trans (Int.mul_le_mul_of_nonneg_right (lsum_le p ok.ch) h1) ?_⟩
  rw [← Int.pow_add, show p.ch.length + (m - p.ch.length) = m by omega]
  exact p16 hm
end Go.Proofs.YtgajlgnniidgmaaDoor
