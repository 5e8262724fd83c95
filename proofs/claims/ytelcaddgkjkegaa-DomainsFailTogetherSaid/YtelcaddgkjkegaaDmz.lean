/-
  Stage 10 (domain): the walk of DomainNamesAsSpecified. (Written by tools/gendmz.py.)
-/
import Derived.Test.YtelcaddgkjkegaaDmy
import Derived.Test.YtelcaddgkjkegaaDmj
namespace Go.Proofs.Ytelcaddgkjkegaa
set_option linter.unusedVariables false
set_option linter.unusedSimpArgs false
open Go.RowKit

theorem memI_le (d : Dm) (lv b : Int) : (d.memI lv b).length ≤ d.D.length := by
  unfold Dm.memI Dm.memT
  rw [List.length_map]
  refine Nat.le_trans (List.length_filter_le _ _) ?_
  simp
section
variable {B : Nat} {w : World} {h : Hd} {d : Dm} {A A' : Option Addr} {n n' c c' : Nat} {l : List Int}
theorem memZ (hsm : d.D.length ≤ 100000) (lv b : Int) (m : DomM w B h d) : Calls Try.prog 10 #[h.val, .int .i64 lv, .int .i64 b] w fun e w' => ∃ A n c, e = .returned (.slice A n c) ∧ n = (d.memI lv b).length ∧ n ≤ 100000 ∧ Rds w' w'.heap.size A ((d.memI lv b).map iv) ∧ Below w.heap.size w w' := by
  refine (dmem_any h d lv b w m hsm).mono ?_
  rintro e w' ⟨v, rfl, o, hb⟩
  obtain ⟨A, c, rfl, _, _, _, r⟩ := o.slice
  exact ⟨A, _, c, rfl, rfl, Nat.le_trans (memI_le d lv b) hsm, r, hb⟩
theorem sameT {B' : Nat} (hn : n = l.length) (hn' : n' = l.length) (hs : n ≤ 100000) (r : Rds w B A (l.map iv)) (r' : Rds w B' A' (l.map iv)) : Calls Try.prog 21 #[.slice A n c, .slice A' n' c'] w fun e w' => e = .returned (.bool true) ∧ Below w.heap.size w w' := by
  refine (sameZ_any l l A A' n n' c c' w r r' hn hn' (by omega)).mono ?_
  rintro e w' ⟨rfl, k, rfl⟩
  have : sameZ l l = true := by unfold sameZ; simp
  rw [this]
  exact ⟨rfl, below_drewN (Below.refl _ _) k⟩
end
end Go.Proofs.Ytelcaddgkjkegaa
