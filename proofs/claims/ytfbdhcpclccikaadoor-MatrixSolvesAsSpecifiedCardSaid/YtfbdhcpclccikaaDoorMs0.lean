/-
  The examples of chapter 5, as the functions of lists answer them.
-/
import Derived.Test.YtfbdhcpclccikaaDoorMv2
import Derived.Test.YtfbdhcpclccikaaDoorMi
import Derived.Test.YtfbdhcpclccikaaDoorMz
import Derived.Test.YtfbdhcpclccikaaDoorMe
import Derived.Test.YtfbdhcpclccikaaDoorMq
namespace Go.Proofs.YtfbdhcpclccikaaDoor
theorem s_prd : prdE [[1, 2]] [[3], [4]] = 0 ∧ prd [[1, 2]] [[3], [4]] = [[11]] := ⟨by kernel_rfl, by kernel_rfl⟩
theorem s_red : chk [[0, 2, 4], [0, 1, 2], [1, 0, 1]] = 0 ∧ redR [[0, 2, 4], [0, 1, 2], [1, 0, 1]] = [[1, 0, 1], [0, 1, 2]] ∧ redP [[0, 2, 4], [0, 1, 2], [1, 0, 1]] = [0, 1] := ⟨by kernel_rfl, by kernel_rfl, by kernel_rfl⟩
theorem s_sol : solveE [[1, 0, 1], [0, 1, 2]] [5, 6] = 0 ∧ solveX [[1, 0, 1], [0, 1, 2]] [5, 6] = [5, 6, 0] ∧ solveK [[1, 0, 1], [0, 1, 2]] [5, 6] = [[1, 2, 1]] := ⟨by kernel_rfl, by kernel_rfl, by kernel_rfl⟩
theorem s_sol2 : solveE [[1, 1], [1, 1]] [1, 2] = 8 := by kernel_rfl
theorem s_inv : invE [[1, 1], [0, 1]] = 0 ∧ invM [[1, 1], [0, 1]] = [[1, 1], [0, 1]] := ⟨by kernel_rfl, by kernel_rfl⟩
theorem s_inv2 : invE [[1, 1], [1, 1]] = 8 := by kernel_rfl
theorem s_exp : expE [[1, 1, 0], [1, 1, 0], [0, 1, 1]] [1, 0, 1] = 0 ∧ expL [[1, 1, 0], [1, 1, 0], [0, 1, 1]] [1, 0, 1] = [1, 0, 1] := ⟨by kernel_rfl, by kernel_rfl⟩
theorem s_exp2 : expE [] [0, 0] = 0 ∧ expL [] [0, 0] = [] := ⟨by kernel_rfl, by kernel_rfl⟩
theorem s_exp3 : expE [] [0, 1] = 8 := by kernel_rfl
theorem s_tr : chk [[1, 2, 3]] = 0 ∧ tr [[1, 2, 3]] = [[1], [2], [3]] := ⟨by kernel_rfl, by kernel_rfl⟩
theorem s_rank : chk [[1, 2], [2, 4], [0, 0]] = 0 ∧ redP [[1, 2], [2, 4], [0, 0]] = [0] := ⟨by kernel_rfl, by kernel_rfl⟩
theorem s_chk : chk [[1], []] = 1 ∧ chk (List.replicate 49 []) = 2 := ⟨by kernel_rfl, by kernel_rfl⟩
end Go.Proofs.YtfbdhcpclccikaaDoor
