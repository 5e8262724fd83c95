/-
  Stage 5: sanity.
-/
import Derived.Test.YtfbdhcpclccikaaDoorMs0
namespace Go.Proofs.YtfbdhcpclccikaaDoor
set_option linter.unusedVariables false
set_option linter.unusedSimpArgs false
open Go.RowKit

/-- Each row lies in its block. -/
def RowsAt (W : World) : List Nat → List (List UInt8) → Prop
  | [], [] => True
  | b :: bs, m :: M => Blk W b (m.map bv) 5 ∧ m.length ≤ maxLen ∧ RowsAt W bs M
  | _, _ => False
theorem RowsAt.get {W : World} : ∀ {bs : List Nat} {M : List (List UInt8)}, RowsAt W bs M → bs.length = M.length ∧ ∀ (i : Nat) (b : Nat) (m : List UInt8), bs[i]? = some b → M[i]? = some m → Blk W b (m.map bv) 5 ∧ m.length ≤ maxLen
  | [], [], _ => ⟨rfl, fun i b m hb => by simp at hb⟩
  | b :: bs, m :: M, h => by
    obtain ⟨h1, h2, h3⟩ := h
    obtain ⟨g1, g2⟩ := RowsAt.get h3
    refine ⟨by simp [g1], fun i b' m' hb hm => ?_⟩
    cases i with
    | zero =>
      obtain rfl := Option.some.inj hb
      obtain rfl := Option.some.inj hm
      exact ⟨h1, h2⟩
    | succ i => exact g2 i b' m' hb hm
  | [], _ :: _, h => h.elim
  | _ :: _, [], h => h.elim
theorem lit_mat {W : World} {g : Nat} {bs : List Nat} {M : List (List UInt8)} (h : Blk W g (rvals bs M) 43) (hr : RowsAt W bs M) : Mat W W.heap.size (some ⟨g, 0, none⟩) M := by
  obtain ⟨hl, hg⟩ := hr.get
  refine ⟨rvals bs M, rvals_len hl, ?_, fun i v m hv hm => ?_⟩
  · have := h.rds 0 M.length
    rw [List.drop_zero, List.take_of_length_le (by rw [rvals_len hl]; exact Nat.le_refl _)] at this
    exact this
  · have hil := (List.getElem?_eq_some_iff.1 hm).1
    obtain ⟨b, hb⟩ : ∃ b, bs[i]? = some b := ⟨_, List.getElem?_eq_getElem (by rw [hl]; exact hil)⟩
    rw [rvals_get hb hm] at hv
    obtain rfl := Option.some.inj hv
    obtain ⟨hk, hc⟩ := hg i b m hb hm
    refine ⟨some ⟨b, 0, none⟩, m.length, rfl, Nat.le_refl _, hc, (fun hh => by cases hh), ?_⟩
    have := hk.rds 0 m.length
    rw [List.drop_zero, List.take_of_length_le (by rw [List.length_map]; exact Nat.le_refl _)] at this
    exact this
theorem blk_bytes {W : World} {b : Nat} {l : List UInt8} (h : Blk W b (l.map bv) 5) : Rds W W.heap.size (some ⟨b, 0, none⟩) (l.map bv) := by
  have := h.rds 0 (l.map bv).length
  rw [List.drop_zero, List.take_of_length_le (Nat.le_refl _)] at this
  exact this
theorem MatRet.lower {w W w' : World} {T : List (List UInt8)} {E : Int} {e : Ending} (h : MatRet W T E e w') (hB : Below w.heap.size w W) : MatRet w T E e w' := ⟨h.1, hB.trans (h.2.mono hB.size)⟩
theorem RowRet.lower {w W w' : World} {T : List UInt8} {E : Int} {e : Ending} (h : RowRet W T E e w') (hB : Below w.heap.size w W) : RowRet w T E e w' := ⟨h.1, hB.trans (h.2.mono hB.size)⟩
theorem RedRet.lower {w W w' : World} {T : List (List UInt8)} {p : List Nat} {E : Int} {e : Ending} (h : RedRet W T p E e w') (hB : Below w.heap.size w W) : RedRet w T p E e w' := ⟨h.1, hB.trans (h.2.mono hB.size)⟩
theorem SolveRet.lower {w W w' : World} {X : List UInt8} {K : List (List UInt8)} {E : Int} {e : Ending} (h : SolveRet W X K E e w') (hB : Below w.heap.size w W) : SolveRet w X K E e w' := ⟨h.1, hB.trans (h.2.mono hB.size)⟩
theorem sixteen : (16 : Nat) ≤ maxLen := by unfold maxLen; decide

set_option maxRecDepth 100000 in
theorem sn1 (w : World) (ht : PTab 0 w) : Calls Tryd.prog 35 #[.slice (some ⟨w.heap.size + 1, 0, none⟩) 1 1, .slice (some ⟨w.heap.size + 1 + 1 + 1 + 1, 0, none⟩) 2 2] (((((w.alloc (.cells #[.int .u8 1, .int .u8 2] 5)).alloc (.cells #[.slice (some ⟨w.heap.size, 0, none⟩) 2 2] 43)).alloc (.cells #[.int .u8 3] 5)).alloc (.cells #[.int .u8 4] 5)).alloc (.cells #[.slice (some ⟨w.heap.size + 1 + 1, 0, none⟩) 1 1, .slice (some ⟨w.heap.size + 1 + 1 + 1, 0, none⟩) 1 1] 43)) (MatRet w [[11]] 0) := by
  obtain ⟨W, hW⟩ : ∃ W, W = (((((w.alloc (.cells #[.int .u8 1, .int .u8 2] 5)).alloc (.cells #[.slice (some ⟨w.heap.size, 0, none⟩) 2 2] 43)).alloc (.cells #[.int .u8 3] 5)).alloc (.cells #[.int .u8 4] 5)).alloc (.cells #[.slice (some ⟨w.heap.size + 1 + 1, 0, none⟩) 1 1, .slice (some ⟨w.heap.size + 1 + 1 + 1, 0, none⟩) 1 1] 43)) := ⟨_, rfl⟩
  rw [← hW]
  have hB : Below w.heap.size w W := by rw [hW]; exact (((((Below.refl _ _).alloc (Nat.le_refl _) _).alloc (by simp <;> omega) _).alloc (by simp <;> omega) _).alloc (by simp <;> omega) _).alloc (by simp <;> omega) _
  have hs : W.heap.size = w.heap.size + 5 := by rw [hW]; simp
  have b0 : Blk W (w.heap.size) (([1, 2] : List UInt8).map bv) 5 := by rw [hW]; refine Blk.alloc ?_ _; refine Blk.alloc ?_ _; refine Blk.alloc ?_ _; refine Blk.alloc ?_ _; exact (Blk.new _ [_, _] _).at (by simp)
  have b1 : Blk W (w.heap.size + 1) (rvals [w.heap.size] [[1, 2]]) 43 := by rw [hW]; refine Blk.alloc ?_ _; refine Blk.alloc ?_ _; refine Blk.alloc ?_ _; exact (Blk.new _ [_] _).at (by simp)
  have b2 : Blk W (w.heap.size + 1 + 1) (([3] : List UInt8).map bv) 5 := by rw [hW]; refine Blk.alloc ?_ _; refine Blk.alloc ?_ _; exact (Blk.new _ [_] _).at (by simp)
  have b3 : Blk W (w.heap.size + 1 + 1 + 1) (([4] : List UInt8).map bv) 5 := by rw [hW]; refine Blk.alloc ?_ _; exact (Blk.new _ [_] _).at (by simp)
  have b4 : Blk W (w.heap.size + 1 + 1 + 1 + 1) (rvals [w.heap.size + 1 + 1, w.heap.size + 1 + 1 + 1] [[3], [4]]) 43 := by rw [hW]; exact (Blk.new _ [_, _] _).at (by simp)
  have m1 := lit_mat b1 ⟨b0, Nat.le_trans (by decide) sixteen, trivial⟩
  have m4 := lit_mat b4 ⟨b2, Nat.le_trans (by decide) sixteen, b3, Nat.le_trans (by decide) sixteen, trivial⟩
  have h := product_any [[1, 2]] [[3], [4]] _ _ 1 2 W m1 m4 (by decide) (by decide) (ht.on hB)
  rw [s_prd.1, if_pos rfl, s_prd.2] at h
  exact h.mono fun e w' hh => hh.lower hB
set_option maxRecDepth 100000 in
theorem sn2 (w : World) (ht : PTab 0 w) : Calls Tryd.prog 21 #[.slice (some ⟨w.heap.size + 1 + 1 + 1, 0, none⟩) 3 3] ((((w.alloc (.cells #[.int .u8 0, .int .u8 2, .int .u8 4] 5)).alloc (.cells #[.int .u8 0, .int .u8 1, .int .u8 2] 5)).alloc (.cells #[.int .u8 1, .int .u8 0, .int .u8 1] 5)).alloc (.cells #[.slice (some ⟨w.heap.size, 0, none⟩) 3 3, .slice (some ⟨w.heap.size + 1, 0, none⟩) 3 3, .slice (some ⟨w.heap.size + 1 + 1, 0, none⟩) 3 3] 43)) (RedRet w [[1, 0, 1], [0, 1, 2]] [0, 1] 0) := by
  obtain ⟨W, hW⟩ : ∃ W, W = ((((w.alloc (.cells #[.int .u8 0, .int .u8 2, .int .u8 4] 5)).alloc (.cells #[.int .u8 0, .int .u8 1, .int .u8 2] 5)).alloc (.cells #[.int .u8 1, .int .u8 0, .int .u8 1] 5)).alloc (.cells #[.slice (some ⟨w.heap.size, 0, none⟩) 3 3, .slice (some ⟨w.heap.size + 1, 0, none⟩) 3 3, .slice (some ⟨w.heap.size + 1 + 1, 0, none⟩) 3 3] 43)) := ⟨_, rfl⟩
  rw [← hW]
  have hB : Below w.heap.size w W := by rw [hW]; exact ((((Below.refl _ _).alloc (Nat.le_refl _) _).alloc (by simp <;> omega) _).alloc (by simp <;> omega) _).alloc (by simp <;> omega) _
  have hs : W.heap.size = w.heap.size + 4 := by rw [hW]; simp
  have b0 : Blk W (w.heap.size) (([0, 2, 4] : List UInt8).map bv) 5 := by rw [hW]; refine Blk.alloc ?_ _; refine Blk.alloc ?_ _; refine Blk.alloc ?_ _; exact (Blk.new _ [_, _, _] _).at (by simp)
  have b1 : Blk W (w.heap.size + 1) (([0, 1, 2] : List UInt8).map bv) 5 := by rw [hW]; refine Blk.alloc ?_ _; refine Blk.alloc ?_ _; exact (Blk.new _ [_, _, _] _).at (by simp)
  have b2 : Blk W (w.heap.size + 1 + 1) (([1, 0, 1] : List UInt8).map bv) 5 := by rw [hW]; refine Blk.alloc ?_ _; exact (Blk.new _ [_, _, _] _).at (by simp)
  have b3 : Blk W (w.heap.size + 1 + 1 + 1) (rvals [w.heap.size, w.heap.size + 1, w.heap.size + 1 + 1] [[0, 2, 4], [0, 1, 2], [1, 0, 1]]) 43 := by rw [hW]; exact (Blk.new _ [_, _, _] _).at (by simp)
  have m3 := lit_mat b3 ⟨b0, Nat.le_trans (by decide) sixteen, b1, Nat.le_trans (by decide) sixteen, b2, Nat.le_trans (by decide) sixteen, trivial⟩
  have h := reduceF_any [[0, 2, 4], [0, 1, 2], [1, 0, 1]] _ 3 W m3 (by decide) (ht.on hB) (Nat.lt_of_lt_of_le ht.1 hB.size)
  rw [s_red.1, if_pos rfl, if_pos rfl, s_red.2.1, s_red.2.2] at h
  exact h.mono fun e w' hh => hh.lower hB
set_option maxRecDepth 100000 in
theorem sn3 (w : World) (ht : PTab 0 w) : Calls Tryd.prog 28 #[.slice (some ⟨w.heap.size + 1 + 1, 0, none⟩) 2 2, .slice (some ⟨w.heap.size + 1 + 1 + 1, 0, none⟩) 2 2] ((((w.alloc (.cells #[.int .u8 1, .int .u8 0, .int .u8 1] 5)).alloc (.cells #[.int .u8 0, .int .u8 1, .int .u8 2] 5)).alloc (.cells #[.slice (some ⟨w.heap.size, 0, none⟩) 3 3, .slice (some ⟨w.heap.size + 1, 0, none⟩) 3 3] 43)).alloc (.cells #[.int .u8 5, .int .u8 6] 5)) (SolveRet w [5, 6, 0] [[1, 2, 1]] 0) := by
  obtain ⟨W, hW⟩ : ∃ W, W = ((((w.alloc (.cells #[.int .u8 1, .int .u8 0, .int .u8 1] 5)).alloc (.cells #[.int .u8 0, .int .u8 1, .int .u8 2] 5)).alloc (.cells #[.slice (some ⟨w.heap.size, 0, none⟩) 3 3, .slice (some ⟨w.heap.size + 1, 0, none⟩) 3 3] 43)).alloc (.cells #[.int .u8 5, .int .u8 6] 5)) := ⟨_, rfl⟩
  rw [← hW]
  have hB : Below w.heap.size w W := by rw [hW]; exact ((((Below.refl _ _).alloc (Nat.le_refl _) _).alloc (by simp <;> omega) _).alloc (by simp <;> omega) _).alloc (by simp <;> omega) _
  have hs : W.heap.size = w.heap.size + 4 := by rw [hW]; simp
  have b0 : Blk W (w.heap.size) (([1, 0, 1] : List UInt8).map bv) 5 := by rw [hW]; refine Blk.alloc ?_ _; refine Blk.alloc ?_ _; refine Blk.alloc ?_ _; exact (Blk.new _ [_, _, _] _).at (by simp)
  have b1 : Blk W (w.heap.size + 1) (([0, 1, 2] : List UInt8).map bv) 5 := by rw [hW]; refine Blk.alloc ?_ _; refine Blk.alloc ?_ _; exact (Blk.new _ [_, _, _] _).at (by simp)
  have b2 : Blk W (w.heap.size + 1 + 1) (rvals [w.heap.size, w.heap.size + 1] [[1, 0, 1], [0, 1, 2]]) 43 := by rw [hW]; refine Blk.alloc ?_ _; exact (Blk.new _ [_, _] _).at (by simp)
  have b3 : Blk W (w.heap.size + 1 + 1 + 1) (([5, 6] : List UInt8).map bv) 5 := by rw [hW]; exact (Blk.new _ [_, _] _).at (by simp)
  have m2 := lit_mat b2 ⟨b0, Nat.le_trans (by decide) sixteen, b1, Nat.le_trans (by decide) sixteen, trivial⟩
  have h := solve_any [[1, 0, 1], [0, 1, 2]] [5, 6] _ _ 2 2 W m2 (blk_bytes b3) (by decide) (ht.on hB) (Nat.lt_of_lt_of_le ht.1 hB.size)
  rw [s_sol.1, s_sol.2.1, s_sol.2.2] at h
  exact h.mono fun e w' hh => hh.lower hB
theorem s_solX2 : solveX [[1, 1], [1, 1]] [1, 2] = [] := by kernel_rfl
theorem s_solK2 : solveK [[1, 1], [1, 1]] [1, 2] = [] := by kernel_rfl
set_option maxRecDepth 100000 in
theorem sn4 (w : World) (ht : PTab 0 w) : Calls Tryd.prog 28 #[.slice (some ⟨w.heap.size + 1 + 1, 0, none⟩) 2 2, .slice (some ⟨w.heap.size + 1 + 1 + 1, 0, none⟩) 2 2] ((((w.alloc (.cells #[.int .u8 1, .int .u8 1] 5)).alloc (.cells #[.int .u8 1, .int .u8 1] 5)).alloc (.cells #[.slice (some ⟨w.heap.size, 0, none⟩) 2 2, .slice (some ⟨w.heap.size + 1, 0, none⟩) 2 2] 43)).alloc (.cells #[.int .u8 1, .int .u8 2] 5)) (SolveRet w [] [] 8) := by
  obtain ⟨W, hW⟩ : ∃ W, W = ((((w.alloc (.cells #[.int .u8 1, .int .u8 1] 5)).alloc (.cells #[.int .u8 1, .int .u8 1] 5)).alloc (.cells #[.slice (some ⟨w.heap.size, 0, none⟩) 2 2, .slice (some ⟨w.heap.size + 1, 0, none⟩) 2 2] 43)).alloc (.cells #[.int .u8 1, .int .u8 2] 5)) := ⟨_, rfl⟩
  rw [← hW]
  have hB : Below w.heap.size w W := by rw [hW]; exact ((((Below.refl _ _).alloc (Nat.le_refl _) _).alloc (by simp <;> omega) _).alloc (by simp <;> omega) _).alloc (by simp <;> omega) _
  have hs : W.heap.size = w.heap.size + 4 := by rw [hW]; simp
  have b0 : Blk W (w.heap.size) (([1, 1] : List UInt8).map bv) 5 := by rw [hW]; refine Blk.alloc ?_ _; refine Blk.alloc ?_ _; refine Blk.alloc ?_ _; exact (Blk.new _ [_, _] _).at (by simp)
  have b1 : Blk W (w.heap.size + 1) (([1, 1] : List UInt8).map bv) 5 := by rw [hW]; refine Blk.alloc ?_ _; refine Blk.alloc ?_ _; exact (Blk.new _ [_, _] _).at (by simp)
  have b2 : Blk W (w.heap.size + 1 + 1) (rvals [w.heap.size, w.heap.size + 1] [[1, 1], [1, 1]]) 43 := by rw [hW]; refine Blk.alloc ?_ _; exact (Blk.new _ [_, _] _).at (by simp)
  have b3 : Blk W (w.heap.size + 1 + 1 + 1) (([1, 2] : List UInt8).map bv) 5 := by rw [hW]; exact (Blk.new _ [_, _] _).at (by simp)
  have m2 := lit_mat b2 ⟨b0, Nat.le_trans (by decide) sixteen, b1, Nat.le_trans (by decide) sixteen, trivial⟩
  have h := solve_any [[1, 1], [1, 1]] [1, 2] _ _ 2 2 W m2 (blk_bytes b3) (by decide) (ht.on hB) (Nat.lt_of_lt_of_le ht.1 hB.size)
  rw [s_sol2, s_solX2, s_solK2] at h
  exact h.mono fun e w' hh => hh.lower hB
theorem s_invM2 : invM [[1, 1], [1, 1]] = [] := by kernel_rfl
set_option maxRecDepth 100000 in
theorem sn5 (w : World) (ht : PTab 0 w) : Calls Tryd.prog 30 #[.slice (some ⟨w.heap.size + 1 + 1, 0, none⟩) 2 2] (((w.alloc (.cells #[.int .u8 1, .int .u8 1] 5)).alloc (.cells #[.int .u8 0, .int .u8 1] 5)).alloc (.cells #[.slice (some ⟨w.heap.size, 0, none⟩) 2 2, .slice (some ⟨w.heap.size + 1, 0, none⟩) 2 2] 43)) (MatRet w [[1, 1], [0, 1]] 0) := by
  obtain ⟨W, hW⟩ : ∃ W, W = (((w.alloc (.cells #[.int .u8 1, .int .u8 1] 5)).alloc (.cells #[.int .u8 0, .int .u8 1] 5)).alloc (.cells #[.slice (some ⟨w.heap.size, 0, none⟩) 2 2, .slice (some ⟨w.heap.size + 1, 0, none⟩) 2 2] 43)) := ⟨_, rfl⟩
  rw [← hW]
  have hB : Below w.heap.size w W := by rw [hW]; exact (((Below.refl _ _).alloc (Nat.le_refl _) _).alloc (by simp <;> omega) _).alloc (by simp <;> omega) _
  have hs : W.heap.size = w.heap.size + 3 := by rw [hW]; simp
  have b0 : Blk W (w.heap.size) (([1, 1] : List UInt8).map bv) 5 := by rw [hW]; refine Blk.alloc ?_ _; refine Blk.alloc ?_ _; exact (Blk.new _ [_, _] _).at (by simp)
  have b1 : Blk W (w.heap.size + 1) (([0, 1] : List UInt8).map bv) 5 := by rw [hW]; refine Blk.alloc ?_ _; exact (Blk.new _ [_, _] _).at (by simp)
  have b2 : Blk W (w.heap.size + 1 + 1) (rvals [w.heap.size, w.heap.size + 1] [[1, 1], [0, 1]]) 43 := by rw [hW]; exact (Blk.new _ [_, _] _).at (by simp)
  have m2 := lit_mat b2 ⟨b0, Nat.le_trans (by decide) sixteen, b1, Nat.le_trans (by decide) sixteen, trivial⟩
  have h := inverse_any [[1, 1], [0, 1]] _ 2 W m2 (by decide) (ht.on hB) (Nat.lt_of_lt_of_le ht.1 hB.size)
  rw [s_inv.1, s_inv.2] at h
  exact h.mono fun e w' hh => hh.lower hB
set_option maxRecDepth 100000 in
theorem sn6 (w : World) (ht : PTab 0 w) : Calls Tryd.prog 30 #[.slice (some ⟨w.heap.size + 1 + 1, 0, none⟩) 2 2] (((w.alloc (.cells #[.int .u8 1, .int .u8 1] 5)).alloc (.cells #[.int .u8 1, .int .u8 1] 5)).alloc (.cells #[.slice (some ⟨w.heap.size, 0, none⟩) 2 2, .slice (some ⟨w.heap.size + 1, 0, none⟩) 2 2] 43)) (MatRet w [] 8) := by
  obtain ⟨W, hW⟩ : ∃ W, W = (((w.alloc (.cells #[.int .u8 1, .int .u8 1] 5)).alloc (.cells #[.int .u8 1, .int .u8 1] 5)).alloc (.cells #[.slice (some ⟨w.heap.size, 0, none⟩) 2 2, .slice (some ⟨w.heap.size + 1, 0, none⟩) 2 2] 43)) := ⟨_, rfl⟩
  rw [← hW]
  have hB : Below w.heap.size w W := by rw [hW]; exact (((Below.refl _ _).alloc (Nat.le_refl _) _).alloc (by simp <;> omega) _).alloc (by simp <;> omega) _
  have hs : W.heap.size = w.heap.size + 3 := by rw [hW]; simp
  have b0 : Blk W (w.heap.size) (([1, 1] : List UInt8).map bv) 5 := by rw [hW]; refine Blk.alloc ?_ _; refine Blk.alloc ?_ _; exact (Blk.new _ [_, _] _).at (by simp)
  have b1 : Blk W (w.heap.size + 1) (([1, 1] : List UInt8).map bv) 5 := by rw [hW]; refine Blk.alloc ?_ _; exact (Blk.new _ [_, _] _).at (by simp)
  have b2 : Blk W (w.heap.size + 1 + 1) (rvals [w.heap.size, w.heap.size + 1] [[1, 1], [1, 1]]) 43 := by rw [hW]; exact (Blk.new _ [_, _] _).at (by simp)
  have m2 := lit_mat b2 ⟨b0, Nat.le_trans (by decide) sixteen, b1, Nat.le_trans (by decide) sixteen, trivial⟩
  have h := inverse_any [[1, 1], [1, 1]] _ 2 W m2 (by decide) (ht.on hB) (Nat.lt_of_lt_of_le ht.1 hB.size)
  rw [s_inv2, s_invM2] at h
  exact h.mono fun e w' hh => hh.lower hB
set_option maxRecDepth 100000 in
theorem sn7 (w : World) (ht : PTab 0 w) : Calls Tryd.prog 32 #[.slice (some ⟨w.heap.size + 1 + 1 + 1, 0, none⟩) 3 3, .slice (some ⟨w.heap.size + 1 + 1 + 1 + 1, 0, none⟩) 3 3] (((((w.alloc (.cells #[.int .u8 1, .int .u8 1, .int .u8 0] 5)).alloc (.cells #[.int .u8 1, .int .u8 1, .int .u8 0] 5)).alloc (.cells #[.int .u8 0, .int .u8 1, .int .u8 1] 5)).alloc (.cells #[.slice (some ⟨w.heap.size, 0, none⟩) 3 3, .slice (some ⟨w.heap.size + 1, 0, none⟩) 3 3, .slice (some ⟨w.heap.size + 1 + 1, 0, none⟩) 3 3] 43)).alloc (.cells #[.int .u8 1, .int .u8 0, .int .u8 1] 5)) (RowRet w [1, 0, 1] 0) := by
  obtain ⟨W, hW⟩ : ∃ W, W = (((((w.alloc (.cells #[.int .u8 1, .int .u8 1, .int .u8 0] 5)).alloc (.cells #[.int .u8 1, .int .u8 1, .int .u8 0] 5)).alloc (.cells #[.int .u8 0, .int .u8 1, .int .u8 1] 5)).alloc (.cells #[.slice (some ⟨w.heap.size, 0, none⟩) 3 3, .slice (some ⟨w.heap.size + 1, 0, none⟩) 3 3, .slice (some ⟨w.heap.size + 1 + 1, 0, none⟩) 3 3] 43)).alloc (.cells #[.int .u8 1, .int .u8 0, .int .u8 1] 5)) := ⟨_, rfl⟩
  rw [← hW]
  have hB : Below w.heap.size w W := by rw [hW]; exact (((((Below.refl _ _).alloc (Nat.le_refl _) _).alloc (by simp <;> omega) _).alloc (by simp <;> omega) _).alloc (by simp <;> omega) _).alloc (by simp <;> omega) _
  have hs : W.heap.size = w.heap.size + 5 := by rw [hW]; simp
  have b0 : Blk W (w.heap.size) (([1, 1, 0] : List UInt8).map bv) 5 := by rw [hW]; refine Blk.alloc ?_ _; refine Blk.alloc ?_ _; refine Blk.alloc ?_ _; refine Blk.alloc ?_ _; exact (Blk.new _ [_, _, _] _).at (by simp)
  have b1 : Blk W (w.heap.size + 1) (([1, 1, 0] : List UInt8).map bv) 5 := by rw [hW]; refine Blk.alloc ?_ _; refine Blk.alloc ?_ _; refine Blk.alloc ?_ _; exact (Blk.new _ [_, _, _] _).at (by simp)
  have b2 : Blk W (w.heap.size + 1 + 1) (([0, 1, 1] : List UInt8).map bv) 5 := by rw [hW]; refine Blk.alloc ?_ _; refine Blk.alloc ?_ _; exact (Blk.new _ [_, _, _] _).at (by simp)
  have b3 : Blk W (w.heap.size + 1 + 1 + 1) (rvals [w.heap.size, w.heap.size + 1, w.heap.size + 1 + 1] [[1, 1, 0], [1, 1, 0], [0, 1, 1]]) 43 := by rw [hW]; refine Blk.alloc ?_ _; exact (Blk.new _ [_, _, _] _).at (by simp)
  have b4 : Blk W (w.heap.size + 1 + 1 + 1 + 1) (([1, 0, 1] : List UInt8).map bv) 5 := by rw [hW]; exact (Blk.new _ [_, _, _] _).at (by simp)
  have m3 := lit_mat b3 ⟨b0, Nat.le_trans (by decide) sixteen, b1, Nat.le_trans (by decide) sixteen, b2, Nat.le_trans (by decide) sixteen, trivial⟩
  have h := express_any [[1, 1, 0], [1, 1, 0], [0, 1, 1]] [1, 0, 1] _ _ 3 3 W m3 (blk_bytes b4) (by decide) (ht.on hB) (Nat.lt_of_lt_of_le ht.1 hB.size)
  rw [s_exp.1, s_exp.2] at h
  exact h.mono fun e w' hh => hh.lower hB
theorem s_expL3 : expL [] [0, 1] = [] := by kernel_rfl
set_option maxRecDepth 100000 in
theorem sn8 (w : World) (ht : PTab 0 w) : Calls Tryd.prog 32 #[.slice none 0 0, .slice (some ⟨w.heap.size, 0, none⟩) 2 2] (w.alloc (.cells #[.int .u8 0, .int .u8 0] 5)) (RowRet w [] 0) := by
  obtain ⟨W, hW⟩ : ∃ W, W = (w.alloc (.cells #[.int .u8 0, .int .u8 0] 5)) := ⟨_, rfl⟩
  rw [← hW]
  have hB : Below w.heap.size w W := by rw [hW]; exact (Below.refl _ _).alloc (Nat.le_refl _) _
  have hs : W.heap.size = w.heap.size + 1 := by rw [hW]; simp
  have b0 : Blk W (w.heap.size) (([0, 0] : List UInt8).map bv) 5 := by rw [hW]; exact (Blk.new _ [_, _] _).at (by simp)
  have h := express_any [] [0, 0] none _ 0 2 W Mat.nil (blk_bytes b0) (by decide) (ht.on hB) (Nat.lt_of_lt_of_le ht.1 hB.size)
  rw [s_exp2.1, s_exp2.2] at h
  exact h.mono fun e w' hh => hh.lower hB
set_option maxRecDepth 100000 in
theorem sn9 (w : World) (ht : PTab 0 w) : Calls Tryd.prog 32 #[.slice none 0 0, .slice (some ⟨w.heap.size, 0, none⟩) 2 2] (w.alloc (.cells #[.int .u8 0, .int .u8 1] 5)) (RowRet w [] 8) := by
  obtain ⟨W, hW⟩ : ∃ W, W = (w.alloc (.cells #[.int .u8 0, .int .u8 1] 5)) := ⟨_, rfl⟩
  rw [← hW]
  have hB : Below w.heap.size w W := by rw [hW]; exact (Below.refl _ _).alloc (Nat.le_refl _) _
  have hs : W.heap.size = w.heap.size + 1 := by rw [hW]; simp
  have b0 : Blk W (w.heap.size) (([0, 1] : List UInt8).map bv) 5 := by rw [hW]; exact (Blk.new _ [_, _] _).at (by simp)
  have h := express_any [] [0, 1] none _ 0 2 W Mat.nil (blk_bytes b0) (by decide) (ht.on hB) (Nat.lt_of_lt_of_le ht.1 hB.size)
  rw [s_exp3, s_expL3] at h
  exact h.mono fun e w' hh => hh.lower hB
set_option maxRecDepth 100000 in
theorem sn10 (w : World) (ht : PTab 0 w) : Calls Tryd.prog 20 #[.slice (some ⟨w.heap.size + 1, 0, none⟩) 1 1] ((w.alloc (.cells #[.int .u8 1, .int .u8 2, .int .u8 3] 5)).alloc (.cells #[.slice (some ⟨w.heap.size, 0, none⟩) 3 3] 43)) (MatRet w [[1], [2], [3]] 0) := by
  obtain ⟨W, hW⟩ : ∃ W, W = ((w.alloc (.cells #[.int .u8 1, .int .u8 2, .int .u8 3] 5)).alloc (.cells #[.slice (some ⟨w.heap.size, 0, none⟩) 3 3] 43)) := ⟨_, rfl⟩
  rw [← hW]
  have hB : Below w.heap.size w W := by rw [hW]; exact ((Below.refl _ _).alloc (Nat.le_refl _) _).alloc (by simp <;> omega) _
  have hs : W.heap.size = w.heap.size + 2 := by rw [hW]; simp
  have b0 : Blk W (w.heap.size) (([1, 2, 3] : List UInt8).map bv) 5 := by rw [hW]; refine Blk.alloc ?_ _; exact (Blk.new _ [_, _, _] _).at (by simp)
  have b1 : Blk W (w.heap.size + 1) (rvals [w.heap.size] [[1, 2, 3]]) 43 := by rw [hW]; exact (Blk.new _ [_] _).at (by simp)
  have m1 := lit_mat b1 ⟨b0, Nat.le_trans (by decide) sixteen, trivial⟩
  have h := transpose_any [[1, 2, 3]] _ 1 W m1 (by decide)
  rw [s_tr.1, if_pos rfl, s_tr.2] at h
  exact h.mono fun e w' hh => hh.lower hB
set_option maxRecDepth 100000 in
theorem sn11 (w : World) (ht : PTab 0 w) : Calls Tryd.prog 22 #[.slice (some ⟨w.heap.size + 1 + 1 + 1, 0, none⟩) 3 3] ((((w.alloc (.cells #[.int .u8 1, .int .u8 2] 5)).alloc (.cells #[.int .u8 2, .int .u8 4] 5)).alloc (.cells #[.int .u8 0, .int .u8 0] 5)).alloc (.cells #[.slice (some ⟨w.heap.size, 0, none⟩) 2 2, .slice (some ⟨w.heap.size + 1, 0, none⟩) 2 2, .slice (some ⟨w.heap.size + 1 + 1, 0, none⟩) 2 2] 43)) (fun e w' => e = .returned (.tuple #[.int .i64 1, .int .i64 0]) ∧ Below w.heap.size w w') := by
  obtain ⟨W, hW⟩ : ∃ W, W = ((((w.alloc (.cells #[.int .u8 1, .int .u8 2] 5)).alloc (.cells #[.int .u8 2, .int .u8 4] 5)).alloc (.cells #[.int .u8 0, .int .u8 0] 5)).alloc (.cells #[.slice (some ⟨w.heap.size, 0, none⟩) 2 2, .slice (some ⟨w.heap.size + 1, 0, none⟩) 2 2, .slice (some ⟨w.heap.size + 1 + 1, 0, none⟩) 2 2] 43)) := ⟨_, rfl⟩
  rw [← hW]
  have hB : Below w.heap.size w W := by rw [hW]; exact ((((Below.refl _ _).alloc (Nat.le_refl _) _).alloc (by simp <;> omega) _).alloc (by simp <;> omega) _).alloc (by simp <;> omega) _
  have hs : W.heap.size = w.heap.size + 4 := by rw [hW]; simp
  have b0 : Blk W (w.heap.size) (([1, 2] : List UInt8).map bv) 5 := by rw [hW]; refine Blk.alloc ?_ _; refine Blk.alloc ?_ _; refine Blk.alloc ?_ _; exact (Blk.new _ [_, _] _).at (by simp)
  have b1 : Blk W (w.heap.size + 1) (([2, 4] : List UInt8).map bv) 5 := by rw [hW]; refine Blk.alloc ?_ _; refine Blk.alloc ?_ _; exact (Blk.new _ [_, _] _).at (by simp)
  have b2 : Blk W (w.heap.size + 1 + 1) (([0, 0] : List UInt8).map bv) 5 := by rw [hW]; refine Blk.alloc ?_ _; exact (Blk.new _ [_, _] _).at (by simp)
  have b3 : Blk W (w.heap.size + 1 + 1 + 1) (rvals [w.heap.size, w.heap.size + 1, w.heap.size + 1 + 1] [[1, 2], [2, 4], [0, 0]]) 43 := by rw [hW]; exact (Blk.new _ [_, _, _] _).at (by simp)
  have m3 := lit_mat b3 ⟨b0, Nat.le_trans (by decide) sixteen, b1, Nat.le_trans (by decide) sixteen, b2, Nat.le_trans (by decide) sixteen, trivial⟩
  have h := rank_any [[1, 2], [2, 4], [0, 0]] _ 3 W m3 (by decide) (ht.on hB) (Nat.lt_of_lt_of_le ht.1 hB.size)
  rw [s_rank.1, if_pos rfl, s_rank.2] at h
  exact h.mono fun e w' hh => ⟨hh.1, hB.trans (hh.2.mono hB.size)⟩
set_option maxRecDepth 100000 in
theorem sn12 (w : World) (ht : PTab 0 w) : Calls Tryd.prog 23 #[.slice (some ⟨w.heap.size + 1 + 1, 0, none⟩) 2 2] (((w.alloc (.cells #[.int .u8 1] 5)).alloc (.cells #[] 5)).alloc (.cells #[.slice (some ⟨w.heap.size, 0, none⟩) 1 1, .slice (some ⟨w.heap.size + 1, 0, none⟩) 0 0] 43)) (fun e w' => e = .returned (.int .i64 1) ∧ Below w.heap.size w w') := by
  obtain ⟨W, hW⟩ : ∃ W, W = (((w.alloc (.cells #[.int .u8 1] 5)).alloc (.cells #[] 5)).alloc (.cells #[.slice (some ⟨w.heap.size, 0, none⟩) 1 1, .slice (some ⟨w.heap.size + 1, 0, none⟩) 0 0] 43)) := ⟨_, rfl⟩
  rw [← hW]
  have hB : Below w.heap.size w W := by rw [hW]; exact (((Below.refl _ _).alloc (Nat.le_refl _) _).alloc (by simp <;> omega) _).alloc (by simp <;> omega) _
  have hs : W.heap.size = w.heap.size + 3 := by rw [hW]; simp
  have b0 : Blk W (w.heap.size) (([1] : List UInt8).map bv) 5 := by rw [hW]; refine Blk.alloc ?_ _; refine Blk.alloc ?_ _; exact (Blk.new _ [_] _).at (by simp)
  have b1 : Blk W (w.heap.size + 1) (([] : List UInt8).map bv) 5 := by rw [hW]; refine Blk.alloc ?_ _; exact (Blk.new _ [] _).at (by simp)
  have b2 : Blk W (w.heap.size + 1 + 1) (rvals [w.heap.size, w.heap.size + 1] [[1], []]) 43 := by rw [hW]; exact (Blk.new _ [_, _] _).at (by simp)
  have m2 := lit_mat b2 ⟨b0, Nat.le_trans (by decide) sixteen, b1, Nat.le_trans (by decide) sixteen, trivial⟩
  have h := check_any [[1], []] _ 2 W m2 (by decide)
  rw [s_chk.1] at h
  exact h.mono fun e w' hh => ⟨hh.1, hB.trans (hh.2.mono hB.size)⟩
theorem sn13 (w : World) : Calls Tryd.prog 23 #[.slice (some ⟨w.heap.size, 0, none⟩) 49 49] (w.alloc (.cells (madeCells #[.slice none 0 0] 49) 43)) fun e w' => e = .returned (.int .i64 2) ∧ Below w.heap.size w w' := by
  obtain ⟨W, hW⟩ : ∃ W, W = w.alloc (.cells (madeCells #[.slice none 0 0] 49) 43) := ⟨_, rfl⟩
  rw [← hW]
  have hB : Below w.heap.size w W := by rw [hW]; exact (Below.refl _ _).alloc (Nat.le_refl _) _
  have hk : Blk W w.heap.size (List.replicate 49 (.slice none 0 0)) 43 := by rw [hW, made_nils]; exact Blk.new _ _ _
  have hm : Mat W W.heap.size (some ⟨w.heap.size, 0, none⟩) (List.replicate 49 []) := by
    refine ⟨List.replicate 49 (.slice none 0 0), by simp, ?_, fun i v m hv hm => ?_⟩
    · have := hk.rds 0 49
      exact this
    · have h1 := List.mem_of_getElem? hv
      have h2 := List.mem_of_getElem? hm
      rw [List.eq_of_mem_replicate h1, List.eq_of_mem_replicate h2]
      exact ⟨none, 0, rfl, by simp, by unfold maxLen; decide, fun _ => rfl, Rds.empty⟩
  have h := check_any (List.replicate 49 []) _ 49 W hm (by decide)
  rw [s_chk.2] at h
  exact h.mono fun e w' hh => ⟨hh.1, hB.trans (hh.2.mono hB.size)⟩
set_option maxRecDepth 100000 in
theorem sm1 {B : Nat} (A : Option Addr) (c : Nat) (w : World) (h : Mat w B A [[11]]) (hB0 : B ≤ w.heap.size) : Calls Tryd.prog 26 #[.slice A 1 c, .slice (some ⟨w.heap.size + 1, 0, none⟩) 1 1] ((w.alloc (.cells #[.int .u8 11] 5)).alloc (.cells #[.slice (some ⟨w.heap.size, 0, none⟩) 1 1] 43)) fun e w' => e = .returned (.bool true) ∧ Below w.heap.size w w' := by
  obtain ⟨W, hW⟩ : ∃ W, W = ((w.alloc (.cells #[.int .u8 11] 5)).alloc (.cells #[.slice (some ⟨w.heap.size, 0, none⟩) 1 1] 43)) := ⟨_, rfl⟩
  rw [← hW]
  have hB : Below w.heap.size w W := by rw [hW]; exact ((Below.refl _ _).alloc (Nat.le_refl _) _).alloc (by simp <;> omega) _
  have hs : W.heap.size = w.heap.size + 2 := by rw [hW]; simp
  have b0 : Blk W (w.heap.size) (([11] : List UInt8).map bv) 5 := by rw [hW]; refine Blk.alloc ?_ _; exact (Blk.new _ [_] _).at (by simp)
  have b1 : Blk W (w.heap.size + 1) (rvals [w.heap.size] [[11]]) 43 := by rw [hW]; exact (Blk.new _ [_] _).at (by simp)
  have m1 := lit_mat b1 ⟨b0, Nat.le_trans (by decide) sixteen, trivial⟩
  have h := same_any [[11]] [[11]] A _ c 1 W (h.below (hB.mono hB0)) m1 (by decide) (by decide)
  have hs : sameB ([[11]] : List (List UInt8)) [[11]] = true := by decide
  rw [hs] at h
  exact h.mono fun e w' hh => ⟨hh.1, by obtain ⟨n, hn⟩ := hh.2; rw [hn]; exact below_drewN hB n⟩
set_option maxRecDepth 100000 in
theorem sm2 {B : Nat} (A : Option Addr) (c : Nat) (w : World) (h : Mat w B A [[1, 0, 1], [0, 1, 2]]) (hB0 : B ≤ w.heap.size) : Calls Tryd.prog 26 #[.slice A 2 c, .slice (some ⟨w.heap.size + 1 + 1, 0, none⟩) 2 2] (((w.alloc (.cells #[.int .u8 1, .int .u8 0, .int .u8 1] 5)).alloc (.cells #[.int .u8 0, .int .u8 1, .int .u8 2] 5)).alloc (.cells #[.slice (some ⟨w.heap.size, 0, none⟩) 3 3, .slice (some ⟨w.heap.size + 1, 0, none⟩) 3 3] 43)) fun e w' => e = .returned (.bool true) ∧ Below w.heap.size w w' := by
  obtain ⟨W, hW⟩ : ∃ W, W = (((w.alloc (.cells #[.int .u8 1, .int .u8 0, .int .u8 1] 5)).alloc (.cells #[.int .u8 0, .int .u8 1, .int .u8 2] 5)).alloc (.cells #[.slice (some ⟨w.heap.size, 0, none⟩) 3 3, .slice (some ⟨w.heap.size + 1, 0, none⟩) 3 3] 43)) := ⟨_, rfl⟩
  rw [← hW]
  have hB : Below w.heap.size w W := by rw [hW]; exact (((Below.refl _ _).alloc (Nat.le_refl _) _).alloc (by simp <;> omega) _).alloc (by simp <;> omega) _
  have hs : W.heap.size = w.heap.size + 3 := by rw [hW]; simp
  have b0 : Blk W (w.heap.size) (([1, 0, 1] : List UInt8).map bv) 5 := by rw [hW]; refine Blk.alloc ?_ _; refine Blk.alloc ?_ _; exact (Blk.new _ [_, _, _] _).at (by simp)
  have b1 : Blk W (w.heap.size + 1) (([0, 1, 2] : List UInt8).map bv) 5 := by rw [hW]; refine Blk.alloc ?_ _; exact (Blk.new _ [_, _, _] _).at (by simp)
  have b2 : Blk W (w.heap.size + 1 + 1) (rvals [w.heap.size, w.heap.size + 1] [[1, 0, 1], [0, 1, 2]]) 43 := by rw [hW]; exact (Blk.new _ [_, _] _).at (by simp)
  have m2 := lit_mat b2 ⟨b0, Nat.le_trans (by decide) sixteen, b1, Nat.le_trans (by decide) sixteen, trivial⟩
  have h := same_any [[1, 0, 1], [0, 1, 2]] [[1, 0, 1], [0, 1, 2]] A _ c 2 W (h.below (hB.mono hB0)) m2 (by decide) (by decide)
  have hs : sameB ([[1, 0, 1], [0, 1, 2]] : List (List UInt8)) [[1, 0, 1], [0, 1, 2]] = true := by decide
  rw [hs] at h
  exact h.mono fun e w' hh => ⟨hh.1, by obtain ⟨n, hn⟩ := hh.2; rw [hn]; exact below_drewN hB n⟩
set_option maxRecDepth 100000 in
theorem sm3 {B : Nat} (A : Option Addr) (c : Nat) (w : World) (h : Rds w B A (([0, 1] : List Nat).map pv)) (hB0 : B ≤ w.heap.size) : Calls Tryd.prog 27 #[.slice A 2 c, .slice (some ⟨w.heap.size, 0, none⟩) 2 2] (w.alloc (.cells #[.int .i64 0, .int .i64 1] 3)) fun e w' => e = .returned (.bool true) ∧ Below w.heap.size w w' := by
  obtain ⟨W, hW⟩ : ∃ W, W = (w.alloc (.cells #[.int .i64 0, .int .i64 1] 3)) := ⟨_, rfl⟩
  rw [← hW]
  have hB : Below w.heap.size w W := by rw [hW]; exact (Below.refl _ _).alloc (Nat.le_refl _) _
  have hs : W.heap.size = w.heap.size + 1 := by rw [hW]; simp
  have b0 : Blk W (w.heap.size) (([0, 1] : List Nat).map pv) 3 := by rw [hW]; exact (Blk.new _ [_, _] _).at (by simp)
  have hr : Rds W W.heap.size (some ⟨w.heap.size, 0, none⟩) (([0, 1] : List Nat).map pv) := b0.rds 0 2
  have h := sameList_any [0, 1] [0, 1] A _ c 2 W (h.below (hB.mono hB0)) hr (by decide)
  have hs : sameB ([0, 1] : List Nat) [0, 1] = true := by decide
  rw [hs] at h
  exact h.mono fun e w' hh => ⟨hh.1, by obtain ⟨n, hn⟩ := hh.2; rw [hn]; exact below_drewN hB n⟩
set_option maxRecDepth 100000 in
theorem sm4 {B : Nat} (A : Option Addr) (c : Nat) (w : World) (h : Rds w B A (([5, 6, 0] : List UInt8).map bv)) (hB0 : B ≤ w.heap.size) : Calls Tryd.prog 34 #[.slice A 3 c, .slice (some ⟨w.heap.size, 0, none⟩) 3 3] (w.alloc (.cells #[.int .u8 5, .int .u8 6, .int .u8 0] 5)) fun e w' => e = .returned (.bool true) ∧ Below w.heap.size w w' := by
  obtain ⟨W, hW⟩ : ∃ W, W = (w.alloc (.cells #[.int .u8 5, .int .u8 6, .int .u8 0] 5)) := ⟨_, rfl⟩
  rw [← hW]
  have hB : Below w.heap.size w W := by rw [hW]; exact (Below.refl _ _).alloc (Nat.le_refl _) _
  have hs : W.heap.size = w.heap.size + 1 := by rw [hW]; simp
  have b0 : Blk W (w.heap.size) (([5, 6, 0] : List UInt8).map bv) 5 := by rw [hW]; exact (Blk.new _ [_, _, _] _).at (by simp)
  have h := sameRow_any [5, 6, 0] [5, 6, 0] A _ c 3 W (h.below (hB.mono hB0)) (blk_bytes b0) (by decide)
  have hs : sameB ([5, 6, 0] : List UInt8) [5, 6, 0] = true := by decide
  rw [hs] at h
  exact h.mono fun e w' hh => ⟨hh.1, by obtain ⟨n, hn⟩ := hh.2; rw [hn]; exact below_drewN hB n⟩
set_option maxRecDepth 100000 in
theorem sm5 {B : Nat} (A : Option Addr) (c : Nat) (w : World) (h : Mat w B A [[1, 2, 1]]) (hB0 : B ≤ w.heap.size) : Calls Tryd.prog 26 #[.slice A 1 c, .slice (some ⟨w.heap.size + 1, 0, none⟩) 1 1] ((w.alloc (.cells #[.int .u8 1, .int .u8 2, .int .u8 1] 5)).alloc (.cells #[.slice (some ⟨w.heap.size, 0, none⟩) 3 3] 43)) fun e w' => e = .returned (.bool true) ∧ Below w.heap.size w w' := by
  obtain ⟨W, hW⟩ : ∃ W, W = ((w.alloc (.cells #[.int .u8 1, .int .u8 2, .int .u8 1] 5)).alloc (.cells #[.slice (some ⟨w.heap.size, 0, none⟩) 3 3] 43)) := ⟨_, rfl⟩
  rw [← hW]
  have hB : Below w.heap.size w W := by rw [hW]; exact ((Below.refl _ _).alloc (Nat.le_refl _) _).alloc (by simp <;> omega) _
  have hs : W.heap.size = w.heap.size + 2 := by rw [hW]; simp
  have b0 : Blk W (w.heap.size) (([1, 2, 1] : List UInt8).map bv) 5 := by rw [hW]; refine Blk.alloc ?_ _; exact (Blk.new _ [_, _, _] _).at (by simp)
  have b1 : Blk W (w.heap.size + 1) (rvals [w.heap.size] [[1, 2, 1]]) 43 := by rw [hW]; exact (Blk.new _ [_] _).at (by simp)
  have m1 := lit_mat b1 ⟨b0, Nat.le_trans (by decide) sixteen, trivial⟩
  have h := same_any [[1, 2, 1]] [[1, 2, 1]] A _ c 1 W (h.below (hB.mono hB0)) m1 (by decide) (by decide)
  have hs : sameB ([[1, 2, 1]] : List (List UInt8)) [[1, 2, 1]] = true := by decide
  rw [hs] at h
  exact h.mono fun e w' hh => ⟨hh.1, by obtain ⟨n, hn⟩ := hh.2; rw [hn]; exact below_drewN hB n⟩
set_option maxRecDepth 100000 in
theorem sm6 {B : Nat} (A : Option Addr) (c : Nat) (w : World) (h : Mat w B A [[1, 1], [0, 1]]) (hB0 : B ≤ w.heap.size) : Calls Tryd.prog 26 #[.slice A 2 c, .slice (some ⟨w.heap.size + 1 + 1, 0, none⟩) 2 2] (((w.alloc (.cells #[.int .u8 1, .int .u8 1] 5)).alloc (.cells #[.int .u8 0, .int .u8 1] 5)).alloc (.cells #[.slice (some ⟨w.heap.size, 0, none⟩) 2 2, .slice (some ⟨w.heap.size + 1, 0, none⟩) 2 2] 43)) fun e w' => e = .returned (.bool true) ∧ Below w.heap.size w w' := by
  obtain ⟨W, hW⟩ : ∃ W, W = (((w.alloc (.cells #[.int .u8 1, .int .u8 1] 5)).alloc (.cells #[.int .u8 0, .int .u8 1] 5)).alloc (.cells #[.slice (some ⟨w.heap.size, 0, none⟩) 2 2, .slice (some ⟨w.heap.size + 1, 0, none⟩) 2 2] 43)) := ⟨_, rfl⟩
  rw [← hW]
  have hB : Below w.heap.size w W := by rw [hW]; exact (((Below.refl _ _).alloc (Nat.le_refl _) _).alloc (by simp <;> omega) _).alloc (by simp <;> omega) _
  have hs : W.heap.size = w.heap.size + 3 := by rw [hW]; simp
  have b0 : Blk W (w.heap.size) (([1, 1] : List UInt8).map bv) 5 := by rw [hW]; refine Blk.alloc ?_ _; refine Blk.alloc ?_ _; exact (Blk.new _ [_, _] _).at (by simp)
  have b1 : Blk W (w.heap.size + 1) (([0, 1] : List UInt8).map bv) 5 := by rw [hW]; refine Blk.alloc ?_ _; exact (Blk.new _ [_, _] _).at (by simp)
  have b2 : Blk W (w.heap.size + 1 + 1) (rvals [w.heap.size, w.heap.size + 1] [[1, 1], [0, 1]]) 43 := by rw [hW]; exact (Blk.new _ [_, _] _).at (by simp)
  have m2 := lit_mat b2 ⟨b0, Nat.le_trans (by decide) sixteen, b1, Nat.le_trans (by decide) sixteen, trivial⟩
  have h := same_any [[1, 1], [0, 1]] [[1, 1], [0, 1]] A _ c 2 W (h.below (hB.mono hB0)) m2 (by decide) (by decide)
  have hs : sameB ([[1, 1], [0, 1]] : List (List UInt8)) [[1, 1], [0, 1]] = true := by decide
  rw [hs] at h
  exact h.mono fun e w' hh => ⟨hh.1, by obtain ⟨n, hn⟩ := hh.2; rw [hn]; exact below_drewN hB n⟩
set_option maxRecDepth 100000 in
theorem sm7 {B : Nat} (A : Option Addr) (c : Nat) (w : World) (h : Rds w B A (([1, 0, 1] : List UInt8).map bv)) (hB0 : B ≤ w.heap.size) : Calls Tryd.prog 34 #[.slice A 3 c, .slice (some ⟨w.heap.size, 0, none⟩) 3 3] (w.alloc (.cells #[.int .u8 1, .int .u8 0, .int .u8 1] 5)) fun e w' => e = .returned (.bool true) ∧ Below w.heap.size w w' := by
  obtain ⟨W, hW⟩ : ∃ W, W = (w.alloc (.cells #[.int .u8 1, .int .u8 0, .int .u8 1] 5)) := ⟨_, rfl⟩
  rw [← hW]
  have hB : Below w.heap.size w W := by rw [hW]; exact (Below.refl _ _).alloc (Nat.le_refl _) _
  have hs : W.heap.size = w.heap.size + 1 := by rw [hW]; simp
  have b0 : Blk W (w.heap.size) (([1, 0, 1] : List UInt8).map bv) 5 := by rw [hW]; exact (Blk.new _ [_, _, _] _).at (by simp)
  have h := sameRow_any [1, 0, 1] [1, 0, 1] A _ c 3 W (h.below (hB.mono hB0)) (blk_bytes b0) (by decide)
  have hs : sameB ([1, 0, 1] : List UInt8) [1, 0, 1] = true := by decide
  rw [hs] at h
  exact h.mono fun e w' hh => ⟨hh.1, by obtain ⟨n, hn⟩ := hh.2; rw [hn]; exact below_drewN hB n⟩
set_option maxRecDepth 100000 in
theorem sm8 {B : Nat} (A : Option Addr) (c : Nat) (w : World) (h : Mat w B A [[1], [2], [3]]) (hB0 : B ≤ w.heap.size) : Calls Tryd.prog 26 #[.slice A 3 c, .slice (some ⟨w.heap.size + 1 + 1 + 1, 0, none⟩) 3 3] ((((w.alloc (.cells #[.int .u8 1] 5)).alloc (.cells #[.int .u8 2] 5)).alloc (.cells #[.int .u8 3] 5)).alloc (.cells #[.slice (some ⟨w.heap.size, 0, none⟩) 1 1, .slice (some ⟨w.heap.size + 1, 0, none⟩) 1 1, .slice (some ⟨w.heap.size + 1 + 1, 0, none⟩) 1 1] 43)) fun e w' => e = .returned (.bool true) ∧ Below w.heap.size w w' := by
  obtain ⟨W, hW⟩ : ∃ W, W = ((((w.alloc (.cells #[.int .u8 1] 5)).alloc (.cells #[.int .u8 2] 5)).alloc (.cells #[.int .u8 3] 5)).alloc (.cells #[.slice (some ⟨w.heap.size, 0, none⟩) 1 1, .slice (some ⟨w.heap.size + 1, 0, none⟩) 1 1, .slice (some ⟨w.heap.size + 1 + 1, 0, none⟩) 1 1] 43)) := ⟨_, rfl⟩
  rw [← hW]
  have hB : Below w.heap.size w W := by rw [hW]; exact ((((Below.refl _ _).alloc (Nat.le_refl _) _).alloc (by simp <;> omega) _).alloc (by simp <;> omega) _).alloc (by simp <;> omega) _
  have hs : W.heap.size = w.heap.size + 4 := by rw [hW]; simp
  have b0 : Blk W (w.heap.size) (([1] : List UInt8).map bv) 5 := by rw [hW]; refine Blk.alloc ?_ _; refine Blk.alloc ?_ _; refine Blk.alloc ?_ _; exact (Blk.new _ [_] _).at (by simp)
  have b1 : Blk W (w.heap.size + 1) (([2] : List UInt8).map bv) 5 := by rw [hW]; refine Blk.alloc ?_ _; refine Blk.alloc ?_ _; exact (Blk.new _ [_] _).at (by simp)
  have b2 : Blk W (w.heap.size + 1 + 1) (([3] : List UInt8).map bv) 5 := by rw [hW]; refine Blk.alloc ?_ _; exact (Blk.new _ [_] _).at (by simp)
  have b3 : Blk W (w.heap.size + 1 + 1 + 1) (rvals [w.heap.size, w.heap.size + 1, w.heap.size + 1 + 1] [[1], [2], [3]]) 43 := by rw [hW]; exact (Blk.new _ [_, _, _] _).at (by simp)
  have m3 := lit_mat b3 ⟨b0, Nat.le_trans (by decide) sixteen, b1, Nat.le_trans (by decide) sixteen, b2, Nat.le_trans (by decide) sixteen, trivial⟩
  have h := same_any [[1], [2], [3]] [[1], [2], [3]] A _ c 3 W (h.below (hB.mono hB0)) m3 (by decide) (by decide)
  have hs : sameB ([[1], [2], [3]] : List (List UInt8)) [[1], [2], [3]] = true := by decide
  rw [hs] at h
  exact h.mono fun e w' hh => ⟨hh.1, by obtain ⟨n, hn⟩ := hh.2; rw [hn]; exact below_drewN hB n⟩
end Go.Proofs.YtfbdhcpclccikaaDoor
