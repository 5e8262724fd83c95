/-
  Stage 5, contracts as the walks of the laws use them: lengths and results are variables.
-/
import Derived.Test.YtfbdhcpclccikaaDoorMsn
import Derived.Test.YtfbdhcpclccikaaDoorRk
import Derived.Test.YtfbdhcpclccikaaDoorOpm
import Derived.Test.YtfbdhcpclccikaaDoorMv2
namespace Go.Proofs.YtfbdhcpclccikaaDoor
set_option linter.unusedVariables false
set_option linter.unusedSimpArgs false
open Go.RowKit

theorem few_len {M : List (List UInt8)} {x : Nat} (h : fewB M x = true) : M.length ≤ x := by
  unfold fewB at h
  rw [Bool.and_eq_true] at h
  exact of_decide_eq_true h.1
theorem sameB_self {α : Type} [DecidableEq α] (a : List α) : sameB a a = true := by unfold sameB; simp
theorem Mat.keep {w w' : World} {A : Option Addr} {M : List (List UInt8)} (h : Mat w w.heap.size A M) (hb : Below w.heap.size w w') : Mat w' w'.heap.size A M := (h.below hb).more hb.size
theorem RowAt.keep {w w' : World} {v : Value} {m : List UInt8} (h : RowAt w w.heap.size v m) (hb : Below w.heap.size w w') : RowAt w' w'.heap.size v m := (h.below hb).more hb.size
theorem Rds.hold {w w' : World} {A : Option Addr} {l : List Value} (h : Rds w w.heap.size A l) (hb : Below w.heap.size w w') : Rds w' w'.heap.size A l := (h.below hb).more hb.size
theorem below_drew (w : World) (n : Nat) : Below w.heap.size w (w.drewN n) := below_drewN (Below.refl _ _) n
/-- A matrix and an error. -/
def MRet (w : World) (T : List (List UInt8)) (n : Nat) (E : Int) (e : Ending) (w' : World) : Prop := ∃ A c, e = .returned (.tuple #[.slice A n c, .int .i64 E]) ∧ Mat w' w'.heap.size A T ∧ Below w.heap.size w w'
theorem MatRet.m {w w' : World} {T : List (List UInt8)} {E : Int} {e : Ending} {n : Nat} (h : MatRet w T E e w') (hn : T.length = n) : MRet w T n E e w' := by
  subst hn
  obtain ⟨⟨A, c, h1, _, _, _, h2⟩, h3⟩ := h
  exact ⟨A, c, h1, h2, h3⟩
theorem few_v (M : List (List UInt8)) (n : Nat) (A : Option Addr) (c x : Nat) (w : World) (h : Mat w w.heap.size A M) (hn : M.length = n) (hl : n ≤ 140737488355328) {r : Bool} (hr : fewB M x = r) :
    Calls Tryd.prog 17 #[.slice A n c, .int .i64 x] w fun e w' => e = .returned (.bool r) ∧ w = w' := by
  subst hn hr
  exact few5_any M A c x w h hl
theorem columns_v (M : List (List UInt8)) (n q : Nat) (A : Option Addr) (c : Nat) (w : World) (h : Mat w w.heap.size A M) (hn : M.length = n) (hq : cols M = q) :
    Calls Tryd.prog 37 #[.slice A n c] w fun e w' => e = .returned (.int .i64 q) ∧ w = w' := by
  subst hn hq
  exact (refColumns_any M A c w h).mono fun e w' h => ⟨h.1, h.2.symm⟩
theorem check_v (M : List (List UInt8)) (n : Nat) (A : Option Addr) (c : Nat) (w : World) (h : Mat w w.heap.size A M) (hn : M.length = n) (hl : n ≤ 140737488355328) {E : Int} (hE : chk M = E) :
    Calls Tryd.prog 19 #[.slice A n c] w fun e w' => e = .returned (.int .i64 E) ∧ Below w.heap.size w w' := by
  subst hn hE
  refine (refCheck_any M A c w h hl).mono fun e w' h => ⟨h.1, ?_⟩
  obtain ⟨_, k, rfl⟩ := h
  exact below_drew w k
theorem product_v (M1 M2 : List (List UInt8)) (n1 n2 n : Nat) (A1 A2 : Option Addr) (c1 c2 : Nat) (w : World) (h1 : Mat w w.heap.size A1 M1) (h2 : Mat w w.heap.size A2 M2) (e1 : M1.length = n1) (e2 : M2.length = n2) (l1 : n1 ≤ 100000) (l2 : n2 ≤ 100000) (ht : PTab 0 w) {T : List (List UInt8)} {E : Int} (hE : prdE M1 M2 = E) (hT : (if E = 0 then prd M1 M2 else []) = T) (hn : T.length = n) :
    Calls Tryd.prog 35 #[.slice A1 n1 c1, .slice A2 n2 c2] w (MRet w T n E) := by
  subst e1 e2
  have := product_any M1 M2 A1 A2 c1 c2 w h1 h2 (by omega) (by omega) ht
  rw [hE, hT] at this
  exact this.mono fun e w' h => h.m hn
theorem transpose_v (M : List (List UInt8)) (n1 n : Nat) (A : Option Addr) (c : Nat) (w : World) (h : Mat w w.heap.size A M) (e1 : M.length = n1) (l1 : n1 ≤ 100000) {T : List (List UInt8)} {E : Int} (hE : chk M = E) (hT : (if E = 0 then tr M else []) = T) (hn : T.length = n) :
    Calls Tryd.prog 20 #[.slice A n1 c] w (MRet w T n E) := by
  subst e1
  have := transpose_any M A c w h (by omega)
  rw [hE, hT] at this
  exact this.mono fun e w' h => h.m hn
theorem inverse_v (M : List (List UInt8)) (n1 n : Nat) (A : Option Addr) (c : Nat) (w : World) (h : Mat w w.heap.size A M) (e1 : M.length = n1) (l1 : n1 ≤ 100000) (ht : PTab 0 w) {T : List (List UInt8)} {E : Int} (hE : invE M = E) (hT : invM M = T) (hn : T.length = n) :
    Calls Tryd.prog 30 #[.slice A n1 c] w (MRet w T n E) := by
  subst e1
  have := inverse_any M A c w h (by omega) ht ht.1
  rw [hE, hT] at this
  exact this.mono fun e w' h => h.m hn
theorem rank_v (M : List (List UInt8)) (n1 r : Nat) (A : Option Addr) (c : Nat) (w : World) (h : Mat w w.heap.size A M) (e1 : M.length = n1) (l1 : n1 ≤ 100000) (ht : PTab 0 w) (hE : chk M = 0) (hr : (redP M).length = r) :
    Calls Tryd.prog 22 #[.slice A n1 c] w fun e w' => e = .returned (.tuple #[.int .i64 r, .int .i64 0]) ∧ Below w.heap.size w w' := by
  subst e1
  have := rank_any M A c w h (by omega) ht ht.1
  rw [hE, if_pos rfl, hr] at this
  exact this
theorem reduce_v (M : List (List UInt8)) (n1 r : Nat) (A : Option Addr) (c : Nat) (w : World) (h : Mat w w.heap.size A M) (e1 : M.length = n1) (l1 : n1 ≤ 100000) (ht : PTab 0 w) (hE : chk M = 0) {R : List (List UInt8)} {p : List Nat} (hR : redR M = R) (hp : redP M = p) (hr : R.length = r) (hpr : p.length = r) :
    Calls Tryd.prog 21 #[.slice A n1 c] w fun e w' => ∃ A' c' A2 c2, e = .returned (.tuple #[.slice A' r c', .slice A2 r c2, .int .i64 0]) ∧ Mat w' w'.heap.size A' R ∧ Rds w' w'.heap.size A2 (p.map pv) ∧ r ≤ c' ∧ c' ≤ maxLen ∧ Below w.heap.size w w' := by
  subst e1
  have := reduceF_any M A c w h (by omega) ht ht.1
  rw [hE, if_pos rfl, if_pos rfl, hR, hp] at this
  refine this.mono fun e w' h => ?_
  obtain ⟨⟨A', c', vp, g1, g2, g3, _, g4, A2, c2, rfl, _, _, _, g5⟩, g6⟩ := h
  rw [hr] at g1 g2
  rw [hpr] at g1
  exact ⟨A', c', A2, c2, g1, g4, g5, g2, g3, g6⟩
theorem express_v (R : List (List UInt8)) (row : List UInt8) (n1 n2 n : Nat) (A Ar : Option Addr) (c cr : Nat) (w : World) (h : Mat w w.heap.size A R) (hrow : Rds w w.heap.size Ar (row.map bv)) (e1 : R.length = n1) (e2 : row.length = n2) (l1 : n1 ≤ 100000) (ht : PTab 0 w) {E : Int} {L : List UInt8} (hE : expE R row = E) (hL : expL R row = L) (hn : L.length = n) :
    Calls Tryd.prog 32 #[.slice A n1 c, .slice Ar n2 cr] w fun e w' => ∃ A' c', e = .returned (.tuple #[.slice A' n c', .int .i64 E]) ∧ Rds w' w'.heap.size A' (L.map bv) ∧ Below w.heap.size w w' := by
  subst e1 e2
  have := express_any R row A Ar c cr w h hrow (by omega) ht ht.1
  rw [hE, hL] at this
  refine this.mono fun e w' h => ?_
  obtain ⟨⟨xv, g1, a, c', rfl, _, _, _, g2⟩, g3⟩ := h
  rw [hn] at g1
  exact ⟨a, c', g1, g2, g3⟩
theorem solve_v (M : List (List UInt8)) (b : List UInt8) (n1 n2 x k : Nat) (A Ab : Option Addr) (c cb : Nat) (w : World) (h : Mat w w.heap.size A M) (hb : Rds w w.heap.size Ab (b.map bv)) (e1 : M.length = n1) (e2 : b.length = n2) (l1 : n1 ≤ 100000) (ht : PTab 0 w) {E : Int} {X : List UInt8} {K : List (List UInt8)} (hE : solveE M b = E) (hX : solveX M b = X) (hK : solveK M b = K) (hx : X.length = x) (hk : K.length = k) :
    Calls Tryd.prog 28 #[.slice A n1 c, .slice Ab n2 cb] w fun e w' => ∃ A' c' A2 c2, e = .returned (.tuple #[.slice A' x c', .slice A2 k c2, .int .i64 E]) ∧ Rds w' w'.heap.size A' (X.map bv) ∧ Mat w' w'.heap.size A2 K ∧ Below w.heap.size w w' := by
  subst e1 e2
  have := solve_any M b A Ab c cb w h hb (by omega) ht ht.1
  rw [hE, hX, hK] at this
  refine this.mono fun e w' h => ?_
  obtain ⟨⟨xv, A2, c2, g1, ⟨a, c', rfl, _, _, _, g2⟩, _, _, _, g4⟩, g5⟩ := h
  rw [hx, hk] at g1
  exact ⟨a, c', A2, c2, g1, g2, g4, g5⟩
theorem same_v (a b : List (List UInt8)) (n n' : Nat) (A A' : Option Addr) (c c' : Nat) (w : World) (h : Mat w w.heap.size A a) (h' : Mat w w.heap.size A' b) (e1 : a.length = n) (e2 : b.length = n') (hl : n ≤ 100000) (hc : ∀ m ∈ a, m.length ≤ 140737488355328) {r : Bool} (hr : sameB a b = r) :
    Calls Tryd.prog 26 #[.slice A n c, .slice A' n' c'] w fun e w' => e = .returned (.bool r) ∧ Below w.heap.size w w' := by
  subst e1 e2 hr
  refine (same_any a b A A' c c' w h h' (by omega) hc).mono fun e w' h => ⟨h.1, ?_⟩
  obtain ⟨_, k, rfl⟩ := h
  exact below_drew w k
theorem sameRow_v (a b : List UInt8) (n n' : Nat) (A A' : Option Addr) (c c' : Nat) (w : World) (h : Rds w w.heap.size A (a.map bv)) (h' : Rds w w.heap.size A' (b.map bv)) (e1 : a.length = n) (e2 : b.length = n') (hl : n ≤ 100000) {r : Bool} (hr : sameB a b = r) :
    Calls Tryd.prog 34 #[.slice A n c, .slice A' n' c'] w fun e w' => e = .returned (.bool r) ∧ Below w.heap.size w w' := by
  subst e1 e2 hr
  refine (sameRow_any a b A A' c c' w h h' (by omega)).mono fun e w' h => ⟨h.1, ?_⟩
  obtain ⟨_, k, rfl⟩ := h
  exact below_drew w k
theorem sameList_v (a b : List Nat) (n n' : Nat) (A A' : Option Addr) (c c' : Nat) (w : World) (h : Rds w w.heap.size A (a.map pv)) (h' : Rds w w.heap.size A' (b.map pv)) (e1 : a.length = n) (e2 : b.length = n') (hl : n ≤ 100000) {r : Bool} (hr : sameB a b = r) :
    Calls Tryd.prog 27 #[.slice A n c, .slice A' n' c'] w fun e w' => e = .returned (.bool r) ∧ Below w.heap.size w w' := by
  subst e1 e2 hr
  refine (sameList_any a b A A' c c' w h h' (by omega)).mono fun e w' h => ⟨h.1, ?_⟩
  obtain ⟨_, k, rfl⟩ := h
  exact below_drew w k
theorem identity_v (n : Nat) (w : World) (hn : n ≤ 10000) (hx : 0 < w.heap.size) :
    Calls Tryd.prog 40 #[.int .i64 n] w fun e w' => ∃ A c, e = .returned (.slice A n c) ∧ Mat w' w'.heap.size A (idM n) ∧ Below w.heap.size w w' := by
  refine (identity_any (x := 0) n w hn hx).mono fun e w' h => ?_
  obtain ⟨v, rfl, h1, h2⟩ := h
  obtain ⟨A, c, rfl, _, _, _, h3⟩ := h1.mat
  rw [idM_len]
  exact ⟨A, c, rfl, h3, h2⟩
theorem combine_v (coef : List UInt8) (M : List (List UInt8)) (n q cl : Nat) (Ac A : Option Addr) (cc c : Nat) (w : World) (hcf : Rds w w.heap.size Ac (coef.map bv)) (h : Mat w w.heap.size A M) (hcl : coef.length = cl) (hq : M.length = q) (hle : q ≤ cl) (hr : Rect M n) (hn : n ≤ 1000000) (hM : q ≤ 1000000) {T : List UInt8} (hT : comR coef M n M.length = T) :
    Calls Tryd.prog 41 #[.slice Ac cl cc, .slice A q c, .int .i64 n] w fun e w' => ∃ A' c', e = .returned (.slice A' n c') ∧ Rds w' w'.heap.size A' (T.map bv) ∧ Below w.heap.size w w' := by
  refine (refCombine_any coef M n q Ac A cc c cl w hcf h (Nat.le_refl _) (Nat.le_refl _) hcl.symm hq.symm (by omega) hr hn (by omega)).mono fun e w' hh => ?_
  obtain ⟨v, rfl, ⟨a, c', rfl, _, _, _, h3, _⟩, h2⟩ := hh
  rw [comR_len]
  rw [hT] at h3
  exact ⟨a, c', rfl, h3, h2⟩
end Go.Proofs.YtfbdhcpclccikaaDoor
