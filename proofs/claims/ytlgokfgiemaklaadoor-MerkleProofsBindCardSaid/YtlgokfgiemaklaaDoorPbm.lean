/-
  The mathematics of ProofsBind: the pairs that are hashed on the way to the root.
-/
import Derived.Test.YtlgokfgiemaklaaDoorMkb
namespace Go.Proofs.YtlgokfgiemaklaaDoor
set_option linter.unusedVariables false
set_option linter.unusedSimpArgs false
open Go.RowKit

/-- The turns on the way from the root, the last one first. -/
def trn (i n : Nat) : List Bool :=
  if h : n ≤ 1 then []
  else if i < Mk.ksz n then trn i (Mk.ksz n) ++ [false]
  else trn (i - Mk.ksz n) (n - Mk.ksz n) ++ [true]
termination_by n
decreasing_by
  all_goals
    have h1 := Mk.ksz_lt (show 2 ≤ n by omega)
    have h2 := Mk.ksz_pos n
    omega
theorem trn_one (i : Nat) {n : Nat} (h : n ≤ 1) : trn i n = [] := by rw [trn, dif_pos h]
theorem trn_left {i n : Nat} (h : 2 ≤ n) (hi : i < Mk.ksz n) : trn i n = trn i (Mk.ksz n) ++ [false] := by rw [trn, dif_neg (by omega), if_pos hi]
theorem trn_right {i n : Nat} (h : 2 ≤ n) (hi : ¬ i < Mk.ksz n) : trn i n = trn (i - Mk.ksz n) (n - Mk.ksz n) ++ [true] := by rw [trn, dif_neg (by omega), if_neg hi]
/-- The digests on the way up. -/
def stD (T : List Bool) (p : List (List UInt8)) (a : List UInt8) : Nat → List UInt8
  | 0 => a
  | t + 1 => if T.getD t false = true then nd (nx p t) (stD T p a t) else nd (stD T p a t) (nx p t)
def stA (T : List Bool) (p : List (List UInt8)) (a : List UInt8) (t : Nat) : List UInt8 := if T.getD t false = true then nx p t else stD T p a t
def stB (T : List Bool) (p : List (List UInt8)) (a : List UInt8) (t : Nat) : List UInt8 := if T.getD t false = true then stD T p a t else nx p t
theorem stD_succ (T : List Bool) (p : List (List UInt8)) (a : List UInt8) (t : Nat) : stD T p a (t + 1) = nd (stA T p a t) (stB T p a t) := by
  unfold stA stB
  rw [stD]
  split <;> rfl
theorem getD_left {T : List Bool} {b : Bool} {t : Nat} (h : t < T.length) : (T ++ [b]).getD t false = T.getD t false := by
  rw [List.getD_eq_getElem?_getD, List.getD_eq_getElem?_getD, List.getElem?_append_left h]
theorem getD_last (T : List Bool) (b : Bool) : (T ++ [b]).getD T.length false = b := by
  rw [List.getD_eq_getElem?_getD, List.getElem?_append_right (Nat.le_refl _), Nat.sub_self]; rfl
theorem stD_app (T : List Bool) (b : Bool) (p : List (List UInt8)) (a : List UInt8) : ∀ t, t ≤ T.length → stD (T ++ [b]) p a t = stD T p a t
  | 0, _ => rfl
  | t + 1, h => by
    rw [stD, stD, stD_app T b p a t (by omega), getD_left (by omega)]
theorem stD_len {T : List Bool} {p : List (List UInt8)} {a : List UInt8} (hp : D16 p) (ha : a.length = 16) : ∀ t, (stD T p a t).length = 16
  | 0 => ha
  | t + 1 => by
    have h1 := stD_len (T := T) hp ha t
    have h2 := nx_len hp t
    rw [stD]
    split
    · exact nd_len _ _
    · exact nd_len _ _
theorem stA_len {T : List Bool} {p : List (List UInt8)} {a : List UInt8} (hp : D16 p) (ha : a.length = 16) (t : Nat) : (stA T p a t).length = 16 := by
  unfold stA
  split
  · exact nx_len hp t
  · exact stD_len hp ha t
theorem stB_len {T : List Bool} {p : List (List UInt8)} {a : List UInt8} (hp : D16 p) (ha : a.length = 16) (t : Nat) : (stB T p a t).length = 16 := by
  unfold stB
  split
  · exact stD_len hp ha t
  · exact nx_len hp t
theorem clm_trn (p : List (List UInt8)) (a : List UInt8) (N : Nat) : ∀ (i n : Nat), n ≤ N → clm p a i n 0 = (stD (trn i n) p a (trn i n).length, (trn i n).length) := by
  induction N with
  | zero =>
    intro i n h
    rw [clm_one _ _ _ _ (by omega), trn_one _ (by omega)]; rfl
  | succ N ih =>
    intro i n h
    by_cases h2 : 2 ≤ n
    · have ha := Mk.ksz_lt h2
      have hb := Mk.ksz_pos n
      by_cases hi : i < Mk.ksz n
      · rw [clm_left _ _ _ h2 hi, trn_left h2 hi, ih i (Mk.ksz n) (by omega), List.length_append]
        show _ = (stD _ p a (_ + 1), _ + 1)
        rw [stD, getD_last, stD_app _ _ _ _ _ (Nat.le_refl _)]
        rfl
      · rw [clm_right _ _ _ h2 hi, trn_right h2 hi, ih _ (n - Mk.ksz n) (by omega), List.length_append]
        show _ = (stD _ p a (_ + 1), _ + 1)
        rw [stD, getD_last, stD_app _ _ _ _ _ (Nat.le_refl _)]
        rfl
    · rw [clm_one _ _ _ _ (by omega), trn_one _ (by omega)]; rfl
/-- What an accepted path says. -/
theorem chI_true {leaf root : List UInt8} {i n : Int} {path : List (List UInt8)} (h : chI leaf i n path root = true) :
    ∃ k m : Nat, i = k ∧ n = m ∧ k < m ∧ m ≤ 1099511627776 ∧ stD (trn k m) path leaf (trn k m).length = root ∧ (trn k m).length = path.length := by
  unfold chI at h
  split at h
  · cases h
  · rename_i hc
    have e1 : i = (i.toNat : Int) := by omega
    have e2 : n = (n.toNat : Int) := by omega
    refine ⟨i.toNat, n.toNat, e1, e2, by omega, by omega, ?_⟩
    rw [clm_trn path leaf n.toNat i.toNat n.toNat (Nat.le_refl _)] at h
    simp only [Bool.and_eq_true, beq_iff_eq] at h
    exact ⟨h.1, by omega⟩
end Go.Proofs.YtlgokfgiemaklaaDoor
