/-
  The mathematics of peaks: the tops are the roots of the parts, whose sizes are the powers of 2 of which the number consists.
-/
import Derived.Test.YtdikbglemgoocaaDoorSn3
namespace Go.Proofs.YtdikbglemgoocaaDoor
set_option linter.unusedVariables false
set_option linter.unusedSimpArgs false
open Go.RowKit

/-- The greatest power of 2 that is at most n (n > 0). -/
def hb2 (n : Nat) : Nat := 2 ^ Nat.log2 n
theorem hb2_le {n : Nat} (h : 0 < n) : hb2 n ≤ n := Nat.log2_self_le (by omega)
theorem hb2_pos (n : Nat) : 0 < hb2 n := Nat.two_pow_pos _
theorem hb2_lt {n : Nat} : n < 2 * hb2 n := by
  have h1 : n < 2 ^ (Nat.log2 n + 1) := Nat.lt_log2_self
  unfold hb2
  rw [Nat.pow_succ] at h1
  omega
theorem hb2_of {n j : Nat} (h1 : 2 ^ j ≤ n) (h2 : n < 2 * 2 ^ j) : hb2 n = 2 ^ j := by unfold hb2; rw [log2_of h1 (by rw [Nat.pow_succ]; omega)]
/-- The tops of the peaks of a list. -/
def tps (L : List (List UInt8)) : List (List UInt8) :=
  if h : L.length = 0 then [] else rt (L.take (hb2 L.length)) :: tps (L.drop (hb2 L.length))
termination_by L.length
decreasing_by
  have := hb2_pos L.length
  rw [List.length_drop]; omega
theorem tps_nil : tps [] = [] := by rw [tps]; rfl
theorem tps_cons {L : List (List UInt8)} (h : 0 < L.length) : tps L = rt (L.take (hb2 L.length)) :: tps (L.drop (hb2 L.length)) := by rw [tps, dif_neg (by omega)]
theorem pop_add : ∀ (j y : Nat), y < 2 ^ j → pop (2 ^ j + y) = 1 + pop y
  | 0, y, h => by
    obtain rfl : y = 0 := by simpa using h
    rw [pop_zero, pop_pos (by decide)]
    simp [pop_zero]
  | j + 1, y, h => by
    have hp := Nat.two_pow_pos j
    rw [Nat.pow_succ] at h ⊢
    rw [pop_pos (n := 2 ^ j * 2 + y) (by omega), show (2 ^ j * 2 + y) / 2 = 2 ^ j + y / 2 by omega, pop_add j (y / 2) (by omega), show (2 ^ j * 2 + y) % 2 = y % 2 by omega]
    by_cases h0 : y = 0
    · subst h0; simp [pop_zero]
    · rw [pop_pos (n := y) (by omega)]; omega
theorem tro_add : ∀ (f j y : Nat), y + 1 < 2 ^ j → tro f (2 ^ j + y) = tro f y
  | 0, j, y, h => rfl
  | f + 1, 0, y, h => by simp at h
  | f + 1, j + 1, y, h => by
    rw [Nat.pow_succ] at h ⊢
    unfold tro
    rw [show (2 ^ j * 2 + y) % 2 = y % 2 by omega]
    by_cases h1 : y % 2 = 1
    · rw [if_pos h1, if_pos h1, show (2 ^ j * 2 + y) / 2 = 2 ^ j + y / 2 by omega, tro_add f j (y / 2) (by omega)]
    · rw [if_neg h1, if_neg h1]
theorem tps_len (N : Nat) : ∀ (L : List (List UInt8)), L.length ≤ N → (tps L).length = pop L.length := by
  induction N with
  | zero =>
    intro L h
    obtain rfl : L = [] := List.eq_nil_of_length_eq_zero (by omega)
    rw [tps_nil]; exact pop_zero.symm
  | succ N ih =>
    intro L h
    by_cases h0 : L.length = 0
    · obtain rfl : L = [] := List.eq_nil_of_length_eq_zero h0
      rw [tps_nil]; exact pop_zero.symm
    · have a := hb2_pos L.length
      have b := hb2_le (n := L.length) (by omega)
      have c := hb2_lt (n := L.length)
      rw [tps_cons (by omega), List.length_cons, ih _ (by rw [List.length_drop]; omega), List.length_drop]
      have := pop_add (Nat.log2 L.length) (L.length - hb2 L.length) (by show _ < hb2 L.length; omega)
      rw [show 2 ^ Nat.log2 L.length + (L.length - hb2 L.length) = L.length by show hb2 L.length + _ = _; omega] at this
      omega
/-- A leaf more. -/
theorem tps_snoc (N : Nat) : ∀ (M : List (List UInt8)) (x : List UInt8), M.length ≤ N → M.length < 9223372036854775808 → apL M.length (tps M) x = tps (M ++ [x]) := by
  induction N with
  | zero =>
    intro M x h _
    obtain rfl : M = [] := List.eq_nil_of_length_eq_zero (by omega)
    rw [tps_nil, List.nil_append, tps_cons (by simp)]
    show [] ++ [jn [] x] = _
    rw [show hb2 [x].length = 1 from (by decide : hb2 1 = 1)]
    simp [jn, rt_one, tps_nil]
  | succ N ih =>
    intro M x hN h64
    by_cases h0 : M.length = 0
    · obtain rfl : M = [] := List.eq_nil_of_length_eq_zero h0
      rw [tps_nil, List.nil_append, tps_cons (by simp)]
      show [] ++ [jn [] x] = _
      rw [show hb2 [x].length = 1 from (by decide : hb2 1 = 1)]
      simp [jn, rt_one, tps_nil]
    · have a := hb2_pos M.length
      have b := hb2_le (n := M.length) (by omega)
      have c := hb2_lt (n := M.length)
      obtain ⟨h, hh⟩ : ∃ h, h = hb2 M.length := ⟨_, rfl⟩
      obtain ⟨j, hj⟩ : ∃ j, h = 2 ^ j := ⟨_, hh⟩
      rw [← hh] at a b c
      have i2 := ih (M.drop h) x (by rw [List.length_drop]; omega) (by rw [List.length_drop]; omega)
      have e1 := tps_cons (L := M) (by omega)
      rw [← hh] at e1
      have hl2 := tps_len N (M.drop h) (by rw [List.length_drop]; omega)
      have hl := tps_len (N + 1) M hN
      rw [List.length_drop] at hl2 i2
      have t2 : tro 64 (M.length - h) ≤ pop (M.length - h) := by rw [← ones_pop (M.length - h) (by omega)]; exact tro_le 64 _
      have e2 := tps_cons (L := M ++ [x]) (by simp)
      rw [List.length_append] at e2
      by_cases hz : M.length + 1 < 2 * h
      · have ez : hb2 (M.length + [x].length) = h := by
          rw [hj]; exact hb2_of (by simp; omega) (by simp; omega)
        rw [ez, List.take_append_of_le_length (by omega), List.drop_append_of_le_length (by omega), ← i2] at e2
        rw [e2, e1]
        have tz : tro 64 M.length = tro 64 (M.length - h) := by
          have := tro_add 64 j (M.length - h) (by omega)
          rw [← hj, show h + (M.length - h) = M.length by omega] at this
          exact this
        unfold apL
        rw [tz, List.length_cons, hl2, show pop (M.length - h) + 1 - tro 64 (M.length - h) = (pop (M.length - h) - tro 64 (M.length - h)) + 1 by omega]
        simp only [List.take_succ_cons, List.drop_succ_cons, List.cons_append]
      · have ez : hb2 (M.length + [x].length) = 2 ^ (j + 1) := hb2_of (by rw [Nat.pow_succ]; simp; omega) (by rw [Nat.pow_succ]; simp; omega)
        have e2h : 2 ^ (j + 1) = M.length + 1 := by rw [Nat.pow_succ]; omega
        have pz : ∀ z q, z + 1 = 2 ^ q → z < 18446744073709551616 → tro 64 z = pop z := fun z q hz h6 => by
          have h1 := pop_succ 64 z h6
          have h2 : pop (z + 1) = 1 := by
            have := pop_add q 0 (Nat.two_pow_pos q)
            rw [hz]; rw [Nat.add_zero] at this; rw [this, pop_zero]
          omega
        have p1 := pz M.length (j + 1) (by omega) (by omega)
        have p2 := pz (M.length - h) j (by omega) (by omega)
        -- the whole is one part
        have hall : tps (M ++ [x]) = [rt (M ++ [x])] := by
          rw [e2, ez, e2h, List.take_of_length_le (by simp), List.drop_eq_nil_of_le (by simp), tps_nil]
        have hj2 : ∀ (T : List (List UInt8)) (z : Nat), T.length = pop z → tro 64 z = pop z → apL z T x = [jn T x] := fun T z h1 h2 => by
          unfold apL
          rw [h1, h2, Nat.sub_self]
          simp
        rw [hall, hj2 _ _ hl p1, e1]
        rw [hj2 _ _ hl2 p2] at i2
        have hall2 : tps (M.drop h ++ [x]) = [rt (M.drop h ++ [x])] := by
          rw [tps_cons (by simp), List.length_append, List.length_drop, show hb2 (M.length - h + [x].length) = h by rw [hj]; exact hb2_of (by simp; omega) (by simp; omega), show List.take h (M.drop h ++ [x]) = M.drop h ++ [x] from List.take_of_length_le (by simp; omega), show List.drop h (M.drop h ++ [x]) = [] from List.drop_eq_nil_of_le (by simp; omega), tps_nil]
        rw [hall2] at i2
        have i3 : jn (tps (M.drop h)) x = rt (M.drop h ++ [x]) := by injection i2
        have hk : Mk.ksz (M ++ [x]).length = h := by
          rw [hj]; exact Mk.ksz_of rfl (by simp; omega) (by simp; omega)
        rw [rt_two (L := M ++ [x]) (by simp; omega), hk, List.take_append_of_le_length (by omega), List.drop_append_of_le_length (by omega), ← i3]
        rfl
theorem grw_tps (L : List (List UInt8)) : ∀ k, k ≤ L.length → k < 9223372036854775808 → grw L k = tps (L.take k)
  | 0, _, _ => by rw [List.take_zero, tps_nil]; rfl
  | k + 1, h, h6 => by
    show apL k (grw L k) (nx L k) = _
    have hl : (L.take k).length = k := by rw [List.length_take]; omega
    have := tps_snoc k (L.take k) (nx L k) (by omega) (by omega)
    rw [hl] at this
    rw [grw_tps L k (by omega) (by omega), this, List.take_add_one, List.getElem?_eq_getElem (by omega)]
    unfold nx
    rw [List.getD_eq_getElem?_getD, List.getElem?_eq_getElem (by omega)]
    rfl
/-- The root of parts. -/
theorem tps_root (N : Nat) : ∀ (L : List (List UInt8)), L.length ≤ N → 0 < L.length → jn (tps L).dropLast ((tps L).getD ((tps L).length - 1) z16) = rt L := by
  induction N with
  | zero => intro L h h0; omega
  | succ N ih =>
    intro L h h0
    have a := hb2_pos L.length
    have b := hb2_le h0
    have c := hb2_lt (n := L.length)
    rw [tps_cons h0]
    by_cases hz : L.length = hb2 L.length
    · rw [List.drop_eq_nil_of_le (by omega), tps_nil, List.take_of_length_le (by omega)]
      rfl
    · have i := ih (L.drop (hb2 L.length)) (by rw [List.length_drop]; omega) (by rw [List.length_drop]; omega)
      have hne : tps (L.drop (hb2 L.length)) ≠ [] := by
        rw [tps_cons (by rw [List.length_drop]; omega)]; simp
      have hk : Mk.ksz L.length = hb2 L.length := Mk.ksz_of rfl (by omega) (by omega)
      rw [rt_two (L := L) (by omega), hk, ← i]
      generalize tps (L.drop (hb2 L.length)) = T at hne
      cases T with
      | nil => exact absurd rfl hne
      | cons t T => rfl
theorem top_grw (L : List (List UInt8)) (k : Nat) (hk : k ≤ L.length) (h6 : k ≤ 1000000) : topD k (grw L k) = rt (L.take k) := by
  unfold topD
  rw [if_pos (grw_ok L k (by omega))]
  by_cases h0 : k = 0
  · subst h0; rw [if_pos (show ((0 : Nat) : Int) = 0 from rfl), List.take_zero, rt_nil]
  · rw [if_neg (by omega), grw_tps L k hk (by omega)]
    exact tps_root _ _ (Nat.le_refl _) (by rw [List.length_take]; omega)
end Go.Proofs.YtdikbglemgoocaaDoor
