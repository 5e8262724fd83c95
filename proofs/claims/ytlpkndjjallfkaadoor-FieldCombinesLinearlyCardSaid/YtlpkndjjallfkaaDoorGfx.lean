/-
  Contracts of stage 4: the reference's Sum, Scale, Combine.
-/
import Derived.Test.YtlpkndjjallfkaaDoorGfw
import Derived.Test.YtlpkndjjallfkaaDoorGfr
namespace Go.Proofs.YtlpkndjjallfkaaDoor
set_option linter.unusedVariables false
set_option linter.unusedSimpArgs false
open Go.RowKit

namespace Gf
theorem vsum_get (a b : List UInt8) (k : Nat) (h : k < max a.length b.length) : (vsum a b)[k]? = some (a.getD k 0 ^^^ b.getD k 0) := by
  unfold vsum
  rw [List.getElem?_map, List.getElem?_range h]
  rfl
theorem take_next {α : Type} {l : List α} {k : Nat} {x : α} (h : l[k]? = some x) : l.take (k + 1) = l.take k ++ [x] := by
  obtain ⟨h1, e1⟩ := List.getElem?_eq_some_iff.1 h
  rw [List.take_succ_eq_append_getElem h1, e1]
/-- The sum of multiples, one after the other. -/
def acc (coef : List UInt8) (parts : List (List UInt8)) (k : Nat) : List UInt8 := ((List.zip coef parts).take k).foldl (fun s p => vsum s (scale p.1 p.2)) []
theorem getD_fold (L : List (UInt8 × List UInt8)) (i : Nat) : ∀ s : List UInt8, (L.foldl (fun s p => vsum s (scale p.1 p.2)) s).getD i 0 = L.foldl (fun s p => s ^^^ mul p.1 (p.2.getD i 0)) (s.getD i 0) := by
  induction L with
  | nil => intro s; rfl
  | cons p L ih =>
    intro s
    rw [List.foldl_cons, ih, List.foldl_cons, getD_vsum, getD_scale]
theorem len_fold (n : Nat) (L : List (UInt8 × List UInt8)) (h : ∀ p ∈ L, p.2.length = n) : ∀ s : List UInt8, s.length ≤ n → (L.foldl (fun s p => vsum s (scale p.1 p.2)) s).length = if L = [] then s.length else n := by
  induction L with
  | nil => intro s _; rfl
  | cons p L ih =>
    intro s hs
    have hp := h p (List.mem_cons_self ..)
    have hv : (vsum s (scale p.1 p.2)).length = n := by rw [vsum_len, scale_len, hp]; omega
    rw [List.foldl_cons, ih (fun q hq => h q (List.mem_cons_of_mem _ hq)) _ (by omega), hv]
    simp
theorem acc_next (coef : List UInt8) (parts : List (List UInt8)) (k : Nat) (c : UInt8) (p : List UInt8) (hc : coef[k]? = some c) (hp : parts[k]? = some p) : acc coef parts (k + 1) = vsum (acc coef parts k) (scale c p) := by
  have hz : (List.zip coef parts)[k]? = some (c, p) := by rw [List.getElem?_zip_eq_some]; exact ⟨hc, hp⟩
  unfold acc
  rw [take_next hz, List.foldl_append]
  rfl
theorem mem_take_zip {coef : List UInt8} {parts : List (List UInt8)} {k : Nat} {p : UInt8 × List UInt8} (h : p ∈ (List.zip coef parts).take k) : p.2 ∈ parts.take k := by
  obtain ⟨i, hi⟩ := List.getElem?_of_mem h
  rw [List.getElem?_take] at hi
  split at hi
  · rename_i hk
    rw [List.getElem?_zip_eq_some] at hi
    exact List.mem_of_getElem? (i := i) (by rw [List.getElem?_take_of_lt hk]; exact hi.2)
  · cases hi
theorem acc_len (coef : List UInt8) (parts : List (List UInt8)) (k n : Nat) (h : ∀ x ∈ parts.take k, x.length = n) : (acc coef parts k).length ≤ n := by
  unfold acc
  rw [len_fold n _ (fun p hp => h _ (mem_take_zip hp)) [] (Nat.zero_le _)]
  split <;> simp
theorem acc_all (coef : List UInt8) (parts : List (List UInt8)) (h : Fit coef parts) : acc coef parts parts.length = comb coef parts := by
  obtain ⟨hl, ha⟩ := h
  have ht : (List.zip coef parts).take parts.length = List.zip coef parts := List.take_of_length_le (by rw [List.length_zip]; omega)
  unfold comb combN
  apply ext_getD
  · unfold acc
    rw [ht, len_fold (parts.headD []).length _ (fun p hp => ha _ (List.of_mem_zip hp).2) [] (Nat.zero_le _)]
    cases parts with
    | nil => simp
    | cons p ps =>
      cases coef with
      | nil => simp at hl
      | cons c cs => simp
  · intro i
    unfold acc
    rw [ht, getD_fold]
    rcases Nat.lt_or_ge i (parts.headD []).length with hi | hi
    · rw [List.getD_eq_getElem?_getD (l := List.map _ _), List.getElem?_map, List.getElem?_range hi]
      rfl
    · rw [List.getD_eq_getElem?_getD (l := List.map _ _), List.getElem?_eq_none (by simpa using hi)]
      have : ∀ (L : List (UInt8 × List UInt8)), (∀ p ∈ L, p.2.length ≤ i) → L.foldl (fun s p => s ^^^ mul p.1 (p.2.getD i 0)) 0 = 0 := fun L => by
        induction L with
        | nil => intro _; rfl
        | cons p L ih =>
          intro h
          have hp : p.2.getD i 0 = 0 := by rw [List.getD_eq_getElem?_getD, List.getElem?_eq_none (h p (List.mem_cons_self ..))]; rfl
          rw [List.foldl_cons, hp, mul_zero]
          exact ih fun q hq => h q (List.mem_cons_of_mem _ hq)
      exact this _ fun p hp => by rw [ha _ (List.of_mem_zip hp).2]; exact hi
end Gf
end Go.Proofs.YtlpkndjjallfkaaDoor
