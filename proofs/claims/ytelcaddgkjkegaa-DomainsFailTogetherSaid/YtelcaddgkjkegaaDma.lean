/-
  Stage 10 (domain): domains as lists, and what Check, Size, Of, Members, Relate, Holds, Left return. No Go in sight.
-/
import Derived.Test.YtelcaddgkjkegaaRows
namespace Go.Proofs.Ytelcaddgkjkegaa
set_option linter.unusedVariables false

/-- Domains: the rack of each disk; the house of each rack, and whether it is a van; the owner of each house; the number of owners. -/
structure Dm where
  D : List Int
  R : List (Int × Bool)
  H : List Int
  O : Int

def inB (n m : Int) : Bool := decide (0 ≤ n) && decide (n < m)
theorem inB_iff {n m : Int} : inB n m = true ↔ 0 ≤ n ∧ n < m := by unfold inB; simp
theorem inB_not {n m : Int} : inB n m = false ↔ n < 0 ∨ m ≤ n := by
  unfold inB
  rw [Bool.and_eq_false_iff, decide_eq_false_iff_not, decide_eq_false_iff_not]
  omega

namespace Dm
variable (d : Dm)
def many : Prop := 64 < d.D.length ∨ 24 < d.R.length ∨ 12 < d.H.length ∨ d.O < 0 ∨ 8 < d.O
instance : Decidable d.many := by unfold many; exact inferInstance
def badD : Bool := d.D.any fun x => !inB x d.R.length
def badR : Bool := d.R.any fun r => !inB r.1 d.H.length
def badH : Bool := d.H.any fun x => !inB x d.O
/-- The first error. -/
def chk : Int := if d.many then 2 else if d.badD = true then 1 else if d.badR = true then 1 else if d.badH = true then 1 else 0
def size (lv : Int) : Int := if d.chk = 0 then (if lv = 0 then d.D.length else if lv = 1 then d.R.length else if lv = 2 then d.H.length else if lv = 3 then d.O else 0) else 0
def rk (k : Nat) : Int := d.D.getD k 0
def hsR (r : Int) : Int := (d.R.getD r.toNat (0, false)).1
def owH (h : Int) : Int := d.H.getD h.toNat 0
/-- The domain of a level in which the disk k is. -/
def up (lv : Int) (k : Nat) : Int := if lv = 0 then k else if lv = 1 then d.rk k else if lv = 2 then d.hsR (d.rk k) else d.owH (d.hsR (d.rk k))
def of (lv k : Int) : Int := if d.chk = 0 ∧ 0 ≤ lv ∧ lv ≤ 3 ∧ 0 ≤ k ∧ k < d.D.length then d.up lv k.toNat else -1
def mem (lv n : Int) : List Nat := (List.range d.D.length).filter fun k : Nat => decide (0 ≤ n ∧ d.of lv k = n)
def tog (a b : Int) (lv : Int) : Prop := 0 ≤ d.of lv a ∧ d.of lv a = d.of lv b
instance (a b lv : Int) : Decidable (d.tog a b lv) := by unfold tog; exact inferInstance
def rel (a b : Int) : Int := if d.tog a b 0 then 0 else if d.tog a b 1 then 1 else if d.tog a b 2 then 2 else if d.tog a b 3 then 3 else 4
/-- How many of the first pieces are in the domain n. -/
def cnt (lv : Int) (L : List Int) (n : Nat) : Nat := (L.filter fun x => decide (d.of lv x = n)).length
def cap (L : List Int) : List Int := if L.length ≤ 24 then L else []
def holds (lv : Int) (L : List Int) : List Nat := (List.range (d.size lv).toNat).map fun n => d.cnt lv (cap L) n
/-- A piece that is left. -/
def stays (lv : Int) (F : List Int) (x : Int) : Bool := decide (0 ≤ d.of lv x) && !F.contains (d.of lv x)
end Dm
/-- The set of the numbers below n that P has. -/
def setB (P : Nat → Bool) : Nat → Nat
  | 0 => 0
  | n + 1 => setB P n + if P n = true then 2 ^ n else 0
theorem setB_lt (P : Nat → Bool) : ∀ n, setB P n < 2 ^ n
  | 0 => by simp [setB]
  | n + 1 => by
    have := setB_lt P n
    rw [setB, Nat.pow_succ]
    split <;> omega
def Dm.left (d : Dm) (lv : Int) (L F : List Int) : Nat := setB (fun k => d.stays lv F ((Dm.cap L).getD k 0)) (Dm.cap L).length

section
variable {d : Dm}
theorem Dm.ok_few (h : d.chk = 0) : ¬ d.many ∧ d.badD = false ∧ d.badR = false ∧ d.badH = false := by
  unfold Dm.chk at h
  by_cases h1 : d.many
  · rw [if_pos h1] at h; omega
  rw [if_neg h1] at h
  by_cases h2 : d.badD = true
  · rw [if_pos h2] at h; omega
  rw [if_neg h2] at h
  by_cases h3 : d.badR = true
  · rw [if_pos h3] at h; omega
  rw [if_neg h3] at h
  by_cases h4 : d.badH = true
  · rw [if_pos h4] at h; omega
  exact ⟨h1, by simpa using h2, by simpa using h3, by simpa using h4⟩
theorem Dm.ok_le (h : d.chk = 0) : d.D.length ≤ 64 ∧ d.R.length ≤ 24 ∧ d.H.length ≤ 12 ∧ 0 ≤ d.O ∧ d.O ≤ 8 := by
  have := (Dm.ok_few h).1
  unfold Dm.many at this
  omega
theorem Dm.ok_rk (h : d.chk = 0) {k : Nat} (hk : k < d.D.length) : 0 ≤ d.rk k ∧ d.rk k < d.R.length := by
  have := (Dm.ok_few h).2.1
  unfold Dm.badD at this
  rw [List.any_eq_false] at this
  have h2 := this (d.rk k) (by unfold Dm.rk; rw [List.getD_eq_getElem?_getD, List.getElem?_eq_getElem hk]; exact List.getElem_mem hk)
  simp only [Bool.not_eq_true', Bool.not_eq_false] at h2
  exact inB_iff.1 h2
theorem Dm.ok_hs (h : d.chk = 0) {r : Int} (h0 : 0 ≤ r) (hr : r < d.R.length) : 0 ≤ d.hsR r ∧ d.hsR r < d.H.length := by
  have := (Dm.ok_few h).2.2.1
  unfold Dm.badR at this
  rw [List.any_eq_false] at this
  have hlt : r.toNat < d.R.length := by omega
  have h2 := this (d.R.getD r.toNat (0, false)) (by rw [List.getD_eq_getElem?_getD, List.getElem?_eq_getElem hlt]; exact List.getElem_mem hlt)
  simp only [Bool.not_eq_true', Bool.not_eq_false] at h2
  exact inB_iff.1 h2
theorem Dm.ok_ow (h : d.chk = 0) {r : Int} (h0 : 0 ≤ r) (hr : r < d.H.length) : 0 ≤ d.owH r ∧ d.owH r < d.O := by
  have := (Dm.ok_few h).2.2.2
  unfold Dm.badH at this
  rw [List.any_eq_false] at this
  have hlt : r.toNat < d.H.length := by omega
  have h2 := this (d.H.getD r.toNat 0) (by rw [List.getD_eq_getElem?_getD, List.getElem?_eq_getElem hlt]; exact List.getElem_mem hlt)
  simp only [Bool.not_eq_true', Bool.not_eq_false] at h2
  exact inB_iff.1 h2
theorem Dm.ok_up (h : d.chk = 0) {lv : Int} (h0 : 0 ≤ lv) (h3 : lv ≤ 3) {k : Nat} (hk : k < d.D.length) : 0 ≤ d.up lv k ∧ d.up lv k < d.size lv := by
  have h1 := Dm.ok_rk h hk
  have h2 := Dm.ok_hs h h1.1 h1.2
  have h4 := Dm.ok_ow h h2.1 h2.2
  unfold Dm.up Dm.size
  rw [if_pos h]
  by_cases e0 : lv = 0
  · rw [if_pos e0, if_pos e0]; omega
  rw [if_neg e0, if_neg e0]
  by_cases e1 : lv = 1
  · rw [if_pos e1, if_pos e1]; exact h1
  rw [if_neg e1, if_neg e1]
  by_cases e2 : lv = 2
  · rw [if_pos e2, if_pos e2]; exact h2
  rw [if_neg e2, if_neg e2, if_pos (by omega)]
  exact h4
theorem Dm.of_in (h : d.chk = 0) {lv : Int} (h0 : 0 ≤ lv) (h3 : lv ≤ 3) {k : Nat} (hk : k < d.D.length) : d.of lv k = d.up lv k := by
  unfold Dm.of
  rw [if_pos ⟨h, h0, h3, by omega, by omega⟩, Int.toNat_natCast]
theorem Dm.of_lt {lv k : Int} (h : 0 ≤ d.of lv k) : d.of lv k < d.size lv ∧ d.chk = 0 ∧ 0 ≤ lv ∧ lv ≤ 3 ∧ 0 ≤ k ∧ k < d.D.length := by
  unfold Dm.of at h ⊢
  by_cases hc : d.chk = 0 ∧ 0 ≤ lv ∧ lv ≤ 3 ∧ 0 ≤ k ∧ k < d.D.length
  · rw [if_pos hc]
    obtain ⟨a, b, c, e, f⟩ := hc
    exact ⟨(Dm.ok_up a b c (by omega)).2, a, b, c, e, f⟩
  · rw [if_neg hc] at h
    omega
theorem Dm.of_ge (lv k : Int) : -1 ≤ d.of lv k := by
  unfold Dm.of
  split
  · rename_i hc
    obtain ⟨a, b, c, e, f⟩ := hc
    have := (Dm.ok_up a b c (k := k.toNat) (by omega)).1
    omega
  · omega
theorem Dm.size_ge (lv : Int) : 0 ≤ d.size lv ∧ d.size lv ≤ 64 := by
  unfold Dm.size
  by_cases h : d.chk = 0
  · rw [if_pos h]
    have := Dm.ok_le h
    repeat' split
    all_goals omega
  · rw [if_neg h]; omega
theorem Dm.of_fits (lv k : Int) : d.of lv k ≤ 64 := by
  by_cases h : 0 ≤ d.of lv k
  · have := (Dm.of_lt h).1
    have := (Dm.size_ge (d := d) lv).2
    omega
  · omega
/-- Where a level has no domains, no disk is in one. -/
theorem Dm.of_none {lv : Int} (h : d.size lv = 0) (k : Int) : d.of lv k = -1 := by
  by_cases h0 : 0 ≤ d.of lv k
  · have := (Dm.of_lt h0).1; omega
  · have := Dm.of_ge (d := d) lv k; omega
theorem Dm.size_in {lv : Int} (h : d.size lv ≠ 0) : d.chk = 0 ∧ 0 ≤ lv ∧ lv ≤ 3 := by
  unfold Dm.size at h
  by_cases hc : d.chk = 0
  · rw [if_pos hc] at h
    refine ⟨hc, ?_⟩
    repeat' split at h
    all_goals omega
  · rw [if_neg hc] at h; omega
theorem Dm.mem_len (lv n : Int) : (d.mem lv n).length ≤ d.D.length := by
  unfold Dm.mem
  have := List.length_filter_le (fun k : Nat => decide (0 ≤ n ∧ d.of lv k = n)) (List.range d.D.length)
  rwa [List.length_range] at this
/-- No domain, no members. -/
theorem Dm.mem_out {lv n : Int} (h : inB n (d.size lv) = false) : d.mem lv n = [] := by
  unfold Dm.mem
  rw [List.filter_eq_nil_iff]
  intro k _ hk
  have hk := of_decide_eq_true hk
  have h1 := (Dm.of_lt (d := d) (lv := lv) (k := k) (by omega)).1
  rcases inB_not.1 h with h | h <;> omega
end
end Go.Proofs.Ytelcaddgkjkegaa
