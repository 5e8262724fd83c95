/-
  Rows that change places; what a call changes of what was there; the closures of reduce.
-/
import Derived.Test.YtcnljemnkhmfcaaDoorRed
import Derived.Test.YtcnljemnkhmfcaaDoorMw
import Derived.Test.YtcnljemnkhmfcaaDoorRg
import Derived.Test.YtcnljemnkhmfcaaDoorGfw
import Derived.Deep.QuietTactic
import Derived.BigQuiet
namespace Go.Proofs.YtcnljemnkhmfcaaDoor
set_option linter.unusedVariables false
set_option linter.unusedSimpArgs false
open Go.RowKit

theorem swp_perm {α : Type} {l : List α} {i j : Nat} {a b : α} (hi : l[i]? = some a) (hj : l[j]? = some b) : (swp l i j a b).Perm l := by
  obtain ⟨h1, rfl⟩ := List.getElem?_eq_some_iff.1 hi
  obtain ⟨h2, rfl⟩ := List.getElem?_eq_some_iff.1 hj
  exact List.set_set_perm h1 h2
theorem swp_get {α : Type} {l : List α} {i j : Nat} {a b : α} (hi : l[i]? = some a) (hj : l[j]? = some b) (k : Nat) : (swp l i j a b)[k]? = if k = j then some a else if k = i then some b else l[k]? := by
  have h1 := (List.getElem?_eq_some_iff.1 hi).1
  have h2 := (List.getElem?_eq_some_iff.1 hj).1
  unfold swp
  by_cases hkj : k = j
  · subst hkj
    rw [if_pos rfl, List.getElem?_set_self (by rw [List.length_set]; exact h2)]
  · rw [if_neg hkj, List.getElem?_set_ne (Ne.symm hkj)]
    by_cases hki : k = i
    · subst hki
      rw [if_pos rfl, List.getElem?_set_self h1]
    · rw [if_neg hki, List.getElem?_set_ne (Ne.symm hki)]
theorem rvals_swp {bs : List Nat} {M : List (List UInt8)} {i j bi bj : Nat} {mi mj : List UInt8} (hl : bs.length = M.length) (hbi : bs[i]? = some bi) (hbj : bs[j]? = some bj) (hmi : M[i]? = some mi) (hmj : M[j]? = some mj) :
    ((rvals bs M).set i (.slice (some ⟨bj, 0, none⟩) mj.length mj.length)).set j (.slice (some ⟨bi, 0, none⟩) mi.length mi.length) = rvals (swp bs i j bi bj) (swp M i j mi mj) := by
  apply List.ext_getElem?
  intro k
  have e := swp_get (rvals_get hbi hmi) (rvals_get hbj hmj) k
  unfold swp at e
  rw [e]
  unfold rvals
  rw [List.getElem?_zipWith, List.getElem?_zipWith, swp_get hbi hbj, swp_get hmi hmj]
  by_cases h1 : k = j
  · simp [h1]
  · by_cases h2 : k = i
    · simp [h1, h2]
      by_cases h3 : i = j
      · exact absurd (h2.trans h3) h1
      · simp [h3]
    · simp [h1, h2]
/-- Nothing that was there has changed but the blocks of a list. -/
structure Chg (gs : List Nat) (w w' : World) : Prop where
  os : w'.os = w.os
  tape : w'.tape = w.tape
  output : w'.output = w.output
  size : w.heap.size ≤ w'.heap.size
  block : ∀ k, k < w.heap.size → k ∉ gs → w'.heap[k]? = w.heap[k]?
section
variable {w w' w2 : World} {base g : Nat} {bs gs : List Nat} {M : List (List UInt8)} {rest : List Value}
theorem Chg.refl (gs : List Nat) (w : World) : Chg gs w w := ⟨rfl, rfl, rfl, Nat.le_refl _, fun _ _ _ => rfl⟩
theorem Chg.trans (h : Chg gs w w') (k : Chg gs w' w2) : Chg gs w w2 :=
  ⟨k.os.trans h.os, k.tape.trans h.tape, k.output.trans h.output, Nat.le_trans h.size k.size, fun i hi hn => (k.block i (Nat.lt_of_lt_of_le hi h.size) hn).trans (h.block i hi hn)⟩
theorem Chg.of (h : Below w.heap.size w w') : Chg gs w w' := ⟨h.os, h.tape, h.output, h.size, fun i hi _ => h.block i hi⟩
theorem Chg.only {b : Nat} (h : Only b w w') (hb : b ∈ gs) : Chg gs w w' := ⟨h.os, h.tape, h.output, by rw [h.size]; exact Nat.le_refl _, fun i _ hn => h.block i (fun hh => hn (by rw [hh]; exact hb))⟩
theorem Chg.more {gs' : List Nat} (h : Chg gs w w') (hs : ∀ x ∈ gs, x ∈ gs') : Chg gs' w w' := ⟨h.os, h.tape, h.output, h.size, fun i hi hn => h.block i hi (fun hh => hn (hs i hh))⟩
theorem Chg.below {B : Nat} (h : Chg gs w w') (hg : ∀ x ∈ gs, B ≤ x) (hB : B ≤ w.heap.size) : Below B w w' := ⟨h.os, h.tape, h.output, h.size, fun i hi => h.block i (by omega) (fun hh => by have := hg i hh; omega)⟩
/-- From the world w0 on, blocks that were made since count as new. -/
theorem Chg.grown {w0 : World} {p : Option Nat} (h : Chg gs w0 w) (hg : w.grownBy w' p) (hp : ∀ k, p = some k → w0.heap.size ≤ k) : Chg gs w0 w' :=
  ⟨hg.os.trans h.os, hg.tape.trans h.tape, hg.output.trans h.output, Nat.le_trans h.size hg.size, fun i hi hn => (hg.block i (Nat.lt_of_lt_of_le hi h.size) (fun hh => by have := hp i hh.symm; omega)).trans (h.block i hi hn)⟩
theorem Chg.on {w0 : World} (h : Chg gs w0 w) (hb : Below w0.heap.size w w') : Chg gs w0 w' :=
  ⟨hb.os.trans h.os, hb.tape.trans h.tape, hb.output.trans h.output, Nat.le_trans h.size hb.size, fun i hi hn => (hb.block i hi).trans (h.block i hi hn)⟩
theorem Om.swap (h : Om w base g bs M []) {i j bi bj : Nat} {mi mj : List UInt8} (hbi : bs[i]? = some bi) (hbj : bs[j]? = some bj) (hmi : M[i]? = some mi) (hmj : M[j]? = some mj) (hO : Only g w w')
    (hg : Blk w' g (((rvals bs M).set i (.slice (some ⟨bj, 0, none⟩) mj.length mj.length)).set j (.slice (some ⟨bi, 0, none⟩) mi.length mi.length)) 57) : Om w' base g (swp bs i j bi bj) (swp M i j mi mj) [] := by
  have hp := swp_perm hbi hbj
  have hq := swp_perm hmi hmj
  rw [rvals_swp h.len hbi hbj hmi hmj] at hg
  refine ⟨by rw [swp_len, swp_len]; exact h.len, by rw [List.append_nil]; exact hg, fun k b m hk hm => ?_, h.low, fun x hx => h.lows x (hp.mem_iff.1 hx), fun x hx => h.ne x (hp.mem_iff.1 hx), hp.nodup_iff.2 h.nodup, fun x hx => h.caps x (hq.mem_iff.1 hx)⟩
  rw [swp_get hbi hbj] at hk
  rw [swp_get hmi hmj] at hm
  have key : Blk w b (m.map bv) 5 := by
    by_cases h1 : k = j
    · rw [if_pos h1] at hk hm
      obtain rfl := Option.some.inj hk
      obtain rfl := Option.some.inj hm
      exact h.row i _ _ hbi hmi
    · rw [if_neg h1] at hk hm
      by_cases h2 : k = i
      · rw [if_pos h2] at hk hm
        obtain rfl := Option.some.inj hk
        obtain rfl := Option.some.inj hm
        exact h.row j _ _ hbj hmj
      · rw [if_neg h2] at hk hm
        exact h.row k b m hk hm
  have hmem : b ∈ bs := by
    have : b ∈ swp bs i j bi bj := List.mem_of_getElem? (by rw [swp_get hbi hbj]; exact hk)
    exact hp.mem_iff.1 this
  exact key.only hO (h.ne b hmem)
end
/-- New blocks alone. -/
def Nu (a b : World) : Prop := Below a.heap.size a b
instance (w : World) : Nonempty (ROf Nu w) := ⟨⟨w, Below.refl _ _⟩⟩
theorem Nu.refl (w : World) : Nu w w := Below.refl _ _
theorem Nu.trans (a b c : World) (h : Nu a b) (k : Nu b c) : Nu a c := Below.trans h (Below.mono k h.size)

theorem Om.grown {w w' : World} {base g : Nat} {bs : List Nat} {M : List (List UInt8)} {rest : List Value} {p : Option Nat} (h : Om w base g bs M rest) (hg : w.grownBy w' p) (hp : ∀ b, p = some b → b ∉ g :: bs) : Om w' base g bs M rest := by
  have key : ∀ b (L : List Value) (t : TypeId), b ∈ g :: bs → Blk w b L t → Blk w' b L t := fun b L t hb hk => (hg.block b hk.lt (fun hh => hp b hh.symm hb)).trans hk
  exact ⟨h.len, key g _ _ (List.mem_cons_self ..) h.out, fun i b m hi hm => key b _ _ (List.mem_cons_of_mem _ (List.mem_of_getElem? hi)) (h.row i b m hi hm), h.low, h.lows, h.ne, h.nodup, h.caps⟩
theorem Chg.blk {gs : List Nat} {w w' : World} {b : Nat} {L : List Value} {t : TypeId} (h : Chg gs w w') (hb : Blk w b L t) (hn : b ∉ gs) : Blk w' b L t := (h.block b hb.lt hn).trans hb
end Go.Proofs.YtcnljemnkhmfcaaDoor
