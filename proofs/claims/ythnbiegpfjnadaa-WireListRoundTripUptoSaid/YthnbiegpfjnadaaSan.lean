/-
  The examples that each statement works out.
-/
import Derived.Test.YthnbiegpfjnadaaEq
namespace Go.Proofs.Ythnbiegpfjnadaa
open Go.RowKit

/-- A call that ends in a bool and leaves all that was there. -/
def OkEnd (b : Bool) (w : World) (e : Ending) (w' : World) : Prop := e = .returned (.bool b) ∧ Below w.heap.size w w'

theorem lit_rds (w : World) (l : List UInt8) (cs : Array Value) (t : TypeId) (h : cs = (l.map bv).toArray) : Rds (w.alloc (.cells cs t)) (w.alloc (.cells cs t)).heap.size (some ⟨w.heap.size, 0, none⟩) (l.map bv) := by
  subst h
  have := Rds.new w (l.map bv) t
  simpa using this

theorem NewEnd.slice {l : List UInt8} {w : World} {e : Ending} {w' : World} (h : NewEnd l w e w') : ∃ A c, e = .returned (.slice A l.length c) ∧ l.length ≤ c ∧ c ≤ maxLen ∧ (A = none → c = 0) ∧ Rds w' w'.heap.size A (l.map bv) ∧ Below w.heap.size w w' := by
  obtain ⟨v', rfl, h2, h3⟩ := h
  obtain ⟨A, c, rfl, g1, g2, g3, g4⟩ := own_form h2
  exact ⟨A, c, rfl, g1, g2, g3, g4, h3⟩
theorem GlEnd.slice {et : TypeId} {size n : Nat} {cells : List Value} {u : Nat} {x : Int} {w : World} {e : Ending} {w' : World} (h : GlEnd et size n cells u x w e w') :
    ∃ A c, e = .returned (.tuple #[.slice A n c, .int .i64 (u : Int), .int .i64 x]) ∧ n ≤ c ∧ c ≤ maxLen ∧ (A = none → c = 0) ∧ Rds w' w'.heap.size A cells ∧ Below w.heap.size w w' := by
  obtain ⟨v', rfl, h2, h3⟩ := h
  obtain ⟨A, c, rfl, g1, g2, g3, g4⟩ := own_form h2
  exact ⟨A, c, rfl, g1, g2, g3, g4, h3⟩
theorem below_lit {w0 w' : World} {o : Obj} (h : Below (w0.alloc o).heap.size (w0.alloc o) w') : Below w0.heap.size w0 w' :=
  ((Below.refl _ _).alloc (Nat.le_refl _) o).trans (h.mono (by simp))

section
variable (l : List UInt8) {w0 : World} {cs : Array Value} {t : TypeId} {m n c : Nat} (hcs : cs = (l.map bv).toArray) (hm : m = w0.heap.size) (hn : n = l.length) (hc : n ≤ c) (hl : l.length ≤ 1000)
include hcs hm hn hc hl
theorem getInt_lit (r : Int × Nat × Int) (hr : Wm.getInt l = r) :
    Calls Try.prog 24 #[.slice (some ⟨m, 0, none⟩) n c] (w0.alloc (.cells cs t)) fun e w' => e = .returned (.tuple #[.int .i64 r.1, .int .i64 (r.2.1 : Int), .int .i64 r.2.2]) ∧ Below w0.heap.size w0 w' := by
  subst hm hn hr
  refine (getInt_any l _ c _ (lit_rds w0 l cs t hcs) (by unfold maxLen; omega)).mono ?_
  rintro e w' ⟨rfl, rfl⟩
  exact ⟨rfl, below_lit (Below.refl _ _)⟩
theorem getBytes_lit (r : List UInt8 × Nat × Int) (hr : Wm.getBytes l = r) :
    Calls Try.prog 26 #[.slice (some ⟨m, 0, none⟩) n c] (w0.alloc (.cells cs t)) fun e w' => e = .returned (.tuple #[sv r.1, .int .i64 (r.2.1 : Int), .int .i64 r.2.2]) ∧ Below w0.heap.size w0 w' := by
  subst hm hn hr
  refine (getBytes_any l _ c _ (lit_rds w0 l cs t hcs) (by omega) hc).mono ?_
  rintro e w' ⟨rfl, rfl⟩
  exact ⟨rfl, below_lit (Below.refl _ _)⟩
theorem getInts_lit (r : List Int × Nat × Int) (hr : Wm.getList Wm.getInt 1 l = r) :
    Calls Try.prog 28 #[.slice (some ⟨m, 0, none⟩) n c] (w0.alloc (.cells cs t)) fun e w' => ∃ A k, e = .returned (.tuple #[.slice A r.1.length k, .int .i64 (r.2.1 : Int), .int .i64 r.2.2]) ∧ Rds w' w'.heap.size A (r.1.map iv) ∧ Below w0.heap.size w0 w' := by
  subst hm hn hr
  refine (getInts_any l _ c _ (lit_rds w0 l cs t hcs) (by omega) hc).mono ?_
  intro e w' h
  obtain ⟨A, k, h1, _, _, _, h2, h3⟩ := GlEnd.slice h
  exact ⟨A, k, h1, h2, below_lit h3⟩
theorem getStrings_lit (r : List (List UInt8) × Nat × Int) (hr : Wm.getList Wm.getBytes 1 l = r) :
    Calls Try.prog 31 #[.slice (some ⟨m, 0, none⟩) n c] (w0.alloc (.cells cs t)) fun e w' => ∃ A k, e = .returned (.tuple #[.slice A r.1.length k, .int .i64 (r.2.1 : Int), .int .i64 r.2.2]) ∧ Rds w' w'.heap.size A (r.1.map sv) ∧ Below w0.heap.size w0 w' := by
  subst hm hn hr
  refine (getStrings_any l _ c _ (lit_rds w0 l cs t hcs) (by omega) hc).mono ?_
  intro e w' h
  obtain ⟨A, k, h1, _, _, _, h2, h3⟩ := GlEnd.slice h
  exact ⟨A, k, h1, h2, below_lit h3⟩
omit hl in
theorem same_lit {A : Option Addr} {k j : Nat} {B : Nat} (la : List UInt8) (hj : j = la.length) (ha : Rds w0 B A (la.map bv)) (hB : B ≤ w0.heap.size) (b : Bool) (hb : (la == l) = b) :
    Calls Try.prog 13 #[.slice A j k, .slice (some ⟨m, 0, none⟩) n c] (w0.alloc (.cells cs t)) fun e w' => e = .returned (.bool b) ∧ Below w0.heap.size w0 w' := by
  subst hm hn hb hj
  refine (same_any la l A _ k c _ (ha.alloc hB _) (lit_rds w0 l cs t hcs)).mono ?_
  rintro e w' ⟨rfl, rfl⟩
  exact ⟨rfl, below_lit (Below.refl _ _)⟩
end
section
variable (xs : List (List UInt8)) {w0 : World} {cs : Array Value} {t : TypeId} {m n c : Nat} (hm : m = w0.heap.size) (hn : n = xs.length)
include hm hn
theorem digests_lit (hcs : cs = ((xs.flatMap id).map bv).toArray) (hl : xs.length ≤ 1000) (hd : ∀ d ∈ xs, d.length = 16) (r : List UInt8) (hr : Wm.encList id xs = r) :
    Calls Try.prog 22 #[.slice (some ⟨m, 0, none⟩) n c] (w0.alloc (.cells cs t)) fun e w' => ∃ A k, e = .returned (.slice A r.length k) ∧ r.length ≤ k ∧ Rds w' w'.heap.size A (r.map bv) ∧ Below w0.heap.size w0 w' := by
  subst hm hn hr hcs
  have h := Rds.new w0 ((xs.flatMap id).map bv) t
  refine (digests_any xs _ c _ (h.more (by simp)) (by omega) hd).mono ?_
  intro e w' h
  obtain ⟨A, k, h1, h2, _, _, h4, h5⟩ := NewEnd.slice h
  exact ⟨A, k, h1, h2, h4, below_lit h5⟩
theorem strings_lit (hcs : cs = (xs.map sv).toArray) (hl : xs.length ≤ 1000) (hl2 : (xs.flatMap Wm.encBytes).length ≤ 1000) (r : List UInt8) (hr : Wm.encList Wm.encBytes xs = r) :
    Calls Try.prog 20 #[.slice (some ⟨m, 0, none⟩) n c] (w0.alloc (.cells cs t)) fun e w' => ∃ A k, e = .returned (.slice A r.length k) ∧ Rds w' w'.heap.size A (r.map bv) ∧ Below w0.heap.size w0 w' := by
  subst hm hn hr hcs
  have h := Rds.new w0 (xs.map sv) t
  refine (strings_any xs _ c _ (h.more (by simp)) (by omega) (by omega)).mono ?_
  intro e w' h
  obtain ⟨A, k, h1, h2, _, _, h4, h5⟩ := NewEnd.slice h
  exact ⟨A, k, h1, h4, below_lit h5⟩
theorem sameTexts_lit {A : Option Addr} {k j : Nat} {B : Nat} (hcs : cs = (xs.map sv).toArray) (la : List (List UInt8)) (hj : j = la.length) (hl : la.length ≤ 1000) (ha : Rds w0 B A (la.map sv)) (hB : B ≤ w0.heap.size) (b : Bool) (hb : (la == xs) = b) :
    Calls Try.prog 33 #[.slice A j k, .slice (some ⟨m, 0, none⟩) n c] (w0.alloc (.cells cs t)) fun e w' => e = .returned (.bool b) ∧ Below w0.heap.size w0 w' := by
  subst hm hn hb hj hcs
  refine (sameTexts_any la xs A _ k c _ (ha.alloc hB _) (Rds.new w0 (xs.map sv) t) (by omega)).mono ?_
  intro e w' h
  exact ⟨h.below.1, below_lit h.below.2⟩
theorem sameDigs_lit {A : Option Addr} {k j : Nat} {B : Nat} (hcs : cs = ((xs.flatMap id).map bv).toArray) (la : List (List UInt8)) (hj : j = la.length) (hl : la.length ≤ 1000) (hda : ∀ d ∈ la, d.length = 16) (hdb : ∀ d ∈ xs, d.length = 16) (ha : Rds w0 B A ((la.flatMap id).map bv)) (hB : B ≤ w0.heap.size) (b : Bool) (hb : (la == xs) = b) :
    Calls Try.prog 36 #[.slice A j k, .slice (some ⟨m, 0, none⟩) n c] (w0.alloc (.cells cs t)) fun e w' => e = .returned (.bool b) ∧ Below w0.heap.size w0 w' := by
  subst hm hn hb hj hcs
  refine (sameDigs_any la xs A _ k c _ (ha.alloc hB _) (Rds.new w0 ((xs.flatMap id).map bv) t) hda hdb (by omega)).mono ?_
  intro e w' h
  exact ⟨h.below.1, below_lit h.below.2⟩
end
section
variable (xs : List Int) {w0 : World} {cs : Array Value} {t : TypeId} {m n c : Nat} (hm : m = w0.heap.size) (hn : n = xs.length)
include hm hn
theorem ints_lit  (hcs : cs = (xs.map iv).toArray) (hl : xs.length ≤ 1000) (hf : ∀ x ∈ xs, Wm.Fits x) (r : List UInt8) (hr : Wm.encList Wm.enc xs = r) :
    Calls Try.prog 18 #[.slice (some ⟨m, 0, none⟩) n c] (w0.alloc (.cells cs t)) fun e w' => ∃ A k, e = .returned (.slice A r.length k) ∧ Rds w' w'.heap.size A (r.map bv) ∧ Below w0.heap.size w0 w' := by
  subst hm hn hr hcs
  have h := Rds.new w0 (xs.map iv) t
  refine (ints_any xs _ c _ (h.more (by simp)) (by omega) hf).mono ?_
  intro e w' h
  obtain ⟨A, k, h1, h2, _, _, h4, h5⟩ := NewEnd.slice h
  exact ⟨A, k, h1, h4, below_lit h5⟩
theorem sameInts_lit {A : Option Addr} {k j : Nat} {B : Nat} (hcs : cs = (xs.map iv).toArray) (la : List Int) (hj : j = la.length) (hl : la.length ≤ 1000) (ha : Rds w0 B A (la.map iv)) (hB : B ≤ w0.heap.size) (b : Bool) (hb : (la == xs) = b) :
    Calls Try.prog 30 #[.slice A j k, .slice (some ⟨m, 0, none⟩) n c] (w0.alloc (.cells cs t)) fun e w' => e = .returned (.bool b) ∧ Below w0.heap.size w0 w' := by
  subst hm hn hb hj hcs
  refine (sameInts_any la xs A _ k c _ (ha.alloc hB _) (Rds.new w0 (xs.map iv) t) (by omega)).mono ?_
  intro e w' h
  exact ⟨h.below.1, below_lit h.below.2⟩
end
theorem int_lit (n : Int) (w : World) (hn : Wm.Fits n) (r : List UInt8) (hr : Wm.enc n = r) : Calls Try.prog 14 #[.int .i64 n] w fun e w' => ∃ A k, e = .returned (.slice A r.length k) ∧ Rds w' w'.heap.size A (r.map bv) ∧ Below w.heap.size w w' := by
  subst hr
  refine (int_any n w hn).mono ?_
  intro e w' h
  obtain ⟨A, k, h1, h2, _, _, h4, h5⟩ := NewEnd.slice h
  exact ⟨A, k, h1, h4, h5⟩
theorem bytes_lit (s : List UInt8) (S : ByteArray) (hS : S = bs s) (w : World) (hs : s.length ≤ 1000) (r : List UInt8) (hr : Wm.encBytes s = r) : Calls Try.prog 16 #[.string S] w fun e w' => ∃ A k, e = .returned (.slice A r.length k) ∧ Rds w' w'.heap.size A (r.map bv) ∧ Below w.heap.size w w' := by
  subst hr hS
  refine (bytes_any s w (by omega)).mono ?_
  intro e w' h
  obtain ⟨A, k, h1, h2, _, _, h4, h5⟩ := NewEnd.slice h
  exact ⟨A, k, h1, h4, h5⟩
theorem blk_cells {w : World} {m : Nat} {cs : Array Value} {t : TypeId} (h : w.heap[m]? = some (.cells cs t (0, 0))) : ∀ j, w.cell? ⟨m, j, none⟩ = cs[j]? := fun j => cell_of_row w m j cs t (0, 0) h
theorem blk_lt {w : World} {m : Nat} {o : Obj} (h : w.heap[m]? = some o) : m < w.heap.size := (Array.getElem?_eq_some_iff.1 h).1
theorem blk_below {w w' : World} {m : Nat} {o : Obj} (h : w.heap[m]? = some o) (hb : Below w.heap.size w w') : w'.heap[m]? = some o := (hb.block m (blk_lt h)).trans h

set_option maxRecDepth 100000 in
set_option maxHeartbeats 1000000 in
theorem sanity_any (w : World) : Calls Try.prog 12 #[] w (OkEnd true w) := by
  go_enter Try.func12, Try.ntmps12
  go_wp2_with fail
  go_at_call 24
  refine (getInt_lit [128, 1, 9] rfl (by rfl) (by rfl) (by decide) (by decide) (64, 2, 0) (by decide)).mono ?_
  rintro e w1 ⟨rfl, hb⟩
  go_wp2_with fail
  go_at_call 24
  refine (getInt_lit [128] rfl (by rfl) (by rfl) (by decide) (by decide) (0, 0, 10) (by decide)).mono ?_
  rintro e w2 ⟨rfl, hb2⟩
  replace hb := hb.trans (hb2.mono hb.size); clear hb2
  go_wp2_with fail
  go_at_call 24
  refine (getInt_lit [128, 0] rfl (by rfl) (by rfl) (by decide) (by decide) (0, 0, 11) (by decide)).mono ?_
  rintro e w3 ⟨rfl, hb2⟩
  replace hb := hb.trans (hb2.mono hb.size); clear hb2
  go_wp2_with fail
  go_at_call 26
  refine (getBytes_lit [4, 97, 98, 7] rfl (by rfl) (by rfl) (by decide) (by decide) ([97, 98], 3, 0) (by decide)).mono ?_
  rintro e w4 ⟨rfl, hb2⟩
  replace hb := hb.trans (hb2.mono hb.size); clear hb2
  unfold sv bs
  go_wp2_with fail
  go_at_call 28
  refine (getInts_lit [4, 2, 1] rfl (by rfl) (by rfl) (by decide) (by decide) ([1, -1], 3, 0) (by decide)).mono ?_
  rintro e w5 ⟨A1, k1, rfl, hr1, hb2⟩
  replace hb := hb.trans (hb2.mono hb.size); clear hb2
  go_wp2_with fail
  go_at_call 22
  refine (digests_lit [[1, 2, 0, 0, 0, 0, 0, 0, 0, 0, 0, 0, 0, 0, 0, 0]] (by simp) (by rfl) (by rfl) (by decide) (by decide) [2, 1, 2, 0, 0, 0, 0, 0, 0, 0, 0, 0, 0, 0, 0, 0, 0] (by decide)).mono ?_
  rintro e w6 ⟨A6, k6, rfl, hc6, hr6, hb2⟩
  have hd := blk_below (heap_alloc_new w5 _) hb2
  replace hb2 := below_lit hb2
  replace hr1 := hr1.below hb2
  have hs1 := hb2.size
  replace hb := hb.trans (hb2.mono hb.size); clear hb2
  go_wp2_with fail
  go_at_call 34
  refine (getDigests_any [2, 1, 2, 0, 0, 0, 0, 0, 0, 0, 0, 0, 0, 0, 0, 0, 0] A6 k6 w6 hr6 (by decide) hc6).mono ?_
  intro e w7 hx
  obtain ⟨A7, k7, rfl, _, _, _, hr7, hb2⟩ := GlEnd.slice hx
  clear hx
  replace hd := blk_below hd hb2
  replace hr1 := hr1.below (hb2.mono hs1)
  replace hs1 := Nat.le_trans hs1 hb2.size
  replace hb := hb.trans (hb2.mono hb.size); clear hb2
  rw [show Wm.getList Wm.getDigest 16 [2, 1, 2, 0, 0, 0, 0, 0, 0, 0, 0, 0, 0, 0, 0, 0, 0] = ([[1, 2, 0, 0, 0, 0, 0, 0, 0, 0, 0, 0, 0, 0, 0, 0]], 17, 0) from by decide] at hr7 ⊢
  go_wp2_with fail
  go_at_call 31
  refine (getStrings_lit [4, 0, 2, 97, 5] rfl (by rfl) (by rfl) (by decide) (by decide) ([[], [97]], 4, 0) (by decide)).mono ?_
  rintro e w8 ⟨A8, k8, rfl, hr8, hb2⟩
  replace hd := blk_below hd hb2
  replace hr1 := hr1.below (hb2.mono hs1)
  replace hr7 := hr7.below hb2
  have hs7 := hb2.size
  replace hs1 := Nat.le_trans hs1 hb2.size
  replace hb := hb.trans (hb2.mono hb.size); clear hb2
  go_wp2_with fail
  go_at_call 33
  refine (sameTexts_lit [[], [97]] (by rfl) (by rfl) (by rfl) [[], [97]] (by rfl) (by decide) hr8 (Nat.le_refl _) true (by decide)).mono ?_
  rintro e w9 ⟨rfl, hb2⟩
  clear hr8
  replace hd := blk_below hd hb2
  replace hr1 := hr1.below (hb2.mono hs1)
  replace hr7 := hr7.below (hb2.mono hs7)
  replace hs7 := Nat.le_trans hs7 hb2.size
  replace hs1 := Nat.le_trans hs1 hb2.size
  replace hb := hb.trans (hb2.mono hb.size); clear hb2
  go_wp2_with fail
  go_at_call 20
  refine (strings_lit [[], [97]] (by rfl) (by rfl) (by rfl) (by decide) (by decide) [4, 0, 2, 97] (by decide)).mono ?_
  rintro e w10 ⟨A10, k10, rfl, hr10, hb2⟩
  replace hd := blk_below hd hb2
  replace hr1 := hr1.below (hb2.mono hs1)
  replace hr7 := hr7.below (hb2.mono hs7)
  replace hs7 := Nat.le_trans hs7 hb2.size
  replace hs1 := Nat.le_trans hs1 hb2.size
  replace hb := hb.trans (hb2.mono hb.size); clear hb2
  go_wp2_with fail
  go_at_call 13
  refine (same_lit [4, 0, 2, 97] (by rfl) (by rfl) (by rfl) (by decide) [4, 0, 2, 97] (by rfl) hr10 (Nat.le_refl _) true (by decide)).mono ?_
  rintro e w11 ⟨rfl, hb2⟩
  clear hr10
  replace hd := blk_below hd hb2
  replace hr1 := hr1.below (hb2.mono hs1)
  replace hr7 := hr7.below (hb2.mono hs7)
  replace hs7 := Nat.le_trans hs7 hb2.size
  replace hs1 := Nat.le_trans hs1 hb2.size
  replace hb := hb.trans (hb2.mono hb.size); clear hb2
  go_wp2_with fail
  go_at_call 14
  refine (int_lit (-65) _ (by unfold Wm.Fits; decide) [129, 1] (by decide)).mono ?_
  rintro e w12 ⟨A12, k12, rfl, hr12, hb2⟩
  replace hd := blk_below hd hb2
  replace hr1 := hr1.below (hb2.mono hs1)
  replace hr7 := hr7.below (hb2.mono hs7)
  replace hs7 := Nat.le_trans hs7 hb2.size
  replace hs1 := Nat.le_trans hs1 hb2.size
  replace hb := hb.trans (hb2.mono hb.size); clear hb2
  go_wp2_with fail
  go_at_call 13
  refine (same_lit [129, 1] (by rfl) (by rfl) (by rfl) (by decide) [129, 1] (by rfl) hr12 (Nat.le_refl _) true (by decide)).mono ?_
  rintro e w13 ⟨rfl, hb2⟩
  clear hr12
  replace hd := blk_below hd hb2
  replace hr1 := hr1.below (hb2.mono hs1)
  replace hr7 := hr7.below (hb2.mono hs7)
  replace hs7 := Nat.le_trans hs7 hb2.size
  replace hs1 := Nat.le_trans hs1 hb2.size
  replace hb := hb.trans (hb2.mono hb.size); clear hb2
  go_wp2_with fail
  go_at_call 30
  refine (sameInts_lit [1, -1] (by rfl) (by rfl) (by rfl) [1, -1] (by rfl) (by decide) hr1 hs1 true (by decide)).mono ?_
  rintro e w14 ⟨rfl, hb2⟩
  clear hr1
  replace hd := blk_below hd hb2
  replace hr7 := hr7.below (hb2.mono hs7)
  replace hs7 := Nat.le_trans hs7 hb2.size
  replace hb := hb.trans (hb2.mono hb.size); clear hb2
  go_wp2_with fail
  go_at_call 16
  refine (bytes_lit [97, 98] _ (by rfl) _ (by decide) [4, 97, 98] (by decide)).mono ?_
  rintro e w15 ⟨A15, k15, rfl, hr15, hb2⟩
  replace hd := blk_below hd hb2
  replace hr7 := hr7.below (hb2.mono hs7)
  replace hs7 := Nat.le_trans hs7 hb2.size
  replace hb := hb.trans (hb2.mono hb.size); clear hb2
  go_wp2_with fail
  go_at_call 13
  refine (same_lit [4, 97, 98] (by rfl) (by rfl) (by rfl) (by decide) [4, 97, 98] (by rfl) hr15 (Nat.le_refl _) true (by decide)).mono ?_
  rintro e w16 ⟨rfl, hb2⟩
  clear hr15
  replace hd := blk_below hd hb2
  replace hr7 := hr7.below (hb2.mono hs7)
  replace hs7 := Nat.le_trans hs7 hb2.size
  replace hb := hb.trans (hb2.mono hb.size); clear hb2
  go_wp2_with fail
  go_at_call 18
  refine (ints_lit [1, -1] (by rfl) (by rfl) (by rfl) (by decide) (by unfold Wm.Fits; decide) [4, 2, 1] (by decide)).mono ?_
  rintro e w17 ⟨A17, k17, rfl, hr17, hb2⟩
  replace hd := blk_below hd hb2
  replace hr7 := hr7.below (hb2.mono hs7)
  replace hs7 := Nat.le_trans hs7 hb2.size
  replace hb := hb.trans (hb2.mono hb.size); clear hb2
  go_wp2_with fail
  go_at_call 13
  refine (same_lit [4, 2, 1] (by rfl) (by rfl) (by rfl) (by decide) [4, 2, 1] (by rfl) hr17 (Nat.le_refl _) true (by decide)).mono ?_
  rintro e w18 ⟨rfl, hb2⟩
  clear hr17
  replace hd := blk_below hd hb2
  replace hr7 := hr7.below (hb2.mono hs7)
  replace hs7 := Nat.le_trans hs7 hb2.size
  replace hb := hb.trans (hb2.mono hb.size); clear hb2
  have hcells := blk_cells hd
  go_wp2_with fail
  go_at_call 36
  refine (sameDigs_lit [[1, 2, 0, 0, 0, 0, 0, 0, 0, 0, 0, 0, 0, 0, 0, 0]] (by rfl) (by rfl) (by rfl) [[1, 2, 0, 0, 0, 0, 0, 0, 0, 0, 0, 0, 0, 0, 0, 0]] (by rfl) (by decide) (by decide) (by decide) hr7 hs7 true (by decide)).mono ?_
  rintro e w19 ⟨rfl, hb2⟩
  clear hcells hr7 hd
  replace hb := hb.trans (hb2.mono hb.size); clear hb2
  go_wp2
  go_ret
  exact ⟨rfl, hb⟩
end Go.Proofs.Ythnbiegpfjnadaa
