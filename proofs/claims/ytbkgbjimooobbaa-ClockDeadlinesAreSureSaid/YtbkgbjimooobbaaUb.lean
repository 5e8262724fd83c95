/-
  Stage 14 (clock): clocks in memory; contracts of the small functions of the program and of the specification.
-/
import Derived.Test.YtbkgbjimooobbaaUa
namespace Go.Proofs.Ytbkgbjimooobbaa
set_option linter.unusedVariables false
set_option linter.unusedSimpArgs false
open Go.RowKit

/-- A reading as cells; readings as cells. -/
def rdc (r : Rdg) : List Value := [iv r.L, iv r.lo, iv r.hi]
def rdf (l : List Rdg) : List Value := l.flatMap rdc
theorem rdf_len (l : List Rdg) : (rdf l).length = l.length * 3 := by
  unfold rdf
  induction l with
  | nil => rfl
  | cons r l ih => rw [List.flatMap_cons, List.length_append, ih, List.length_cons]; simp [rdc]; omega
theorem rdf_at {l : List Rdg} {k : Nat} {r : Rdg} (h : l[k]? = some r) : (rdf l)[k * 3]? = some (iv r.L) ∧ (rdf l)[k * 3 + 1]? = some (iv r.lo) ∧ (rdf l)[k * 3 + 2]? = some (iv r.hi) := by
  induction l generalizing k with
  | nil => simp at h
  | cons x l ih =>
    cases k with
    | zero =>
      obtain rfl : x = r := by simpa using h
      exact ⟨rfl, rfl, rfl⟩
    | succ k =>
      have := ih (k := k) (by simpa using h)
      have e : rdf (x :: l) = [iv x.L, iv x.lo, iv x.hi] ++ rdf l := rfl
      have hl : [iv x.L, iv x.lo, iv x.hi].length = 3 := rfl
      rw [show (k + 1) * 3 = k * 3 + 3 by omega, e, List.getElem?_append_right (by rw [hl]; omega), List.getElem?_append_right (by rw [hl]; omega), List.getElem?_append_right (by rw [hl]; omega), hl]
      exact ⟨by simpa using this.1, by rw [show k * 3 + 3 + 1 - 3 = k * 3 + 1 by omega]; exact this.2.1, by rw [show k * 3 + 3 + 2 - 3 = k * 3 + 2 by omega]; exact this.2.2⟩
theorem rdf_append (l m : List Rdg) : rdf (l ++ m) = rdf l ++ rdf m := by unfold rdf; rw [List.flatMap_append]
theorem rdf_drop (l : List Rdg) (k : Nat) : rdf (l.drop k) = (rdf l).drop (k * 3) := by
  induction k generalizing l with
  | zero => simp
  | succ k ih =>
    cases l with
    | nil => simp [rdf]
    | cons x l =>
      have e : rdf (x :: l) = iv x.L :: iv x.lo :: iv x.hi :: rdf l := rfl
      rw [List.drop_succ_cons, ih, e, show (k + 1) * 3 = k * 3 + 3 by omega]
      rfl
/-- A clock, and where its readings lie. -/
structure Clk where
  rate : Int
  A : Option Addr
  n : Nat
  c : Nat
  l : List Rdg
structure ClkM (w : World) (B : Nat) (k : Clk) : Prop where
  r : Rds w B k.A (rdf k.l)
  len : k.n = k.l.length
  cap : k.n ≤ k.c ∧ k.c ≤ maxLen ∧ (k.A = none → k.c = 0)
  small : k.n ≤ 140737488355328
  le : B ≤ w.heap.size
  fr : Wm.Fits k.rate
  fits : ∀ x ∈ k.l, Wm.Fits x.L ∧ Wm.Fits x.lo ∧ Wm.Fits x.hi
section
variable {w w' : World} {B B' : Nat} {k : Clk}
theorem ClkM.keep (m : ClkM w B k) (hb : Below B w w') : ClkM w' B k := ⟨m.r.below hb, m.len, m.cap, m.small, Nat.le_trans m.le hb.size, m.fr, m.fits⟩
theorem ClkM.below (m : ClkM w B k) (hb : Below w.heap.size w w') : ClkM w' B k := m.keep (hb.mono m.le)
theorem ClkM.up (m : ClkM w B k) (hB : B ≤ B') (hw : B' ≤ w.heap.size) : ClkM w B' k := ⟨m.r.more hB, m.len, m.cap, m.small, hw, m.fr, m.fits⟩
theorem ClkM.rd (m : ClkM w B k) {j : Nat} {r : Rdg} (hj : k.l[j]? = some r) : ∃ ad, k.A = some ad ∧ ad.block < B ∧ w.cell? (ad.add (j * 3)) = some (.int .i64 r.L) ∧ w.cell? (ad.add (j * 3 + 1)) = some (.int .i64 r.lo) ∧ w.cell? (ad.add (j * 3 + 2)) = some (.int .i64 r.hi) := by
  obtain ⟨h1, h2, h3⟩ := rdf_at hj
  obtain ⟨ad, e, hb, hc⟩ := m.r.look h1
  obtain ⟨ad', e', _, hc'⟩ := m.r.look h2
  obtain ⟨ad2, e2, _, hc2⟩ := m.r.look h3
  rw [e] at e' e2
  obtain rfl := Option.some.inj e'
  obtain rfl := Option.some.inj e2
  exact ⟨ad, e, hb, hc, hc', hc2⟩
end
theorem size_clk : (Try.prog.info? 30).map (·.size) = some 2 := by kernel_rfl
theorem size_rdg : (Try.prog.info? 48).map (·.size) = some 3 := by kernel_rfl
theorem size_whn : (Try.prog.info? 45).map (·.size) = some 2 := by kernel_rfl
theorem row_clk : ∃ d, Try.prog.underlying 30 = some d ∧ d.isRow = true := ⟨_, Try.underlying30, rfl⟩
theorem row_rdg : ∃ d, Try.prog.underlying 48 = some d ∧ d.isRow = true := ⟨_, Try.underlying48, rfl⟩
theorem row_whn : ∃ d, Try.prog.underlying 45 = some d ∧ d.isRow = true := ⟨_, Try.underlying45, rfl⟩
theorem one_two (a b : Int) : ∀ u ∈ (Value.agg #[Value.int .i64 a, .int .i64 b]).cells.toList, u.oneCell' = true := by
  intro u hu
  simp [Value.cells] at hu
  rcases hu with rfl | rfl <;> rfl
theorem one_three (a b c : Int) : ∀ u ∈ (Value.agg #[Value.int .i64 a, .int .i64 b, .int .i64 c]).cells.toList, u.oneCell' = true := by
  intro u hu
  simp [Value.cells] at hu
  rcases hu with rfl | rfl | rfl <;> rfl

set_option maxRecDepth 100000 in
theorem isInstant_any (n : Int) (w : World) : Calls Try.prog 22 #[.int .i64 n] w fun e w' => e = .returned (.bool (inst n)) ∧ w' = w := by
  obtain ⟨r, hr⟩ : ∃ r, r = inst n := ⟨_, rfl⟩
  rw [← hr]
  unfold inst at hr
  by_cases h1 : 0 ≤ n
  · by_cases h2 : n ≤ 3600000000
    · obtain rfl : r = true := by rw [hr]; simp [h1, h2]
      clear hr
      go_enter Try.func22, Try.ntmps22
      go_wp2_with fail
      go_ret
      exact ⟨rfl, rfl⟩
    · obtain rfl : r = false := by rw [hr]; simp [h1, h2]
      clear hr
      go_enter Try.func22, Try.ntmps22
      go_wp2_with fail
      go_ret
      exact ⟨rfl, rfl⟩
  · obtain rfl : r = false := by rw [hr]; simp [h1]
    clear hr
    go_enter Try.func22, Try.ntmps22
    go_wp2_with fail
    go_ret
    exact ⟨rfl, rfl⟩
set_option maxRecDepth 100000 in
theorem isRate_any (n : Int) (w : World) : Calls Try.prog 21 #[.int .i64 n] w fun e w' => e = .returned (.bool (okRate n)) ∧ w' = w := by
  obtain ⟨r, hr⟩ : ∃ r, r = okRate n := ⟨_, rfl⟩
  rw [← hr]
  unfold okRate at hr
  by_cases h1 : 0 ≤ n
  · by_cases h2 : n ≤ 100000
    · obtain rfl : r = true := by rw [hr]; simp [h1, h2]
      clear hr
      go_enter Try.func21, Try.ntmps21
      go_wp2_with fail
      go_ret
      exact ⟨rfl, rfl⟩
    · obtain rfl : r = false := by rw [hr]; simp [h1, h2]
      clear hr
      go_enter Try.func21, Try.ntmps21
      go_wp2_with fail
      go_ret
      exact ⟨rfl, rfl⟩
  · obtain rfl : r = false := by rw [hr]; simp [h1]
    clear hr
    go_enter Try.func21, Try.ntmps21
    go_wp2_with fail
    go_ret
    exact ⟨rfl, rfl⟩

/-- A range as a value; a reading as a value. -/
def whv (a b : Int) : Value := .agg #[.int .i64 a, .int .i64 b]
def rdv (r : Rdg) : Value := .agg #[.int .i64 r.L, .int .i64 r.lo, .int .i64 r.hi]

theorem okW_parts {a b : Int} {x y : Bool} (hx : inst a = x) (hy : inst b = y) (z : Bool) (hz : decide (a ≤ b) = z) : okW a b = (x && (y && z)) := by
  subst hx hy hz
  unfold okW inst
  by_cases h1 : 0 ≤ a ∧ a ≤ 3600000000 <;> by_cases h2 : 0 ≤ b ∧ b ≤ 3600000000 <;> by_cases h3 : a ≤ b <;> simp [h1, h2, h3]

set_option maxRecDepth 100000 in
set_option maxHeartbeats 1000000 in
theorem isRange_any (a b : Int) (w : World) : Calls Try.prog 28 #[.agg #[.int .i64 a, .int .i64 b]] w fun e w' => e = .returned (.bool (okW a b)) ∧ Below w.heap.size w w' := by
  have hB1 : Hid (Below w.heap.size w (w.alloc (.cells #[.int .i64 a, .int .i64 b] 45))) := (Below.refl _ _).alloc (Nat.le_refl _) _
  have p0 := (Blk.new w [.int .i64 a, .int .i64 b] 45).cell (j := 0) rfl
  have p1 := (Blk.new w [.int .i64 a, .int .i64 b] 45).cell (j := 1) rfl
  have C0 := Lib.hid (fun W => isInstant_any a W)
  have C1 := Lib.hid (fun W => isInstant_any b W)
  obtain ⟨x, hx⟩ : ∃ x, inst a = x := ⟨_, rfl⟩
  obtain ⟨y, hy⟩ : ∃ y, inst b = y := ⟨_, rfl⟩
  obtain ⟨z, hz⟩ : ∃ z, decide (a ≤ b) = z := ⟨_, rfl⟩
  have hR := Lib.hid (okW_parts hx hy z hz)
  rw [hR.out]
  clear hR
  rw [hx] at C0
  rw [hy] at C1
  clear hx hy
  cases x with
  | false =>
    go_enter Try.func28, Try.ntmps28
    go_wp2_with fail
    refine (C0.out _).mono ?_
    rintro e w' ⟨rfl, rfl⟩
    go_wp2_with fail
    go_ret
    exact ⟨rfl, hB1.out⟩
  | true =>
    cases y with
    | false =>
      go_enter Try.func28, Try.ntmps28
      go_wp2_with fail
      refine (C0.out _).mono ?_
      rintro e w' ⟨rfl, rfl⟩
      go_wp2_with fail
      refine (C1.out _).mono ?_
      rintro e w' ⟨rfl, rfl⟩
      go_wp2_with fail
      go_ret
      exact ⟨rfl, hB1.out⟩
    | true =>
      cases z with
      | false =>
        go_enter Try.func28, Try.ntmps28
        go_wp2_with fail
        refine (C0.out _).mono ?_
        rintro e w' ⟨rfl, rfl⟩
        go_wp2_with fail
        refine (C1.out _).mono ?_
        rintro e w' ⟨rfl, rfl⟩
        go_wp2_with fail
        go_ret
        exact ⟨rfl, hB1.out⟩
      | true =>
        go_enter Try.func28, Try.ntmps28
        go_wp2_with fail
        refine (C0.out _).mono ?_
        rintro e w' ⟨rfl, rfl⟩
        go_wp2_with fail
        refine (C1.out _).mono ?_
        rintro e w' ⟨rfl, rfl⟩
        go_wp2_with fail
        go_ret
        exact ⟨rfl, hB1.out⟩
end Go.Proofs.Ytbkgbjimooobbaa
