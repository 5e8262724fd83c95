/-
  Stage 10 (domain): domains in memory; contracts of isIndex and the tests of Check.
-/
import Derived.Test.YtelcaddgkjkegaaKc
import Derived.Test.YtelcaddgkjkegaaOpn
import Derived.Test.YtelcaddgkjkegaaDma
import Derived.Deep.QuietTactic
import Derived.BigQuiet
import Derived.WalkMore
namespace Go.Proofs.Ytelcaddgkjkegaa
set_option linter.unusedVariables false
set_option linter.unusedSimpArgs false
open Go.RowKit

/-- A rack as cells; racks as cells. -/
def rv (r : Int × Bool) : List Value := [iv r.1, .bool r.2]
def rflat (R : List (Int × Bool)) : List Value := R.flatMap rv
theorem rflat_len (R : List (Int × Bool)) : (rflat R).length = R.length * 2 := by
  unfold rflat
  induction R with
  | nil => rfl
  | cons r R ih => rw [List.flatMap_cons, List.length_append, ih, List.length_cons]; simp [rv]; omega
theorem rflat_at {R : List (Int × Bool)} {k : Nat} {r : Int × Bool} (h : R[k]? = some r) : (rflat R)[k * 2]? = some (iv r.1) ∧ (rflat R)[k * 2 + 1]? = some (.bool r.2) := by
  induction R generalizing k with
  | nil => simp at h
  | cons x R ih =>
    cases k with
    | zero =>
      obtain rfl : x = r := by simpa using h
      exact ⟨rfl, rfl⟩
    | succ k =>
      have := ih (k := k) (by simpa using h)
      rw [show (k + 1) * 2 = k * 2 + 2 by omega]
      have e : rflat (x :: R) = [iv x.1, .bool x.2] ++ rflat R := rfl
      rw [e, List.getElem?_append_right (by simp), List.getElem?_append_right (by simp)]
      exact ⟨by simpa using this.1, by rw [show k * 2 + 2 + 1 - [iv x.1, Value.bool x.2].length = k * 2 + 1 by simp]; exact this.2⟩
/-- Where the lists of domains lie. -/
structure Hd where
  a1 : Option Addr
  n1 : Nat
  c1 : Nat
  a2 : Option Addr
  n2 : Nat
  c2 : Nat
  a3 : Option Addr
  n3 : Nat
  c3 : Nat
  o : Int
def Hd.cells (h : Hd) : List Value := [.slice h.a1 h.n1 h.c1, .slice h.a2 h.n2 h.c2, .slice h.a3 h.n3 h.c3, .int .i64 h.o]
def Hd.val (h : Hd) : Value := .agg #[.slice h.a1 h.n1 h.c1, .slice h.a2 h.n2 h.c2, .slice h.a3 h.n3 h.c3, .int .i64 h.o]
/-- Domains in memory, below block B. -/
structure DomM (w : World) (B : Nat) (h : Hd) (d : Dm) : Prop where
  r1 : Rds w B h.a1 (d.D.map iv)
  r2 : Rds w B h.a2 (rflat d.R)
  r3 : Rds w B h.a3 (d.H.map iv)
  l1 : h.n1 = d.D.length
  l2 : h.n2 = d.R.length
  l3 : h.n3 = d.H.length
  k1 : h.n1 ≤ h.c1 ∧ h.c1 ≤ maxLen ∧ (h.a1 = none → h.c1 = 0)
  k2 : h.n2 ≤ h.c2 ∧ h.c2 ≤ maxLen ∧ (h.a2 = none → h.c2 = 0)
  k3 : h.n3 ≤ h.c3 ∧ h.c3 ≤ maxLen ∧ (h.a3 = none → h.c3 = 0)
  s1 : h.n1 ≤ 140737488355328
  s2 : h.n2 ≤ 140737488355328
  s3 : h.n3 ≤ 140737488355328
  eo : h.o = d.O
  le : B ≤ w.heap.size
  f1 : ∀ x ∈ d.D, Wm.Fits x
  f2 : ∀ r ∈ d.R, Wm.Fits r.1
  f3 : ∀ x ∈ d.H, Wm.Fits x
  f4 : Wm.Fits d.O
section
variable {w w' : World} {B B' : Nat} {h : Hd} {d : Dm}
theorem DomM.keep (m : DomM w B h d) (hb : Below B w w') : DomM w' B h d :=
  ⟨m.r1.below hb, m.r2.below hb, m.r3.below hb, m.l1, m.l2, m.l3, m.k1, m.k2, m.k3, m.s1, m.s2, m.s3, m.eo, Nat.le_trans m.le hb.size, m.f1, m.f2, m.f3, m.f4⟩
theorem DomM.below (m : DomM w B h d) (hb : Below w.heap.size w w') : DomM w' B h d := m.keep (hb.mono m.le)
theorem DomM.up (m : DomM w B h d) (hB : B ≤ B') (hw : B' ≤ w.heap.size) : DomM w B' h d :=
  ⟨m.r1.more hB, m.r2.more hB, m.r3.more hB, m.l1, m.l2, m.l3, m.k1, m.k2, m.k3, m.s1, m.s2, m.s3, m.eo, hw, m.f1, m.f2, m.f3, m.f4⟩
theorem DomM.disk (m : DomM w B h d) {k : Nat} (hk : k < d.D.length) : ∃ ad, h.a1 = some ad ∧ ad.block < B ∧ w.cell? (ad.add k) = some (.int .i64 (d.rk k)) := by
  refine m.r1.look (k := k) ?_
  rw [List.getElem?_map, List.getElem?_eq_getElem hk]
  unfold Dm.rk
  rw [List.getD_eq_getElem?_getD, List.getElem?_eq_getElem hk]
  rfl
theorem DomM.rack (m : DomM w B h d) {k : Nat} (hk : k < d.R.length) : ∃ ad, h.a2 = some ad ∧ ad.block < B ∧ w.cell? (ad.add (k * 2)) = some (.int .i64 (d.hsR k)) ∧ w.cell? (ad.add (k * 2 + 1)) = some (.bool (d.R.getD k (0, false)).2) := by
  have hr : d.R[k]? = some (d.R.getD k (0, false)) := by rw [List.getD_eq_getElem?_getD, List.getElem?_eq_getElem hk]; rfl
  obtain ⟨h1, h2⟩ := rflat_at hr
  obtain ⟨ad, e, hb, hc⟩ := m.r2.look h1
  obtain ⟨ad', e', _, hc'⟩ := m.r2.look h2
  rw [e] at e'
  obtain rfl := Option.some.inj e'
  exact ⟨ad, e, hb, by rw [hc]; unfold Dm.hsR; rw [Int.toNat_natCast]; rfl, hc'⟩
theorem DomM.house (m : DomM w B h d) {k : Nat} (hk : k < d.H.length) : ∃ ad, h.a3 = some ad ∧ ad.block < B ∧ w.cell? (ad.add k) = some (.int .i64 (d.owH k)) := by
  refine m.r3.look (k := k) ?_
  rw [List.getElem?_map, List.getElem?_eq_getElem hk]
  unfold Dm.owH
  rw [Int.toNat_natCast, List.getD_eq_getElem?_getD, List.getElem?_eq_getElem hk]
  rfl
end

theorem size_dom : (Try.prog.info? 25).map (·.size) = some 4 := by kernel_rfl
theorem row_dom : ∃ d, Try.prog.underlying 25 = some d ∧ d.isRow = true := ⟨_, Try.underlying25, rfl⟩
theorem size_rack : (Try.prog.info? 42).map (·.size) = some 2 := by kernel_rfl
theorem size_int : (Try.prog.info? 3).map (·.size) = some 1 := by kernel_rfl

set_option maxRecDepth 100000 in
theorem isIndex_any (n m : Int) (w : World) : Calls Try.prog 14 #[.int .i64 n, .int .i64 m] w fun e w' => e = .returned (.bool (inB n m)) ∧ w' = w := by
  obtain ⟨r, hr⟩ : ∃ r, r = inB n m := ⟨_, rfl⟩
  rw [← hr]
  unfold inB at hr
  by_cases h1 : 0 ≤ n
  · by_cases h2 : n < m
    · obtain rfl : r = true := by rw [hr]; simp [h1, h2]
      clear hr
      go_enter Try.func14, Try.ntmps14
      go_wp2_with fail
      go_ret
      exact ⟨rfl, rfl⟩
    · obtain rfl : r = false := by rw [hr]; simp [h1, h2]
      clear hr
      go_enter Try.func14, Try.ntmps14
      go_wp2_with fail
      go_ret
      exact ⟨rfl, rfl⟩
  · obtain rfl : r = false := by rw [hr]; simp [h1]
    clear hr
    go_enter Try.func14, Try.ntmps14
    go_wp2_with fail
    go_ret
    exact ⟨rfl, rfl⟩

set_option maxRecDepth 100000 in
theorem outside_any (x m : Int) (b : Nat) (w : World) (hb : w.cell? ⟨b, 0, none⟩ = some (.int .i64 m)) :
    Calls Try.prog 13 #[.int .i64 x, .pointer (some ⟨b, 0, none⟩)] w fun e w' => e = .returned (.bool (!inB x m)) ∧ w' = w := by
  have H := Lib.hid (isIndex_any x m w)
  generalize inB x m = r at *
  go_enter Try.func13, Try.ntmps13
  go_wp2_with fail
  refine H.out.mono ?_
  rintro e w' ⟨rfl, rfl⟩
  go_wp2_with fail
  go_ret
  exact ⟨rfl, rfl⟩

set_option maxRecDepth 100000 in
theorem strays_any {B : Nat} (r : Int × Bool) (h : Hd) (b : Nat) (w : World) (hb : Blk w b h.cells 25) :
    Calls Try.prog 15 #[.agg (rv r).toArray, .pointer (some ⟨b, 0, none⟩)] w fun e w' => e = .returned (.bool (!inB r.1 h.n3)) ∧ Below w.heap.size w w' := by
  obtain ⟨x, y⟩ := r
  have hB1 : Hid (Below w.heap.size w (w.alloc (.cells #[.int .i64 x, .bool y] 42))) := (Below.refl _ _).alloc (Nat.le_refl _) _
  have p0 := (Blk.new w [.int .i64 x, .bool y] 42).cell (j := 0) rfl
  have p2 := (hb.alloc (.cells #[.int .i64 x, .bool y] 42)).cell (j := 2) rfl
  have H := Lib.hid (isIndex_any x h.n3 (w.alloc (.cells #[.int .i64 x, .bool y] 42)))
  have hlt := hb.lt
  clear hb
  obtain ⟨a1, n1, c1, a2, n2, c2, a3, n3, c3, o⟩ := h
  dsimp only at *
  generalize inB x n3 = q at *
  show Calls Try.prog 15 #[.agg #[.int .i64 x, .bool y], .pointer (some ⟨b, 0, none⟩)] w _
  go_enter Try.func15, Try.ntmps15
  go_wp2_with fail
  refine H.out.mono ?_
  rintro e w' ⟨rfl, rfl⟩
  go_wp2_with fail
  go_ret
  exact ⟨rfl, hB1.out⟩
end Go.Proofs.Ytelcaddgkjkegaa
