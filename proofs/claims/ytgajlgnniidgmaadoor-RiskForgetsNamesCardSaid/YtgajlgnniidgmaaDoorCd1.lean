/-
  The mathematics of stairs: rows that begin with 1 in columns of their own, and what they take from a row. Contracts of stage 7: has, count, size, isSet, next, missing. Contracts of stage 7: checkGroups, Check, Pieces, Size, isSet. Contracts of stage 7: the bits of a set; the groups of a code, looked through one by one. Contracts of stage 7: Check, Pieces, Size. Contracts of stage 7: Pieces, Size. Contracts of stage 7: missing. Contracts of stage 7: (*stairs).full.
-/
import Derived.Test.YtgajlgnniidgmaaDoorRk
import Derived.Test.YtgajlgnniidgmaaDoorGfr
import Derived.Test.YtgajlgnniidgmaaDoorMrb
import Derived.Test.YtgajlgnniidgmaaDoorMyv
import Derived.Test.YtgajlgnniidgmaaDoorMq
import Derived.WalkMore
import Derived.Deep.LoopGhost
namespace Go.Proofs.YtgajlgnniidgmaaDoor
set_option linter.unusedVariables false
set_option linter.unusedSimpArgs false

/-- One step: the multiple of the row of column k is taken that stands there. -/
def lowS (st : Nat → List UInt8) (r : List UInt8) (k : Nat) : List UInt8 := addR (r.getD k 0) (st k) r
/-- The steps of n columns, from column f on. -/
def low (st : Nat → List UInt8) (r : List UInt8) (f n : Nat) : List UInt8 := (List.range' f n).foldl (lowS st) r
theorem lowS_len (st : Nat → List UInt8) (r : List UInt8) (k : Nat) : (lowS st r k).length = r.length := addR_len _ _ _
theorem low_zero (st : Nat → List UInt8) (r : List UInt8) (f : Nat) : low st r f 0 = r := rfl
theorem low_next (st : Nat → List UInt8) (r : List UInt8) (f n : Nat) : low st r f (n + 1) = lowS st (low st r f n) (f + n) := by
  unfold low
  rw [List.range'_concat, List.foldl_append]
  simp
theorem low_len (st : Nat → List UInt8) (r : List UInt8) (f : Nat) : ∀ n, (low st r f n).length = r.length
  | 0 => rfl
  | n + 1 => by rw [low_next, lowS_len, low_len st r f n]
/-- The rows are stairs: each one that is there begins with a 1 in its column. -/
structure Stc (st : Nat → List UInt8) (w len : Nat) : Prop where
  len : ∀ k, k < w → st k = [] ∨ (st k).length = len
  one : ∀ k, k < w → st k ≠ [] → (st k).getD k 0 = 1
  zero : ∀ k j, k < w → j < k → (st k).getD j 0 = 0
theorem Stc.le {st : Nat → List UInt8} {w len k : Nat} (h : Stc st w len) (hk : k < w) : (st k).length ≤ len := by
  rcases h.len k hk with e | e
  · rw [e]; exact Nat.zero_le _
  · rw [e]; exact Nat.le_refl _
theorem lowS_get {st : Nat → List UInt8} {w len k : Nat} (h : Stc st w len) (hk : k < w) {r : List UInt8} (hr : r.length = len) (j : Nat) : (lowS st r k).getD j 0 = r.getD j 0 ^^^ Gf.mul (r.getD k 0) ((st k).getD j 0) :=
  addR_getD _ _ _ _ (by rw [hr]; exact h.le hk)
/-- Columns before the first one stay. -/
theorem low_before {st : Nat → List UInt8} {w len f : Nat} (h : Stc st w len) {r : List UInt8} (hr : r.length = len) : ∀ n, f + n ≤ w → ∀ j, j < f → (low st r f n).getD j 0 = r.getD j 0
  | 0, _, j, _ => rfl
  | n + 1, hn, j, hj => by
    rw [low_next, lowS_get h (k := f + n) (by omega) (by rw [low_len]; exact hr), h.zero (f + n) j (by omega) (by omega), Gf.mul_zero, UInt8.xor_zero]
    exact low_before h hr n (by omega) j hj
/-- Behind the steps, the columns where a row begins are 0. -/
theorem low_done {st : Nat → List UInt8} {w len f : Nat} (h : Stc st w len) {r : List UInt8} (hr : r.length = len) : ∀ n, f + n ≤ w → ∀ k, f ≤ k → k < f + n → st k ≠ [] → (low st r f n).getD k 0 = 0
  | 0, _, k, h1, h2, _ => by omega
  | n + 1, hn, k, h1, h2, hk => by
    rw [low_next, lowS_get h (k := f + n) (by omega) (by rw [low_len]; exact hr)]
    by_cases e : k = f + n
    · subst e
      rw [h.one (f + n) (by omega) hk, Gf.mul_one, UInt8.xor_self]
    · rw [h.zero (f + n) k (by omega) (by omega), Gf.mul_zero, UInt8.xor_zero]
      exact low_done h hr n (by omega) k h1 (by omega) hk
/-- What is taken is a sum of multiples of the rows. -/
theorem low_sum {st : Nat → List UInt8} {w len f : Nat} (h : Stc st w len) {r : List UInt8} (hr : r.length = len) : ∀ n, f + n ≤ w → ∃ c : Nat → UInt8, ∀ j, (low st r f n).getD j 0 = r.getD j 0 ^^^ xsum n fun i => Gf.mul (c i) ((st (f + i)).getD j 0)
  | 0, _ => ⟨fun _ => 0, fun j => by rw [low_zero]; show _ = _ ^^^ (0 : UInt8); rw [UInt8.xor_zero]⟩
  | n + 1, hn => by
    obtain ⟨c, hc⟩ := low_sum (f := f) h hr n (by omega)
    refine ⟨fun i => if i = n then (low st r f n).getD (f + n) 0 else c i, fun j => ?_⟩
    rw [low_next, lowS_get h (k := f + n) (by omega) (by rw [low_len]; exact hr), hc j, xsum, UInt8.xor_assoc]
    congr 1
    simp only [if_true]
    congr 1
    refine xsum_congr fun i hi => ?_
    simp only [if_neg (show ¬ i = n by omega)]
theorem take_getD (p : List UInt8) (j i : Nat) : (p.take j).getD i 0 = if i < j then p.getD i 0 else 0 := by
  rw [List.getD_eq_getElem?_getD, List.getElem?_take]
  split
  · rw [List.getD_eq_getElem?_getD]
  · rfl
/-- A multiple of a row is added place by place. -/
theorem addR_next {c y : UInt8} {p r : List UInt8} {j : Nat} (hp : p[j]? = some y) (hl : p.length ≤ r.length) :
    (addR c (p.take j) r).set j ((addR c (p.take j) r).getD j 0 ^^^ Gf.mul c y) = addR c (p.take (j + 1)) r ∧ (addR c (p.take j) r).getD j 0 = r.getD j 0 := by
  have hj := (List.getElem?_eq_some_iff.1 hp).1
  have hy : p.getD j 0 = y := by rw [List.getD_eq_getElem?_getD, hp]; rfl
  have h1 : ∀ m i, (addR c (p.take m) r).getD i 0 = r.getD i 0 ^^^ Gf.mul c (if i < m then p.getD i 0 else 0) := fun m i => by
    rw [addR_getD _ _ _ _ (by rw [List.length_take]; omega), take_getD]
  have h2 : (addR c (p.take j) r).getD j 0 = r.getD j 0 := by rw [h1, if_neg (by omega), Gf.mul_zero, UInt8.xor_zero]
  refine ⟨row_ext (n := r.length) (by rw [List.length_set, addR_len]) (addR_len _ _ _) fun i hi => ?_, h2⟩
  rw [List.getD_eq_getElem?_getD, List.getElem?_set]
  by_cases e : j = i
  · subst e
    rw [if_pos rfl, if_pos (by rw [addR_len]; exact hi), h2, h1, if_pos (by omega), hy]
    rfl
  · rw [if_neg e, ← List.getD_eq_getElem?_getD, h1, h1]
    congr 2
    by_cases h : i < j
    · rw [if_pos h, if_pos (by omega)]
    · rw [if_neg h, if_neg (by omega)]
theorem addR_none (c : UInt8) (r : List UInt8) : addR c [] r = r := row_ext (n := r.length) (addR_len _ _ _) rfl fun i _ => by
  rw [addR_getD _ _ _ _ (Nat.zero_le _)]
  show _ ^^^ Gf.mul c 0 = _
  rw [Gf.mul_zero, UInt8.xor_zero]
end Go.Proofs.YtgajlgnniidgmaaDoor

namespace Go.Proofs.YtgajlgnniidgmaaDoor
set_option linter.unusedVariables false
set_option linter.unusedSimpArgs false
open Go.RowKit

theorem below_dN7 {B : Nat} {a w : World} (h : Below B a w) (n : Nat) : Below B a (w.drewN n) := ⟨h.os, h.tape, h.output, h.size, h.block⟩

theorem i64_and17 (n : Int) : bits .and .i64 n 1 = n % 2 := by
  have h1 : (BitVec.ofInt 64 1).toNat = 2 ^ 1 - 1 := by decide
  have key : (BitVec.ofInt 64 n &&& BitVec.ofInt 64 1).toNat = (n % ((2 ^ 64 : Nat) : Int)).toNat % 2 ^ 1 := by
    rw [BitVec.toNat_and, BitVec.toNat_ofInt, h1, Nat.and_two_pow_sub_one_eq_mod]
  show IntKind.i64.wrap ((BitVec.ofInt 64 n &&& BitVec.ofInt 64 1).toNat : Nat) = n % 2
  rw [key, IntKind.wrap_i64]
  omega
theorem bit_int7 (s k : Nat) : (bits BinOp.and IntKind.i64 ((s : Int) / 2 ^ k) 1 == 1) = s.testBit k := by
  have e : (s : Int) / 2 ^ k = ((s / 2 ^ k : Nat) : Int) := by rw [Int.natCast_ediv, Int.natCast_pow]; rfl
  rw [i64_and17, e, Nat.testBit_eq_decide_div_mod_eq]
  by_cases h : s / 2 ^ k % 2 = 1
  · rw [decide_eq_true h]
    simp only [beq_iff_eq]
    omega
  · rw [decide_eq_false h]
    simp only [beq_eq_false_iff_ne, ne_eq]
    omega

/-- A code, as a value. -/
def cdv (D : Int) (A : Option Addr) (n c : Nat) (G : Int) : Value := .agg #[.int .i64 D, .slice A n c, .int .i64 G]
theorem size_cod : (Tryd.prog.info? 24).map (·.size) = some 3 := by kernel_rfl
theorem row_cod : ∃ d, Tryd.prog.underlying 24 = some d ∧ d.isRow = true := ⟨_, Tryd.underlying24, rfl⟩

set_option maxRecDepth 100000 in
set_option maxHeartbeats 1000000 in
theorem has_any (s k : Nat) (w : World) (hk : k ≤ 64) : Calls Tryd.prog 75 #[.int .i64 s, .int .i64 k] w fun e w' => e = .returned (.bool (s.testBit k)) ∧ w' = w := by
  have hb := bit_int7 s k
  have hm : min k 64 = k := by omega
  have u1 : ¬ (k : Int) < 0 := by omega
  have u0 : 0 ≤ (k : Int) := by omega
  generalize s.testBit k = b at *
  go_enter Tryd.func75, Tryd.ntmps75
  go_wp2_with fail
  go_ret
  exact ⟨rfl, rfl⟩

set_option maxRecDepth 100000 in
set_option maxHeartbeats 1000000 in
theorem count_any (D n G c : Nat) (A : Option Addr) (w : World) (hD : D ≤ 16) (hG : G ≤ 4) (hn : n ≤ 140737488355328) :
    Calls Tryd.prog 56 #[cdv D A n c G] w fun e w' => e = .returned (.int .i64 ((D + n + G : Nat) : Int)) ∧ Below w.heap.size w w' := by
  obtain ⟨s, hs⟩ : ∃ s, s = D + n := ⟨_, rfl⟩
  obtain ⟨r, hr⟩ : ∃ r, r = D + n + G := ⟨_, rfl⟩
  have e1 : (D : Int) + (n : Int) = (s : Int) := by omega
  have e2 : (s : Int) + (G : Int) = (r : Int) := by omega
  have f1 : IntKind.i64.wrap (s : Int) = (s : Int) := by rw [IntKind.wrap_i64]; omega
  have f2 : IntKind.i64.wrap (r : Int) = (r : Int) := by rw [IntKind.wrap_i64]; omega
  have hB : ∀ o, Below w.heap.size w (w.alloc o) := fun o => (Below.refl _ _).alloc (Nat.le_refl _) _
  have hk : Blk (w.alloc (.cells #[.int .i64 D, .slice A n c, .int .i64 G] 24)) w.heap.size [.int .i64 D, .slice A n c, .int .i64 G] 24 := Blk.new _ [_, _, _] _
  have p0 := hk.cell (j := 0) rfl
  have p1 := hk.cell (j := 1) rfl
  have p2 := hk.cell (j := 2) rfl
  rw [← hr]
  clear hk hs hr
  unfold cdv
  go_enter Tryd.func56, Tryd.ntmps56
  go_wp2_with fail
  go_ret
  exact ⟨rfl, hB _⟩

end Go.Proofs.YtgajlgnniidgmaaDoor

namespace Go.Proofs.YtgajlgnniidgmaaDoor
set_option linter.unusedVariables false
set_option linter.unusedSimpArgs false
open Go.RowKit

/-- A group, as a list that is read; the groups of a code. -/
def RowI (W : World) (B : Nat) (v : Value) (g : List Int) : Prop := ∃ a c, v = .slice a g.length c ∧ g.length ≤ c ∧ c ≤ maxLen ∧ (a = none → c = 0) ∧ Rds W B a (g.map iv)
def GrpM (W : World) (B : Nat) (A : Option Addr) (Gs : List (List Int)) : Prop := ∃ vs : List Value, vs.length = Gs.length ∧ Rds W B A vs ∧ ∀ (i : Nat) (v : Value) (g : List Int), vs[i]? = some v → Gs[i]? = some g → RowI W B v g
theorem RowI.below {W W' : World} {B : Nat} {v : Value} {g : List Int} (h : RowI W B v g) (hb : Below B W W') : RowI W' B v g := by
  obtain ⟨a, c, h1, h2, h3, h4, h5⟩ := h
  exact ⟨a, c, h1, h2, h3, h4, h5.below hb⟩
theorem GrpM.below {W W' : World} {B : Nat} {A : Option Addr} {Gs : List (List Int)} (h : GrpM W B A Gs) (hb : Below B W W') : GrpM W' B A Gs := by
  obtain ⟨vs, h1, h2, h3⟩ := h
  exact ⟨vs, h1, h2.below hb, fun i v g hv hg => (h3 i v g hv hg).below hb⟩
theorem GrpM.at {W : World} {B : Nat} {A : Option Addr} {Gs : List (List Int)} (h : GrpM W B A Gs) {i : Nat} {g : List Int} (hi : Gs[i]? = some g) : ∃ ad v, A = some ad ∧ ad.block < B ∧ W.cell? (ad.add i) = some v ∧ RowI W B v g := by
  obtain ⟨vs, h1, h2, h3⟩ := h
  obtain ⟨v, hv⟩ : ∃ v, vs[i]? = some v := ⟨_, List.getElem?_eq_getElem (by rw [h1]; exact (List.getElem?_eq_some_iff.1 hi).1)⟩
  obtain ⟨ad, e1, e2, e3⟩ := h2.look hv
  exact ⟨ad, v, e1, e2, e3, h3 i v g hv hi⟩
/-- A group's members, one by one: the set of those that have come, or nothing. -/
def grp1 (D : Nat) : Nat → Int → List Int → Option Nat
  | used, _, [] => some used
  | used, last, i :: g => if i ≤ last ∨ i ≥ D ∨ used.testBit i.toNat = true then none else grp1 D (used ||| 1 <<< i.toNat) i g
/-- The first error of groups. -/
def grpE (D : Nat) : Nat → List (List Int) → Int
  | _, [] => 0
  | used, g :: Gs => if g = [] then 8 else match grp1 D used (-1) g with
    | none => 1
    | some u => grpE D u Gs

set_option maxRecDepth 100000 in
set_option maxHeartbeats 1000000 in
theorem isSet_any (D n G c : Nat) (m : Int) (A : Option Addr) (w : World) (hD : D ≤ 16) (hG : G ≤ 4) (hn : n ≤ 40) :
    Calls Tryd.prog 68 #[cdv D A n c G, .int .i64 m] w fun e w' => e = .returned (.bool (m / 2 ^ (D + n + G) == 0)) ∧ Below w.heap.size w w' := by
  have hB : Below w.heap.size w (w.alloc (.cells #[.int .i64 D, .slice A n c, .int .i64 G] 24)) := (Below.refl _ _).alloc (Nat.le_refl _) _
  have hk : Blk (w.alloc (.cells #[.int .i64 D, .slice A n c, .int .i64 G] 24)) w.heap.size [.int .i64 D, .slice A n c, .int .i64 G] 24 := Blk.new _ [_, _, _] _
  have p0 := hk.cell (j := 0) rfl
  have p1 := hk.cell (j := 1) rfl
  have p2 := hk.cell (j := 2) rfl
  clear hk
  unfold cdv
  obtain ⟨r, hr⟩ : ∃ r, r = D + n + G := ⟨_, rfl⟩
  rw [← hr]
  go_enter Tryd.func68, Tryd.ntmps68
  go_wp2_with fail
  refine (count_any D n G c A _ hD hG (by omega)).mono ?_
  rintro e v1 ⟨rfl, hb⟩
  have hb := hB.trans (hb.mono (by rw [World.alloc]; simp))
  rw [← hr]
  have u1 : ¬ (r : Int) < 0 := by omega
  have u0 : 0 ≤ (r : Int) := by omega
  have hm : min r 64 = r := by omega
  clear hr
  go_wp2_with fail
  go_ret
  exact ⟨rfl, hb⟩
end Go.Proofs.YtgajlgnniidgmaaDoor

namespace Go.Proofs.YtgajlgnniidgmaaDoor
set_option linter.unusedVariables false
set_option linter.unusedSimpArgs false
open Go.RowKit
theorem i64_or (a b : Nat) (ha : a < 4294967296) (hb : b < 4294967296) : bits BinOp.or IntKind.i64 (a : Int) (b : Int) = ((a ||| b : Nat) : Int) := by
  have hx : a ||| b < 2 ^ 32 := Nat.or_lt_two_pow (by omega) (by omega)
  have h1 : (BitVec.ofInt 64 (a : Int)).toNat = a := by
    rw [BitVec.ofInt_natCast, BitVec.toNat_ofNat]; exact Nat.mod_eq_of_lt (by omega)
  have h2 : (BitVec.ofInt 64 (b : Int)).toNat = b := by
    rw [BitVec.ofInt_natCast, BitVec.toNat_ofNat]; exact Nat.mod_eq_of_lt (by omega)
  show IntKind.i64.wrap ((BitVec.ofInt 64 (a : Int) ||| BitVec.ofInt 64 (b : Int)).toNat : Int) = _
  rw [BitVec.toNat_or, h1, h2, IntKind.wrap_i64]
  omega
/-- A piece comes into a set. -/
theorem set_or (u i : Nat) (hu : u < 65536) (hi : i < 16) : bits BinOp.or IntKind.i64 (u : Int) (wrap64 ((2 : Int) ^ i)) = ((u ||| 1 <<< i : Nat) : Int) ∧ u ||| 1 <<< i < 65536 := by
  have h : 1 <<< i < 65536 := by
    rw [Nat.one_shiftLeft]
    exact Nat.lt_of_lt_of_le (Nat.pow_lt_pow_right (by omega) hi) (by decide)
  have e : (2 : Int) ^ i = ((1 <<< i : Nat) : Int) := by rw [Nat.one_shiftLeft, Int.natCast_pow]; rfl
  rw [e]
  clear e
  generalize 1 <<< i = q at *
  have f : wrap64 (q : Int) = (q : Int) := by unfold wrap64; omega
  rw [f]
  exact ⟨i64_or _ _ (by omega) (by omega), Nat.or_lt_two_pow (n := 16) hu h⟩

set_option maxRecDepth 100000 in
set_option maxHeartbeats 4000000 in
theorem checkGroups_any {B : Nat} (D : Nat) (Gs : List (List Int)) (G : Int) (n c : Nat) (A : Option Addr) (w : World) (hM : GrpM w B A Gs) (hBw : B ≤ w.heap.size) (hn : n = Gs.length) (hn2 : n ≤ 140737488355328) (hD : D ≤ 16)
    (hr : ∀ g ∈ Gs, ∀ v ∈ g, -9223372036854775808 ≤ v ∧ v ≤ 9223372036854775807) :
    Calls Tryd.prog 57 #[cdv D A n c G] w fun e w' => e = .returned (.int .i64 (grpE D 0 Gs)) ∧ Below w.heap.size w w' := by
  obtain ⟨W1, hW1⟩ : ∃ W1, W1 = w.alloc (.cells #[.int .i64 D, .slice A n c, .int .i64 G] 24) := ⟨_, rfl⟩
  have hB1 : Hid (Below w.heap.size w W1) := by show Below _ _ _; rw [hW1]; exact (Below.refl _ _).alloc (Nat.le_refl _) _
  have hR1 : Hid (Blk W1 w.heap.size [.int .i64 D, .slice A n c, .int .i64 G] 24) := by show Blk _ _ _ _; rw [hW1]; exact Blk.new _ [_, _, _] _
  have hW1' := Lib.hid hW1
  have hM' := Lib.hid (hM.below (hB1.out.mono hBw))
  have hn' := Lib.hid hn
  have hr' := Lib.hid hr
  have p0 := hR1.out.cell (j := 0) rfl
  have p1 := hR1.out.cell (j := 1) rfl
  clear hW1 hM hn hr hBw
  unfold cdv
  obtain ⟨Ex, hEx⟩ : ∃ E : Int, E = grpE D 0 Gs := ⟨_, rfl⟩
  rw [← hEx]
  go_enter Tryd.func57, Tryd.ntmps57
  go_wp2_with fail
  generalize hg : w.alloc _ = Wg
  have hgW : W1 = Wg := by rw [← hg, hW1'.out]
  clear hg hW1'
  subst hgW
  go_step3
  go_wp2_with fail
  go_step3
  go_wp2_with fail
  go_loopg [3, 4, 13] n (fun g s3 s4 s13 wx => ∃ k u : Nat, k + g = n ∧ s3 = .int .i64 0 ∧ s13 = .int .i64 k ∧ s4 = .int .i64 u ∧ u < 65536 ∧ Hid (Ex = grpE D u (Gs.drop k)) ∧ wx = W1)
  case atStart => exact ⟨0, 0, by omega, rfl, rfl, rfl, by omega, hEx, rfl⟩
  case round =>
    obtain ⟨k, u, hkg, rfl, rfl, rfl, hu, hI, rfl⟩ := hrel
    clear hEx
    obtain ⟨og, hog⟩ : ∃ og, og = gk := ⟨_, rfl⟩
    subst hog
    cases og with
    | zero =>
      have hkz : ¬ ((k : Int) < (n : Int)) := by omega
      have hz : Ex = 0 := by
        rw [hI.out, List.drop_eq_nil_of_le (by have := hn'.out; omega)]; rfl
      go_wp2_with fail
      try rw [Exit.noGoto_ret]
      go_ret
      rw [hz]
      exact ⟨rfl, hB1.out⟩
    | succ og =>
      have hkz : (k : Int) < (n : Int) := by omega
      obtain ⟨g, hg⟩ : ∃ g, Gs[k]? = some g := ⟨_, List.getElem?_eq_getElem (by have := hn'.out; omega)⟩
      have hdrop : Gs.drop k = g :: Gs.drop (k + 1) := by rw [List.drop_eq_getElem_cons (List.getElem?_eq_some_iff.1 hg).1, (List.getElem?_eq_some_iff.1 hg).2]
      obtain ⟨ad, v, rfl, hab, hcv, a, ca, rfl, hgl, hcl, hca, hrd⟩ := hM'.out.at hg
      by_cases hg0 : g = []
      · have hz : Ex = 8 := by rw [hI.out, hdrop, grpE, if_pos hg0]
        have hl0 : g.length = 0 := by rw [hg0]; rfl
        rw [hl0] at hcv
        go_wp2_with fail
        try rw [Exit.noGoto_ret]
        go_ret
        rw [hz]
        exact ⟨rfl, hB1.out⟩
      · obtain ⟨l, hl⟩ : ∃ l, l = g.length := ⟨_, rfl⟩
        have hlp : 0 < l := by rw [hl]; exact List.length_pos_iff.2 hg0
        rw [← hl] at hcv
        have hl2 : ¬ (l : Int) = 0 := by omega
        have hl3 : ((l : Int) == 0) = false := by simp only [beq_eq_false_iff_ne, ne_eq]; omega
        have hlm : Hid (l = g.length) := hl
        have hlx : l ≤ maxLen := by rw [hl]; omega
        unfold maxLen at hlx
        clear hl
        go_wp2_with fail
        obtain ⟨wo, hwo⟩ : ∃ wo, wo = wr := ⟨_, rfl⟩
        subst hwo
        go_loopg [3, 4, 7, 22] l (fun gi s3 s4 s7 s22 wx => ∃ (m u' : Nat) (last : Int), m + gi = l ∧ s3 = .int .i64 0 ∧ s22 = .int .i64 m ∧ s4 = .int .i64 u' ∧ s7 = .int .i64 last ∧ u' < 65536 ∧ -1 ≤ last ∧ Hid (grp1 D u (-1) g = grp1 D u' last (g.drop m)) ∧ wx = wo)
        case atStart => exact ⟨0, u, -1, by omega, rfl, rfl, rfl, rfl, hu, by omega, rfl, rfl⟩
        case round =>
          obtain ⟨m, u', last, hmg, rfl, rfl, rfl, rfl, hu', hla, hG, rfl⟩ := hrel
          cases gk with
          | zero =>
            have hmz : ¬ ((m : Int) < (l : Int)) := by omega
            have hs : grp1 D u (-1) g = some u' := by
              rw [hG.out, List.drop_eq_nil_of_le (by have := hlm.out; omega)]; rfl
            have hE : Hid (Ex = grpE D u' (Gs.drop (k + 1))) := by
              show Ex = _
              rw [hI.out, hdrop, grpE, if_neg hg0, hs]
            clear hdrop hs
            go_wp2_with fail
            go_roundg og
            case measure => omega
            case rel => first | exact ⟨k + 1, u', by omega, rfl, by go_num, rfl, hu', hE, rfl⟩ | exact ⟨_, _, _, ⟨k + 1, u', by omega, rfl, by go_num, rfl, hu', hE, rfl⟩, rfl, rfl, rfl⟩
          | succ gk =>
            have hmz : (m : Int) < (l : Int) := by omega
            obtain ⟨x, hx⟩ : ∃ x, g[m]? = some x := ⟨_, List.getElem?_eq_getElem (by have := hlm.out; omega)⟩
            have hdm : g.drop m = x :: g.drop (m + 1) := by rw [List.drop_eq_getElem_cons (List.getElem?_eq_some_iff.1 hx).1, (List.getElem?_eq_some_iff.1 hx).2]
            obtain ⟨bd, rfl, hbb, hcb⟩ := hrd.look (k := m) (u := iv x) (by rw [List.getElem?_map, hx]; rfl)
            unfold iv at hcb
            have hno : x ≤ last ∨ x ≥ D ∨ u'.testBit x.toNat = true → Ex = 1 := by
              intro h
              rw [hI.out, hdrop, grpE, if_neg hg0, hG.out, hdm, grp1, if_pos h]
            by_cases h1 : x ≤ last
            · have hz := hno (Or.inl h1)
              clear hno hdm hdrop
              go_wp2_with fail
              try rw [Exit.noGoto_ret]
              go_ret
              rw [hz]
              exact ⟨rfl, hB1.out⟩
            · obtain ⟨i, rfl⟩ : ∃ i : Nat, x = i := ⟨x.toNat, by omega⟩
              by_cases h2 : (i : Int) ≥ D
              · have hz := hno (Or.inr (Or.inl h2))
                clear hno hdm hdrop
                go_wp2_with fail
                try rw [Exit.noGoto_ret]
                go_ret
                rw [hz]
                exact ⟨rfl, hB1.out⟩
              · have hi16 : i < 16 := by omega
                cases hb : u'.testBit i with
                | true =>
                  have hz := hno (Or.inr (Or.inr hb))
                  clear hno hdm hdrop
                  have hc := has_any u' i wr (by omega)
                  rw [hb] at hc
                  go_wp2_with fail
                  refine hc.mono ?_
                  rintro e v1 ⟨rfl, rfl⟩
                  go_wp2_with fail
                  try rw [Exit.noGoto_ret]
                  go_ret
                  rw [hz]
                  exact ⟨rfl, hB1.out⟩
                | false =>
                  have hc := has_any u' i wr (by omega)
                  rw [hb] at hc
                  obtain ⟨hw, s2⟩ := set_or u' i hu' hi16
                  have hs : Hid (grp1 D u (-1) g = grp1 D (u' ||| 1 <<< i) i (g.drop (m + 1))) := by
                    show _ = _
                    rw [hG.out, hdm, grp1, if_neg (by rw [Int.toNat_natCast, hb]; simp only [Bool.false_eq_true, or_false]; omega), Int.toNat_natCast]
                  have i0 : ¬ (i : Int) < 0 := by omega
                  have i1 : 0 ≤ (i : Int) := by omega
                  have i2 : min i 64 = i := by omega
                  generalize u' ||| 1 <<< i = u2 at *
                  clear hno hdm hb
                  go_wp2_with fail
                  refine hc.mono ?_
                  rintro e v1 ⟨rfl, rfl⟩
                  go_wp2_with fail
                  go_roundg gk
                  case measure => omega
                  case rel => exact ⟨m + 1, u2, i, by omega, rfl, by first | (go_num; done) | (show Value.int _ (wrap64 _) = _; congr 1; unfold wrap64; omega), by first | rfl | rw [hw], rfl, s2, by omega, hs, rfl⟩
end Go.Proofs.YtgajlgnniidgmaaDoor

namespace Go.Proofs.YtgajlgnniidgmaaDoor
set_option linter.unusedVariables false
set_option linter.unusedSimpArgs false
open Go.RowKit

/-- The first error of a code. -/
def chkE (D : Int) (Gs : List (List Int)) (G : Int) : Int :=
  if D < 1 ∨ D > 16 ∨ G < 0 ∨ G > 4 then 3 else if D + (Gs.length : Int) + G > 24 then 2 else grpE D.toNat 0 Gs
/-- A code, as it lies in memory. -/
structure CodM (W : World) (B : Nat) (D : Int) (A : Option Addr) (n c : Nat) (G : Int) (Gs : List (List Int)) : Prop where
  m : GrpM W B A Gs
  le : B ≤ W.heap.size
  len : n = Gs.length
  small : n ≤ 140737488355328
  rng : ∀ g ∈ Gs, ∀ v ∈ g, -9223372036854775808 ≤ v ∧ v ≤ 9223372036854775807
theorem CodM.keep {W W' : World} {B : Nat} {D : Int} {A : Option Addr} {n c : Nat} {G : Int} {Gs : List (List Int)} (h : CodM W B D A n c G Gs) (hb : Below W.heap.size W W') : CodM W' B D A n c G Gs :=
  ⟨h.m.below (hb.mono h.le), Nat.le_trans h.le hb.size, h.len, h.small, h.rng⟩

set_option maxRecDepth 100000 in
set_option maxHeartbeats 4000000 in
theorem ccheck_any {B : Nat} (D G : Int) (Gs : List (List Int)) (n c : Nat) (A : Option Addr) (w : World) (hM : CodM w B D A n c G Gs) :
    Calls Tryd.prog 41 #[cdv D A n c G] w fun e w' => e = .returned (.int .i64 (chkE D Gs G)) ∧ Below w.heap.size w w' := by
  obtain ⟨W1, hW1⟩ : ∃ W1, W1 = w.alloc (.cells #[.int .i64 D, .slice A n c, .int .i64 G] 24) := ⟨_, rfl⟩
  have hB1 : Hid (Below w.heap.size w W1) := by show Below _ _ _; rw [hW1]; exact (Below.refl _ _).alloc (Nat.le_refl _) _
  have hR1 : Hid (Blk W1 w.heap.size [.int .i64 D, .slice A n c, .int .i64 G] 24) := by show Blk _ _ _ _; rw [hW1]; exact Blk.new _ [_, _, _] _
  have hM' := Lib.hid (hM.keep hB1.out)
  have p0 := hR1.out.cell (j := 0) rfl
  have p1 := hR1.out.cell (j := 1) rfl
  have p2 := hR1.out.cell (j := 2) rfl
  subst hW1
  clear hM
  obtain ⟨Ex, hEx⟩ : ∃ E : Int, E = chkE D Gs G := ⟨_, rfl⟩
  rw [← hEx]
  unfold chkE at hEx
  have hE := Lib.hid hEx
  clear hEx
  unfold cdv
  by_cases h1 : D < 1
  · go_enter Tryd.func41, Tryd.ntmps41
    go_wp2_with fail
    go_ret
    rw [hE.out, if_pos (by omega)]
    exact ⟨rfl, hB1.out⟩
  by_cases h2 : D > 16
  · go_enter Tryd.func41, Tryd.ntmps41
    go_wp2_with fail
    go_ret
    rw [hE.out, if_pos (by omega)]
    exact ⟨rfl, hB1.out⟩
  by_cases h3 : G < 0
  · go_enter Tryd.func41, Tryd.ntmps41
    go_wp2_with fail
    go_ret
    rw [hE.out, if_pos (by omega)]
    exact ⟨rfl, hB1.out⟩
  by_cases h4 : G > 4
  · go_enter Tryd.func41, Tryd.ntmps41
    go_wp2_with fail
    go_ret
    rw [hE.out, if_pos (by omega)]
    exact ⟨rfl, hB1.out⟩
  obtain ⟨d, rfl⟩ : ∃ d : Nat, D = d := ⟨D.toNat, by omega⟩
  obtain ⟨q, rfl⟩ : ∃ q : Nat, G = q := ⟨G.toNat, by omega⟩
  have hd : d ≤ 16 := by omega
  have hq : q ≤ 4 := by omega
  have hE2 : Hid (Ex = if d + n + q > 24 then 2 else grpE d 0 Gs) := by
    show _ = _
    rw [hE.out, if_neg (by omega), Int.toNat_natCast, ← hM'.out.len]
    by_cases h : d + n + q > 24
    · rw [if_pos h, if_pos (by omega)]
    · rw [if_neg h, if_neg (by omega)]
  clear hE
  have cC := count_any d n q c A (w.alloc (.cells #[.int .i64 d, .slice A n c, .int .i64 q] 24)) hd hq hM'.out.small
  unfold cdv at cC
  obtain ⟨r, hr⟩ : ∃ r, r = d + n + q := ⟨_, rfl⟩
  rw [← hr] at hE2 cC
  clear hr
  by_cases h5 : r > 24
  · have h5' : (r : Int) > 24 := by omega
    go_enter Tryd.func41, Tryd.ntmps41
    go_wp2_with fail
    refine cC.mono ?_
    rintro e v1 ⟨rfl, hb⟩
    have hb2 := Lib.hid (hB1.out.trans (hb.mono hB1.out.size))
    clear hb
    go_wp2_with fail
    go_ret
    rw [hE2.out, if_pos h5]
    exact ⟨rfl, hb2.out⟩
  · have h5' : ¬ (r : Int) > 24 := by omega
    go_enter Tryd.func41, Tryd.ntmps41
    go_wp2_with fail
    refine cC.mono ?_
    rintro e v1 ⟨rfl, hb⟩
    have hb2 := Lib.hid (hB1.out.trans (hb.mono hB1.out.size))
    have hk := hR1.out.below hb hR1.out.lt
    replace p0 := hk.cell (j := 0) rfl
    replace p1 := hk.cell (j := 1) rfl
    replace p2 := hk.cell (j := 2) rfl
    have hm := hM'.out.keep hb
    have cG := checkGroups_any d Gs q n c A v1 hm.m hm.le hm.len hm.small hd hm.rng
    unfold cdv at cG
    clear hb hk hm
    go_wp2_with fail
    refine cG.mono ?_
    rintro e v2 ⟨rfl, hb⟩
    have hb3 := Lib.hid (hb2.out.trans (hb.mono hb2.out.size))
    have hz : Ex = grpE d 0 Gs := by rw [hE2.out, if_neg h5]
    clear hb
    go_wp2_with fail
    go_ret
    rw [hz]
    exact ⟨rfl, hb3.out⟩
end Go.Proofs.YtgajlgnniidgmaaDoor

namespace Go.Proofs.YtgajlgnniidgmaaDoor
set_option linter.unusedVariables false
set_option linter.unusedSimpArgs false
open Go.RowKit

/-- A code without an error has numbers within their bounds. -/
theorem cchk_ok {D G : Int} {Gs : List (List Int)} (h : chkE D Gs G = 0) : 1 ≤ D ∧ D ≤ 16 ∧ 0 ≤ G ∧ G ≤ 4 ∧ D + Gs.length + G ≤ 24 ∧ grpE D.toNat 0 Gs = 0 := by
  unfold chkE at h
  by_cases h1 : D < 1 ∨ D > 16 ∨ G < 0 ∨ G > 4
  · rw [if_pos h1] at h; omega
  rw [if_neg h1] at h
  by_cases h2 : D + (Gs.length : Int) + G > 24
  · rw [if_pos h2] at h; omega
  rw [if_neg h2] at h
  exact ⟨by omega, by omega, by omega, by omega, by omega, h⟩

set_option maxRecDepth 100000 in
set_option maxHeartbeats 4000000 in
theorem pieces_any {B : Nat} (D G : Int) (Gs : List (List Int)) (n c : Nat) (A : Option Addr) (w : World) (hM : CodM w B D A n c G Gs) :
    Calls Tryd.prog 42 #[cdv D A n c G] w fun e w' => e = .returned (.int .i64 (if chkE D Gs G = 0 then D + Gs.length + G else 0)) ∧ Below w.heap.size w w' := by
  obtain ⟨W1, hW1⟩ : ∃ W1, W1 = w.alloc (.cells #[.int .i64 D, .slice A n c, .int .i64 G] 24) := ⟨_, rfl⟩
  have hB1 : Hid (Below w.heap.size w W1) := by show Below _ _ _; rw [hW1]; exact (Below.refl _ _).alloc (Nat.le_refl _) _
  have hR1 : Hid (Blk W1 w.heap.size [.int .i64 D, .slice A n c, .int .i64 G] 24) := by show Blk _ _ _ _; rw [hW1]; exact Blk.new _ [_, _, _] _
  have hM' := Lib.hid (hM.keep hB1.out)
  have p0 := hR1.out.cell (j := 0) rfl
  have p1 := hR1.out.cell (j := 1) rfl
  have p2 := hR1.out.cell (j := 2) rfl
  have cK := ccheck_any D G Gs n c A W1 hM'.out
  subst hW1
  clear hM
  obtain ⟨Ex, hEx⟩ : ∃ E : Int, E = chkE D Gs G := ⟨_, rfl⟩
  rw [← hEx] at cK ⊢
  unfold cdv at cK ⊢
  by_cases h0 : Ex = 0
  · subst h0
    obtain ⟨b1, b2, b3, b4, b5, _⟩ := cchk_ok hEx.symm
    obtain ⟨d, rfl⟩ : ∃ d : Nat, D = d := ⟨D.toNat, by omega⟩
    obtain ⟨q, rfl⟩ : ∃ q : Nat, G = q := ⟨G.toNat, by omega⟩
    have hl := hM'.out.len
    have hd : d ≤ 16 := by omega
    have hq : q ≤ 4 := by omega
    have hs : Hid (((d + n + q : Nat) : Int) = (d : Int) + Gs.length + q) := by show _ = _; omega
    obtain ⟨r, hr⟩ : ∃ r, r = d + n + q := ⟨_, rfl⟩
    rw [if_pos rfl, ← hs.out, ← hr]
    clear hs b5 hl hEx
    go_enter Tryd.func42, Tryd.ntmps42
    go_wp2_with fail
    refine cK.mono ?_
    rintro e v1 ⟨rfl, hb⟩
    have hb2 := Lib.hid (hB1.out.trans (hb.mono hB1.out.size))
    have hk := hR1.out.below hb hR1.out.lt
    replace p0 := hk.cell (j := 0) rfl
    replace p1 := hk.cell (j := 1) rfl
    replace p2 := hk.cell (j := 2) rfl
    have cC := count_any d n q c A v1 hd hq hM'.out.small
    unfold cdv at cC
    rw [← hr] at cC
    clear hr
    clear hb hk
    go_wp2_with fail
    refine cC.mono ?_
    rintro e v2 ⟨rfl, hb⟩
    have hb3 := Lib.hid (hb2.out.trans (hb.mono hb2.out.size))
    clear hb
    go_wp2_with fail
    go_ret
    exact ⟨rfl, hb3.out⟩
  · rw [if_neg h0]
    have h0' : (Ex == 0) = false := by simp only [beq_eq_false_iff_ne, ne_eq]; exact h0
    clear hEx
    go_enter Tryd.func42, Tryd.ntmps42
    go_wp2_with fail
    refine cK.mono ?_
    rintro e v1 ⟨rfl, hb⟩
    have hb2 := Lib.hid (hB1.out.trans (hb.mono hB1.out.size))
    clear hb
    go_wp2_with fail
    go_ret
    exact ⟨rfl, hb2.out⟩

end Go.Proofs.YtgajlgnniidgmaaDoor

namespace Go.Proofs.YtgajlgnniidgmaaDoor
set_option linter.unusedVariables false
set_option linter.unusedSimpArgs false
open Go.RowKit

/-- The data pieces below n that are not in a set. -/
def misL (s n : Nat) : List Nat := (List.range n).filter fun i => !s.testBit i
theorem misL_yes {s k : Nat} (h : s.testBit k = false) : misL s (k + 1) = misL s k ++ [k] := by
  unfold misL; rw [List.range_succ, List.filter_append]; simp [h]
theorem misL_no {s k : Nat} (h : s.testBit k = true) : misL s (k + 1) = misL s k := by
  unfold misL; rw [List.range_succ, List.filter_append]; simp [h]
theorem misL_len (s k : Nat) : (misL s k).length ≤ k := by
  have := List.length_filter_le (fun i => !s.testBit i) (List.range k)
  rw [List.length_range] at this
  exact this

set_option maxRecDepth 100000 in
set_option maxHeartbeats 4000000 in
theorem missing_any (D n c s : Nat) (G : Int) (A : Option Addr) (w : World) (hD : D ≤ 16) :
    Calls Tryd.prog 79 #[cdv D A n c G, .int .i64 s] w fun e w' => ∃ v, e = .returned v ∧ OwnP w' w.heap.size v (misL s D) ∧ Below w.heap.size w w' := by
  obtain ⟨W1, hW1⟩ : ∃ W1, W1 = w.alloc (.cells #[.int .i64 D, .slice A n c, .int .i64 G] 24) := ⟨_, rfl⟩
  have hB1 : Hid (Below w.heap.size w W1) := by show Below _ _ _; rw [hW1]; exact (Below.refl _ _).alloc (Nat.le_refl _) _
  have hR1 : Hid (Blk W1 w.heap.size [.int .i64 D, .slice A n c, .int .i64 G] 24) := by show Blk _ _ _ _; rw [hW1]; exact Blk.new _ [_, _, _] _
  have p0 := hR1.out.cell (j := 0) rfl
  obtain ⟨i0, hi, hz0, hz1, hz2⟩ := info_parts infoInt
  obtain ⟨wm, hmk, hom, hgm⟩ := run_make_own (P := Tryd.prog) (w := W1) w.heap.size 25 3 i0 (.int .i64 0) 1 Tryd.underlying25 hi hz0 hz1 .i64 .i64 D (by rw [hz2]; omega) (by unfold maxLen; omega) hB1.out.size
  have hBm0 : Hid (Below W1.heap.size W1 wm) := (Below.refl _ _).grown hgm (Nat.le_refl _) (by simp)
  have hBm : Hid (Below w.heap.size w wm) := hB1.out.trans (hBm0.out.mono hB1.out.size)
  have q0 := (hR1.out.below hBm0.out hR1.out.lt).cell (j := 0) rfl
  have hOm : Hid (OwnP wm w.heap.size (.slice (some ⟨w.heap.size + 1, 0, none⟩) 0 D) (misL s 0)) := by
    have e : W1.heap.size = w.heap.size + 1 := by rw [hW1]; exact Array.size_push _
    rw [e] at hom
    exact hom
  subst hW1
  clear hi hz0 hz1 hz2 hom hgm
  unfold cdv
  go_enter Tryd.func79, Tryd.ntmps79
  go_wp2_with fail
  go_loopw [5, 12] (fun v i wr => ∃ k : Nat, k ≤ D ∧ i = .int .i64 k ∧ Hid (OwnP wr w.heap.size v (misL s k)) ∧ Hid (Below w.heap.size w wr)) (fun _ i _ => D - (intOf i).toNat)
  case atStart => exact ⟨0, by omega, rfl, hOm, hBm⟩
  case round =>
    obtain ⟨k, hk, rfl, ho, hbw⟩ := hrel
    have hsz := hbw.out.size
    clear hmk p0 q0
    by_cases hlt : k < D
    · have t : (k : Int) < (D : Int) := by omega
      have hc := has_any s k wr (by omega)
      have hll : (misL s k).length ≤ 1000000 := by have := misL_len s k; omega
      cases hb : s.testBit k with
      | true =>
        have hL := Lib.hid (misL_no hb)
        rw [hb] at hc
        clear hb
        go_wp2_with fail
        refine hc.mono ?_
        rintro e v1 ⟨rfl, rfl⟩
        go_wp2_with fail
        go_roundw
        case rel => exact ⟨k + 1, by omega, by go_num, by rw [hL.out]; exact ho, hbw⟩
        case measure => simp [intOf]; omega
      | false =>
        have hL := Lib.hid (misL_yes hb)
        rw [hb] at hc
        clear hb
        generalize misL s k = L at *
        go_wp2_with fail
        refine hc.mono ?_
        rintro e v1 ⟨rfl, rfl⟩
        go_wp2_with (at_builtin; go_must (refine push_piv rfl _ _ rfl w.heap.size u5 L k _ rfl rfl rfl ho.out hll hsz ?_); intro v' w1 ho1 hg1)
        have hb1 := Lib.hid (below_grown hbw.out ho.out hg1 hsz)
        go_roundw
        case rel => exact ⟨k + 1, by omega, by go_num, by rw [hL.out]; exact ho1, hb1⟩
        case measure => simp [intOf]; omega
    · have t : ¬ (k : Int) < (D : Int) := by omega
      obtain rfl : k = D := by omega
      go_wp2_with fail
      go_ret
      exact ⟨_, rfl, ho.out, hbw.out⟩
end Go.Proofs.YtgajlgnniidgmaaDoor

namespace Go.Proofs.YtgajlgnniidgmaaDoor
set_option linter.unusedVariables false
set_option linter.unusedSimpArgs false
open Go.RowKit

set_option maxRecDepth 100000 in
set_option maxHeartbeats 1000000 in
theorem full_any (b : Nat) (wd ht : Int) (w : World) (p0 : w.cell? ⟨b, 0, none⟩ = some (.int .i64 wd)) (p1 : w.cell? ⟨b, 1, none⟩ = some (.int .i64 ht)) :
    Calls Tryd.prog 83 #[.pointer (some ⟨b, 0, none⟩)] w fun e w' => e = .returned (.bool (ht == wd)) ∧ Below w.heap.size w w' := by
  go_enter Tryd.func83, Tryd.ntmps83
  go_wp2_with fail
  go_quiet (fail)
  go_wp2_with fail
  go_ret
  exact ⟨rfl, below_dN7 (Below.refl _ _) _⟩
end Go.Proofs.YtgajlgnniidgmaaDoor
