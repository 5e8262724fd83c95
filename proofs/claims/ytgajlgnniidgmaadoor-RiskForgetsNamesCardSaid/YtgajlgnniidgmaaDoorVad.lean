/-
  Stage 12 (risk): perils as they lie in memory; has, left, weights and its closure, losers and its closure (a map of the call's own), total. Stage 12 (risk): losers and its closure, which keeps a map of the call's own. Stage 12 (risk): weights, losers, total, loss. Stage 12 (risk): loss, the sum over all sets of domains.
-/
import Derived.Test.YtgajlgnniidgmaaDoorCf2
import Derived.Test.YtgajlgnniidgmaaDoorCe3
import Derived.Maps.OwnSet
namespace Go.Proofs.YtgajlgnniidgmaaDoor
set_option linter.unusedVariables false
set_option linter.unusedSimpArgs false
open Go.RowKit Go.Maps

/-- A peril, and where it lies. -/
structure Prl where
  D : Int
  A : Option Addr
  n : Nat
  c : Nat
  G : Int
  Gs : List (List Int)
  A1 : Option Addr
  n1 : Nat
  c1 : Nat
  al : List Int
  A2 : Option Addr
  n2 : Nat
  c2 : Nat
  ch : List Int
def prc (p : Prl) : List Value := [.int .i64 p.D, .slice p.A p.n p.c, .int .i64 p.G, .slice p.A1 p.n1 p.c1, .slice p.A2 p.n2 p.c2]
def prv (p : Prl) : Value := .agg (prc p).toArray
structure PerM (W : World) (B : Nat) (p : Prl) : Prop where
  cod : CodM W B p.D p.A p.n p.c p.G p.Gs
  al : Rds W B p.A1 (p.al.map iv)
  n1 : p.n1 = p.al.length
  s1 : p.n1 ≤ 140737488355328
  ch : Rds W B p.A2 (p.ch.map iv)
  n2 : p.n2 = p.ch.length
  s2 : p.n2 ≤ 140737488355328
theorem PerM.le {W : World} {B : Nat} {p : Prl} (h : PerM W B p) : B ≤ W.heap.size := h.cod.le
theorem PerM.below {W W' : World} {B : Nat} {p : Prl} (h : PerM W B p) (hb : Below B W W') : PerM W' B p :=
  ⟨⟨h.cod.m.below hb, Nat.le_trans h.cod.le hb.size, h.cod.len, h.cod.small, h.cod.rng⟩, h.al.below hb, h.n1, h.s1, h.ch.below hb, h.n2, h.s2⟩
theorem PerM.keep {W W' : World} {B : Nat} {p : Prl} (h : PerM W B p) (hb : Below W.heap.size W W') : PerM W' B p := h.below (hb.mono h.le)

/-- The pieces that are left: piece k on of a list of domains, f the domains that fail. -/
def lft (f : Nat) : List Int → Nat → Nat → Nat
  | [], _, u => u
  | d :: l, k, u => lft f l (k + 1) (if d ≠ -1 ∧ f.testBit d.toNat = false then u ||| 1 <<< k else u)
theorem or_lt24 {u k : Nat} (hu : u < 2 ^ k) : u ||| 1 <<< k < 2 ^ (k + 1) := by
  refine Nat.or_lt_two_pow (Nat.lt_of_lt_of_le hu (Nat.pow_le_pow_right (by omega) (by omega))) ?_
  rw [Nat.one_shiftLeft]
  exact Nat.pow_lt_pow_right (by omega) (by omega)
theorem lft_lt (f : Nat) : ∀ (l : List Int) (k u : Nat), u < 2 ^ k → lft f l k u < 2 ^ (k + l.length)
  | [], k, u, h => h
  | d :: l, k, u, h => by
    rw [lft, List.length_cons, show k + (l.length + 1) = (k + 1) + l.length by omega]
    refine lft_lt f l (k + 1) _ ?_
    by_cases hc : d ≠ -1 ∧ f.testBit d.toNat = false
    · rw [if_pos hc]; exact or_lt24 h
    · rw [if_neg hc]; exact Nat.lt_of_lt_of_le h (Nat.pow_le_pow_right (by omega) (by omega))
theorem p24 {k : Nat} (h : k ≤ 24) : 2 ^ k ≤ 16777216 := by
  have : (2 : Nat) ^ k ≤ 2 ^ 24 := Nat.pow_le_pow_right (by omega) h
  exact this
/-- A piece comes into a set of at most 24. -/
theorem set_or24 (u i : Nat) (hu : u < 16777216) (hi : i < 24) : bits BinOp.or IntKind.i64 (u : Int) (wrap64 ((2 : Int) ^ i)) = ((u ||| 1 <<< i : Nat) : Int) := by
  have h : 1 <<< i < 16777216 := by
    rw [Nat.one_shiftLeft]
    exact Nat.lt_of_lt_of_le (Nat.pow_lt_pow_right (by omega) hi) (by decide)
  have e : (2 : Int) ^ i = ((1 <<< i : Nat) : Int) := by rw [Nat.one_shiftLeft, Int.natCast_pow]; rfl
  rw [e]
  clear e
  generalize 1 <<< i = q at *
  have f : wrap64 (q : Int) = (q : Int) := by unfold wrap64; omega
  rw [f]
  exact i64_or _ _ (by omega) (by omega)

set_option maxRecDepth 100000 in
set_option maxHeartbeats 1000000 in
theorem rhas_any (s k : Nat) (w : World) (hk : k ≤ 64) : Calls Tryd.prog 67 #[.int .i64 s, .int .i64 k] w fun e w' => e = .returned (.bool (s.testBit k)) ∧ w' = w := by
  have hb := bit_int7 s k
  have hm : min k 64 = k := by omega
  have u1 : ¬ (k : Int) < 0 := by omega
  have u0 : 0 ≤ (k : Int) := by omega
  generalize s.testBit k = b at *
  go_enter Tryd.func67, Tryd.ntmps67
  go_wp2_with fail
  go_ret
  exact ⟨rfl, rfl⟩

set_option maxRecDepth 100000 in
set_option maxHeartbeats 4000000 in
theorem left_any {B : Nat} (p : Prl) (f : Nat) (w : World) (hM : PerM w B p) (hl : p.al.length ≤ 24) (hr : ∀ d ∈ p.al, -1 ≤ d ∧ d ≤ 60) :
    Calls Tryd.prog 50 #[prv p, .int .i64 f] w fun e w' => e = .returned (.int .i64 (lft f p.al 0 0 : Nat)) ∧ Below w.heap.size w w' := by
  rcases p with ⟨D, A, n, c, G, Gs, A1, n1, c1, al, A2, n2, c2, ch⟩
  unfold prv prc
  dsimp only at *
  obtain ⟨W1, hW1⟩ : ∃ W1, W1 = w.alloc (.cells #[.int .i64 D, .slice A n c, .int .i64 G, .slice A1 n1 c1, .slice A2 n2 c2] 27) := ⟨_, rfl⟩
  have hB1 : Hid (Below w.heap.size w W1) := by show Below _ _ _; rw [hW1]; exact (Below.refl _ _).alloc (Nat.le_refl _) _
  have hR1 : Hid (Blk W1 w.heap.size [.int .i64 D, .slice A n c, .int .i64 G, .slice A1 n1 c1, .slice A2 n2 c2] 27) := by show Blk _ _ _ _; rw [hW1]; exact Blk.new _ [_, _, _, _, _] _
  have hM' := Lib.hid (hM.keep hB1.out)
  have hn : Hid (n1 = al.length) := hM.n1
  have hW1' := Lib.hid hW1
  have hr' := Lib.hid hr
  have hl24 : n1 ≤ 24 := by rw [hn.out]; exact hl
  have hrd : Hid (Rds W1 B A1 (al.map iv)) := hM'.out.al
  have p3 := hR1.out.cell (j := 3) rfl
  clear hW1 hM hr hl
  obtain ⟨R, hR⟩ : ∃ R, R = lft f al 0 0 := ⟨_, rfl⟩
  rw [← hR]
  go_enter Tryd.func50, Tryd.ntmps50
  go_wp2_with fail
  generalize hg : w.alloc _ = Wg
  have hgW : W1 = Wg := by rw [← hg, hW1'.out]
  clear hg hW1'
  subst hgW
  go_wp2_with fail
  go_loopg [5, 11] n1 (fun g s5 s11 wx => ∃ k u : Nat, k + g = n1 ∧ s11 = .int .i64 k ∧ s5 = .int .i64 u ∧ Hid (u < 2 ^ k) ∧ Hid (R = lft f (al.drop k) k u) ∧ wx = W1)
  case atStart => exact ⟨0, 0, by omega, rfl, rfl, (by decide : 0 < 2 ^ 0), hR, rfl⟩
  case round =>
    obtain ⟨k, u, hkg, rfl, rfl, hu, hI, rfl⟩ := hrel
    clear hR
    cases gk with
    | zero =>
      have hkz : ¬ ((k : Int) < (n1 : Int)) := by omega
      have hz : R = u := by rw [hI.out, List.drop_eq_nil_of_le (by have := hn.out; omega)]; rfl
      go_wp2_with fail
      go_ret
      try rw [hz]
      exact ⟨rfl, hB1.out⟩
    | succ gk =>
      have hkz : (k : Int) < (n1 : Int) := by omega
      obtain ⟨x, hx⟩ : ∃ x, al[k]? = some x := ⟨_, List.getElem?_eq_getElem (by have := hn.out; omega)⟩
      have hdrop : al.drop k = x :: al.drop (k + 1) := by rw [List.drop_eq_getElem_cons (List.getElem?_eq_some_iff.1 hx).1, (List.getElem?_eq_some_iff.1 hx).2]
      obtain ⟨bd, rfl, hbb, hcb⟩ := hrd.out.look (k := k) (u := iv x) (by rw [List.getElem?_map, hx]; rfl)
      unfold iv at hcb
      obtain ⟨r1, r2⟩ := hr'.out x (List.mem_of_getElem? hx)
      have hu24 : u < 16777216 := Nat.lt_of_lt_of_le hu.out (p24 (by omega))
      have hor := set_or24 u k hu24 (by omega)
      have hlt2 := Lib.hid (or_lt24 hu.out)
      have hlt1 : Hid (u < 2 ^ (k + 1)) := Nat.lt_of_lt_of_le hu.out (Nat.pow_le_pow_right (by omega) (by omega))
      have hstep : Hid (R = lft f (al.drop (k + 1)) (k + 1) (if x ≠ -1 ∧ f.testBit x.toNat = false then u ||| 1 <<< k else u)) := by
        show _ = _
        rw [hI.out, hdrop, lft]
      clear hx hdrop hI hu hu24
      have k0 : ¬ (k : Int) < 0 := by omega
      have k1 : 0 ≤ (k : Int) := by omega
      have k2 : min k 64 = k := by omega
      by_cases hm : x = -1
      · subst hm
        rw [if_neg (by simp)] at hstep
        go_wp2_with fail
        go_roundg gk
        case measure => omega
        case rel => exact ⟨k + 1, u, by omega, by go_num, rfl, hlt1, hstep, rfl⟩
      · obtain ⟨d, rfl⟩ : ∃ d : Nat, x = d := ⟨x.toNat, by omega⟩
        have hne : ¬ (d : Int) = -1 := hm
        have hnb : ((d : Int) == -1) = false := by simp only [beq_eq_false_iff_ne, ne_eq]; exact hne
        rw [Int.toNat_natCast] at hstep
        have hc := rhas_any f d wr (by omega)
        cases hb : f.testBit d with
        | true =>
          rw [hb] at hc hstep
          rw [if_neg (by simp)] at hstep
          clear hor hlt2
          go_wp2_with fail
          refine hc.mono ?_
          rintro e v1 ⟨rfl, rfl⟩
          go_wp2_with fail
          go_roundg gk
          case measure => omega
          case rel => exact ⟨k + 1, u, by omega, by go_num, rfl, hlt1, hstep, rfl⟩
        | false =>
          rw [hb] at hc hstep
          rw [if_pos ⟨hne, rfl⟩] at hstep
          generalize u ||| 1 <<< k = u2 at *
          go_wp2_with fail
          refine hc.mono ?_
          rintro e v1 ⟨rfl, rfl⟩
          go_wp2_with fail
          go_roundg gk
          case measure => omega
          case rel => exact ⟨k + 1, u2, by omega, by go_num, by first | rfl | rw [hor], hlt2, hstep, rfl⟩

/-- The product of chances: domain k on, f the domains that fail. -/
def wgt (f : Nat) : List Int → Nat → Int → Int
  | [], _, u => u
  | c :: l, k, u => wgt f l (k + 1) (u * (if f.testBit k = true then c else 16 - c))
theorem mul16 {u x : Int} {k : Nat} (h0 : 0 ≤ u) (h1 : u ≤ 16 ^ k) (h2 : 0 ≤ x) (h3 : x ≤ 16) : 0 ≤ u * x ∧ u * x ≤ 16 ^ (k + 1) := by
  refine ⟨Int.mul_nonneg h0 h2, ?_⟩
  rw [Int.pow_succ]
  exact Int.mul_le_mul h1 h3 h2 (Int.le_trans h0 h1)
theorem wgt_rng (f : Nat) : ∀ (l : List Int) (k : Nat) (u : Int), (∀ c ∈ l, 0 ≤ c ∧ c ≤ 16) → 0 ≤ u → u ≤ 16 ^ k → 0 ≤ wgt f l k u ∧ wgt f l k u ≤ 16 ^ (k + l.length)
  | [], k, u, _, h0, h1 => ⟨h0, h1⟩
  | c :: l, k, u, hr, h0, h1 => by
    rw [wgt, List.length_cons, show k + (l.length + 1) = (k + 1) + l.length by omega]
    obtain ⟨c0, c1⟩ := hr c (List.mem_cons_self ..)
    obtain ⟨m0, m1⟩ := mul16 (x := if f.testBit k = true then c else 16 - c) h0 h1 (by split <;> omega) (by split <;> omega)
    exact wgt_rng f l (k + 1) _ (fun d hd => hr d (List.mem_cons_of_mem _ hd)) m0 m1
theorem p16 {k : Nat} (h : k ≤ 12) : (16 : Int) ^ k ≤ 281474976710656 := by
  have h1 : (16 : Nat) ^ k ≤ 16 ^ 12 := Nat.pow_le_pow_right (by omega) h
  have e : ((16 ^ k : Nat) : Int) = (16 : Int) ^ k := by rw [Int.natCast_pow]; rfl
  omega

set_option maxRecDepth 100000 in
set_option maxHeartbeats 4000000 in
theorem wgt_any {B bp : Nat} (p : Prl) (f : Nat) (w : World) (hP : Blk w bp (prc p) 27) (hM : PerM w B p) (hl : p.ch.length ≤ 12) (hr : ∀ c ∈ p.ch, 0 ≤ c ∧ c ≤ 16) :
    Calls Tryd.prog 71 #[.int .i64 f, .pointer (some ⟨bp, 0, none⟩)] w fun e w' => e = .returned (.int .i64 (wgt f p.ch 0 1)) ∧ w' = w := by
  rcases p with ⟨D, A, n, c, G, Gs, A1, n1, c1, al, A2, n2, c2, ch⟩
  unfold prc at hP
  dsimp only at *
  have hn : Hid (n2 = ch.length) := hM.n2
  have hr' := Lib.hid hr
  have hl12 : n2 ≤ 12 := by rw [hn.out]; exact hl
  have hrd : Hid (Rds w B A2 (ch.map iv)) := hM.ch
  have p4 := hP.cell (j := 4) rfl
  clear hM hr hl hP
  obtain ⟨R, hR⟩ : ∃ R, R = wgt f ch 0 1 := ⟨_, rfl⟩
  rw [← hR]
  go_enter Tryd.func71, Tryd.ntmps71
  go_wp2_with fail
  obtain ⟨wo, hwo⟩ : ∃ wo, wo = w := ⟨_, rfl⟩
  go_loopg [4, 10] n2 (fun g s4 s10 wx => ∃ (k : Nat) (u : Int), k + g = n2 ∧ s10 = .int .i64 k ∧ s4 = .int .i64 u ∧ 0 ≤ u ∧ Hid (u ≤ 16 ^ k) ∧ Hid (R = wgt f (ch.drop k) k u) ∧ wx = w)
  case atStart => exact ⟨0, 1, by omega, rfl, rfl, by omega, (by decide : (1 : Int) ≤ 16 ^ 0), hR, rfl⟩
  case round =>
    obtain ⟨k, u, hkg, rfl, rfl, hu0, hu, hI, rfl⟩ := hrel
    clear hR
    cases gk with
    | zero =>
      have hkz : ¬ ((k : Int) < (n2 : Int)) := by omega
      have hz : R = u := by rw [hI.out, List.drop_eq_nil_of_le (by have := hn.out; omega)]; rfl
      go_wp2_with fail
      go_ret
      try rw [hz]
      exact ⟨rfl, rfl⟩
    | succ gk =>
      have hkz : (k : Int) < (n2 : Int) := by omega
      obtain ⟨x, hx⟩ : ∃ x, ch[k]? = some x := ⟨_, List.getElem?_eq_getElem (by have := hn.out; omega)⟩
      have hdrop : ch.drop k = x :: ch.drop (k + 1) := by rw [List.drop_eq_getElem_cons (List.getElem?_eq_some_iff.1 hx).1, (List.getElem?_eq_some_iff.1 hx).2]
      obtain ⟨bd, rfl, hbb, hcb⟩ := hrd.out.look (k := k) (u := iv x) (by rw [List.getElem?_map, hx]; rfl)
      unfold iv at hcb
      obtain ⟨r1, r2⟩ := hr'.out x (List.mem_of_getElem? hx)
      have hstep : Hid (R = wgt f (ch.drop (k + 1)) (k + 1) (u * (if f.testBit k = true then x else 16 - x))) := by
        show _ = _
        rw [hI.out, hdrop, wgt]
      have hp := p16 (k := k + 1) (by omega)
      clear hx hdrop hI
      have hc := rhas_any f k wr (by omega)
      cases hb : f.testBit k with
      | true =>
        rw [hb] at hc hstep
        rw [if_pos rfl] at hstep
        obtain ⟨m0, m1⟩ := mul16 hu0 hu.out r1 r2
        have m1' := Lib.hid m1
        obtain ⟨y, hy⟩ : ∃ y, u * x = y := ⟨_, rfl⟩
        rw [hy] at hstep m0 m1 m1'
        have hf : IntKind.i64.wrap y = y := by rw [IntKind.wrap_i64]; omega
        clear m1 hp hu
        go_wp2_with fail
        refine hc.mono ?_
        rintro e v1 ⟨rfl, rfl⟩
        go_wp2_with fail
        go_roundg gk
        case measure => omega
        case rel => exact ⟨k + 1, y, by omega, by go_num, by first | rfl | (go_num; done) | (rw [hy, hf]), m0, m1', hstep, rfl⟩
      | false =>
        rw [hb] at hc hstep
        rw [if_neg (by simp)] at hstep
        obtain ⟨z, hz⟩ : ∃ z, 16 - x = z := ⟨_, rfl⟩
        rw [hz] at hstep
        have hfz : IntKind.i64.wrap z = z := by rw [IntKind.wrap_i64]; omega
        obtain ⟨m0, m1⟩ := mul16 hu0 hu.out (show 0 ≤ z by omega) (show z ≤ 16 by omega)
        have m1' := Lib.hid m1
        obtain ⟨y, hy⟩ : ∃ y, u * z = y := ⟨_, rfl⟩
        rw [hy] at hstep m0 m1 m1'
        have hf : IntKind.i64.wrap y = y := by rw [IntKind.wrap_i64]; omega
        clear m1 hp hu
        go_wp2_with fail
        refine hc.mono ?_
        rintro e v1 ⟨rfl, rfl⟩
        go_wp2_with fail
        go_roundg gk
        case measure => omega
        case rel => exact ⟨k + 1, y, by omega, by go_num, by first | rfl | (go_num; done) | (rw [hy, hf]), m0, m1', hstep, rfl⟩
end Go.Proofs.YtgajlgnniidgmaaDoor

namespace Go.Proofs.YtgajlgnniidgmaaDoor
set_option linter.unusedVariables false
set_option linter.unusedSimpArgs false
open Go.RowKit Go.Maps

theorem keyI : Keyed Tryd.prog 3 := int_keyed Tryd.underlying3
theorem zeroB (w : World) : (zeroValue 4).run Tryd.prog w = .ok (.bool false) w := by kernel_rfl
theorem keyS {s : Nat} (hs : s < 16777216) : keyOf Tryd.prog 3 (.int .i64 s) = some (.int .i64 s) := keyOf_int_mk Tryd.underlying3 (by have h1 : IntKind.i64.min = -9223372036854775808 := rfl; have h2 : IntKind.i64.max = 9223372036854775807 := rfl; simp only [Lit.wf, h1, h2, Bool.and_eq_true, decide_eq_true_eq]; omega)
theorem isKeyS (s : Int) : WideAt.IsKeyLit (.int .i64 s) := by trivial
theorem plainElem_bool_inv {P : Program} {e : TypeId} (he : P.underlying e = some .bool) {v : Value} {z : DataW Unit × List MemPlace} (h : plainElem P e v = some z) : ∃ x, v = .bool x ∧ z = (.lit (.bool x), []) := by
  unfold plainElem at h
  rw [he] at h
  cases v <;> simp at h
  exact ⟨_, rfl, h.symm⟩
section
variable {P : Program} {ops : Array Oper} {rest : List Oper} {o : Oper} {a : Act} {w : World} {Q : Exit → Act → World → Prop}
/-- A look-up with its second result, among bools. -/
theorem wpList_lookup_own_ok_bool (hg : o.guard = none) (m x : Operand) (t : TypeId) (hop : o.op = Op.lookup t m x true)
    (k e : TypeId) (K : Keyed P k) (ht : P.underlying t = some (.map k e)) (he : P.underlying e = some .bool) (hz : (zeroValue e).run P w = .ok (.bool false) w) (b n : Nat) (D : DataW Unit)
    (hm : a.eval m = .map (some b)) (hown : w.ownsMap P k (plainElem P e) b n D) (key : Value) (kl : Lit) (hx : a.eval x = key) (hkey : keyOf P k key = some kl) (ok : Bool) (hok : Maps.has D kl = ok)
    (hK : ∀ c : Bool, D.atKey kl (.lit (.bool false)) = .lit (.bool c) → wpList P ops Q rest (a.put o.dst (.tuple #[.bool c, .bool ok])) w) :
    wpList P ops Q (o :: rest) a w :=
  wpList_lookup_own_ok w hg m x t hop k e K ht (plainElem P e) hz (.lit (.bool false)) [] (plainElem_bool he false) b n D hm hown key kl hx hkey (fun v ps hv => by
    obtain ⟨c, rfl, hc⟩ := plainElem_bool_inv he hv
    rw [hok]
    exact hK c (congrArg Prod.fst hc))
end
/-- What is known of sets of pieces is true. -/
def KnowP (p : Prl) (D : DataW Unit) : Prop := ∀ s : Nat, Maps.has D (.int .i64 s) = true → ∃ b, D.atKey (.int .i64 s) (.lit (.bool false)) = .lit (.bool b) ∧ (b = true ↔ ¬ RecP p.D p.Gs p.G s)
theorem KnowP.nil (p : Prl) : KnowP p (.map []) := fun s h => by simp [Maps.has] at h
theorem KnowP.put {p : Prl} {D : DataW Unit} (h : KnowP p D) (hD : IsMap D) {s : Nat} {b : Bool} (hb : b = true ↔ ¬ RecP p.D p.Gs p.G s) : KnowP p (D.put (.int .i64 s) (.lit (.bool b))) := fun t ht => by
  by_cases hst : t = s
  · subst hst
    exact ⟨b, Maps.atKey_put_same hD (isKeyS _) _ _, hb⟩
  · have hne : (Lit.int .i64 (t : Int)) ≠ .int .i64 (s : Int) := fun e => hst (by injection e with _ e; omega)
    rw [Maps.has_put_other hne] at ht
    obtain ⟨c, h1, h2⟩ := h t ht
    exact ⟨c, (Maps.atKey_put_other hne _ _).trans h1, h2⟩
/-- What the closure of losers finds in memory. -/
structure Lsr (w : World) (B bp bk bm N : Nat) (p : Prl) : Prop where
  P : Blk w bp (prc p) 27
  K : Blk w bk [.map (some bm)] 74
  M : ∃ D : DataW Unit, w.ownsMap Tryd.prog 3 (plainElem Tryd.prog 4) bm N D ∧ KnowP p D
  m : PerM w B p
  t : PTab 2 w
  h1 : bm ≠ bp
  h2 : bm ≠ bk
  h3 : B ≤ bm
  h4 : 2 < bm
theorem belowg12 {w w' : World} (h : Below w.heap.size w w') : w.grownBy w' none := ⟨h.os, h.tape, h.output, h.size, fun k hk _ => h.block k hk⟩
theorem Lsr.on {w w' : World} {B bp bk bm N : Nat} {p : Prl} (h : Lsr w B bp bk bm N p) (hb : Below w.heap.size w w') : Lsr w' B bp bk bm N p := by
  obtain ⟨D, h1, h2⟩ := h.M
  exact ⟨h.P.below hb h.P.lt, h.K.below hb h.K.lt, ⟨D, h1.kept (belowg12 hb) (by intro h; cases h), h2⟩, h.m.keep hb, h.t.on hb, h.h1, h.h2, h.h3, h.h4⟩
theorem Lsr.more {w : World} {B bp bk bm N N' : Nat} {p : Prl} (h : Lsr w B bp bk bm N p) (hN : N ≤ N') : Lsr w B bp bk bm N' p := by
  obtain ⟨D, h1, h2⟩ := h.M
  exact ⟨h.P, h.K, ⟨D, h1.mono hN, h2⟩, h.m, h.t, h.h1, h.h2, h.h3, h.h4⟩
theorem chg_grown {w w' : World} {b : Nat} (h : w.grownBy w' (some b)) : Chg [b] w w' :=
  ⟨h.os, h.tape, h.output, h.size, fun i hi hn => h.block i hi (fun e => hn (by injection e with e; subst e; exact List.mem_singleton.2 rfl))⟩
theorem Lsr.put {w w' : World} {B bp bk bm N : Nat} {p : Prl} {D : DataW Unit} (h : Lsr w B bp bk bm N p) (hg : w.grownBy w' (some bm)) (hD : w'.ownsMap Tryd.prog 3 (plainElem Tryd.prog 4) bm (N + 1) D) (hK : KnowP p D) : Lsr w' B bp bk bm (N + 1) p := by
  have hc := chg_grown hg
  have hlt := (h.M.choose_spec.1).lt
  refine ⟨hc.blk h.P (fun hh => h.h1 (List.mem_singleton.1 hh).symm), hc.blk h.K (fun hh => h.h2 (List.mem_singleton.1 hh).symm), ⟨D, hD, hK⟩, h.m.below (hc.below (fun x hx => by rw [List.mem_singleton.1 hx]; exact h.h3) h.m.le), ?_, h.h1, h.h2, h.h3, h.h4⟩
  have h4 := h.h4
  exact h.t.below (B := 2 + 1) (hc.below (fun x hx => by rw [List.mem_singleton.1 hx]; exact h4) (Nat.succ_le_of_lt (Nat.lt_trans h4 hlt))) (Nat.lt_succ_self _)

theorem size_prl : (Tryd.prog.info? 27).map (·.size) = some 5 := by kernel_rfl
theorem row_prl : ∃ d, Tryd.prog.underlying 27 = some d ∧ d.isRow = true := ⟨_, Tryd.underlying27, rfl⟩

/-- How the closure of losers ends. -/
def LosEnd (w : World) (B bp bk bm N : Nat) (p : Prl) (S : Nat) (e : Ending) (w' : World) : Prop :=
  (∃ b, e = .returned (.bool b) ∧ (b = true ↔ ¬ RecP p.D p.Gs p.G S)) ∧ Lsr w' B bp bk bm (N + 1) p ∧ Chg [bm] w w'
set_option maxRecDepth 100000 in
set_option maxHeartbeats 4000000 in
theorem losers1_any {B bp bk bm N : Nat} (p : Prl) (f : Nat) (w : World) (hL : Lsr w B bp bk bm N p) (hl : p.al.length ≤ 24) (hr : ∀ d ∈ p.al, -1 ≤ d ∧ d ≤ 60) (hN : N < 1000000000) :
    Calls Tryd.prog 49 #[.int .i64 f, .pointer (some ⟨bp, 0, none⟩), .pointer (some ⟨bk, 0, none⟩)] w (LosEnd w B bp bk bm N p (lft f p.al 0 0)) := by
  have C := left_any p f w hL.m hl hr
  have hS : lft f p.al 0 0 < 16777216 := Nat.lt_of_lt_of_le (lft_lt f p.al 0 0 (by decide)) (p24 (by omega))
  obtain ⟨S, hSe⟩ : ∃ S, S = lft f p.al 0 0 := ⟨_, rfl⟩
  rw [← hSe] at C hS ⊢
  clear hSe hl hr
  have hkS := keyS hS
  have hsz := Lib.hid size_prl
  have hszc := Lib.hid size_cod
  obtain ⟨dP, hdP, hdP2⟩ := row_prl
  obtain ⟨dC, hdC, hdC2⟩ := row_cod
  have hdP' := Lib.hid hdP
  have hdC' := Lib.hid hdC
  have hL' := Lib.hid hL
  have hBP := Lib.hid hL.P
  clear hdP hdC hL
  rcases p with ⟨D, A, n, c, G, Gs, A1, n1, c1, al, A2, n2, c2, ch⟩
  unfold prv at C
  unfold prc at C hBP
  dsimp only at C hBP
  go_enter Tryd.func49, Tryd.ntmps49
  go_wp2_with (first | (refine wpList_blk_load rfl 27 _ rfl 0 rfl hBP.out [_, _, _, _, _] rfl dP hdP'.out hdP2 hsz.out ?_) | fail)
  refine C.mono ?_
  rintro e v1 ⟨rfl, hb⟩
  clear C
  have L1 := Lib.hid (hL'.out.on hb)
  have E1 := Lib.hid hb
  have hBP1 := Lib.hid L1.out.P
  have cK := L1.out.K.cell (j := 0) rfl
  obtain ⟨Dm, hown, hK⟩ := L1.out.M
  have hown' := Lib.hid hown
  have hK' := Lib.hid hK
  clear hb hown hK hBP
  unfold prc at hBP1
  dsimp only at hBP1
  cases hh : Maps.has Dm (.int .i64 S) with
  | true =>
    obtain ⟨b, hb1, hb2⟩ := hK'.out S hh
    have hh' := Lib.hid hh
    have hb1' := Lib.hid hb1
    have hfin : Hid (b = true ↔ ¬ RecP D Gs G S) := hb2
    clear hh hb1 hb2
    go_wp2_with (first | (at_lookup; refine wpList_lookup_own_ok_bool rfl _ _ 74 rfl 3 4 keyI Tryd.underlying74 Tryd.underlying4 (zeroB _) bm N Dm rfl hown'.out _ _ rfl hkS true hh'.out ?_; intro x hx; have hxb : x = b := by { have := hx.symm.trans hb1'.out; injection this with this; injection this }; subst hxb; clear hx) | fail)
    go_ret
    exact ⟨⟨_, rfl, hfin.out⟩, L1.out.more (by omega), Chg.of E1.out⟩
  | false =>
    have hh' := Lib.hid hh
    clear hh
    have CR := recoverable_any D G S Gs n c A v1 L1.out.m.cod L1.out.t
    unfold cdv at CR
    go_wp2_with (first | (at_lookup; refine wpList_lookup_own_ok_bool rfl _ _ 74 rfl 3 4 keyI Tryd.underlying74 Tryd.underlying4 (zeroB _) bm N Dm rfl hown'.out _ _ rfl hkS false hh'.out ?_; intro x hx) | (refine wpList_blk_load rfl 24 _ rfl 0 rfl hBP1.out [_, _, _] rfl dC hdC'.out hdC2 hszc.out ?_) | fail)
    refine CR.mono ?_
    rintro e v2 ⟨⟨b, rfl, hbr⟩, hb⟩
    clear CR cK
    have L2 := Lib.hid (L1.out.on hb)
    have E2 := Lib.hid (E1.out.trans (hb.mono E1.out.size))
    have cK := L2.out.K.cell (j := 0) rfl
    have hown2 := Lib.hid (hown'.out.kept (belowg12 hb) (by intro h; cases h))
    have hm := hown'.out.isMap
    clear hb
    cases b with
    | true =>
      have hfin : Hid ((false : Bool) = true ↔ ¬ RecP D Gs G S) := ⟨fun h => (by cases h), fun h => absurd (hbr.1 rfl) h⟩
      have hput := Lib.hid (hK'.out.put hm (p := ⟨D, A, n, c, G, Gs, A1, n1, c1, al, A2, n2, c2, ch⟩) hfin.out)
      clear hbr hm
      go_wp2_with (first | (at_mapUpdate; refine wpList_mapUpdate_own _ rfl _ _ _ 74 rfl 3 4 keyI Tryd.underlying74 _ bm N Dm rfl hown2.out (by unfold maxLen; omega) _ _ _ rfl rfl hkS (.lit (.bool false)) [] (plainElem_bool Tryd.underlying4 false) ?_; intro w3 hown3 hgr3; have L3 := Lib.hid (L2.out.put hgr3 hown3 hput.out); have E3 := Lib.hid ((Chg.of (gs := [bm]) E2.out).trans (chg_grown hgr3)); clear hown3 hgr3) | fail)
      go_ret
      exact ⟨⟨_, rfl, hfin.out⟩, L3.out, E3.out⟩
    | false =>
      have hfin : Hid ((true : Bool) = true ↔ ¬ RecP D Gs G S) := ⟨fun _ h => (by have := hbr.2 h; cases this), fun _ => rfl⟩
      have hput := Lib.hid (hK'.out.put hm (p := ⟨D, A, n, c, G, Gs, A1, n1, c1, al, A2, n2, c2, ch⟩) hfin.out)
      clear hbr hm
      go_wp2_with (first | (at_mapUpdate; refine wpList_mapUpdate_own _ rfl _ _ _ 74 rfl 3 4 keyI Tryd.underlying74 _ bm N Dm rfl hown2.out (by unfold maxLen; omega) _ _ _ rfl rfl hkS (.lit (.bool true)) [] (plainElem_bool Tryd.underlying4 true) ?_; intro w3 hown3 hgr3; have L3 := Lib.hid (L2.out.put hgr3 hown3 hput.out); have E3 := Lib.hid ((Chg.of (gs := [bm]) E2.out).trans (chg_grown hgr3)); clear hown3 hgr3) | fail)
      go_ret
      exact ⟨⟨_, rfl, ⟨fun _ => hfin.out.1 (by trivial), fun _ => rfl⟩⟩, L3.out, E3.out⟩
end Go.Proofs.YtgajlgnniidgmaaDoor

namespace Go.Proofs.YtgajlgnniidgmaaDoor
set_option linter.unusedVariables false
set_option linter.unusedSimpArgs false
open Go.RowKit Go.Maps

set_option maxRecDepth 100000 in
set_option maxHeartbeats 1000000 in
theorem weights_any (p : Prl) (w : World) :
    Calls Tryd.prog 52 #[prv p] w fun e w' => e = .returned (.func (.func 71) #[] #[.pointer (some ⟨w.heap.size, 0, none⟩)]) ∧ Below w.heap.size w w' ∧ Blk w' w.heap.size (prc p) 27 := by
  rcases p with ⟨D, A, n, c, G, Gs, A1, n1, c1, al, A2, n2, c2, ch⟩
  unfold prv prc
  dsimp only
  go_enter Tryd.func52, Tryd.ntmps52
  go_wp2_with fail
  go_ret
  exact ⟨rfl, (Below.refl _ _).alloc (Nat.le_refl _) _, Blk.new _ [_, _, _, _, _] _⟩

set_option maxRecDepth 100000 in
set_option maxHeartbeats 1000000 in
theorem losers_any {B : Nat} (p : Prl) (w : World) (hM : PerM w B p) (ht : PTab 2 w) :
    Calls Tryd.prog 31 #[prv p] w fun e w' => (∃ bp bk bm, e = .returned (.func (.func 49) #[] #[.pointer (some ⟨bp, 0, none⟩), .pointer (some ⟨bk, 0, none⟩)]) ∧ Lsr w' B bp bk bm 0 p ∧ w.heap.size ≤ bm) ∧ Below w.heap.size w w' := by
  rcases p with ⟨D, A, n, c, G, Gs, A1, n1, c1, al, A2, n2, c2, ch⟩
  unfold prv prc
  dsimp only
  have hmm := @run_makeMap Tryd.prog
  have hmf : ∀ (fn : Fn) (first cap : Array Value) (w : World), (Instr.makeFunc fn first cap).run Tryd.prog w = .ok (.func fn first cap) w := fun _ _ _ _ => rfl
  go_enter Tryd.func31, Tryd.ntmps31
  go_wp2_with fail
  go_ret
  have a1 : Below w.heap.size w (w.alloc (.cells #[.int .i64 D, .slice A n c, .int .i64 G, .slice A1 n1 c1, .slice A2 n2 c2] 27)) := (Below.refl _ _).alloc (Nat.le_refl _) _
  have b1 : Blk (w.alloc (.cells #[.int .i64 D, .slice A n c, .int .i64 G, .slice A1 n1 c1, .slice A2 n2 c2] 27)) w.heap.size [.int .i64 D, .slice A n c, .int .i64 G, .slice A1 n1 c1, .slice A2 n2 c2] 27 := Blk.new _ [_, _, _, _, _] _
  have z1 : (w.alloc (.cells #[.int .i64 D, .slice A n c, .int .i64 G, .slice A1 n1 c1, .slice A2 n2 c2] 27)).heap.size = w.heap.size + 1 := by rw [World.alloc]; simp
  generalize w.alloc (.cells #[.int .i64 D, .slice A n c, .int .i64 G, .slice A1 n1 c1, .slice A2 n2 c2] 27) = Wa at *
  have m2 := World.ownsMap_made (H := Unit) Wa Tryd.prog 3 (plainElem Tryd.prog 4)
  have z2 : (Wa.alloc (.map #[] 0)).heap.size = w.heap.size + 1 + 1 := by rw [World.alloc]; simp [z1]
  have a2 : Below w.heap.size w (Wa.alloc (.map #[] 0)) := a1.alloc (by omega) _
  have b2 : Blk (Wa.alloc (.map #[] 0)) w.heap.size [.int .i64 D, .slice A n c, .int .i64 G, .slice A1 n1 c1, .slice A2 n2 c2] 27 := b1.alloc _
  rw [z1] at m2
  generalize Wa.alloc (.map #[] 0) = Wb at *
  have m3 := m2.alloc (.cells #[.map (some (w.heap.size + 1))] 74)
  have a3 : Below w.heap.size w (Wb.alloc (.cells #[.map (some (w.heap.size + 1))] 74)) := a2.alloc (by omega) _
  have b3 := b2.alloc (.cells #[.map (some (w.heap.size + 1))] 74)
  have b4 : Blk (Wb.alloc (.cells #[.map (some (w.heap.size + 1))] 74)) (w.heap.size + 1 + 1) [.map (some (w.heap.size + 1))] 74 := by rw [← z2]; exact Blk.new _ [_] _
  refine ⟨⟨w.heap.size, w.heap.size + 1 + 1, w.heap.size + 1, rfl, ⟨b3, b4, ⟨_, m3, KnowP.nil _⟩, hM.keep a3, ht.on a3, by omega, by omega, Nat.le_trans hM.le (by omega), ?_⟩, by omega⟩, a3⟩
  exact Nat.lt_of_lt_of_le ht.1 (by omega)

set_option maxRecDepth 100000 in
set_option maxHeartbeats 1000000 in
theorem total_any {B : Nat} (p : Prl) (w : World) (hM : PerM w B p) (hl : p.ch.length ≤ 12) :
    Calls Tryd.prog 30 #[prv p] w fun e w' => e = .returned (.int .i64 (16 ^ p.ch.length : Nat)) ∧ Below w.heap.size w w' := by
  have hB : ∀ o, Below w.heap.size w (w.alloc o) := fun o => (Below.refl _ _).alloc (Nat.le_refl _) _
  have hn := hM.n2
  rcases p with ⟨D, A, n, c, G, Gs, A1, n1, c1, al, A2, n2, c2, ch⟩
  unfold prv prc
  dsimp only at *
  obtain ⟨r, hr⟩ : ∃ r, r = (16 : Nat) ^ ch.length := ⟨_, rfl⟩
  rw [← hr]
  obtain ⟨m, hm⟩ : ∃ m, m = 4 * n2 := ⟨_, rfl⟩
  have em : (4 : Int) * (n2 : Int) = (m : Int) := by omega
  have fm : IntKind.i64.wrap (m : Int) = (m : Int) := by rw [IntKind.wrap_i64]; omega
  have e2 : (2 : Int) ^ m = (r : Int) := by
    rw [hr, hm, ← hn, show 4 * n2 = 4 * n2 from rfl, Int.pow_mul, Int.natCast_pow]; rfl
  have hr2 : (r : Int) ≤ 281474976710656 := by
    rw [hr, Int.natCast_pow]; exact p16 hl
  have fr : wrap64 (r : Int) = (r : Int) := by unfold wrap64; omega
  have u1 : ¬ (m : Int) < 0 := by omega
  have u0 : 0 ≤ (m : Int) := by omega
  have hm64 : min m 64 = m := by omega
  have hk : Blk (w.alloc (.cells #[.int .i64 D, .slice A n c, .int .i64 G, .slice A1 n1 c1, .slice A2 n2 c2] 27)) w.heap.size [.int .i64 D, .slice A n c, .int .i64 G, .slice A1 n1 c1, .slice A2 n2 c2] 27 := Blk.new _ [_, _, _, _, _] _
  have p4 := hk.cell (j := 4) rfl
  clear hk hr hm hM hl hn hr2
  go_enter Tryd.func30, Tryd.ntmps30
  go_wp2_with fail
  go_ret
  refine ⟨?_, hB _⟩
  first | rfl | (congr 2; done) | (show Ending.returned (.int .i64 (wrap64 _)) = _; rw [e2, fr])
end Go.Proofs.YtgajlgnniidgmaaDoor

namespace Go.Proofs.YtgajlgnniidgmaaDoor
set_option linter.unusedVariables false
set_option linter.unusedSimpArgs false
open Go.RowKit Go.Maps

/-- The chunk is lost if exactly the domains f fail. -/
def LosP (p : Prl) (f : Nat) : Prop := ¬ RecP p.D p.Gs p.G (lft f p.al 0 0 : Nat)
open Classical in
/-- What the sets below m add to the loss. -/
noncomputable def lsum (p : Prl) : Nat → Int
  | 0 => 0
  | f + 1 => lsum p f + (if LosP p f then wgt f p.ch 0 1 else 0)
theorem lsum_rng {p : Prl} (hl : p.ch.length ≤ 12) (hr : ∀ c ∈ p.ch, 0 ≤ c ∧ c ≤ 16) : ∀ m, 0 ≤ lsum p m ∧ lsum p m ≤ m * 281474976710656
  | 0 => ⟨Int.le_refl _, by rw [lsum]; omega⟩
  | f + 1 => by
    obtain ⟨a, b⟩ := lsum_rng hl hr f
    obtain ⟨c, d⟩ := wgt_rng f p.ch 0 1 hr (by omega) (by omega)
    have e := p16 (k := 0 + p.ch.length) (by omega)
    rw [lsum]
    split <;> omega
theorem lsum_yes {p : Prl} {f : Nat} (h : LosP p f) : lsum p (f + 1) = lsum p f + wgt f p.ch 0 1 := by rw [lsum, if_pos h]
theorem lsum_no {p : Prl} {f : Nat} (h : ¬ LosP p f) : lsum p (f + 1) = lsum p f := by rw [lsum, if_neg h]; omega
theorem lsum_zero {p : Prl} {f : Nat} (h : wgt f p.ch 0 1 = 0) : lsum p (f + 1) = lsum p f := by rw [lsum, h]; split <;> omega

set_option maxRecDepth 100000 in
set_option maxHeartbeats 8000000 in
theorem loss_any {B : Nat} (p : Prl) (w : World) (hM : PerM w B p) (ht : PTab 2 w) (hl : p.al.length ≤ 24) (hr : ∀ d ∈ p.al, -1 ≤ d ∧ d ≤ 60) (hl2 : p.ch.length ≤ 12) (hr2 : ∀ c ∈ p.ch, 0 ≤ c ∧ c ≤ 16) :
    Calls Tryd.prog 32 #[prv p] w fun e w' => e = .returned (.int .i64 (lsum p (2 ^ p.ch.length))) ∧ Below w.heap.size w w' := by
  obtain ⟨q, hq⟩ : ∃ q, q = p := ⟨_, rfl⟩
  have hqv : prv q = prv p := by rw [hq]
  rcases p with ⟨D, A, n, c, G, Gs, A1, n1, c1, al, A2, n2, c2, ch⟩
  have hqc : Hid (prc q = [.int .i64 D, .slice A n c, .int .i64 G, .slice A1 n1 c1, .slice A2 n2 c2]) := by rw [hq]; rfl
  have hqv' : Hid (prv q = .agg #[.int .i64 D, .slice A n c, .int .i64 G, .slice A1 n1 c1, .slice A2 n2 c2]) := by rw [hq]; rfl
  rw [← hq] at hM hl hr hl2 hr2 ⊢
  have hnn : n2 = q.ch.length := by rw [hq]; rw [hq] at hM; exact hM.n2
  rw [← hnn] at hl2
  obtain ⟨m, hm⟩ : ∃ m, m = 2 ^ q.ch.length := ⟨_, rfl⟩
  rw [← hm]
  have hm4 : m ≤ 4096 := by
    have : (2 : Nat) ^ q.ch.length ≤ 2 ^ 12 := Nat.pow_le_pow_right (by omega) (by omega)
    omega
  have e2 : (2 : Int) ^ n2 = (m : Int) := by rw [hm, hnn, Int.natCast_pow]; rfl
  have fm : wrap64 (m : Int) = (m : Int) := by unfold wrap64; omega
  obtain ⟨W1, hW1⟩ : ∃ W1, W1 = w.alloc (.cells #[.int .i64 D, .slice A n c, .int .i64 G, .slice A1 n1 c1, .slice A2 n2 c2] 27) := ⟨_, rfl⟩
  have E : Hid (Below w.heap.size w W1) := by show Below _ _ _; rw [hW1]; exact (Below.refl _ _).alloc (Nat.le_refl _) _
  have X : Hid (Blk W1 w.heap.size [.int .i64 D, .slice A n c, .int .i64 G, .slice A1 n1 c1, .slice A2 n2 c2] 27) := by show Blk _ _ _ _; rw [hW1]; exact Blk.new _ [_, _, _, _, _] _
  have M := Lib.hid (hM.keep E.out)
  have T := Lib.hid (ht.on E.out)
  have hW' := Lib.hid hW1
  have hun : Hid (Tryd.prog.underlying 27 = _) := Tryd.underlying27
  have hsz := Lib.hid size_prl
  have hl' := Lib.hid hl
  have hr' := Lib.hid hr
  have hr2' := Lib.hid hr2
  have hrng := Lib.hid (lsum_rng (p := q) (by omega) hr2)
  have hnn' := Lib.hid hnn
  clear hM ht hW1 hq hqv hl hr hr2 hm hnn
  rw [hqv'.out]
  go_enter Tryd.func32, Tryd.ntmps32
  go_wp2_with fail
  generalize hg : w.alloc _ = Wg
  have hgW : W1 = Wg := by rw [← hg, hW'.out]
  clear hg hW'
  subst hgW
  refine wp_region_planM [] [(true, 0), (true, 2), (false, 1), (false, 3), (true, 4), (true, 5), (true, 6)] (by decide) (by kernel_rfl) (by kernel_rfl) (by decide) (by intro c a d v w h; cases d <;> exact h) ?_
  change wpPlanM _ _ _ _ _ _ W1.drew
  have hb : Below W1.heap.size W1 W1.drew := (Below.refl _ _).drew
  generalize hgd : W1.drew = w2 at hb ⊢
  replace X := Lib.hid (X.out.below hb X.out.lt)
  replace M := Lib.hid (M.out.keep hb)
  replace T := Lib.hid (T.out.on hb)
  replace E : Hid (Below w.heap.size w w2) := E.out.trans (hb.mono E.out.size)
  clear hb hgd
  iterate 2 (refine wpPlanM_runW rfl (by rfl) _ (fun q => load_run 27 _ rfl w.heap.size 0 rfl [.int .i64 D, .slice A n c, .int .i64 G, .slice A1 n1 c1, .slice A2 n2 c2] _ hun.out rfl hsz.out q.world ((Blk.below X.out q.ext X.out.lt).range 0 _ (take_all0 _))) ?_)
  refine wpPlanM_call rfl (fun K hK => ?_)
  have CW := weights_any q w2
  rw [hqv'.out, hqc.out] at CW
  go_wp2_with fail
  refine CW.mono ?_
  rintro e w3 ⟨rfl, hb, hbw⟩
  clear CW
  obtain ⟨bw, hbwe⟩ : ∃ b, b = w2.heap.size := ⟨_, rfl⟩
  rw [← hbwe] at hbw ⊢
  have hbp := Lib.hid hb
  have BW := Lib.hid hbw
  have hbwE : Hid (w.heap.size ≤ bw) := by show _; rw [hbwe]; exact E.out.size
  replace X := Lib.hid (X.out.below hb X.out.lt)
  replace M := Lib.hid (M.out.keep hb)
  replace T := Lib.hid (T.out.on hb)
  replace E : Hid (Below w.heap.size w w3) := E.out.trans (hb.mono E.out.size)
  clear hb hbw hbwe
  go_wp2_with fail
  refine planPostL_normal ⟨.inr hbp.out, hK _ _ ?_⟩
  clear hK K hbp
  refine wpPlanM_call rfl (fun K hK => ?_)
  have CL := losers_any q w3 M.out T.out
  rw [hqv'.out] at CL
  go_wp2_with fail
  refine CL.mono ?_
  rintro e w4 ⟨⟨bp, bk, bm, rfl, hL, hbm⟩, hb⟩
  clear CL
  have hbp := Lib.hid hb
  have L := Lib.hid hL
  have hbmE : Hid (w.heap.size ≤ bm) := Nat.le_trans E.out.size hbm
  have hne : Hid (bw ≠ bm) := fun h => by have := BW.out.lt; omega
  replace X := Lib.hid (X.out.below hb X.out.lt)
  replace BW := Lib.hid (BW.out.below hb BW.out.lt)
  replace E : Hid (Below w.heap.size w w4) := E.out.trans (hb.mono E.out.size)
  clear hb hL hbm M T
  go_wp2_with fail
  refine planPostL_normal ⟨.inr hbp.out, hK _ _ ?_⟩
  clear hK K hbp
  iterate 3 (refine wpPlanM_plain rfl (fun K hK => ?_); go_simp; refine hK _ ?_; clear hK K)
  refine wpPlanM_nil ?_
  have p4 := X.out.cell (j := 4) rfl
  go_wp2_with fail
  clear p4 X
  go_loopg [3, 16] m (fun g s3 s16 wx => ∃ k : Nat, k + g = m ∧ s16 = .int .i64 k ∧ s3 = .int .i64 (lsum q k) ∧ Hid (Lsr wx B bp bk bm k q) ∧ Hid (Blk wx bw (prc q) 27) ∧ Hid (Below w.heap.size w wx))
  case atStart => exact ⟨0, by omega, rfl, rfl, L, by (show Hid (Blk _ _ _ _); rw [hqc.out]; exact BW), E⟩
  case round =>
    obtain ⟨k, hkg, rfl, rfl, Lk, Bk, Ek⟩ := hrel
    clear L BW E
    obtain ⟨S0, hS0⟩ : ∃ s, s = lsum q k := ⟨_, rfl⟩
    rw [← hS0]
    have r0 := hrng.out k
    rw [← hS0] at r0
    obtain ⟨r1, r2⟩ := r0
    have hS0' := Lib.hid hS0
    clear hS0
    cases gk with
    | zero =>
      have hkz : ¬ ((k : Int) < (m : Int)) := by omega
      have hkm : Hid (k = m) := by show k = m; omega
      go_wp2_with fail
      go_ret
      refine ⟨?_, Ek.out⟩
      first
        | rfl
        | (rw [← hkm.out, ← hS0'.out]; rfl)
        | rw [← hkm.out, ← hS0'.out]
    | succ gk =>
      have hkz : (k : Int) < (m : Int) := by omega
      have r3 := hrng.out (k + 1)
      have CW := wgt_any q k wr Bk.out Lk.out.m (by have := hnn'.out; omega) hr2'.out
      have CL := losers1_any q k wr Lk.out hl'.out hr'.out (by omega)
      obtain ⟨V, hV⟩ : ∃ v, v = wgt k q.ch 0 1 := ⟨_, rfl⟩
      rw [← hV] at CW
      have v0 : 0 ≤ V := by rw [hV]; exact (wgt_rng k q.ch 0 1 hr2'.out (by omega) (by omega)).1
      have hV' := Lib.hid hV
      clear hV
      by_cases hv : V = 0
      · subst hv
        have hnx : Hid (lsum q (k + 1) = S0) := by show lsum q (k + 1) = S0; rw [lsum_zero hV'.out.symm, hS0'.out]
        clear CL r3
        go_wp2_with fail
        refine CW.mono ?_
        rintro e v1 ⟨rfl, rfl⟩
        clear CW
        go_wp2_with fail
        go_roundg gk
        case measure => omega
        case rel => exact ⟨k + 1, by omega, by go_num, by rw [hnx.out], Lk.out.more (by omega), Bk, Ek⟩
      · have hv1 : V > 0 := by omega
        go_wp2_with fail
        refine CW.mono ?_
        rintro e v1 ⟨rfl, rfl⟩
        clear CW
        go_wp2_with fail
        refine CL.mono ?_
        rintro e v2 ⟨⟨b, rfl, hb⟩, hL2, hc⟩
        clear CL
        have L2 := Lib.hid hL2
        have B2 : Hid (Blk v2 bw (prc q) 27) := hc.blk Bk.out (fun hh => hne.out (List.mem_singleton.1 hh))
        have E2 : Hid (Below w.heap.size w v2) := Ek.out.trans (hc.below (fun x hx => by rw [List.mem_singleton.1 hx]; exact hbmE.out) Ek.out.size)
        have hb' : Hid (b = true ↔ LosP q k) := hb
        clear hL2 hc Lk Bk Ek hb
        cases b with
        | true =>
          have hnx : Hid (lsum q (k + 1) = S0 + V) := by show lsum q (k + 1) = S0 + V; rw [lsum_yes (hb'.out.1 rfl), ← hS0'.out, ← hV'.out]
          rw [hnx.out] at r3
          obtain ⟨Y, hY⟩ : ∃ y, S0 + V = y := ⟨_, rfl⟩
          rw [hY] at hnx r3
          have fY : IntKind.i64.wrap Y = Y := by rw [IntKind.wrap_i64]; omega
          clear r3 hb'
          go_wp2_with fail
          go_roundg gk
          case measure => omega
          case rel => exact ⟨k + 1, by omega, by go_num, by rw [hnx.out], L2, B2, E2⟩
        | false =>
          have hnx : Hid (lsum q (k + 1) = S0) := by show lsum q (k + 1) = S0; rw [lsum_no (fun h => by have := hb'.out.2 h; cases this), hS0'.out]
          clear r3 hb'
          go_wp2_with fail
          go_roundg gk
          case measure => omega
          case rel => exact ⟨k + 1, by omega, by go_num, by rw [hnx.out], L2, B2, E2⟩
end Go.Proofs.YtgajlgnniidgmaaDoor
