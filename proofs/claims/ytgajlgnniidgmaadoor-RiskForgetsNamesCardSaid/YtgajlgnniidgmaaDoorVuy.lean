/-
  Stage 12 (risk): Millionths (up to nine domains), with bits.Mul64 and bits.Div64 as far as they are used. Stage 12 (risk): slices.Clone over integers and over groups. Stage 12 (risk): clone. Stage 12 (risk): clone, the walk. Stage 12 (risk): Given, for a peril without an error and a domain of it.
-/
import Derived.Test.YtgajlgnniidgmaaDoorVet
import Derived.Maps.AppendAt
namespace Go.Proofs.YtgajlgnniidgmaaDoor
set_option linter.unusedVariables false
set_option linter.unusedSimpArgs false
open Go.RowKit Go.Maps

theorem mask12 (x : Nat) (h : x < 18446744073709551616) : bits BinOp.and IntKind.u64 (x : Int) 4294967295 = ((x % 4294967296 : Nat) : Int) := by
  rw [show (4294967295 : Int) = ((4294967295 : Nat) : Int) from rfl, u64_and_nat x 4294967295 h (by decide), show (4294967295 : Nat) = 2 ^ 32 - 1 from rfl, Nat.and_two_pow_sub_one_eq_mod]
theorem mul12_facts (x : Nat) (hx : x ≤ 68719476736) : ∃ x0 x1 w0 v a t : Nat, bits BinOp.and IntKind.u64 (x : Int) 4294967295 = (x0 : Int) ∧ IntKind.u64.wrap ((x0 : Int) * 1000000) = (w0 : Int) ∧ (x : Int) / 4294967296 = (x1 : Int) ∧
    IntKind.u64.wrap ((x1 : Int) * 1000000) = (a : Int) ∧ (w0 : Int) / 4294967296 = (v : Int) ∧ IntKind.u64.wrap ((a : Int) + (v : Int)) = (t : Int) ∧ bits BinOp.and IntKind.u64 (t : Int) 4294967295 = (t : Int) ∧ (t : Int) / 4294967296 = 0 := by
  refine ⟨x % 4294967296, x / 4294967296, x % 4294967296 * 1000000, x % 4294967296 * 1000000 / 4294967296, x / 4294967296 * 1000000, x / 4294967296 * 1000000 + x % 4294967296 * 1000000 / 4294967296, mask12 x (by omega), ?_, ?_, ?_, ?_, ?_, ?_, ?_⟩
  · rw [IntKind.wrap_u64]; omega
  · omega
  · rw [IntKind.wrap_u64]; omega
  · omega
  · rw [IntKind.wrap_u64]; omega
  · rw [mask12 _ (by omega), Nat.mod_eq_of_lt (by omega)]
  · omega
theorem mul12_two (x : Nat) (hx : x ≤ 68719476736) : IntKind.u64.wrap ((x : Int) * 1000000) = ((x * 1000000 : Nat) : Int) := by rw [IntKind.wrap_u64]; omega
set_option maxRecDepth 100000 in
set_option maxHeartbeats 1000000 in
theorem mul64_any (x : Nat) (w : World) (hx : x ≤ 68719476736) : Calls Tryd.prog 37 #[.int .u64 x, .int .u64 1000000] w fun e w' => e = .returned (.tuple #[.int .u64 0, .int .u64 ((x * 1000000 : Nat) : Int)]) ∧ w' = w := by
  obtain ⟨x0, x1, w0, v, a, t, h1, h3, h4, h5, h6, h7, h8, h9⟩ := mul12_facts x hx
  have h2 : bits BinOp.and IntKind.u64 1000000 4294967295 = 1000000 := by
    have := mask12 1000000 (by decide)
    exact this
  have h11 := mul12_two x hx
  obtain ⟨y, hy⟩ : ∃ y, y = x * 1000000 := ⟨_, rfl⟩
  rw [← hy] at h11 ⊢
  clear hx hy
  go_enter Tryd.func37, Tryd.ntmps37
  go_wp2_with fail
  go_ret2
  exact ⟨rfl, rfl⟩

set_option maxRecDepth 100000 in
set_option maxHeartbeats 1000000 in
theorem div64_any (x y : Nat) (w : World) (hx : x < 18446744073709551616) (hy : y < 18446744073709551616) (h0 : 0 < y) : Calls Tryd.prog 38 #[.int .u64 0, .int .u64 x, .int .u64 y] w fun e w' => e = .returned (.tuple #[.int .u64 ((x / y : Nat) : Int), .int .u64 ((x % y : Nat) : Int)]) ∧ Below w.heap.size w w' := by
  have t1 : ((y : Int) == 0) = false := by simp only [beq_eq_false_iff_ne, ne_eq]; omega
  have t2 : ¬ (y : Int) ≤ 0 := by omega
  have t3 : ¬ (y : Int) = 0 := by omega
  have t4 : ¬ y = 0 := by omega
  obtain ⟨q, hq⟩ : ∃ q, q = x / y := ⟨_, rfl⟩
  obtain ⟨r, hr⟩ : ∃ r, r = x % y := ⟨_, rfl⟩
  have hql : q ≤ x := by rw [hq]; exact Nat.div_le_self _ _
  have hrl : r < y := by rw [hr]; exact Nat.mod_lt _ h0
  have e1 : Int.tdiv (x : Int) (y : Int) = (q : Int) := by rw [Int.tdiv_eq_ediv_of_nonneg (by omega), hq, Int.natCast_ediv]
  have e2 : Int.tmod (x : Int) (y : Int) = (r : Int) := by rw [Int.tmod_eq_emod_of_nonneg (by omega), hr, Int.natCast_emod]
  have f1 : IntKind.u64.wrap (q : Int) = (q : Int) := by rw [IntKind.wrap_u64]; omega
  have f2 : IntKind.u64.wrap (r : Int) = (r : Int) := by rw [IntKind.wrap_u64]; omega
  rw [← hq, ← hr]
  clear hq hr hql hrl hx hy h0
  go_enter Tryd.func38, Tryd.ntmps38
  go_wp2_with fail
  go_upto_region 6 with fail
  go_quiet (fail)
  go_wp2_with fail
  go_ret2
  exact ⟨rfl, below_drewN (Below.refl _ _) _⟩

/-- The chance of a loss in millionths, rounded up. -/
def milN (l t : Nat) : Nat := l * 1000000 / t + (if l * 1000000 % t = 0 then 0 else 1)
theorem lsum_nat {p : Prl} (OK : PrlOk p) (h9 : p.ch.length ≤ 9) : ∃ l : Nat, lsum p (2 ^ p.ch.length) = l ∧ l ≤ 16 ^ p.ch.length ∧ l ≤ 68719476736 := by
  have h0 := (lsum_rng (p := p) OK.l12 OK.ch (2 ^ p.ch.length)).1
  have h1 := lsum_le p OK.ch
  have e : ((16 ^ p.ch.length : Nat) : Int) = (16 : Int) ^ p.ch.length := by rw [Int.natCast_pow]; rfl
  have h2 : 16 ^ p.ch.length ≤ 16 ^ 9 := Nat.pow_le_pow_right (by omega) h9
  refine ⟨(lsum p (2 ^ p.ch.length)).toNat, by omega, by omega, by omega⟩
theorem wrap_iu12 {l : Nat} (h : l ≤ 68719476736000000) : IntKind.u64.wrap (l : Int) = (l : Int) := by rw [IntKind.wrap_u64]; omega
theorem wrap_ui12 {l : Nat} (h : l ≤ 68719476736000000) : IntKind.i64.wrap (l : Int) = (l : Int) := by rw [IntKind.wrap_i64]; omega
theorem mil_q12 {l t : Nat} (ht : 0 < t) (h : l ≤ t) : l * 1000000 / t ≤ 1000000 := by
  exact Nat.div_le_of_le_mul (Nat.mul_le_mul_right _ h)
set_option maxRecDepth 100000 in
set_option maxHeartbeats 8000000 in
theorem rMil_any {B : Nat} (p : Prl) (w : World) (hM : PerM w B p) (ht : PTab 2 w) (h9 : p.ch.length ≤ 9) :
    Calls Tryd.prog 17 #[prv p] w fun e w' => e = .returned (.tuple #[.int .i64 (if chkP p = 0 then ((milN (lsum p (2 ^ p.ch.length)).toNat (16 ^ p.ch.length) : Nat) : Int) else 0), .int .i64 (chkP p)]) ∧ Below w.heap.size w w' := by
  rcases p with ⟨D, A, n, c, G, Gs, A1, n1, c1, al, A2, n2, c2, ch⟩
  obtain ⟨q, hq⟩ : ∃ q : Prl, q = ⟨D, A, n, c, G, Gs, A1, n1, c1, al, A2, n2, c2, ch⟩ := ⟨_, rfl⟩
  have hqv : Hid (prv q = .agg #[.int .i64 D, .slice A n c, .int .i64 G, .slice A1 n1 c1, .slice A2 n2 c2]) := by rw [hq]; rfl
  rw [← hq] at hM h9 ⊢
  obtain ⟨W1, hW1⟩ : ∃ W1, W1 = w.alloc (.cells #[.int .i64 D, .slice A n c, .int .i64 G, .slice A1 n1 c1, .slice A2 n2 c2] 27) := ⟨_, rfl⟩
  have E : Hid (Below w.heap.size w W1) := by show Below _ _ _; rw [hW1]; exact (Below.refl _ _).alloc (Nat.le_refl _) _
  have X : Hid (Blk W1 w.heap.size [.int .i64 D, .slice A n c, .int .i64 G, .slice A1 n1 c1, .slice A2 n2 c2] 27) := by show Blk _ _ _ _; rw [hW1]; exact Blk.new _ [_, _, _, _, _] _
  have M := Lib.hid (hM.keep E.out)
  have T := Lib.hid (ht.on E.out)
  have hW' := Lib.hid hW1
  have hsz := Lib.hid size_prl
  have hun : Hid (Tryd.prog.underlying 27 = _) := Tryd.underlying27
  clear hM ht hW1 hq
  rw [hqv.out]
  have CC := Lib.hid (rcheck_any q W1 M.out)
  rw [hqv.out] at CC
  obtain ⟨Z, hZ⟩ : ∃ z, z = chkP q := ⟨_, rfl⟩
  rw [← hZ] at CC ⊢
  have hZ' := Lib.hid hZ
  clear hZ
  obtain ⟨V0, hV0⟩ : ∃ v : Int, v = (if Z = 0 then ((milN (lsum q (2 ^ q.ch.length)).toNat (16 ^ q.ch.length) : Nat) : Int) else 0) := ⟨_, rfl⟩
  rw [← hV0]
  have hV0' := Lib.hid hV0
  have h9H := Lib.hid h9
  clear hV0 h9
  go_enter Tryd.func17, Tryd.ntmps17
  go_wp2_with fail
  generalize hg : w.alloc _ = Wg
  have hgW : W1 = Wg := by rw [← hg, hW'.out]
  clear hg hW'
  subst hgW
  go_wp2_with (first | (refine wpList_blk_load rfl 27 _ rfl 0 rfl X.out [_, _, _, _, _] rfl _ hun.out rfl hsz.out ?_) | fail)
  refine CC.out.mono ?_
  rintro e w2 ⟨rfl, hb⟩
  clear CC
  replace X := Lib.hid (X.out.below hb X.out.lt)
  replace M := Lib.hid (M.out.keep hb)
  replace T := Lib.hid (T.out.on hb)
  replace E : Hid (Below w.heap.size w w2) := E.out.trans (hb.mono E.out.size)
  clear hb
  by_cases h0 : Z = 0
  rotate_left
  · have t0 : (Z == 0) = false := by simpa using h0
    have hz : Hid (V0 = 0) := by show V0 = 0; rw [hV0'.out, if_neg h0]
    go_wp2_with fail
    go_ret2
    exact ⟨(by rw [hz.out]; rfl), E.out⟩
  have OK := Lib.hid (chkP_ok.1 (hZ'.out.symm.trans h0))
  have CL := loss_any q w2 M.out T.out OK.out.l24 OK.out.a60 OK.out.l12 OK.out.ch
  have CT : Hid (∀ W, PerM W B q → Calls Tryd.prog 30 #[prv q] W fun e w' => e = .returned (.int .i64 (16 ^ q.ch.length : Nat)) ∧ Below W.heap.size W w') := fun W m => total_any q W m OK.out.l12
  obtain ⟨l, hl1, hl2, hl3⟩ := lsum_nat OK.out h9H.out
  obtain ⟨t, hte⟩ : ∃ t, t = 16 ^ q.ch.length := ⟨_, rfl⟩
  have htp : 0 < t := by rw [hte]; exact Nat.pow_pos (by omega)
  have ht9 : t ≤ 68719476736 := by rw [hte]; exact (Nat.pow_le_pow_right (by omega) h9H.out : 16 ^ q.ch.length ≤ 16 ^ 9)
  have hV1 : Hid (V0 = (milN l t : Nat)) := by show V0 = _; rw [hV0'.out, if_pos h0, hl1, Int.toNat_natCast, hte]
  rw [hl1] at CL
  rw [← hte] at CT hl2
  rw [hqv.out] at CL CT
  have fl := wrap_iu12 (l := l) (by omega)
  have ft := wrap_iu12 (l := t) (by omega)
  have CM := mul64_any l
  have CD : Hid (∀ W, Calls Tryd.prog 38 #[.int .u64 0, .int .u64 ((l * 1000000 : Nat) : Int), .int .u64 t] W fun e w' => e = .returned (.tuple #[.int .u64 ((l * 1000000 / t : Nat) : Int), .int .u64 ((l * 1000000 % t : Nat) : Int)]) ∧ Below W.heap.size W w') := fun W => div64_any (l * 1000000) t W (by omega) (by omega) htp
  have hq6 := mil_q12 htp hl2
  have hV2 : Hid (V0 = (l * 1000000 / t + (if l * 1000000 % t = 0 then 0 else 1) : Nat)) := hV1.out
  generalize l * 1000000 / t = qq at *
  generalize l * 1000000 % t = rr at *
  generalize l * 1000000 = ll at *
  subst h0
  clear hV0' hV1 hl1 hte hl2
  go_wp2_with (first | (refine wpList_blk_load rfl 27 _ rfl 0 rfl X.out [_, _, _, _, _] rfl _ hun.out rfl hsz.out ?_) | fail)
  refine CL.mono ?_
  rintro e w3 ⟨rfl, hb⟩
  clear CL
  replace X := Lib.hid (X.out.below hb X.out.lt)
  replace M := Lib.hid (M.out.keep hb)
  replace E : Hid (Below w.heap.size w w3) := E.out.trans (hb.mono E.out.size)
  clear hb T
  go_wp2_with fail
  refine (CM w3 hl3).mono ?_
  rintro e w4 ⟨rfl, rfl⟩
  clear CM
  go_wp2_with (first | (refine wpList_blk_load rfl 27 _ rfl 0 rfl X.out [_, _, _, _, _] rfl _ hun.out rfl hsz.out ?_) | fail)
  refine (CT.out w4 M.out).mono ?_
  rintro e w5 ⟨rfl, hb⟩
  clear CT
  replace E : Hid (Below w.heap.size w w5) := E.out.trans (hb.mono E.out.size)
  clear hb M X
  go_wp2_with fail
  refine (CD.out w5).mono ?_
  rintro e w6 ⟨rfl, hb⟩
  clear CD
  replace E : Hid (Below w.heap.size w w6) := E.out.trans (hb.mono E.out.size)
  clear hb
  by_cases hr : rr = 0
  · have tr : ¬ (rr : Int) > 0 := by omega
    have hz : Hid (V0 = (qq : Int)) := by show V0 = _; rw [hV2.out, if_pos hr]; rfl
    have fq := wrap_ui12 (l := qq) (by omega)
    go_wp2_with fail
    go_ret2
    exact ⟨(by rw [hz.out]; rfl), E.out⟩
  · have tr : (rr : Int) > 0 := by omega
    obtain ⟨q1, hq1⟩ : ∃ q1, q1 = qq + 1 := ⟨_, rfl⟩
    have hz : Hid (V0 = (q1 : Int)) := by show V0 = _; rw [hV2.out, if_neg hr, hq1]
    have fq := wrap_ui12 (l := q1) (by omega)
    have fq2 := wrap_iu12 (l := q1) (by omega)
    have eq1 : (qq : Int) + 1 = (q1 : Int) := by omega
    clear hq1
    go_wp2_with fail
    go_ret2
    exact ⟨(by rw [hz.out]; rfl), E.out⟩
end Go.Proofs.YtgajlgnniidgmaaDoor

namespace Go.Proofs.YtgajlgnniidgmaaDoor
set_option linter.unusedVariables false
set_option linter.unusedSimpArgs false
open Go.RowKit Go.Maps

theorem eqlN_nil12 {P : Program} (t e : TypeId) (a : Option Addr) (l c : Nat) (h : P.underlying t = some (.slice e)) (W : World) : (binOp .eql t (.slice a l c) (.slice none 0 0)).run P W = .ok (.bool a.isNone) W := by
  simp only [binOp]
  simp [run_equal_slice_nil W t e a l c h]
theorem infoI12 : (Tryd.prog.info? 3).map (fun i => (i.zero, i.size, i.bytes)) = some (some (.int .i64 0), 1, 8) := by kernel_rfl
theorem infoG12 : (Tryd.prog.info? 25).map (fun i => (i.zero, i.size, i.bytes)) = some (some (.slice none 0 0), 1, 24) := by kernel_rfl
theorem own_made12 (w : World) (e : TypeId) : (w.alloc (.cells #[] e)).ownsRow w.heap.size e 1 (.slice (some ⟨w.heap.size, 0, none⟩) 0 0) 0 [] :=
  ⟨rfl, .inr ⟨w.heap.size, 0, #[], rfl, Nat.le_refl _, heap_alloc_new w _, Nat.le_refl _, Nat.zero_le _, rfl, rfl⟩⟩
section
variable {ops : Array Oper} {rest : List Oper} {o : Oper} {a : Act} {Q : Exit → Act → World → Prop}
/-- 'append(t(nil-but-made), list...)'. -/
theorem push_vs {t e : TypeId} {z : Value} {bs : Nat} (ht : Tryd.prog.underlying t = some (.slice e)) (hinf : (Tryd.prog.info? e).map (fun i => (i.zero, i.size, i.bytes)) = some (some z, 1, bs)) (hzc : z.cells.size = 1) (hbs : bs ≤ 24)
    (hgd : o.guard = none) (sl x : Operand)
    (ho : o.op = .call { callee := .builtin .append, args := #[sl, x], argTypes := #[t, t] })
    (w0 : World) (vs : List Value) (B : Nat) (ad : Addr) (n c : Nat) (hn : n = vs.length) (hs : a.eval sl = .slice (some ⟨w0.heap.size, 0, none⟩) 0 0) (hx : a.eval x = .slice (some ad) n c)
    (hr : Rds w0 B (some ad) vs) (hB : B ≤ w0.heap.size) (h1 : ∀ u ∈ vs, u.oneCell' = true) (hlen : n ≤ 1000000)
    (h : ∀ v' w', w'.ownsRow w0.heap.size e 1 v' n vs → Below w0.heap.size w0 w' → wpList Tryd.prog ops Q rest (a.put o.dst v') w') :
    wpList Tryd.prog ops Q (o :: rest) a (w0.alloc (.cells #[] e)) := by
  subst hn
  obtain ⟨i0, hi, hz0, hz1, hz2⟩ := info_parts hinf
  have hB1 : Below w0.heap.size w0 (w0.alloc (.cells #[] e)) := (Below.refl _ _).alloc (Nat.le_refl _) _
  refine wpList_append_own_at _ hgd sl x t ho w0.heap.size e i0 z 1 bs ht hi hz0 hz1 hz2 hzc (by decide) _ 0 [] hs (own_made12 w0 e) ad vs.length c vs hx (by omega) (fun j u hu => ?_) h1 (by unfold maxLen; omega) ?_ hB1.size ?_
  · obtain ⟨ad', e, hb, hc⟩ := hr.look hu
    cases e
    rw [hB1.cell (p := ad.add j) (by rw [add_block]; omega)]
    exact hc
  · rw [Nat.zero_add]
    have := Nat.mul_le_mul hlen hbs
    omega
  · intro v' w' g1 g2 g3 g4
    rw [Nat.zero_add, List.nil_append] at g1
    exact h v' w' g1 (hB1.trans ((Below.refl _ _).grown g2 hB1.size fun k hk => by cases hk; exact Nat.le_refl _))
end

set_option maxRecDepth 100000 in
set_option maxHeartbeats 1000000 in
theorem cloneI12_any {B : Nat} (vs : List Value) (A : Option Addr) (n c : Nat) (w : World) (hn : n = vs.length) (hA : Rds w B A vs) (hB : B ≤ w.heap.size) (hAn : A = none → c = 0) (hl : n ≤ 1000000) (h1 : ∀ u ∈ vs, u.oneCell' = true) :
    Calls Tryd.prog 64 #[.slice A n c] w fun e w' => ∃ v, e = .returned v ∧ w'.ownsRow w.heap.size 3 1 v n vs ∧ Below w.heap.size w w' := by
  cases A with
  | none =>
    have hl0 : vs = [] := by
      by_cases hl : vs = []
      · exact hl
      · obtain ⟨ad, hh, _⟩ := hA hl
        cases hh
    subst hl0
    obtain rfl : n = 0 := hn
    obtain rfl : c = 0 := hAn rfl
    have hO := World.ownsRow_nil w w.heap.size 3 1
    have hE := eqlN_nil12 (P := Tryd.prog) 25 3 none 0 0 Tryd.underlying25
    clear hA hAn
    go_enter Tryd.func64, Tryd.ntmps64
    go_wp2_with fail
    go_ret
    exact ⟨_, rfl, hO, Below.refl _ _⟩
  | some ad =>
    have hA' := Lib.hid hA
    have hn' := Lib.hid hn
    have h1' := Lib.hid h1
    have hE : ∀ W, (binOp .eql 25 (.slice (some ad) n c) (.slice none 0 0)).run Tryd.prog W = .ok (.bool false) W := eqlN_nil12 (P := Tryd.prog) 25 3 (some ad) n c Tryd.underlying25
    clear hA hAn hn h1
    go_enter Tryd.func64, Tryd.ntmps64
    go_wp2_with (refine push_vs (z := .int .i64 0) (bs := 8) Tryd.underlying25 infoI12 rfl (by decide) rfl _ _ rfl w vs B ad n c hn'.out rfl rfl hA'.out hB h1'.out hl ?_; intro v4 w4 ho4 hb4)
    go_ret
    exact ⟨_, rfl, ho4, hb4⟩

set_option maxRecDepth 100000 in
set_option maxHeartbeats 1000000 in
theorem cloneG12_any {B : Nat} (vs : List Value) (A : Option Addr) (n c : Nat) (w : World) (hn : n = vs.length) (hA : Rds w B A vs) (hB : B ≤ w.heap.size) (hAn : A = none → c = 0) (hl : n ≤ 1000000) (h1 : ∀ u ∈ vs, u.oneCell' = true) :
    Calls Tryd.prog 65 #[.slice A n c] w fun e w' => ∃ v, e = .returned v ∧ w'.ownsRow w.heap.size 25 1 v n vs ∧ Below w.heap.size w w' := by
  cases A with
  | none =>
    have hl0 : vs = [] := by
      by_cases hl : vs = []
      · exact hl
      · obtain ⟨ad, hh, _⟩ := hA hl
        cases hh
    subst hl0
    obtain rfl : n = 0 := hn
    obtain rfl : c = 0 := hAn rfl
    have hO := World.ownsRow_nil w w.heap.size 25 1
    have hE := eqlN_nil12 (P := Tryd.prog) 22 25 none 0 0 Tryd.underlying22
    clear hA hAn
    go_enter Tryd.func65, Tryd.ntmps65
    go_wp2_with fail
    go_ret
    exact ⟨_, rfl, hO, Below.refl _ _⟩
  | some ad =>
    have hA' := Lib.hid hA
    have hn' := Lib.hid hn
    have h1' := Lib.hid h1
    have hE : ∀ W, (binOp .eql 22 (.slice (some ad) n c) (.slice none 0 0)).run Tryd.prog W = .ok (.bool false) W := eqlN_nil12 (P := Tryd.prog) 22 25 (some ad) n c Tryd.underlying22
    clear hA hAn hn h1
    go_enter Tryd.func65, Tryd.ntmps65
    go_wp2_with (refine push_vs (z := .slice none 0 0) (bs := 24) Tryd.underlying22 infoG12 rfl (by decide) rfl _ _ rfl w vs B ad n c hn'.out rfl rfl hA'.out hB h1'.out hl ?_; intro v4 w4 ho4 hb4)
    go_ret
    exact ⟨_, rfl, ho4, hb4⟩
end Go.Proofs.YtgajlgnniidgmaaDoor

namespace Go.Proofs.YtgajlgnniidgmaaDoor
set_option linter.unusedVariables false
set_option linter.unusedSimpArgs false
open Go.RowKit Go.Maps

/-- A list that is read, whose block is one of P. -/
def RdsP (P : Nat → Prop) (w : World) (A : Option Addr) (xs : List Value) : Prop :=
  xs ≠ [] → ∃ ad, A = some ad ∧ P ad.block ∧ ad.block < w.heap.size ∧ ∀ j u, xs[j]? = some u → w.cell? (ad.add j) = some u
section
variable {P Q : Nat → Prop} {w w' : World} {A : Option Addr} {xs : List Value}
theorem RdsP.rds (h : RdsP P w A xs) : Rds w w.heap.size A xs := fun hn => by
  obtain ⟨ad, e, _, hb, hc⟩ := h hn
  exact ⟨ad, e, hb, hc⟩
theorem RdsP.keep (h : RdsP P w A xs) (hb : Below w.heap.size w w') : RdsP P w' A xs := fun hn => by
  obtain ⟨ad, e, hp, hl, hc⟩ := h hn
  exact ⟨ad, e, hp, Nat.lt_of_lt_of_le hl hb.size, fun j u hu => (hb.cell (p := ad.add j) (by rw [add_block]; exact hl)).trans (hc j u hu)⟩
theorem RdsP.only {g : Nat} (h : RdsP P w A xs) (ho : Only g w w') (hP : ∀ b, P b → b ≠ g) : RdsP P w' A xs := fun hn => by
  obtain ⟨ad, e, hp, hl, hc⟩ := h hn
  refine ⟨ad, e, hp, by rw [ho.size]; exact hl, fun j u hu => ?_⟩
  rw [← hc j u hu]
  exact World.cell?_of_block (ho.block _ (by rw [add_block]; exact hP _ hp))
theorem RdsP.imp (h : RdsP P w A xs) (hP : ∀ b, b < w.heap.size → P b → Q b) : RdsP Q w A xs := fun hn => by
  obtain ⟨ad, e, hp, hl, hc⟩ := h hn
  exact ⟨ad, e, hP _ hl hp, hl, hc⟩
theorem Rds.toP {B : Nat} (h : Rds w B A xs) (hB : B ≤ w.heap.size) (hP : ∀ b, b < B → P b) : RdsP P w A xs := fun hn => by
  obtain ⟨ad, e, hl, hc⟩ := h hn
  exact ⟨ad, e, hP _ hl, Nat.lt_of_lt_of_le hl hB, hc⟩
theorem own_toP {base : Nat} {e : TypeId} {n : Nat} {v : Value} (h : w.ownsRow base e 1 v n xs) (hP : ∀ b, base ≤ b → b < w.heap.size → P b) :
    ∃ A c, v = .slice A n c ∧ n ≤ c ∧ c ≤ maxLen ∧ (A = none → c = 0) ∧ RdsP P w A xs := by
  obtain ⟨A, c, hv, h1, h2, h3, h4⟩ := own_form h
  refine ⟨A, c, hv, h1, h2, h3, fun hn => ?_⟩
  obtain ⟨ad, e, hl, hc⟩ := h4 hn
  subst hv
  subst e
  refine ⟨ad, rfl, hP _ ?_ hl, hl, hc⟩
  exact (h.lt ad.block rfl).1
end
/-- A group in a block of P. -/
def RowP (P : Nat → Prop) (w : World) (v : Value) (g : List Int) : Prop := ∃ a c, v = .slice a g.length c ∧ g.length ≤ c ∧ c ≤ maxLen ∧ (a = none → c = 0) ∧ RdsP P w a (g.map iv)
/-- Groups whose slices are a row of the call's own, in blocks of P, each apart from the slices. -/
def GrpO (P : Nat → Prop) (w : World) (base : Nat) (v : Value) (Gs : List (List Int)) : Prop :=
  ∃ vs : List Value, vs.length = Gs.length ∧ w.ownsRow base 25 1 v Gs.length vs ∧ ∀ (i : Nat) (u : Value) (g : List Int), vs[i]? = some u → Gs[i]? = some g → RowP (fun b => P b ∧ v.ownBlock ≠ some b) w u g
theorem GrpO.keep {P : Nat → Prop} {w w' : World} {base : Nat} {v : Value} {Gs : List (List Int)} (h : GrpO P w base v Gs) (hb : Below w.heap.size w w') : GrpO P w' base v Gs := by
  obtain ⟨vs, h1, h2, h3⟩ := h
  refine ⟨vs, h1, ⟨h2.1, ?_⟩, fun i u g hu hg => ?_⟩
  · rcases h2.2 with hn | ⟨g, cap, cur, hv, hg, hh, rest⟩
    · exact .inl hn
    · exact .inr ⟨g, cap, cur, hv, hg, by rw [hb.block g (Array.getElem?_eq_some_iff.1 hh).1]; exact hh, rest⟩
  · obtain ⟨a, c, e1, e2, e3, e4, e5⟩ := h3 i u g hu hg
    exact ⟨a, c, e1, e2, e3, e4, e5.keep hb⟩
theorem GrpO.only {P : Nat → Prop} {x : Nat} {w w' : World} {base : Nat} {v : Value} {Gs : List (List Int)} (h : GrpO P w base v Gs) (ho : Only x w w') (hv : v.ownBlock ≠ some x) (hP : ∀ b, P b → b ≠ x) : GrpO P w' base v Gs := by
  obtain ⟨vs, h1, h2, h3⟩ := h
  refine ⟨vs, h1, ⟨h2.1, ?_⟩, fun i u g hu hg => ?_⟩
  · rcases h2.2 with hn | ⟨g, cap, cur, rfl, hg, hh, rest⟩
    · exact .inl hn
    · exact .inr ⟨g, cap, cur, rfl, hg, by rw [ho.block g (fun e => hv (by rw [← e]; rfl))]; exact hh, rest⟩
  · obtain ⟨a, c, e1, e2, e3, e4, e5⟩ := h3 i u g hu hg
    exact ⟨a, c, e1, e2, e3, e4, e5.only ho fun b hb => hP b hb.1⟩
theorem GrpO.grp {P : Nat → Prop} {w : World} {base : Nat} {v : Value} {Gs : List (List Int)} (h : GrpO P w base v Gs) : ∃ A c, v = .slice A Gs.length c ∧ Gs.length ≤ c ∧ c ≤ maxLen ∧ (A = none → c = 0) ∧ GrpM w w.heap.size A Gs := by
  obtain ⟨vs, h1, h2, h3⟩ := h
  obtain ⟨A, c, hv, q1, q2, q3, q4⟩ := own_form h2
  refine ⟨A, c, hv, q1, q2, q3, vs, h1, q4, fun i u g hu hg => ?_⟩
  obtain ⟨a, c, e1, e2, e3, e4, e5⟩ := h3 i u g hu hg
  exact ⟨a, c, e1, e2, e3, e4, e5.rds⟩
theorem GrpO.open {P : Nat → Prop} {w : World} {base : Nat} {v : Value} {Gs : List (List Int)} (h : GrpO P w base v Gs) (hne : 0 < Gs.length) :
    ∃ (g cap : Nat) (L : List Value), v = .slice (some ⟨g, 0, none⟩) Gs.length cap ∧ base ≤ g ∧ Blk w g L 25 ∧ Gs.length ≤ L.length ∧
      (∀ (k : Nat) (m : List Int), Gs[k]? = some m → ∃ u : Value, L[k]? = some u ∧ RowP (fun b => P b ∧ b ≠ g) w u m) ∧
      ∀ (w' : World) (k : Nat) (u : Value) (m : List Int), Gs[k]? = some m → Blk w' g (L.set k u) 25 → Only g w w' → RowP (fun b => P b ∧ b ≠ g) w u m → GrpO P w' base v Gs := by
  obtain ⟨vs, h1, h2, h3⟩ := h
  rcases h2.2 with ⟨_, hn⟩ | ⟨g, cap, cur, rfl, hg, hh, q1, q2, q3, q4⟩
  · omega
  have hlen : Gs.length ≤ cur.toList.length := by simp only [Array.length_toList]; omega
  rw [Nat.mul_one] at q4
  have hP : ∀ b, P b ∧ (Value.slice (some ⟨g, 0, none⟩) Gs.length cap).ownBlock ≠ some b → P b ∧ b ≠ g := fun b hb => ⟨hb.1, fun e => hb.2 (by rw [e]; rfl)⟩
  have hP2 : ∀ b, P b ∧ b ≠ g → P b ∧ (Value.slice (some ⟨g, 0, none⟩) Gs.length cap).ownBlock ≠ some b := fun b hb => ⟨hb.1, fun e => hb.2 (Option.some.inj e).symm⟩
  refine ⟨g, cap, cur.toList, rfl, hg, by show _ = _; rw [hh], hlen, fun k m hm => ?_, fun w' k u m hm hb ho hr => ?_⟩
  · have hk := (List.getElem?_eq_some_iff.1 hm).1
    obtain ⟨u, hu⟩ : ∃ u, vs[k]? = some u := ⟨_, List.getElem?_eq_getElem (by omega)⟩
    refine ⟨u, ?_, ?_⟩
    · rw [← hu, ← q4, List.getElem?_take_of_lt hk]
    · obtain ⟨a, c, e1, e2, e3, e4, e5⟩ := h3 k u m hu hm
      exact ⟨a, c, e1, e2, e3, e4, e5.imp fun b _ hb => hP b hb⟩
  have hk := (List.getElem?_eq_some_iff.1 hm).1
  refine ⟨vs.set k u, by simp [h1], ⟨by simp [h1], .inr ⟨g, cap, (cur.toList.set k u).toArray, rfl, hg, hb, q1, q2, by simp [q3], ?_⟩⟩, fun i u' m' hu hm' => ?_⟩
  · show ((cur.toList.set k u).take (Gs.length * 1)) = vs.set k u
    rw [Nat.mul_one, List.take_set, q4]
  · by_cases hik : k = i
    · subst hik
      rw [List.getElem?_set_self (by omega)] at hu
      rw [hm] at hm'
      cases hu
      cases hm'
      obtain ⟨a, c, e1, e2, e3, e4, e5⟩ := hr
      exact ⟨a, c, e1, e2, e3, e4, (e5.only ho fun b hb => hb.2).imp fun b _ hb => hP2 b hb⟩
    · rw [List.getElem?_set_ne hik] at hu
      obtain ⟨a, c, e1, e2, e3, e4, e5⟩ := h3 i u' m' hu hm'
      exact ⟨a, c, e1, e2, e3, e4, e5.only ho fun b hb => (hP b hb).2⟩
/-- The capacities of a peril's lists fit their addresses. -/
def CapP (p : Prl) : Prop := (p.A = none → p.c = 0) ∧ (p.A1 = none → p.c1 = 0) ∧ (p.A2 = none → p.c2 = 0)
/-- A peril in memory of its own; its chances lie in block g, all else elsewhere. -/
structure CloM (w : World) (B base g : Nat) (q : Prl) : Prop where
  a2 : q.A2 = some ⟨g, 0, none⟩
  gb : base ≤ g
  ch : ∃ L, Blk w g L 3 ∧ q.n2 ≤ L.length ∧ L.take q.n2 = q.ch.map iv
  al : RdsP (fun b => b ≠ g ∧ (b < B ∨ base ≤ b)) w q.A1 (q.al.map iv)
  gs : ∃ vs : List Value, vs.length = q.Gs.length ∧ RdsP (fun b => b ≠ g ∧ (b < B ∨ base ≤ b)) w q.A vs ∧ ∀ (i : Nat) (u : Value) (m : List Int), vs[i]? = some u → q.Gs[i]? = some m → RowP (fun b => b ≠ g ∧ (b < B ∨ base ≤ b)) w u m
  cap : CapP q
end Go.Proofs.YtgajlgnniidgmaaDoor

namespace Go.Proofs.YtgajlgnniidgmaaDoor
set_option linter.unusedVariables false
set_option linter.unusedSimpArgs false
open Go.RowKit Go.Maps

theorem slice_one12 (A : Option Addr) (n c : Nat) : ∀ u ∈ (Value.slice A n c).cells.toList, u.oneCell' = true := by
  intro u hu
  simp [Value.cells] at hu
  subst hu
  rfl
theorem size_ints12 : (Tryd.prog.info? 25).map (·.size) = some 1 := by kernel_rfl
theorem size_grps12 : (Tryd.prog.info? 22).map (·.size) = some 1 := by kernel_rfl
theorem five_one12 (D G : Int) (A A1 A2 : Option Addr) (n n1 n2 c c1 c2 : Nat) : ∀ u ∈ [Value.int .i64 D, .slice A n c, .int .i64 G, .slice A1 n1 c1, .slice A2 n2 c2], u.oneCell' = true := by
  intro u hu
  simp only [List.mem_cons, List.not_mem_nil, or_false] at hu
  rcases hu with rfl | rfl | rfl | rfl | rfl <;> rfl
def zeroP : List Value := [.int .i64 0, .slice none 0 0, .int .i64 0, .slice none 0 0, .slice none 0 0]
/-- What clone makes. -/
def CloEnd (B : Nat) (w : World) (p : Prl) (e : Ending) (w' : World) : Prop :=
  (∃ q g, e = .returned (prv q) ∧ CloM w' B w.heap.size g q ∧ q.D = p.D ∧ q.G = p.G ∧ q.Gs = p.Gs ∧ q.al = p.al ∧ q.ch = p.ch ∧ q.n = p.n ∧ q.n1 = p.n1 ∧ q.n2 = p.n2) ∧ Below w.heap.size w w'

set_option maxRecDepth 100000 in
set_option maxHeartbeats 8000000 in
theorem rclone_any {B : Nat} (p : Prl) (w : World) (hM : PerM w B p) (hk : CapP p) (l1 : p.al.length ≤ 1000000) (l2 : p.ch.length ≤ 1000000) (l3 : p.Gs.length ≤ 1000000) (l4 : ∀ g ∈ p.Gs, g.length ≤ 1000000) (hne : 0 < p.ch.length) :
    Calls Tryd.prog 47 #[prv p] w (CloEnd B w p) := by
  obtain ⟨Q, hQ⟩ : ∃ Q, Q = CloEnd B w p := ⟨_, rfl⟩
  rw [← hQ]
  have hQ' := Lib.hid hQ
  clear hQ
  have hn := hM.cod.len
  have hn1 := hM.n1
  have hn2 := hM.n2
  have hle : Hid (B ≤ w.heap.size) := hM.le
  obtain ⟨vs, g1, g2, g3⟩ := hM.cod.m
  have hal := hM.al
  have hch := hM.ch
  obtain ⟨kc, k1, k2⟩ := hk
  rcases p with ⟨D, A, n, c, G, Gs, A1, n1, c1, al, A2, n2, c2, ch⟩
  unfold prv prc
  dsimp only at *
  obtain ⟨W1, hW1⟩ : ∃ W1, W1 = (w.alloc (.cells #[.int .i64 D, .slice A n c, .int .i64 G, .slice A1 n1 c1, .slice A2 n2 c2] 27)).alloc (.cells #[.int .i64 0, .slice none 0 0, .int .i64 0, .slice none 0 0, .slice none 0 0] 27) := ⟨_, rfl⟩
  have hB1 : Hid (Below w.heap.size w W1) := by show Below _ _ _; rw [hW1]; exact ((Below.refl _ _).alloc (Nat.le_refl _) _).alloc (by simp) _
  have s1 : Hid (W1.heap.size = w.heap.size + 1 + 1) := by show _ = _; rw [hW1]; simp
  have hR1 : Hid (Blk W1 w.heap.size [.int .i64 D, .slice A n c, .int .i64 G, .slice A1 n1 c1, .slice A2 n2 c2] 27) := by show Blk _ _ _ _; rw [hW1]; exact (Blk.new _ [_, _, _, _, _] _).alloc _
  have hZ1 : Hid (Blk W1 (w.heap.size + 1) zeroP 27) := by show Blk _ _ _ _; rw [hW1]; exact (Blk.new _ zeroP _).at (by simp)
  have one_iv : ∀ l : List Int, ∀ u ∈ l.map iv, u.oneCell' = true := fun l u hu => by obtain ⟨b, _, rfl⟩ := List.mem_map.1 hu; rfl
  have one_vs : ∀ u ∈ vs, u.oneCell' = true := fun u hu => by
    obtain ⟨i, hi⟩ := List.getElem?_of_mem hu
    obtain ⟨m, hm⟩ : ∃ m, Gs[i]? = some m := ⟨_, List.getElem?_eq_getElem (by rw [← g1]; exact (List.getElem?_eq_some_iff.1 hi).1)⟩
    obtain ⟨_, _, rfl, _⟩ := g3 i u m hi hm
    rfl
  have C1 := Lib.hid (fun W (hW : Below W1.heap.size W1 W) => cloneI12_any (B := B) (al.map iv) A1 n1 c1 W (by rw [List.length_map]; exact hn1) (hal.below ((hB1.out.trans (hW.mono hB1.out.size)).mono hle.out)) (Nat.le_trans hle.out (Nat.le_trans hB1.out.size hW.size)) k1 (by omega) (one_iv al))
  have C2 := Lib.hid (fun W (hW : Below W1.heap.size W1 W) => cloneI12_any (B := B) (ch.map iv) A2 n2 c2 W (by rw [List.length_map]; exact hn2) (hch.below ((hB1.out.trans (hW.mono hB1.out.size)).mono hle.out)) (Nat.le_trans hle.out (Nat.le_trans hB1.out.size hW.size)) k2 (by omega) (one_iv ch))
  have C3 := Lib.hid (fun W (hW : Below W1.heap.size W1 W) => cloneG12_any (B := B) vs A n c W (by omega) (g2.below ((hB1.out.trans (hW.mono hB1.out.size)).mono hle.out)) (Nat.le_trans hle.out (Nat.le_trans hB1.out.size hW.size)) kc (by omega) one_vs)
  have hW1' := Lib.hid hW1
  have hii := Lib.hid size_ints12
  have hgg := Lib.hid size_grps12
  have hsz := Lib.hid size_prl
  have hun : Hid (Tryd.prog.underlying 27 = _) := Tryd.underlying27
  have hlt1 := Lib.hid hR1.out.lt
  have q1 : ∀ x : ExtOf W1.drew, x.world.cell? ⟨w.heap.size, 3, none⟩ = some (.slice A1 n1 c1) := fun x => (hR1.out.drew.below x.ext hlt1.out).cell (j := 3) rfl
  have q2 : ∀ x : ExtOf W1.drew, x.world.cell? ⟨w.heap.size, 4, none⟩ = some (.slice A2 n2 c2) := fun x => (hR1.out.drew.below x.ext hlt1.out).cell (j := 4) rfl
  have q3 : ∀ x : ExtOf W1.drew, x.world.cell? ⟨w.heap.size, 1, none⟩ = some (.slice A n c) := fun x => (hR1.out.drew.below x.ext hlt1.out).cell (j := 1) rfl
  have hnH := Lib.hid hn
  have hn1H := Lib.hid hn1
  have hn2H := Lib.hid hn2
  have hneH := Lib.hid hne
  have g1H := Lib.hid g1
  have g3H : Hid (∀ W, Below w.heap.size w W → ∀ (i : Nat) (u : Value) (m : List Int), vs[i]? = some u → Gs[i]? = some m → RowI W B u m) := fun W hW i u m hu hm => (g3 i u m hu hm).below (hW.mono hle.out)
  have l3H := Lib.hid l3
  have l4H := Lib.hid l4
  clear hW1 hM hal hch hn hn1 hn2 hne g1 g2 g3 l1 l2 l3 l4 kc k1 k2 one_iv one_vs
  go_enter Tryd.func47, Tryd.ntmps47
  go_wp2_with fail
  generalize hg : (w.alloc _).alloc _ = Wg
  have hgW : W1 = Wg := by rw [← hg, hW1'.out]
  clear hg hW1'
  subst hgW
  refine wp_region_planM [11, 13, 16] [(true, 0), (true, 1), (true, 3), (true, 4), (true, 6), (true, 7), (true, 8), (false, 2), (true, 10), (false, 5), (false, 9), (false, 11), (true, 12), (false, 13), (true, 14), (true, 15), (false, 16)] (by decide) (by kernel_rfl) (by kernel_rfl) (by decide) (by intro c a d v w h; cases d <;> exact h) ?_
  change wpPlanM _ _ _ _ _ _ W1.drew
  iterate 7 (refine wpPlanM_plain rfl (fun K hK => ?_); go_simp; refine hK _ ?_; clear hK K)
  clear q1 q2 q3
  have hd0 : Hid (Below W1.heap.size W1 W1.drew) := (Below.refl _ _).drew
  refine wpPlanM_call rfl (fun K hK => ?_)
  go_wp2_with fail
  refine (C1.out W1.drew hd0.out).mono ?_
  rintro e w2 ⟨v1, rfl, ho1, hb2⟩
  have hb2' := Lib.hid hb2
  have hB2 : Hid (Below W1.heap.size W1 w2) := hd0.out.trans (hb2.mono hd0.out.size)
  have ho1' := Lib.hid ho1
  clear hb2 ho1
  go_wp2_with fail
  refine planPostL_normal ⟨.inr hb2'.out, hK _ _ ?_⟩
  clear hK K
  iterate 1 (refine wpPlanM_plain rfl (fun K hK => ?_); go_simp; refine hK _ ?_; clear hK K)
  refine wpPlanM_call rfl (fun K hK => ?_)
  go_wp2_with fail
  refine (C2.out w2 hB2.out).mono ?_
  rintro e w3 ⟨v2, rfl, ho2, hb3⟩
  have hb3' := Lib.hid hb3
  have hB3 : Hid (Below W1.heap.size W1 w3) := hB2.out.trans (hb3.mono hB2.out.size)
  have ho2' := Lib.hid ho2
  clear hb3 ho2
  go_wp2_with fail
  refine planPostL_normal ⟨.inr hb3'.out, hK _ _ ?_⟩
  clear hK K
  refine wpPlanM_call rfl (fun K hK => ?_)
  go_wp2_with fail
  refine (C3.out w3 hB3.out).mono ?_
  rintro e w4 ⟨v3, rfl, ho3, hb4⟩
  have hb4' := Lib.hid hb4
  have hB4 : Hid (Below W1.heap.size W1 w4) := hB3.out.trans (hb4.mono hB3.out.size)
  have ho3' := Lib.hid ho3
  clear hb4 ho3
  go_wp2_with fail
  refine planPostL_normal ⟨.inr hb4'.out, hK _ _ ?_⟩
  clear hK K
  have hB04 : Hid (Below w.heap.size w w4) := hB1.out.trans (hB4.out.mono hB1.out.size)
  -- the chances' block
  obtain ⟨gc, c2', Lc, rfl, hgc1, hgc2, hLc, hLcn, hLct⟩ : ∃ gc cap L, v2 = .slice (some ⟨gc, 0, none⟩) n2 cap ∧ w2.heap.size ≤ gc ∧ gc < w3.heap.size ∧ Blk w3 gc L 3 ∧ n2 ≤ L.length ∧ L.take n2 = ch.map iv := by
    rcases ho2'.out.2 with ⟨_, hn0⟩ | ⟨g, cap, cur, rfl, hg, hh, y1, y2, y3, y4⟩
    · have := hneH.out; have := hn2H.out; omega
    · rw [Nat.mul_one] at y4
      exact ⟨g, cap, cur.toList, rfl, hg, (Array.getElem?_eq_some_iff.1 hh).1, by show _ = _; rw [hh], by simp only [Array.length_toList]; omega, y4⟩
  -- sizes
  have z1 := s1.out
  have z2 := hB2.out.size
  have z3 := hb3'.out.size
  have z4 := hb4'.out.size
  have hle0 := hle.out
  have hAl : Hid (∃ A1' c1', v1 = .slice A1' n1 c1' ∧ (A1' = none → c1' = 0) ∧ RdsP (fun b => b < w3.heap.size ∧ b ≠ gc ∧ b ≠ w.heap.size ∧ b ≠ w.heap.size + 1 ∧ (b < B ∨ w.heap.size ≤ b)) w4 A1' (al.map iv)) := by
    obtain ⟨A', c', hv, _, _, y3, y4⟩ := own_toP (P := fun b => b < w3.heap.size ∧ b ≠ gc ∧ b ≠ w.heap.size ∧ b ≠ w.heap.size + 1 ∧ (b < B ∨ w.heap.size ≤ b)) ho1'.out (fun b hb1 hb2 => by
      have hb1 : W1.heap.size ≤ b := hb1
      exact ⟨by omega, by omega, by omega, by omega, by omega⟩)
    exact ⟨A', c', hv, y3, (y4.keep hb3'.out).keep hb4'.out⟩
  have hGr : Hid (GrpO (fun b => b ≠ gc ∧ b ≠ w.heap.size ∧ b ≠ w.heap.size + 1 ∧ (b < B ∨ w.heap.size ≤ b)) w4 w3.heap.size v3 Gs) := by
    refine ⟨vs, g1H.out, by rw [← hnH.out]; exact ho3'.out, fun i u m hu hm => ?_⟩
    obtain ⟨a, c, e1, e2, e3, e4, e5⟩ := g3H.out w4 hB04.out i u m hu hm
    refine ⟨a, c, e1, e2, e3, e4, e5.toP (Nat.le_trans hle.out hB04.out.size) fun b hb => ⟨⟨by omega, by omega, by omega, by omega⟩, fun hv => ?_⟩⟩
    have := (ho3'.out.lt b hv).1
    omega
  obtain ⟨A', cg, rfl, hcg⟩ : ∃ A' cg, v3 = .slice A' n cg ∧ (A' = none → cg = 0) := by
    obtain ⟨A', cg, hv, _, _, y3, _⟩ := own_form ho3'.out
    exact ⟨A', cg, hv, y3⟩
  obtain ⟨A1', c1', rfl, hc1', hAl'⟩ := hAl.out
  have hcgH := Lib.hid hcg
  have hc1H := Lib.hid hc1'
  have hAlH := Lib.hid hAl'
  have hLcH : Hid (Blk w4 gc Lc 3) := hLc.below hb4'.out hgc2
  have hLcnH := Lib.hid hLcn
  have hLctH := Lib.hid hLct
  have hgcH : Hid (w.heap.size + 1 < gc ∧ gc < w3.heap.size) := ⟨by omega, hgc2⟩
  obtain ⟨s3, hs3⟩ : ∃ s, s = w3.heap.size := ⟨_, rfl⟩
  rw [← hs3] at hgcH hGr hAlH
  have hR4 := Lib.hid (hR1.out.below hB4.out hlt1.out)
  have hZ4 := Lib.hid (hZ1.out.below hB4.out hZ1.out.lt)
  have hs3H : Hid (w.heap.size + 1 < s3) := by show _ < _; omega
  clear ho1' ho2' ho3' hb2' hb3' hb4' C1 C2 C3 hR1 hZ1 hcg hc1' hAl' hAl hLc hLcn hLct hgc1 hgc2 hs3 z1 z2 z3 z4 hle0 hd0 hlt1 hB2 hB3 hB1 hB4
  refine wpPlanM_call rfl (fun K hK => ?_)
  refine wpList_blk_store rfl 25 _ _ rfl 3 (.slice A1' n1 c1') rfl rfl hR4.out hii.out (by simp [Value.cells]) (slice_one12 _ _ _) ?_
  intro w5 hw5 ho5
  refine wpList_end (planPostL_normal ⟨.inl (by simp), hK _ _ ?_⟩)
  clear hK K
  have hR5 : Hid (Blk w5 w.heap.size [.int .i64 D, .slice A n c, .int .i64 G, .slice A1' n1 c1', .slice A2 n2 c2] 27) := hw5
  iterate 1 (refine wpPlanM_plain rfl (fun K hK => ?_); go_simp; refine hK _ ?_; clear hK K)
  refine wpPlanM_call rfl (fun K hK => ?_)
  refine wpList_blk_store rfl 25 _ _ rfl 4 (.slice (some ⟨gc, 0, none⟩) n2 c2') rfl rfl hR5.out hii.out (by simp [Value.cells]) (slice_one12 _ _ _) ?_
  intro w6 hw6 ho6
  refine wpList_end (planPostL_normal ⟨.inl (by simp), hK _ _ ?_⟩)
  clear hK K
  have hR6 : Hid (Blk w6 w.heap.size [.int .i64 D, .slice A n c, .int .i64 G, .slice A1' n1 c1', .slice (some ⟨gc, 0, none⟩) n2 c2'] 27) := hw6
  iterate 2 (refine wpPlanM_plain rfl (fun K hK => ?_); go_simp; refine hK _ ?_; clear hK K)
  refine wpPlanM_call rfl (fun K hK => ?_)
  refine wpList_blk_store rfl 22 _ _ rfl 1 (.slice A' n cg) rfl rfl hR6.out hgg.out (by simp [Value.cells]) (slice_one12 _ _ _) ?_
  intro w7 hw7 ho7
  refine wpList_end (planPostL_normal ⟨.inl (by simp), hK _ _ ?_⟩)
  clear hK K
  have hR7 : Hid (Blk w7 w.heap.size [.int .i64 D, .slice A' n cg, .int .i64 G, .slice A1' n1 c1', .slice (some ⟨gc, 0, none⟩) n2 c2'] 27) := hw7
  have hon : Hid (Only w.heap.size w4 w7) := (ho5.trans ho6).trans ho7
  have hZ7 := Lib.hid (hZ4.out.only hon.out (by omega))
  refine wpPlanM_nil ?_
  have hAl7 := Lib.hid (hAlH.out.only hon.out fun b hb => hb.2.2.1)
  have hGr7 : Hid (GrpO (fun b => b ≠ gc ∧ b ≠ w.heap.size ∧ b ≠ w.heap.size + 1 ∧ (b < B ∨ w.heap.size ≤ b)) w7 s3 (.slice A' n cg) Gs) := hGr.out.only hon.out (fun hv => by
    obtain ⟨_, _, h2, _⟩ := hGr.out
    have := (h2.lt _ hv).1
    have := hs3H.out
    omega) fun b hb => hb.2.1
  have hLc7 := Lib.hid (hLcH.out.only hon.out (by have := hgcH.out.1; omega))
  have hB7 : Hid (Below w.heap.size w w7) := hB04.out.trans (hon.out.below (Nat.le_refl _))
  clear hw5 hw6 hw7 ho5 ho6 ho7 hR4 hR5 hR6 hZ4 hAlH hGr hLcH hB04 hon g3H g1H
  have p1 := hR7.out.cell (j := 1) rfl
  have hn6 : n ≤ 1000000 := by rw [hnH.out]; exact l3H.out
  have hiH : Hid (∀ k, k < n → ∃ m, Gs[k]? = some m ∧ m.length ≤ 1000000) := fun k hk => by
    have hk' : k < Gs.length := by rw [← hnH.out]; exact hk
    exact ⟨Gs[k], List.getElem?_eq_getElem hk', l4H.out _ (List.getElem_mem hk')⟩
  go_wp2_with fail
  clear p1
  go_loopw [23] (fun i wr => ∃ k : Nat, k ≤ n ∧ i = .int .i64 k ∧ Hid (Blk wr w.heap.size [.int .i64 D, .slice A' n cg, .int .i64 G, .slice A1' n1 c1', .slice (some ⟨gc, 0, none⟩) n2 c2'] 27) ∧ Hid (Blk wr (w.heap.size + 1) zeroP 27) ∧ Hid (RdsP (fun b => b < s3 ∧ b ≠ gc ∧ b ≠ w.heap.size ∧ b ≠ w.heap.size + 1 ∧ (b < B ∨ w.heap.size ≤ b)) wr A1' (al.map iv)) ∧ Hid (GrpO (fun b => b ≠ gc ∧ b ≠ w.heap.size ∧ b ≠ w.heap.size + 1 ∧ (b < B ∨ w.heap.size ≤ b)) wr s3 (.slice A' n cg) Gs) ∧ Hid (Blk wr gc Lc 3) ∧ Hid (Below w.heap.size w wr)) (fun i _ => n - (intOf i).toNat)
  case atStart => exact ⟨0, by omega, rfl, hR7, hZ7, hAl7, hGr7, hLc7, hB7⟩
  case round =>
    obtain ⟨k, hk, rfl, hR, hZ, hA, hO, hC, hB⟩ := hrel
    clear hR7 hZ7 hAl7 hGr7 hLc7 hB7
    by_cases hlt : k < n
    · have t : (k : Int) < (n : Int) := by omega
      have t0 : 0 ≤ (k : Int) := by omega
      obtain ⟨m, hm, hml⟩ := hiH.out k hlt
      have hpos : 0 < Gs.length := by rw [← hnH.out]; omega
      obtain ⟨bg, cap, L, hv, hbg, hL, hLn, hrow, _⟩ := hO.out.open hpos
      have hA' : A' = some ⟨bg, 0, none⟩ := by injection hv
      subst hA'
      clear hv
      obtain ⟨u, hu, a, ca, rfl, r1, r2, r3, r4⟩ := hrow k m hm
      have hcell := hL.cell hu
      obtain ⟨lm, hlm⟩ : ∃ lm, lm = m.length := ⟨_, rfl⟩
      rw [← hlm] at hcell r1
      have C := Lib.hid (fun W (hW : Below wr.heap.size wr W) => cloneI12_any (B := wr.heap.size) (m.map iv) a lm ca W (by rw [List.length_map]; exact hlm) (r4.rds.below hW) hW.size r3 (by omega) (fun u hu => by obtain ⟨b, _, rfl⟩ := List.mem_map.1 hu; rfl))
      have hmH := Lib.hid hm
      have hlmH := Lib.hid hlm
      have hpH := Lib.hid hpos
      clear hm hlm hpos hL hLn hrow hu r1 r2 r3 r4 hml
      go_wp2_with fail
      clear hcell
      have hltR := hR.out.lt
      have q1 : ∀ x : ExtOf wr.drew, x.world.cell? ⟨w.heap.size, 1, none⟩ = some (.slice (some ⟨bg, 0, none⟩) n cg) := fun x => (hR.out.drew.below x.ext hltR).cell (j := 1) rfl
      refine wp_region_planM [7] [(true, 0), (true, 1), (true, 2), (true, 3), (true, 4), (false, 5), (true, 6), (false, 7)] (by decide) (by kernel_rfl) (by kernel_rfl) (by decide) (by intro c a d v w h; cases d <;> exact h) ?_
      change wpPlanM _ _ _ _ _ _ wr.drew
      iterate 5 (refine wpPlanM_plain rfl (fun K hK => ?_); go_simp; refine hK _ ?_; clear hK K)
      clear q1
      have hd0 : Hid (Below wr.heap.size wr wr.drew) := (Below.refl _ _).drew
      refine wpPlanM_call rfl (fun K hK => ?_)
      go_wp2_with fail
      refine (C.out wr.drew hd0.out).mono ?_
      rintro e w9 ⟨v9, rfl, ho9, hb9⟩
      obtain ⟨a9, c9, rfl, y1, y2, y3, y4⟩ := own_toP (P := fun b => wr.heap.size ≤ b) ho9 (fun b hb _ => hb)
      have hb9' := Lib.hid hb9
      have hbw : Hid (Below wr.heap.size wr w9) := hd0.out.trans (hb9.mono hd0.out.size)
      have hR9 := Lib.hid (hR.out.below hbw.out hR.out.lt)
      have hZ9 := Lib.hid (hZ.out.below hbw.out hZ.out.lt)
      have hA9 := Lib.hid (hA.out.keep hbw.out)
      have hO9 := Lib.hid (hO.out.keep hbw.out)
      have hC9 := Lib.hid (hC.out.below hbw.out hC.out.lt)
      have hB9 : Hid (Below w.heap.size w w9) := hB.out.trans (hbw.out.mono hB.out.size)
      obtain ⟨bg2, cap2, L, hv, hbg2, hL, hLn, _, hset⟩ := hO9.out.open hpH.out
      obtain rfl : bg = bg2 := by injection hv with h1; injection h1 with h1; injection h1
      have hbgl : bg < wr.heap.size := by
        obtain ⟨_, _, h2, _⟩ := hO.out
        exact (h2.lt bg rfl).2
      have hgcl := hC.out.lt
      have hRl := hR.out.lt
      have hZl := hZ.out.lt
      have hrow : Hid (RowP (fun b => (b ≠ gc ∧ b ≠ w.heap.size ∧ b ≠ w.heap.size + 1 ∧ (b < B ∨ w.heap.size ≤ b)) ∧ b ≠ bg) w9 (.slice a9 lm c9) m) := by
        refine ⟨a9, c9, by rw [hlmH.out], by rw [← hlmH.out]; exact y1, y2, y3, y4.imp fun b _ hb => ?_⟩
        have hb : wr.heap.size ≤ b := hb
        exact ⟨⟨by omega, by omega, by omega, by omega⟩, by omega⟩
      have hLH := Lib.hid hL
      have hfit : Hid (k + (Value.slice a9 lm c9).cells.size ≤ L.length) := by show k + 1 ≤ _; rw [← hnH.out] at hLn; omega
      have hsetH := Lib.hid hset
      have hbgH : Hid (s3 ≤ bg) := hbg
      have hzz : Hid (w.heap.size + 1 < bg) := Nat.lt_of_lt_of_le hs3H.out hbg
      have hgb : Hid (gc < bg) := Nat.lt_of_lt_of_le hgcH.out.2 hbg
      have hfk : Hid (k < L.length) := by show _ < _; rw [← hnH.out] at hLn; omega
      clear hv hbg2 hL hLn hset hb9 ho9 y1 y2 y3 y4 hbg hbgl hgcl hRl hZl hd0 hbw hR hZ hA hO hC hB hltR C
      go_wp2_with fail
      refine planPostL_normal ⟨.inr hb9'.out, hK _ _ ?_⟩
      clear hK K hb9'
      iterate 1 (refine wpPlanM_plain rfl (fun K hK => ?_); go_simp; refine hK _ ?_; clear hK K)
      refine wpPlanM_call rfl (fun K hK => ?_)
      refine wpList_blk_store rfl 25 _ _ rfl k (.slice a9 lm c9) rfl rfl hLH.out hii.out hfit.out (slice_one12 _ _ _) ?_
      intro w10 hw10 ho10
      refine wpList_end (planPostL_normal ⟨.inl (by simp), hK _ _ ?_⟩)
      clear hK K
      have hw10' : Blk w10 bg (L.set k (.slice a9 lm c9)) 25 := by
        have h := hw10.out
        rw [show (Value.slice a9 lm c9).cells.toList = [.slice a9 lm c9] from rfl, splice_set _ _ _ hfk.out] at h
        exact h
      have hO10 := Lib.hid (hsetH.out w10 k _ m hmH.out hw10' ho10 hrow.out)
      have hR10 := Lib.hid (hR9.out.only ho10 (by have := hzz.out; omega))
      have hZ10 := Lib.hid (hZ9.out.only ho10 (by have := hzz.out; omega))
      have hA10 := Lib.hid (hA9.out.only ho10 fun b hb => by have := hbgH.out; have := hb.1; omega)
      have hC10 := Lib.hid (hC9.out.only ho10 (by have := hgb.out; omega))
      have hB10 : Hid (Below w.heap.size w w10) := hB9.out.trans (ho10.below (by have := hzz.out; omega))
      clear hw10 hw10' ho10 hO9 hR9 hZ9 hA9 hC9 hB9 hsetH hLH hrow
      refine wpPlanM_nil ?_
      go_wp2_with fail
      go_roundw
      case rel => exact ⟨k + 1, by omega, by go_num, hR10, hZ10, hA10, hO10, hC10, hB10⟩
      case measure => simp [intOf]; omega
    · have t : ¬ (k : Int) < (n : Int) := by omega
      go_wp2_with (first | (refine wpList_blk_load rfl 27 _ rfl 0 rfl hR.out [_, _, _, _, _] rfl _ hun.out rfl hsz.out ?_) | (refine wpList_row_store rfl 27 _ _ rfl [.int .i64 D, .slice A' n cg, .int .i64 G, .slice A1' n1 c1', .slice (some ⟨gc, 0, none⟩) n2 c2'] rfl rfl hZ.out hsz.out rfl (five_one12 _ _ _ _ _ _ _ _ _ _ _) ?_; intro w8 hw8 ho8))
      refine bodyPost_ret (ret_blk rfl _ _ (g := w.heap.size + 1) rfl hw8.out _ hun.out rfl hsz.out) rfl ?_
      rw [hQ'.out]
      refine ⟨⟨⟨D, A', n, cg, G, Gs, A1', n1, c1', al, some ⟨gc, 0, none⟩, n2, c2', ch⟩, gc, rfl, ⟨rfl, by have := hgcH.out.1; omega, ⟨Lc, hC.out.only ho8 (by have := hgcH.out.1; omega), hLcnH.out, hLctH.out⟩, ?_, ?_, ⟨hcgH.out, hc1H.out, fun h => by cases h⟩⟩, rfl, rfl, rfl, rfl, rfl, rfl, rfl, rfl⟩, hB.out.trans (ho8.below (by omega))⟩
      · exact (hA.out.only ho8 fun b hb => hb.2.2.2.1).imp fun b _ hb => ⟨hb.2.1, hb.2.2.2.2⟩
      · obtain ⟨vs2, h1, h2, h3⟩ := hO.out
        refine ⟨vs2, h1, ?_, fun i u m hu hm => ?_⟩
        · obtain ⟨A9, c9, hv, _, _, _, h9⟩ := own_toP (P := fun b => s3 ≤ b) h2 (fun b hb _ => hb)
          obtain rfl : A' = A9 := by injection hv
          exact (h9.only ho8 fun b hb => by have hb : s3 ≤ b := hb; have := hs3H.out; omega).imp fun b _ hb => by have hb : s3 ≤ b := hb; have := hgcH.out.2; have := hs3H.out; exact ⟨by omega, by omega⟩
        · obtain ⟨a, c, e1, e2, e3, e4, e5⟩ := h3 i u m hu hm
          exact ⟨a, c, e1, e2, e3, e4, (e5.only ho8 fun b hb => hb.1.2.2.1).imp fun b _ hb => ⟨hb.1.1, hb.1.2.2.2⟩⟩
end Go.Proofs.YtgajlgnniidgmaaDoor

namespace Go.Proofs.YtgajlgnniidgmaaDoor
set_option linter.unusedVariables false
set_option linter.unusedSimpArgs false
open Go.RowKit Go.Maps

/-- Two results, the first one in a block. -/
theorem ret_cell12 {P : Program} {fn : Func} {p q : Tmp} {ty : TypeId} (hr : fn.results = #[.cell p ty, .tmp q]) (tmps : Array Value) (w : World) {g : Nat} {L : List Value} {t : TypeId} (v : Value) (hp : tmps.getD p undef = .pointer (some ⟨g, 0, none⟩)) (hq : tmps.getD q undef = v) (hb : Blk w g L t)
    (d : TypeDesc) (hu : P.underlying ty = some d) (hd : d.isRow = true) (hi : (P.info? ty).map (·.size) = some L.length) : (results fn tmps).run P w = .ok (.tuple #[.agg L.toArray, v]) w := by
  have hv := run_loadVar_mid (P := P) w g 0 ty L d (hb.range 0 L (by simp)) hu hd hi
  have hp' : tmps[p]?.getD undef = .pointer (some ⟨g, 0, none⟩) := by simpa using hp
  have hq' : tmps[q]?.getD undef = v := by simpa using hq
  simp [results, hr, hp', hq', asAddr, hv]
theorem size_int12 : (Tryd.prog.info? 3).map (·.size) = some 1 := by kernel_rfl
theorem take_set12 {L : List Value} {ch : List Int} {n d : Nat} {x : Int} (h : L.take n = ch.map iv) : (L.set d (iv x)).take n = (ch.set d x).map iv := by
  rw [List.take_set, h, List.map_set]
/-- How Given ends. -/
def GivEnd (w : World) (p : Prl) (d : Nat) (x : Int) (e : Ending) (w' : World) : Prop :=
  (∃ q, e = .returned (.tuple #[prv q, .int .i64 0]) ∧ PerM w' w'.heap.size q ∧ CapP q ∧ q.D = p.D ∧ q.G = p.G ∧ q.Gs = p.Gs ∧ q.al = p.al ∧ q.ch = p.ch.set d x ∧ q.n = p.n ∧ q.n1 = p.n1 ∧ q.n2 = p.n2 ∧ ∃ g, w.heap.size ≤ g ∧ q.A2 = some ⟨g, 0, none⟩) ∧ Below w.heap.size w w'
/-- The chances are set in a peril of the call's own. -/
theorem CloM.per {w : World} {B base g : Nat} {q : Prl} (h : CloM w B base g q) (hD : ∀ m ∈ q.Gs, ∀ v ∈ m, -9223372036854775808 ≤ v ∧ v ≤ 9223372036854775807) (hn : q.n = q.Gs.length) (hs : q.n ≤ 140737488355328) (hn1 : q.n1 = q.al.length) (hs1 : q.n1 ≤ 140737488355328) (hn2 : q.n2 = q.ch.length) (hs2 : q.n2 ≤ 140737488355328) : PerM w w.heap.size q := by
  obtain ⟨vs, h1, h2, h3⟩ := h.gs
  refine ⟨⟨⟨vs, h1, h2.rds, fun i u m hu hm => ?_⟩, Nat.le_refl _, hn, hs, hD⟩, h.al.rds, hn1, hs1, ?_, hn2, hs2⟩
  · obtain ⟨a, c, e1, e2, e3, e4, e5⟩ := h3 i u m hu hm
    exact ⟨a, c, e1, e2, e3, e4, e5.rds⟩
  · obtain ⟨L, h1, h2, h3⟩ := h.ch
    have := h1.rds 0 q.n2
    rw [List.drop_zero, h3] at this
    rw [h.a2]
    exact this
theorem CloM.set {w w' : World} {B base g d : Nat} {q : Prl} {x : Int} (h : CloM w B base g q) {L : List Value} (hL : Blk w g L 3) (hb : Blk w' g (L.set d (iv x)) 3) (ho : Only g w w') : CloM w' B base g { q with ch := q.ch.set d x } := by
  obtain ⟨a2, gb, ch, al, ⟨vs, h1, h2, h3⟩, cap⟩ := h
  refine ⟨a2, gb, ?_, al.only ho (fun b hb => hb.1), ⟨vs, h1, h2.only ho (fun b hb => hb.1), fun i u m hu hm => ?_⟩, cap⟩
  · obtain ⟨L2, k1, k2, k3⟩ := ch
    have hLL : L = L2 := by
      have : w.heap[g]? = _ := hL
      have k : w.heap[g]? = _ := k1
      rw [this] at k
      have := Option.some.inj k
      injection this with h1 h2
      simpa using h1
    subst hLL
    exact ⟨_, hb, by rw [List.length_set]; exact k2, take_set12 k3⟩
  · obtain ⟨a, c, e1, e2, e3, e4, e5⟩ := h3 i u m hu hm
    exact ⟨a, c, e1, e2, e3, e4, e5.only ho (fun b hb => hb.1)⟩
theorem CloM.only {w w' : World} {B base g k : Nat} {q : Prl} (h : CloM w B base g q) (ho : Only k w w') (hk : k < base) (hB : B ≤ k) : CloM w' B base g q := by
  obtain ⟨a2, gb, ⟨L, c1, c2, c3⟩, al, ⟨vs, h1, h2, h3⟩, cap⟩ := h
  refine ⟨a2, gb, ⟨L, c1.only ho (by omega), c2, c3⟩, al.only ho (fun b hb => by have := hb.2; omega), ⟨vs, h1, h2.only ho (fun b hb => by have := hb.2; omega), fun i u m hu hm => ?_⟩, cap⟩
  obtain ⟨a, c, e1, e2, e3, e4, e5⟩ := h3 i u m hu hm
  exact ⟨a, c, e1, e2, e3, e4, e5.only ho (fun b hb => by have := hb.2; omega)⟩
theorem CloM.keep {w w' : World} {B base g : Nat} {q : Prl} (h : CloM w B base g q) (hb : Below w.heap.size w w') : CloM w' B base g q := by
  obtain ⟨a2, gb, ⟨L, c1, c2, c3⟩, al, ⟨vs, h1, h2, h3⟩, cap⟩ := h
  refine ⟨a2, gb, ⟨L, c1.below hb c1.lt, c2, c3⟩, al.keep hb, ⟨vs, h1, h2.keep hb, fun i u m hu hm => ?_⟩, cap⟩
  obtain ⟨a, c, e1, e2, e3, e4, e5⟩ := h3 i u m hu hm
  exact ⟨a, c, e1, e2, e3, e4, e5.keep hb⟩

set_option maxRecDepth 100000 in
set_option maxHeartbeats 8000000 in
theorem rGiven_any {B : Nat} (p : Prl) (d : Nat) (f : Bool) (x : Int) (hx : x = if f = true then 16 else 0) (w : World) (hM : PerM w B p) (hB : B ≤ w.heap.size) (OK : PrlOk p) (hk : CapP p) (hsh : ∀ g ∈ p.Gs, g.length ≤ 1000000) (hd : d < p.ch.length) :
    Calls Tryd.prog 25 #[prv p, .int .i64 d, .bool f] w (GivEnd w p d x) := by
  obtain ⟨QQ, hQQ⟩ : ∃ Q, Q = GivEnd w p d x := ⟨_, rfl⟩
  rw [← hQQ]
  have hQ' := Lib.hid hQQ
  clear hQQ
  rcases p with ⟨D, A, n, c, G, Gs, A1, n1, c1, al, A2, n2, c2, ch⟩
  obtain ⟨q, hq⟩ : ∃ q : Prl, q = ⟨D, A, n, c, G, Gs, A1, n1, c1, al, A2, n2, c2, ch⟩ := ⟨_, rfl⟩
  have hqv : Hid (prv q = .agg #[.int .i64 D, .slice A n c, .int .i64 G, .slice A1 n1 c1, .slice A2 n2 c2]) := by rw [hq]; rfl
  rw [← hq] at hM OK hk hsh hd hQ' ⊢
  have hnn : Hid (n2 = q.ch.length) := by show n2 = q.ch.length; rw [hq]; rw [hq] at hM; exact hM.n2
  obtain ⟨W1, hW1⟩ : ∃ W1, W1 = (w.alloc (.cells #[.int .i64 D, .slice A n c, .int .i64 G, .slice A1 n1 c1, .slice A2 n2 c2] 27)).alloc (.cells #[.int .i64 0, .slice none 0 0, .int .i64 0, .slice none 0 0, .slice none 0 0] 27) := ⟨_, rfl⟩
  have E : Hid (Below w.heap.size w W1) := by show Below _ _ _; rw [hW1]; exact ((Below.refl _ _).alloc (Nat.le_refl _) _).alloc (by simp) _
  have s1 : Hid (W1.heap.size = w.heap.size + 1 + 1) := by show _ = _; rw [hW1]; simp
  have X : Hid (Blk W1 w.heap.size [.int .i64 D, .slice A n c, .int .i64 G, .slice A1 n1 c1, .slice A2 n2 c2] 27) := by show Blk _ _ _ _; rw [hW1]; exact (Blk.new _ [_, _, _, _, _] _).alloc _
  have Z : Hid (Blk W1 (w.heap.size + 1) [.int .i64 0, .slice none 0 0, .int .i64 0, .slice none 0 0, .slice none 0 0] 27) := by show Blk _ _ _ _; rw [hW1]; exact (Blk.new _ [_, _, _, _, _] _).at (by simp)
  have M := Lib.hid (hM.keep E.out)
  have hW' := Lib.hid hW1
  have hsz := Lib.hid size_prl
  have hun : Hid (Tryd.prog.underlying 27 = _) := Tryd.underlying27
  have hii := Lib.hid size_int12
  have hBH := Lib.hid hB
  have OKH := Lib.hid OK
  have CC := Lib.hid (rcheck_any q W1 M.out)
  rw [chkP_ok.2 OK, hqv.out] at CC
  have CL : Hid (∀ W, PerM W B q → Calls Tryd.prog 47 #[prv q] W (CloEnd B W q)) := fun W m => rclone_any q W m hk (by have := OK.l24; omega) (by have := OK.l12; omega) (by have h1 := OK.pcs; obtain ⟨b1, b2, b3, b4, b5, b6⟩ := cchk_ok OK.cod; omega) hsh (by omega)
  rw [hqv.out] at CL
  have hd2 : d < n2 := by rw [hnn.out]; exact hd
  have hn12 : n2 ≤ 12 := by rw [hnn.out]; exact OK.l12
  have t1 : ¬ (d : Int) < 0 := by omega
  have t2 : ¬ (d : Int) ≥ (n2 : Int) := by omega
  have t3 : (d : Int) < (n2 : Int) := by omega
  have t4 : 0 ≤ (d : Int) := by omega
  have hxH := Lib.hid hx
  have hqn : Hid (q.n2 = n2 ∧ q.n1 = n1 ∧ q.n = n) := by show _ ∧ _; rw [hq]; exact ⟨rfl, rfl, rfl⟩
  have HMq : Hid (PerM w B q) := hM
  clear hM hW1 hB OK hk hsh hd hx
  rw [hqv.out]
  go_enter Tryd.func25, Tryd.ntmps25
  go_wp2_with fail
  generalize hg : (w.alloc _).alloc _ = Wg
  have hgW : W1 = Wg := by rw [← hg, hW'.out]
  clear hg hW'
  subst hgW
  go_wp2_with (first | (refine wpList_blk_load rfl 27 _ rfl 0 rfl X.out [_, _, _, _, _] rfl _ hun.out rfl hsz.out ?_) | fail)
  refine CC.out.mono ?_
  rintro e w2 ⟨rfl, hb⟩
  clear CC
  replace X := Lib.hid (X.out.below hb X.out.lt)
  replace Z := Lib.hid (Z.out.below hb Z.out.lt)
  replace M := Lib.hid (M.out.keep hb)
  replace E : Hid (Below w.heap.size w w2) := E.out.trans (hb.mono E.out.size)
  have s2 : Hid (w.heap.size + 1 + 1 ≤ w2.heap.size) := by show _ ≤ _; rw [← s1.out]; exact hb.size
  clear hb
  have p4 := X.out.cell (j := 4) rfl
  go_wp2_with (first | (refine wpList_blk_load rfl 27 _ rfl 0 rfl X.out [_, _, _, _, _] rfl _ hun.out rfl hsz.out ?_) | fail)
  refine (CL.out w2 M.out).mono ?_
  rintro e w3 ⟨⟨⟨D', A', n', c', G', Gs', A1', n1', c1', al', A2', n2', c2', ch'⟩, gc, rfl, hclo, f1, f2, f3, f4, f5, f6, f7, f8⟩, hb⟩
  clear CL p4
  dsimp only at f1 f2 f3 f4 f5 f6 f7 f8
  obtain rfl : n2' = n2 := f8.trans hqn.out.1
  have ha2 := hclo.a2
  dsimp only at ha2
  subst ha2
  have hv : prv ⟨D', A', n', c', G', Gs', A1', n1', c1', al', some ⟨gc, 0, none⟩, n2', c2', ch'⟩ = .agg #[.int .i64 D', .slice A' n' c', .int .i64 G', .slice A1' n1' c1', .slice (some ⟨gc, 0, none⟩) n2' c2'] := rfl
  rw [hv]
  clear hv
  have hgb : Hid (w2.heap.size ≤ gc) := hclo.gb
  have CLO := Lib.hid hclo
  have CLO0 := Lib.hid hclo
  have hF : Hid (D' = q.D ∧ G' = q.G ∧ Gs' = q.Gs ∧ al' = q.al ∧ ch' = q.ch ∧ n' = q.n ∧ n1' = q.n1 ∧ n2' = q.n2) := ⟨f1, f2, f3, f4, f5, f6, f7, f8⟩
  replace X := Lib.hid (X.out.below hb X.out.lt)
  replace Z := Lib.hid (Z.out.below hb Z.out.lt)
  replace E : Hid (Below w.heap.size w w3) := E.out.trans (hb.mono E.out.size)
  have s3 : Hid (w2.heap.size ≤ w3.heap.size) := hb.size
  have Xn : Hid (Blk (w3.alloc (.cells #[.int .i64 0, .slice none 0 0, .int .i64 0, .slice none 0 0, .slice none 0 0] 27)) w3.heap.size [.int .i64 0, .slice none 0 0, .int .i64 0, .slice none 0 0, .slice none 0 0] 27) := Blk.new _ [_, _, _, _, _] _
  have hal : Hid (Below w3.heap.size w3 (w3.alloc (.cells #[.int .i64 0, .slice none 0 0, .int .i64 0, .slice none 0 0, .slice none 0 0] 27))) := (Below.refl _ _).alloc (Nat.le_refl _) _
  clear hb hclo f1 f2 f3 f4 f5 f6 f7 f8 M
  go_upto_region 7 with (refine wpList_row_store rfl 27 _ _ rfl [.int .i64 D', .slice A' n' c', .int .i64 G', .slice A1' n1' c1', .slice (some ⟨gc, 0, none⟩) n2' c2'] rfl rfl Xn.out hsz.out rfl (five_one12 _ _ _ _ _ _ _ _ _ _ _) ?_; intro w4 hw4 ho4)
  have hb4 : Hid (Below w3.heap.size w3 w4) := hal.out.trans (ho4.below (Nat.le_refl _))
  replace CLO := Lib.hid (CLO.out.keep hb4.out)
  replace X := Lib.hid (X.out.below hb4.out X.out.lt)
  replace Z := Lib.hid (Z.out.below hb4.out Z.out.lt)
  replace E : Hid (Below w.heap.size w w4) := E.out.trans (hb4.out.mono E.out.size)
  obtain ⟨g4, hg4⟩ : ∃ g, g = w3.heap.size := ⟨_, rfl⟩
  rw [← hg4] at hw4 s3 ⊢
  have Y := Lib.hid hw4
  have hgl : Hid (gc < g4) := by
    show gc < g4
    rw [hg4]
    obtain ⟨L, hL, _, _⟩ := CLO0.out.ch
    exact hL.lt
  clear hw4 ho4 hb4 hal Xn hg4 CLO0
  have p4 := Y.out.cell (j := 4) rfl
  obtain ⟨L, hL, l2, l3⟩ := CLO.out.ch
  dsimp only at l2 l3
  have hLH := Lib.hid hL
  have hdL : Hid (d < L.length) := by show d < L.length; omega
  have hfit : Hid (d + (Value.int .i64 0).cells.size ≤ L.length) := by show d + 1 ≤ _; omega
  clear hL l2 l3
  go_upto_region 8 with (refine wpList_blk_store rfl 3 _ _ rfl d (.int .i64 0) rfl rfl hLH.out hii.out hfit.out (one_int _ _) ?_; intro w5 hw5 ho5)
  have hw5' : Blk w5 gc (L.set d (iv 0)) 3 := by
    have h := hw5.out
    rw [show (Value.int .i64 0).cells.toList = [iv 0] from rfl, splice_set _ _ _ hdL.out] at h
    exact h
  have CLO5 := Lib.hid (CLO.out.set (d := d) (x := 0) hLH.out hw5' ho5)
  have L5 := Lib.hid hw5'
  have hs2 := s2.out
  have hgb' := hgb.out
  have hgl' := hgl.out
  replace X := Lib.hid (X.out.only ho5 (by omega))
  replace Z := Lib.hid (Z.out.only ho5 (by omega))
  replace Y := Lib.hid (Y.out.only ho5 (by omega))
  replace E : Hid (Below w.heap.size w w5) := E.out.trans (ho5.below (by omega))
  clear hw5 hw5' ho5 p4 hs2 hgb' hgl' hfit hLH CLO
  dsimp only at CLO5
  have hend : Hid (∀ w6 w7 : World, CloM w6 B w2.heap.size gc ⟨D', A', n', c', G', Gs', A1', n1', c1', al', some ⟨gc, 0, none⟩, n2', c2', ch'.set d x⟩ → Below w.heap.size w w6 → Only (w.heap.size + 1) w6 w7 → QQ (.returned (.tuple #[.agg #[.int .i64 D', .slice A' n' c', .int .i64 G', .slice A1' n1' c1', .slice (some ⟨gc, 0, none⟩) n2' c2'], .int .i64 0])) w7) := fun w6 w7 hc hE ho => by
    have hc7 := hc.only ho (by have := s2.out; omega) (by have := hBH.out; omega)
    obtain ⟨f1, f2, f3, f4, f5, f6, f7, f8⟩ := hF.out
    rw [hQ'.out]
    refine ⟨⟨⟨D', A', n', c', G', Gs', A1', n1', c1', al', some ⟨gc, 0, none⟩, n2', c2', ch'.set d x⟩, rfl, hc7.per ?_ ?_ ?_ ?_ ?_ ?_ ?_, hc7.cap, f1, f2, f3, f4, by rw [← f5], f6, f7, f8, gc, by have := s2.out; have := hgb.out; omega, rfl⟩, hE.trans (ho.below (by omega))⟩
    · dsimp only; rw [f3]; exact HMq.out.cod.rng
    · dsimp only; rw [f6, f3]; exact HMq.out.cod.len
    · dsimp only; rw [f6]; exact HMq.out.cod.small
    · dsimp only; rw [f7, f4]; exact HMq.out.n1
    · dsimp only; rw [f7]; exact HMq.out.s1
    · dsimp only; rw [f8, List.length_set, f5]; exact HMq.out.n2
    · dsimp only; rw [f8]; exact HMq.out.s2
  cases f with
  | false =>
    have hx0 : x = 0 := by rw [hxH.out]; rfl
    subst hx0
    go_wp2_with (first | (refine wpList_blk_load rfl 27 _ rfl 0 rfl Y.out [_, _, _, _, _] rfl _ hun.out rfl hsz.out ?_) | (refine wpList_row_store rfl 27 _ _ rfl [.int .i64 D', .slice A' n' c', .int .i64 G', .slice A1' n1' c1', .slice (some ⟨gc, 0, none⟩) n2' c2'] rfl rfl Z.out hsz.out rfl (five_one12 _ _ _ _ _ _ _ _ _ _ _) ?_; intro w8 hw8 ho8))
    refine bodyPost_ret (ret_cell12 rfl _ _ (g := w.heap.size + 1) _ rfl rfl hw8.out _ hun.out rfl hsz.out) rfl ?_
    exact hend.out w5 w8 CLO5.out E.out ho8
  | true =>
    have hx0 : x = 16 := by rw [hxH.out]; rfl
    subst hx0
    have p4 := Y.out.cell (j := 4) rfl
    have hfit : Hid (d + (Value.int .i64 16).cells.size ≤ (L.set d (iv 0)).length) := by show d + 1 ≤ _; rw [List.length_set]; exact hdL.out
    go_upto_region 10 with (refine wpList_blk_store rfl 3 _ _ rfl d (.int .i64 16) rfl rfl L5.out hii.out hfit.out (one_int _ _) ?_; intro w6 hw6 ho6)
    have hw6' : Blk w6 gc ((L.set d (iv 0)).set d (iv 16)) 3 := by
      have h := hw6.out
      rw [show (Value.int .i64 16).cells.toList = [iv 16] from rfl, splice_set _ _ _ (by rw [List.length_set]; exact hdL.out)] at h
      exact h
    have CLO6 := Lib.hid (CLO5.out.set (d := d) (x := 16) L5.out hw6' ho6)
    dsimp only at CLO6
    rw [List.set_set] at CLO6
    have hs2 := s2.out
    have hgb' := hgb.out
    have hgl' := hgl.out
    replace Z := Lib.hid (Z.out.only ho6 (by omega))
    replace Y := Lib.hid (Y.out.only ho6 (by omega))
    replace E : Hid (Below w.heap.size w w6) := E.out.trans (ho6.below (by omega))
    clear hw6 hw6' ho6 p4 hs2 hgb' hgl' hfit L5 CLO5 X
    go_wp2_with (first | (refine wpList_blk_load rfl 27 _ rfl 0 rfl Y.out [_, _, _, _, _] rfl _ hun.out rfl hsz.out ?_) | (refine wpList_row_store rfl 27 _ _ rfl [.int .i64 D', .slice A' n' c', .int .i64 G', .slice A1' n1' c1', .slice (some ⟨gc, 0, none⟩) n2' c2'] rfl rfl Z.out hsz.out rfl (five_one12 _ _ _ _ _ _ _ _ _ _ _) ?_; intro w8 hw8 ho8))
    refine bodyPost_ret (ret_cell12 rfl _ _ (g := w.heap.size + 1) _ rfl rfl hw8.out _ hun.out rfl hsz.out) rfl ?_
    exact hend.out w6 w8 CLO6.out E.out ho8
end Go.Proofs.YtgajlgnniidgmaaDoor
