/-
  Contracts: whether two lists are the same.
-/
import Derived.Test.YthnbiegpfjnadaaDig
import Derived.Deep.QuietTactic
import Derived.BigQuiet
import Derived.ChangeKeysEq
import Derived.Laws.StructEq
namespace Go.Proofs.Ythnbiegpfjnadaa
open Go.RowKit

/-- It returns a bool, and has drawn some orders at most. -/
def BoolEnd (b : Bool) (w : World) (e : Ending) (w' : World) : Prop := e = .returned (.bool b) ∧ ∃ n, w' = w.drewN n

theorem drewN_zero (w : World) : w.drewN 0 = w := rfl
theorem below_drewN {B : Nat} {a w : World} (h : Below B a w) (n : Nat) : Below B a (w.drewN n) := ⟨h.os, h.tape, h.output, h.size, h.block⟩
theorem BoolEnd.below {b : Bool} {w : World} {e : Ending} {w' : World} (h : BoolEnd b w e w') : e = .returned (.bool b) ∧ Below w.heap.size w w' := by
  obtain ⟨h1, n, rfl⟩ := h
  exact ⟨h1, below_drewN (Below.refl _ _) n⟩

theorem take_eq_snoc {α : Type} {la lb : List α} {k : Nat} {x : α} (ha : la[k]? = some x) (hb : lb[k]? = some x) (h : la.take k = lb.take k) : la.take (k + 1) = lb.take (k + 1) := by
  obtain ⟨h1, e1⟩ := List.getElem?_eq_some_iff.1 ha
  obtain ⟨h2, e2⟩ := List.getElem?_eq_some_iff.1 hb
  rw [List.take_succ_eq_append_getElem h1, List.take_succ_eq_append_getElem h2, h, e1, e2]

set_option maxRecDepth 100000 in
set_option maxHeartbeats 1000000 in
theorem sameInts_any {B B' : Nat} (la lb : List Int) (A A' : Option Addr) (c c' : Nat) (w : World) (ha : Rds w B A (la.map iv)) (hb : Rds w B' A' (lb.map iv)) (hl : la.length ≤ 1000000000000) :
    Calls Try.prog 30 #[.slice A la.length c, .slice A' lb.length c'] w (BoolEnd (la == lb) w) := by
  by_cases hlen : la.length = lb.length
  · have t : ((la.length : Int) != (lb.length : Int)) = false := by simp; omega
    have HL := Lib.hid hlen
    have hle : lb.length ≤ la.length := by omega
    have hge : la.length ≤ lb.length := by omega
    clear hlen
    go_enter Try.func30, Try.ntmps30
    go_wp2
    go_loopw [5] (fun i wr => ∃ k n : Nat, k ≤ la.length ∧ i = .int .i64 k ∧ wr = w.drewN n ∧ la.take k = lb.take k) (fun i _ => la.length - (intOf i).toNat)
    case atStart => exact ⟨0, 0, by omega, rfl, rfl, rfl⟩
    case round =>
      obtain ⟨k, n, hk, rfl, rfl, heq0⟩ := hrel
      have heq := Lib.hid heq0
      clear heq0
      by_cases hlt : k < la.length
      · have hlt2 : k < lb.length := by omega
        have g1 : la[k]? = some la[k] := List.getElem?_eq_getElem hlt
        have g2 : lb[k]? = some lb[k] := List.getElem?_eq_getElem hlt2
        obtain ⟨ad, rfl, _, hca⟩ := ha.look (k := k) (u := iv la[k]) (by simp [hlt])
        obtain ⟨bd, rfl, _, hcb⟩ := hb.look (k := k) (u := iv lb[k]) (by simp [hlt2])
        have G1 := Lib.hid g1
        have G2 := Lib.hid g2
        clear g1 g2
        unfold iv at hca hcb
        generalize la[k] = x at hca G1
        generalize lb[k] = y at hcb G2
        have b1 : 0 ≤ (k : Int) := by omega
        have b2 : (k : Int) < (la.length : Int) := by omega
        have b3 : (k : Int) < (lb.length : Int) := by omega
        by_cases hxy : x = y
        · have t1 : (x != y) = false := by simp [hxy]
          have hn := Lib.hid (take_eq_snoc G1.out (by rw [hxy]; exact G2.out) heq.out)
          clear hxy
          go_wp2
          go_quiet (fail)
          go_wp2
          go_roundw
          case rel => exact ⟨k + 1, _, by omega, by go_num, by go_simp; rfl, hn.out⟩
          case measure => simp [intOf]; omega
        · have t1 : (x != y) = true := by simp [hxy]
          have hne : Hid ((la == lb) = false) := by
            show _ = _
            rw [beq_eq_false_iff_ne]
            rintro rfl
            have := G1.out.symm.trans G2.out
            injection this with this
            exact hxy this
          clear hxy
          go_wp2
          go_quiet (fail)
          go_wp2
          go_ret
          exact ⟨by rw [hne.out]; rfl, _, by go_simp; rfl⟩
      · have hE : Hid ((la == lb) = true) := by
          show _ = _
          rw [beq_iff_eq]
          have := heq.out
          rwa [List.take_of_length_le (by omega), List.take_of_length_le (by omega)] at this
        go_wp2
        go_ret
        exact ⟨by rw [hE.out]; rfl, n, rfl⟩
  · have t : ((la.length : Int) != (lb.length : Int)) = true := by simp; omega
    have hne : Hid ((la == lb) = false) := by
      show _ = _
      rw [beq_eq_false_iff_ne]
      rintro rfl
      exact hlen rfl
    clear hlen
    go_enter Try.func30, Try.ntmps30
    go_wp2
    go_ret
    exact ⟨by rw [hne.out]; rfl, 0, rfl⟩
set_option maxRecDepth 100000 in
set_option maxHeartbeats 1000000 in
theorem sameTexts_any {B B' : Nat} (la lb : List (List UInt8)) (A A' : Option Addr) (c c' : Nat) (w : World) (ha : Rds w B A (la.map sv)) (hb : Rds w B' A' (lb.map sv)) (hl : la.length ≤ 1000000000000) :
    Calls Try.prog 33 #[.slice A la.length c, .slice A' lb.length c'] w (BoolEnd (la == lb) w) := by
  by_cases hlen : la.length = lb.length
  · have t : ((la.length : Int) != (lb.length : Int)) = false := by simp; omega
    have HL := Lib.hid hlen
    have hle : lb.length ≤ la.length := by omega
    have hge : la.length ≤ lb.length := by omega
    clear hlen
    go_enter Try.func33, Try.ntmps33
    go_wp2
    go_loopw [5] (fun i wr => ∃ k n : Nat, k ≤ la.length ∧ i = .int .i64 k ∧ wr = w.drewN n ∧ la.take k = lb.take k) (fun i _ => la.length - (intOf i).toNat)
    case atStart => exact ⟨0, 0, by omega, rfl, rfl, rfl⟩
    case round =>
      obtain ⟨k, n, hk, rfl, rfl, heq0⟩ := hrel
      have heq := Lib.hid heq0
      clear heq0
      by_cases hlt : k < la.length
      · have hlt2 : k < lb.length := by omega
        have g1 : la[k]? = some la[k] := List.getElem?_eq_getElem hlt
        have g2 : lb[k]? = some lb[k] := List.getElem?_eq_getElem hlt2
        obtain ⟨ad, rfl, _, hca⟩ := ha.look (k := k) (u := sv la[k]) (by simp [hlt])
        obtain ⟨bd, rfl, _, hcb⟩ := hb.look (k := k) (u := sv lb[k]) (by simp [hlt2])
        have G1 := Lib.hid g1
        have G2 := Lib.hid g2
        clear g1 g2
        have s1 := bs_toList la[k]
        have s2 := bs_toList lb[k]
        unfold sv at hca hcb
        generalize la[k] = x at hca G1 s1
        generalize lb[k] = y at hcb G2 s2
        generalize bs x = X at hca s1
        generalize bs y = Y at hcb s2
        have S1 := Lib.hid s1
        have S2 := Lib.hid s2
        clear s1 s2
        have b1 : 0 ≤ (k : Int) := by omega
        have b2 : (k : Int) < (la.length : Int) := by omega
        have b3 : (k : Int) < (lb.length : Int) := by omega
        by_cases hxy : x = y
        · have t1 : (X.toList == Y.toList) = true := by rw [S1.out, S2.out]; simp [hxy]
          have hn := Lib.hid (take_eq_snoc G1.out (by rw [hxy]; exact G2.out) heq.out)
          clear hxy
          go_wp2
          go_quiet (fail)
          go_wp2
          go_roundw
          case rel => exact ⟨k + 1, _, by omega, by go_num, by go_simp; rfl, hn.out⟩
          case measure => simp [intOf]; omega
        · have t1 : (X.toList == Y.toList) = false := by rw [S1.out, S2.out]; simp [hxy]
          have hne : Hid ((la == lb) = false) := by
            show _ = _
            rw [beq_eq_false_iff_ne]
            rintro rfl
            have := G1.out.symm.trans G2.out
            injection this with this
            exact hxy this
          clear hxy
          go_wp2
          go_quiet (fail)
          go_wp2
          go_ret
          exact ⟨by rw [hne.out]; rfl, _, by go_simp; rfl⟩
      · have hE : Hid ((la == lb) = true) := by
          show _ = _
          rw [beq_iff_eq]
          have := heq.out
          rwa [List.take_of_length_le (by omega), List.take_of_length_le (by omega)] at this
        go_wp2
        go_ret
        exact ⟨by rw [hE.out]; rfl, n, rfl⟩
  · have t : ((la.length : Int) != (lb.length : Int)) = true := by simp; omega
    have hne : Hid ((la == lb) = false) := by
      show _ = _
      rw [beq_eq_false_iff_ne]
      rintro rfl
      exact hlen rfl
    clear hlen
    go_enter Try.func33, Try.ntmps33
    go_wp2
    go_ret
    exact ⟨by rw [hne.out]; rfl, 0, rfl⟩

/-! ### digests -/
theorem run_eqItems_bytes (d : Nat) (la lb : List UInt8) (w : World) : ∀ is : List Nat, (∀ i ∈ is, i < la.length ∧ i < lb.length) →
    (Op.eqItems (d + 1) 5 1 (la.map bv).toArray (lb.map bv).toArray is).run Try.prog w = .ok (is.all fun i => la.getD i 0 == lb.getD i 0) w
  | [], _ => by simp [Op.eqItems]
  | i :: is, h => by
    obtain ⟨h1, h2⟩ := h i (by simp)
    have ih := run_eqItems_bytes d la lb w is (fun j hj => h j (by simp [hj]))
    have hu := Try.underlying5
    have e : (((la[i].toNat : Nat) : Int) == ((lb[i].toNat : Nat) : Int)) = (la[i] == lb[i]) := by
      rw [Bool.eq_iff_iff, beq_iff_eq, beq_iff_eq]
      constructor
      · intro hh; exact UInt8.toNat_inj.1 (by omega)
      · intro hh; rw [hh]
    simp only [Op.eqItems, Sem.run_bind]
    simp [part, isAgg, h1, h2, bv, List.getD_eq_getElem?_getD, run_underlying hu]
    rw [run_equalIn_int w d 5 .u8 .u8 _ _ hu, e]
    simp only [Result.andThen_ok]
    cases hq : la[i] == lb[i]
    · simp
    · have ih' := ih
      simp only [List.getD_eq_getElem?_getD] at ih'
      simp [← ih']
theorem all_range_eq (la lb : List UInt8) (n : Nat) (ha : la.length = n) (hb : lb.length = n) : ((List.range n).all fun i => la.getD i 0 == lb.getD i 0) = (la == lb) := by
  rw [Bool.eq_iff_iff, List.all_eq_true, beq_iff_eq]
  constructor
  · intro h
    apply List.ext_getElem (by omega)
    intro i h1 h2
    have := h i (List.mem_range.2 (by omega))
    simpa [List.getD_eq_getElem?_getD, h1, h2] using this
  · rintro rfl i _
    simp
theorem run_neq_dig (la lb : List UInt8) (ha : la.length = 16) (hb : lb.length = 16) (w : World) :
    (binOp .neq 57 (.agg (la.map bv).toArray) (.agg (lb.map bv).toArray)).run Try.prog w = .ok (.bool (!(la == lb))) w := by
  obtain ⟨i0, hi, hz0, hz1, hz2⟩ := info_parts infoDig
  obtain ⟨i1, hi1, _, hz1', _⟩ := info_parts infoByte
  have hc : Try.prog.cellsOf 5 = 1 := by kernel_rfl
  rw [run_neq_struct, show 10000 = 9999 + 1 from rfl, run_equalIn_array w 9999 _ _ arrDig hi1, hc, show 9999 = 9998 + 1 from rfl,
    run_eqItems_bytes 9998 la lb w (List.range 16) (fun i hi => by have := List.mem_range.1 hi; omega), all_range_eq la lb 16 ha hb]
  rfl

section
variable {P : Program} {ops : Array Oper} {C : World → Prop} {Q : Act → Prop} {o : Oper} {rest : List Oper} {a : Act}
theorem quiet_load_arr (hw : Region.wanted o (yielded ops a.tmps) = true) (ty : TypeId) (x : Operand) (ho : o.op = .load ty x)
    (ad : Addr) (hx : a.eval x = .pointer (some ad)) (cs : List Value) (n : Nat) (e : TypeId) (hc : ∀ w, C w → ∀ j v, cs[j]? = some v → w.cell? (ad.add j) = some v)
    (hu : P.underlying ty = some (.array n e)) (hi : (P.info? ty).map (·.size) = some cs.length)
    (h : wpQuiet P ops C Q rest (a.put o.dst (.agg cs.toArray))) : wpQuiet P ops C Q (o :: rest) a := by
  unfold wpQuiet
  rw [if_pos hw]
  refine ⟨_, fun w hC => ?_, h⟩
  have hl : (loadCells ad cs.length).run P w = .ok cs.toArray w := run_loadCells_list (P := P) w ad cs (hc w hC)
  have hv : (loadVar ty ad).run P w = .ok (.agg cs.toArray) w := by
    cases hq : P.info? ty with
    | none => simp [hq] at hi
    | some i =>
      have hs : i.size = cs.length := by simpa [hq] using hi
      have hagg : (isAgg ty).run P w = .ok true w := by
        unfold isAgg
        rw [Sem.run_bind, run_underlying hu w]
        simp
      simp [loadVar, Sem.run_bind, hagg, sizeOf, typeInfo, hq, hs, hl]
  unfold Oper.quietAt execOp
  simp only [ho, hx, Instr.loadAt, Instr.sureAddr, Sem.run_bind, Sem.run_pure, Result.andThen_ok, hv]
  exact ⟨rfl, rfl⟩
end

theorem quiet_neq_dig {ops : Array Oper} {C : World → Prop} {Q : Act → Prop} {o : Oper} {rest : List Oper} {a : Act} (hw : Region.wanted o (yielded ops a.tmps) = true) (x y : Operand) (k : TypeId)
    (ho : o.op = .binOp .neq 57 x y k) (la lb : List UInt8) (ha : la.length = 16) (hb : lb.length = 16) (hx : a.eval x = .agg (la.map bv).toArray) (hy : a.eval y = .agg (lb.map bv).toArray) (r : Bool) (hr0 : (!(la == lb)) = r)
    (h : wpQuiet Try.prog ops C Q rest (a.put o.dst (.bool r))) : wpQuiet Try.prog ops C Q (o :: rest) a := by
  unfold wpQuiet
  rw [if_pos hw]
  refine ⟨_, fun w hC => ?_, h⟩
  have hr := run_neq_dig la lb ha hb w
  rw [hr0] at hr
  have hg : (eqGuard .neq 57 x y (.agg (la.map bv).toArray) (.agg (lb.map bv).toArray)).run Try.prog w = .ok () w := run_eqGuard_agg w .neq 57 x y _ _ (by kernel_rfl)
  unfold Oper.quietAt execOp
  simp only [ho, hx, hy, Sem.run_bind, Sem.run_pure, Result.andThen_ok, hr, hg]
  exact ⟨rfl, rfl⟩

set_option maxRecDepth 100000 in
set_option maxHeartbeats 1000000 in
theorem sameDigs_any {B B' : Nat} (la lb : List (List UInt8)) (A A' : Option Addr) (c c' : Nat) (w : World) (ha : Rds w B A ((la.flatMap id).map bv)) (hb : Rds w B' A' ((lb.flatMap id).map bv)) (hda : ∀ d ∈ la, d.length = 16) (hdb : ∀ d ∈ lb, d.length = 16) (hl : la.length ≤ 1000000000000) :
    Calls Try.prog 36 #[.slice A la.length c, .slice A' lb.length c'] w (BoolEnd (la == lb) w) := by
  by_cases hlen : la.length = lb.length
  · have t : ((la.length : Int) != (lb.length : Int)) = false := by simp; omega
    have HL := Lib.hid hlen
    have hle : lb.length ≤ la.length := by omega
    have hge : la.length ≤ lb.length := by omega
    have HDA := Lib.hid hda
    have HDB := Lib.hid hdb
    clear hlen hda hdb
    go_enter Try.func36, Try.ntmps36
    go_wp2
    go_loopw [5] (fun i wr => ∃ k n : Nat, k ≤ la.length ∧ i = .int .i64 k ∧ wr = w.drewN n ∧ la.take k = lb.take k) (fun i _ => la.length - (intOf i).toNat)
    case atStart => exact ⟨0, 0, by omega, rfl, rfl, rfl⟩
    case round =>
      obtain ⟨k, n, hk, rfl, rfl, heq0⟩ := hrel
      have heq := Lib.hid heq0
      clear heq0
      by_cases hlt : k < la.length
      · have hlt2 : k < lb.length := by omega
        have g1 : la[k]? = some la[k] := List.getElem?_eq_getElem hlt
        have g2 : lb[k]? = some lb[k] := List.getElem?_eq_getElem hlt2
        obtain ⟨ad, rfl, _, hca0⟩ := ha.dig HDA.out hlt
        obtain ⟨bd, rfl, _, hcb0⟩ := hb.dig HDB.out hlt2
        have hca := Lib.hid hca0
        have hcb := Lib.hid hcb0
        have hd1 := Lib.hid (HDA.out la[k] (List.getElem_mem hlt))
        have hd2 := Lib.hid (HDB.out lb[k] (List.getElem_mem hlt2))
        clear hca0 hcb0
        have G1 := Lib.hid g1
        have G2 := Lib.hid g2
        clear g1 g2
        generalize la[k] = x at hca G1 hd1
        generalize lb[k] = y at hcb G2 hd2
        have hs1 : Hid ((Try.prog.info? 57).map (·.size) = some (x.map bv).length) := by show _ = _; rw [List.length_map, hd1.out]; exact sizeDig
        have hs2 : Hid ((Try.prog.info? 57).map (·.size) = some (y.map bv).length) := by show _ = _; rw [List.length_map, hd2.out]; exact sizeDig
        have b1 : 0 ≤ (k : Int) := by omega
        have b2 : (k : Int) < (la.length : Int) := by omega
        have b3 : (k : Int) < (lb.length : Int) := by omega
        by_cases hxy : x = y
        · have t1 : Hid ((!(x == y)) = false) := by show _ = _; simp [hxy]
          have hn := Lib.hid (take_eq_snoc G1.out (by rw [hxy]; exact G2.out) heq.out)
          clear hxy
          go_wp2
          refine wp_region_quiet_lit (by kernel_rfl) (by kernel_rfl) ?_
          repeat (first | (refine quiet_load_arr (by rfl) 57 _ rfl (ad.add (k * 16)) rfl (x.map bv) 16 5 (by rintro W ⟨m, rfl⟩; exact hca.out) arrDig hs1.out ?_; simp only [Act.put, List.setIfInBounds_toArray, List.set_cons_succ, List.set_cons_zero]) | (refine quiet_load_arr (by rfl) 57 _ rfl (bd.add (k * 16)) rfl (y.map bv) 16 5 (by rintro W ⟨m, rfl⟩; exact hcb.out) arrDig hs2.out ?_; simp only [Act.put, List.setIfInBounds_toArray, List.set_cons_succ, List.set_cons_zero]) | (refine quiet_neq_dig (by rfl) _ _ _ rfl x y hd1.out hd2.out rfl rfl _ t1.out ?_; simp only [Act.put, List.setIfInBounds_toArray, List.set_cons_succ, List.set_cons_zero]) | go_big_quiet_step (fail))
          refine wpQuiet_nil ?_
          intro _ hw'
          obtain ⟨nq, hw''⟩ := hw'
          subst hw''
          go_wp2
          go_roundw
          case rel => exact ⟨k + 1, _, by omega, by go_num, by go_simp; rfl, hn.out⟩
          case measure => simp [intOf]; omega
        · have t1 : Hid ((!(x == y)) = true) := by show _ = _; simp [hxy]
          have hne : Hid ((la == lb) = false) := by
            show _ = _
            rw [beq_eq_false_iff_ne]
            rintro rfl
            have := G1.out.symm.trans G2.out
            injection this with this
            exact hxy this
          clear hxy
          go_wp2
          refine wp_region_quiet_lit (by kernel_rfl) (by kernel_rfl) ?_
          repeat (first | (refine quiet_load_arr (by rfl) 57 _ rfl (ad.add (k * 16)) rfl (x.map bv) 16 5 (by rintro W ⟨m, rfl⟩; exact hca.out) arrDig hs1.out ?_; simp only [Act.put, List.setIfInBounds_toArray, List.set_cons_succ, List.set_cons_zero]) | (refine quiet_load_arr (by rfl) 57 _ rfl (bd.add (k * 16)) rfl (y.map bv) 16 5 (by rintro W ⟨m, rfl⟩; exact hcb.out) arrDig hs2.out ?_; simp only [Act.put, List.setIfInBounds_toArray, List.set_cons_succ, List.set_cons_zero]) | (refine quiet_neq_dig (by rfl) _ _ _ rfl x y hd1.out hd2.out rfl rfl _ t1.out ?_; simp only [Act.put, List.setIfInBounds_toArray, List.set_cons_succ, List.set_cons_zero]) | go_big_quiet_step (fail))
          refine wpQuiet_nil ?_
          intro _ hw'
          obtain ⟨nq, hw''⟩ := hw'
          subst hw''
          go_wp2
          go_ret
          exact ⟨by rw [hne.out]; rfl, _, by go_simp; rfl⟩
      · have hE : Hid ((la == lb) = true) := by
          show _ = _
          rw [beq_iff_eq]
          have := heq.out
          rwa [List.take_of_length_le (by omega), List.take_of_length_le (by omega)] at this
        go_wp2
        go_ret
        exact ⟨by rw [hE.out]; rfl, n, rfl⟩
  · have t : ((la.length : Int) != (lb.length : Int)) = true := by simp; omega
    have hne : Hid ((la == lb) = false) := by
      show _ = _
      rw [beq_eq_false_iff_ne]
      rintro rfl
      exact hlen rfl
    clear hlen hda hdb
    go_enter Try.func36, Try.ntmps36
    go_wp2
    go_ret
    exact ⟨by rw [hne.out]; rfl, 0, rfl⟩
end Go.Proofs.Ythnbiegpfjnadaa
