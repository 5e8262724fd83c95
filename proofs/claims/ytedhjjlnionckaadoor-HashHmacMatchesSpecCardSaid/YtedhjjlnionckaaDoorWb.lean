/-
  The encoding's functions that other packages call: wire.Int, wire.Bytes, and the reference's. (Picked out of XInt, XGet, XStr, XLst, XDec, XRef, XRefL: see tools/pick.py.)
-/
import Derived.Test.YtedhjjlnionckaaDoorRows
import Derived.Test.YtedhjjlnionckaaDoorWm2
import Derived.Test.YtedhjjlnionckaaDoorMem
import Derived.Deep.LoopGhost
import Derived.Lib.AppendStr
namespace Go.Proofs.YtedhjjlnionckaaDoor
open Go.RowKit

theorem xor_max (x : Int) (h0 : 0 ≤ x) (h1 : x < 18446744073709551616) : bits BinOp.xor IntKind.u64 IntKind.u64.max x = 18446744073709551615 - x := by
  obtain ⟨a, rfl⟩ := Int.eq_ofNat_of_zero_le h0
  have ha : a < 18446744073709551616 := by omega
  rw [show IntKind.u64.max = ((18446744073709551615 : Nat) : Int) from rfl, u64_xor_nat _ a (by omega) ha]
  have : (18446744073709551615 : Nat) ^^^ a = 18446744073709551615 - a := by
    apply Nat.eq_of_testBit_eq
    intro i
    rw [show 18446744073709551615 - a = 2 ^ 64 - (a + 1) from by omega, Nat.testBit_two_pow_sub_succ (by omega)]
    rw [show (18446744073709551615 : Nat) = 2 ^ 64 - 1 from rfl, Nat.testBit_xor, Nat.testBit_two_pow_sub_one]
    by_cases hi : i < 64
    · simp [hi]
    · have : a.testBit i = false := Nat.testBit_lt_two_pow (Nat.lt_of_lt_of_le (show a < 2 ^ 64 by omega) (Nat.pow_le_pow_right (by omega) (by omega)))
      simp [hi, this]
  rw [this]; omega
set_option maxHeartbeats 400000 in
theorem fold_any (n : Int) (hn : Wm.Fits n) (w : World) :
    Calls Tryd.prog 120 #[.int .i64 n] w fun e w' => e = .returned (.int .u64 (Wm.zig n : Int)) ∧ w = w' := by
  obtain ⟨h1, h2⟩ := hn
  by_cases h : n < 0
  · have e1 : IntKind.u64.wrap n = n + 18446744073709551616 := by rw [IntKind.wrap_u64]; omega
    have e2 : IntKind.u64.wrap (IntKind.u64.wrap n * 2) = n * 2 + 18446744073709551616 := by rw [e1, IntKind.wrap_u64]; omega
    have e3 := xor_max (n * 2 + 18446744073709551616) (by omega) (by omega)
    have E : Hid (bits BinOp.xor IntKind.u64 IntKind.u64.max (IntKind.u64.wrap (IntKind.u64.wrap n * 2)) = (Wm.zig n : Int)) := by
      show _ = _
      rw [e2, e3]; unfold Wm.zig; rw [if_pos h]; omega
    clear e1 e2 e3
    go_enter Tryd.func120, Tryd.ntmps120
    go_wp2
    go_ret
    exact ⟨ret_eq (by rw [← E.out]; rfl), rfl⟩
  · have E : Hid (n * 2 = (Wm.zig n : Int)) := by
      show _ = _
      unfold Wm.zig; rw [if_neg h]; omega
    go_enter Tryd.func120, Tryd.ntmps120
    go_wp2
    go_ret
    exact ⟨ret_eq (by rw [← E.out]; rfl), rfl⟩
theorem or_step (v k d : Nat) (hk : k ≤ 9) (hv : v < 128 ^ k) (hd : d * 128 ^ k < 18446744073709551616) :
    bits BinOp.or IntKind.u64 (v : Int) (IntKind.u64.wrap ((d : Int) * 2 ^ (7 * k))) = ((v + d * 128 ^ k : Nat) : Int) := by
  have e2 : (2 : Nat) ^ (7 * k) = 128 ^ k := by rw [Nat.pow_mul]
  have e : ((d : Int) * 2 ^ (7 * k)) = ((d * 128 ^ k : Nat) : Int) := by rw [Int.natCast_mul, ← e2, Int.natCast_pow]; rfl
  rw [e, IntKind.wrap_u64, show (((d * 128 ^ k : Nat) : Int) % 18446744073709551616) = ((d * 128 ^ k : Nat) : Int) from by omega]
  have hp : 128 ^ k ≤ 128 ^ 9 := Nat.pow_le_pow_right (by omega) hk
  rw [u64_or_nat _ _ (by omega) hd, Nat.or_comm, nat_join (7 * k) _ v (by rw [e2]; exact Nat.mul_mod_left _ _) (by rw [e2]; exact hv), Nat.add_comm]
theorem or_nn (a b : Int) : 0 ≤ bits BinOp.or IntKind.u64 a b := by
  show 0 ≤ IntKind.u64.wrap ((BitVec.ofInt 64 a ||| BitVec.ofInt 64 b).toNat : Int)
  rw [IntKind.wrap_u64]; omega
theorem tuple3 {a b c a' b' c' : Value} (h1 : a = a') (h2 : b = b') (h3 : c = c') : Ending.returned (.tuple #[a, b, c]) = .returned (.tuple #[a', b', c']) := by rw [h1, h2, h3]
theorem infoByte : (Tryd.prog.info? 5).map (fun i => (i.zero, i.size, i.bytes)) = some (some (.int .u8 0), 1, 1) := by kernel_rfl
/-- The bytes l are a row of the call's own, from block 'base' on. -/
def OwnB (w : World) (base : Nat) (v : Value) (l : List UInt8) : Prop := w.ownsRow base 5 1 v l.length (l.map bv)
theorem ownB_nil (w : World) (base : Nat) : OwnB w base (.slice none 0 0) [] := World.ownsRow_nil w base _ _
/-- 'b = append(b, x)', x a byte, b the call's own: the walk's step. -/
theorem push_byte {w0 : World} {ops : Array Oper} {rest : List Oper} {o : Oper} {a : Act} {Q : Exit → Act → World → Prop} (hgd : o.guard = none) (s x : Operand)
    (ho : o.op = .call { callee := .builtin .append, args := #[s, x], argTypes := #[22, 22] })
    (base : Nat) (v : Value) (l : List UInt8) (b : UInt8) (u : Value) (hu : u = bv b) (hs : a.eval s = v) (hx : a.eval x = .slice (some ⟨w0.heap.size, 0, none⟩) 1 1)
    (hown : OwnB w0 base v l) (hlen : l.length ≤ 140737488355300) (hbase : base ≤ w0.heap.size)
    (h : ∀ v' w', OwnB w' base v' (l ++ [b]) → Onto w0 v w' v' → wpList Tryd.prog ops Q rest (a.put o.dst v') w') :
    wpList Tryd.prog ops Q (o :: rest) a (w0.alloc (.cells #[u] 5)) := by
  subst hu
  obtain ⟨i0, hi, hz0, hz1, hz2⟩ := info_parts infoByte
  refine wpList_push hgd s x 22 ho base 5 i0 (.int .u8 0) 1 Tryd.underlying22 hi hz0 hz1 hz2 rfl v l.length (l.map bv) (bv b) hs hx rfl hown (by omega) (by unfold maxLen; omega) hbase ?_
  intro v' w' h1 h2
  exact h v' w' (by unfold OwnB; simpa using h1) h2
/-- What appending to v leaves: v' reads as l. -/
def AppEnd (base : Nat) (v : Value) (l : List UInt8) (w : World) (e : Ending) (w' : World) : Prop :=
  ∃ v', e = .returned v' ∧ OwnB w' base v' l ∧ Onto w v w' v'
set_option maxRecDepth 100000 in
set_option maxHeartbeats 1000000 in
theorem appendInt_any (base : Nat) (v : Value) (xs : List UInt8) (n : Int) (w : World) (hown : OwnB w base v xs) (hb : base ≤ w.heap.size) (hn : Wm.Fits n) (hlen : xs.length ≤ 140737488355000) :
    Calls Tryd.prog 104 #[v, .int .i64 n] w (AppEnd base v (xs ++ Wm.enc n) w) := by
  have hz := Wm.zig_lt hn
  have F := Lib.hid (fold_any n hn w)
  go_enter Tryd.func104, Tryd.ntmps104
  go_wp2_with fail
  refine F.out.mono ?_
  rintro e w' ⟨rfl, rfl⟩
  go_wp2_with fail
  go_loopw [0, 5] (fun b z wr => ∃ (ys : List UInt8) (zz : Nat), z = .int .u64 zz ∧ ys.length ≤ 9 ∧ zz < 128 ^ (10 - ys.length) ∧ zz < 18446744073709551616 ∧ ys ++ Wm.digs (10 - ys.length) zz = Wm.enc n ∧
      OwnB wr base b (xs ++ ys) ∧ Onto w v wr b) (fun _ z _ => (intOf z).toNat)
  case atStart => exact ⟨[], _, rfl, by simp, by simp; omega, hz, rfl, by simpa using hown, Onto.refl _ _⟩
  case round =>
    obtain ⟨ys, zz, rfl, hy, hzz, hz64, he0, ho, hon⟩ := hrel
    have he := Lib.hid he0
    clear he0
    have hlen2 : (xs ++ ys).length ≤ 140737488355009 := by simp; omega
    have hbw : base ≤ wr.heap.size := Nat.le_trans hb hon.1.size
    by_cases hlt : 128 ≤ zz
    · have E : Hid (Value.int IntKind.u8 (bits BinOp.or IntKind.u8 128 ((zz : Int) % 128)) = bv (UInt8.ofNat (128 + zz % 128))) := by
        show _ = _
        rw [bv_ofNat (by omega)]
        have := u8_or_nat 128 (zz % 128) (by omega) (by omega)
        rw [show ((zz : Int) % 128) = ((zz % 128 : Nat) : Int) from by omega]
        refine congrArg _ (this.trans ?_)
        rw [nat_join 7 128 (zz % 128) (by decide) (by omega)]
      have E2 : Hid ((zz : Int) / 128 = ((zz / 128 : Nat) : Int)) := by show _ = _; omega
      go_wp2_with (at_builtin; go_must (refine push_byte rfl _ _ rfl base u0 (xs ++ ys) _ _ E.out rfl rfl ho (by omega) hbw ?_); intro v' w1 ho1 hon1)
      go_roundw
      case rel =>
        have hd : Wm.digs (10 - ys.length) zz = UInt8.ofNat (128 + zz % 128) :: Wm.digs (10 - (ys ++ [UInt8.ofNat (128 + zz % 128)]).length) (zz / 128) := by
          rw [show 10 - ys.length = (10 - (ys ++ [UInt8.ofNat (128 + zz % 128)]).length) + 1 from by simp; omega, Wm.digs, if_neg (by omega)]
        have hy9 : ys.length ≠ 9 := by
          intro h9
          rw [h9] at hzz
          omega
        refine ⟨ys ++ [UInt8.ofNat (128 + zz % 128)], zz / 128, by rw [E2.out], by simp; omega, ?_, by omega, ?_, by rw [← List.append_assoc]; exact ho1, hon.trans hon1⟩
        · rw [show 10 - ys.length = (10 - (ys ++ [UInt8.ofNat (128 + zz % 128)]).length) + 1 from by simp; omega, Nat.pow_succ] at hzz
          omega
        · rw [← he.out, hd]; simp
      case measure => simp [intOf]; omega
    · have E : Hid (Value.int IntKind.u8 (zz : Int) = bv (UInt8.ofNat zz)) := by
        show _ = _
        rw [bv_ofNat (by omega)]
      have hd : Hid (Wm.digs (10 - ys.length) zz = [UInt8.ofNat zz]) := by
        show _ = _
        rw [show 10 - ys.length = (9 - ys.length) + 1 from by omega, Wm.digs, if_pos (by omega)]
      go_wp2_with (at_builtin; go_must (refine push_byte rfl _ _ rfl base u0 (xs ++ ys) _ _ E.out rfl rfl ho (by omega) hbw ?_); intro v' w1 ho1 hon1)
      go_ret
      refine ⟨_, rfl, ?_, hon.trans hon1⟩
      rw [← he.out, hd.out, ← List.append_assoc]
      exact ho1
/-- What Int returns: a row of its own. -/
def NewEnd (l : List UInt8) (w : World) (e : Ending) (w' : World) : Prop :=
  ∃ v', e = .returned v' ∧ OwnB w' w.heap.size v' l ∧ Below w.heap.size w w'
theorem AppEnd.new {l : List UInt8} {w : World} {e : Ending} {w' : World} (h : AppEnd w.heap.size (.slice none 0 0) l w e w') : NewEnd l w e w' := by
  obtain ⟨v', h1, h2, h3⟩ := h
  exact ⟨v', h1, h2, h3.below (ownB_nil w _) (Nat.le_refl _)⟩
theorem int_any (n : Int) (w : World) (hn : Wm.Fits n) : Calls Tryd.prog 70 #[.int .i64 n] w (NewEnd (Wm.enc n) w) := by
  have H := Lib.hid (appendInt_any w.heap.size (.slice none 0 0) [] n w (ownB_nil w _) (Nat.le_refl _) hn (by simp))
  go_enter Tryd.func70, Tryd.ntmps70
  go_wp2_with fail
  refine H.out.mono ?_
  rintro e w' ⟨v', rfl, h2, h3⟩
  go_wp2
  go_ret
  exact AppEnd.new ⟨_, rfl, h2, h3⟩
/-- The string of some bytes. -/
def bs (l : List UInt8) : ByteArray := ⟨l.toArray⟩
theorem bs_toList (l : List UInt8) : (bs l).toList = l := by unfold bs; simp
theorem bs_size (l : List UInt8) : (bs l).size = l.length := by unfold bs; simp [ByteArray.size]
theorem foldl_bs (l m : List UInt8) : (l.map fun b => ((b.toNat : Nat) : Int)).foldl (fun r n => r.push (UInt8.ofNat n.toNat)) (bs m) = bs (m ++ l) := by
  induction l generalizing m with
  | nil => simp
  | cons b l ih =>
    rw [List.map_cons, List.foldl_cons]
    have : (bs m).push (UInt8.ofNat ((b.toNat : Nat) : Int).toNat) = bs (m ++ [b]) := by
      unfold bs ByteArray.push
      simp
    rw [this, ih, List.append_assoc]; rfl
theorem run_bytes_bs {P : Program} (w : World) (src dst e : TypeId) (hs : P.underlying src = some (.slice e)) (he : P.underlying e = some (.int .u8)) (hd : P.underlying dst = some .string)
    {B : Nat} {A : Option Addr} {l : List UInt8} (c : Nat) (hr : Rds w B A (l.map bv)) : (convert src dst (.slice A l.length c)).run P w = .ok (.string (bs l)) w := by
  rw [run_convert_bytes_string w src dst e A l.length c hs he hd]
  cases A with
  | none =>
    have : l = [] := by
      by_cases h : l = []
      · exact h
      · obtain ⟨ad, h, _⟩ := hr (by simpa using h)
        cases h
    subst this
    rfl
  | some a =>
    have hc : (loadCells a l.length).run P w = .ok ((l.map fun b => ((b.toNat : Nat) : Int)).map (Value.int .u8)).toArray w := by
      have h := run_loadCells_list (P := P) w a (l.map bv) (by
        intro j v hv
        obtain ⟨ad, h, _, hcell⟩ := hr.look hv
        injection h with h
        subst h
        exact hcell)
      rw [List.length_map] at h
      rw [h]
      congr 2
      simp [bv]
    rw [run_bytesToString w a l.length c _ hc]
    congr 2
    exact foldl_bs l []
/-- An integer, a string as a value. -/
def iv (n : Int) : Value := .int .i64 n
def sv (l : List UInt8) : Value := .string (bs l)
theorem strCells_bs (l : List UInt8) : Lib.strCells (bs l) = l.map bv := rfl
/-- What appending to a row of one's own leaves, said from 'base' on alone. -/
def MoreEnd (base : Nat) (l : List UInt8) (w : World) (e : Ending) (w' : World) : Prop :=
  ∃ v', e = .returned v' ∧ OwnB w' base v' l ∧ Below base w w'
theorem AppEnd.more {base : Nat} {v : Value} {m l : List UInt8} {w : World} {e : Ending} {w' : World} (h : AppEnd base v l w e w') (hv : OwnB w base v m) (hb : base ≤ w.heap.size) : MoreEnd base l w e w' := by
  obtain ⟨v', h1, h2, h3⟩ := h
  exact ⟨v', h1, h2, h3.below hv hb⟩
/-- 'b = append(b, s...)', s a string, b the call's own. -/
theorem push_str {w : World} {ops : Array Oper} {rest : List Oper} {o : Oper} {a : Act} {Q : Exit → Act → World → Prop} (hgd : o.guard = none) (sl x : Operand)
    (ho : o.op = .call { callee := .builtin .append, args := #[sl, x], argTypes := #[22, 9] })
    (base : Nat) (v : Value) (m l : List UInt8) (S : ByteArray) (hS : S = bs l) (hs : a.eval sl = v) (hx : a.eval x = .string S)
    (hown : OwnB w base v m) (hlen : m.length + l.length ≤ 140737488355328) (hbase : base ≤ w.heap.size)
    (h : ∀ v' w', OwnB w' base v' (m ++ l) → Below base w w' → wpList Tryd.prog ops Q rest (a.put o.dst v') w') :
    wpList Tryd.prog ops Q (o :: rest) a w := by
  subst hS
  obtain ⟨i0, hi, hz0, hz1, hz2⟩ := info_parts infoByte
  have hz := bs_size l
  refine Lib.wpList_append_own_string w hgd sl x 22 9 ho base 5 i0 Tryd.underlying22 Tryd.underlying9 hi hz0 hz1 hz2 v m.length (m.map bv) hs hown (bs l) hx (by unfold maxLen; omega) (by omega) hbase ?_
  intro v' w' h1 h2 _
  refine h v' w' ?_ ((Below.refl _ _).grown h2 hbase fun _ hk => (hown.lt _ hk).1)
  unfold OwnB
  rw [List.length_append, List.map_append, ← strCells_bs, ← hz]
  exact h1
set_option maxRecDepth 100000 in
/-- 'b = append(b, c...)', c some bytes, b the call's own. -/
theorem push_bytes {w : World} {ops : Array Oper} {rest : List Oper} {o : Oper} {a : Act} {Q : Exit → Act → World → Prop} (hgd : o.guard = none) (sl x : Operand)
    (ho : o.op = .call { callee := .builtin .append, args := #[sl, x], argTypes := #[22, 22] })
    (base : Nat) (v : Value) (m l : List UInt8) (B : Nat) (A : Option Addr) (n c : Nat) (hn : n = l.length) (hA : A = none → c = 0) (hs : a.eval sl = v) (hx : a.eval x = .slice A n c)
    (hr : Rds w B A (l.map bv)) (hown : OwnB w base v m) (hlen : m.length + l.length ≤ 140737488355328) (hbase : base ≤ w.heap.size)
    (h : ∀ v' w', OwnB w' base v' (m ++ l) → Below base w w' → wpList Tryd.prog ops Q rest (a.put o.dst v') w') :
    wpList Tryd.prog ops Q (o :: rest) a w := by
  subst hn
  obtain ⟨i0, hi, hz0, hz1, hz2⟩ := info_parts infoByte
  cases A with
  | none =>
    have hl : l = [] := by
      by_cases hl : l = []
      · exact hl
      · obtain ⟨ad, hh, _⟩ := hr (by simpa using hl)
        cases hh
    subst hl
    rw [hA rfl] at hx
    refine wpList_plain hgd fun K hK => ?_
    have hrun := run_append_owned_none (P := Tryd.prog) w base 22 o.type 5 i0 1 Tryd.underlying22 hi v m.length (m.map bv) hown
    unfold Oper.wp execOp
    simp only [ho, resolve, invoke, builtin, Sem.run_bind, Sem.run_pure, Result.andThen_ok, List.map_toArray, List.map_cons, List.map_nil, hs, hx, List.length_nil, hrun]
    exact hK _ _ (h v w (by simpa using hown) (Below.refl _ _))
  | some ad =>
    have hcell : ∀ j u, (l.map bv)[j]? = some u → w.cell? (ad.add j) = some u := by
      intro j u hu
      obtain ⟨ad', he, _, hc⟩ := hr.look hu
      injection he with he
      subst he
      exact hc
    refine wpList_append_own_at w hgd sl x 22 ho base 5 i0 (.int .u8 0) 1 1 Tryd.underlying22 hi hz0 hz1 hz2 rfl (by decide) v m.length (m.map bv) hs hown ad l.length c (l.map bv) hx (by simp) hcell
      (by intro u hu; obtain ⟨b, _, rfl⟩ := List.mem_map.1 hu; rfl) (by unfold maxLen; omega) (by omega) hbase ?_
    intro v' w' h2 h3 _ _
    refine h v' w' ?_ ((Below.refl _ _).grown h3 hbase fun _ hk => (hown.lt _ hk).1)
    unfold OwnB
    rw [List.length_append, List.map_append]
    exact h2
set_option maxRecDepth 100000 in
set_option maxHeartbeats 400000 in
theorem appendBytes_any (base : Nat) (v : Value) (xs s : List UInt8) (w : World) (hown : OwnB w base v xs) (hb : base ≤ w.heap.size) (hlen : xs.length + s.length ≤ 140737488350000) :
    Calls Tryd.prog 119 #[v, sv s] w (MoreEnd base (xs ++ Wm.encBytes s) w) := by
  have HS := Lib.hid (bs_size s)
  have hel := Wm.enc_len s.length
  have H := Lib.hid (appendInt_any base v xs (s.length : Int) w hown hb ⟨by omega, by omega⟩ (by omega))
  unfold sv
  generalize hS : bs s = S at HS
  have HS2 := Lib.hid hS
  clear hS
  go_enter Tryd.func119, Tryd.ntmps119
  go_wp2_with fail
  rw [HS.out]
  refine H.out.mono ?_
  rintro e w1 ⟨v1, rfl, h2, h3⟩
  have hb1 := h3.below hown hb
  have hsz := hb1.size
  go_wp2_with (at_builtin; go_must (refine push_str rfl _ _ rfl base v1 (xs ++ Wm.enc s.length) s S HS2.out.symm rfl rfl h2 (by simp; omega) (by omega) ?_); intro v2 w2 ho2 hb2)
  go_ret
  exact ⟨_, rfl, by rw [Wm.encBytes, ← List.append_assoc]; exact ho2, hb1.trans hb2⟩
theorem bytes_any (s : List UInt8) (w : World) (hs : s.length ≤ 1000000000000) : Calls Tryd.prog 101 #[sv s] w (NewEnd (Wm.encBytes s) w) := by
  have H := Lib.hid (appendBytes_any w.heap.size (.slice none 0 0) [] s w (ownB_nil w _) (Nat.le_refl _) (by simp; omega))
  unfold sv at H ⊢
  generalize bs s = S at H
  go_enter Tryd.func101, Tryd.ntmps101
  go_wp2_with fail
  refine H.out.mono ?_
  rintro e w' ⟨v', rfl, h2, h3⟩
  go_wp2
  go_ret
  exact ⟨_, rfl, h2, h3⟩
set_option maxRecDepth 100000 in
set_option maxHeartbeats 1000000 in
theorem refInt_any (n : Int) (w : World) (hn : Wm.Fits n) : Calls Tryd.prog 71 #[.int .i64 n] w (NewEnd (Wm.enc n) w) := by
  have hz := Wm.zig_lt hn
  obtain ⟨h1, h2⟩ := hn
  by_cases hneg : n < 0
  · have ez : Hid ((-1 - n) * 2 + 1 = (Wm.zig n : Int)) := by show _ = _; unfold Wm.zig; rw [if_pos hneg]; omega
    go_enter Tryd.func71, Tryd.ntmps71
    go_wp2_with fail
    rw [ez.out]
    clear ez
    go_loopw [3, 4] (fun z b wr => ∃ (ys : List UInt8) (zz : Nat), z = .int .u64 zz ∧ ys.length ≤ 9 ∧ zz < 128 ^ (10 - ys.length) ∧ zz < 18446744073709551616 ∧ ys ++ Wm.digs (10 - ys.length) zz = Wm.enc n ∧
        OwnB wr w.heap.size b ys ∧ Below w.heap.size w wr) (fun z _ _ => (intOf z).toNat)
    case atStart => exact ⟨[], _, rfl, by simp, by simp; omega, hz, rfl, ownB_nil w _, Below.refl _ _⟩
    case round =>
      obtain ⟨ys, zz, rfl, hy, hzz, hz64, he0, ho, hon⟩ := hrel
      have he := Lib.hid he0
      clear he0
      have hlen2 : ys.length ≤ 140737488355009 := by omega
      have hbw := hon.size
      by_cases hlt : 128 ≤ zz
      · have E : Hid (Value.int IntKind.u8 ((zz : Int) % 128 + 128) = bv (UInt8.ofNat (128 + zz % 128))) := by
          show _ = _
          rw [bv_ofNat (by omega)]
          congr 1
          omega
        have E2 : Hid ((zz : Int) / 128 = ((zz / 128 : Nat) : Int)) := by show _ = _; omega
        go_wp2_with (at_builtin; go_must (refine push_byte rfl _ _ rfl w.heap.size u4 ys _ _ E.out rfl rfl ho (by omega) hbw ?_); intro v' w1 ho1 hon1)
        go_roundw
        case rel =>
          have hd : Wm.digs (10 - ys.length) zz = UInt8.ofNat (128 + zz % 128) :: Wm.digs (10 - (ys ++ [UInt8.ofNat (128 + zz % 128)]).length) (zz / 128) := by
            rw [show 10 - ys.length = (10 - (ys ++ [UInt8.ofNat (128 + zz % 128)]).length) + 1 from by simp; omega, Wm.digs, if_neg (by omega)]
          have hy9 : ys.length ≠ 9 := by
            intro h9
            rw [h9] at hzz
            omega
          refine ⟨ys ++ [UInt8.ofNat (128 + zz % 128)], zz / 128, by rw [E2.out], by simp; omega, ?_, by omega, ?_, ho1, hon.trans (hon1.below ho hbw)⟩
          · rw [show 10 - ys.length = (10 - (ys ++ [UInt8.ofNat (128 + zz % 128)]).length) + 1 from by simp; omega, Nat.pow_succ] at hzz
            omega
          · rw [← he.out, hd]; simp
        case measure => simp [intOf]; omega
      · have E : Hid (Value.int IntKind.u8 (zz : Int) = bv (UInt8.ofNat zz)) := by
          show _ = _
          rw [bv_ofNat (by omega)]
        have hd : Hid (Wm.digs (10 - ys.length) zz = [UInt8.ofNat zz]) := by
          show _ = _
          rw [show 10 - ys.length = (9 - ys.length) + 1 from by omega, Wm.digs, if_pos (by omega)]
        go_wp2_with (at_builtin; go_must (refine push_byte rfl _ _ rfl w.heap.size u4 ys _ _ E.out rfl rfl ho (by omega) hbw ?_); intro v' w1 ho1 hon1)
        go_ret
        refine ⟨_, rfl, ?_, hon.trans (hon1.below ho hbw)⟩
        rw [← he.out, hd.out]
        exact ho1
  · have ez : Hid (n * 2 = (Wm.zig n : Int)) := by show _ = _; unfold Wm.zig; rw [if_neg hneg]; omega
    go_enter Tryd.func71, Tryd.ntmps71
    go_wp2_with fail
    rw [ez.out]
    clear ez
    go_loopw [3, 4] (fun z b wr => ∃ (ys : List UInt8) (zz : Nat), z = .int .u64 zz ∧ ys.length ≤ 9 ∧ zz < 128 ^ (10 - ys.length) ∧ zz < 18446744073709551616 ∧ ys ++ Wm.digs (10 - ys.length) zz = Wm.enc n ∧
        OwnB wr w.heap.size b ys ∧ Below w.heap.size w wr) (fun z _ _ => (intOf z).toNat)
    case atStart => exact ⟨[], _, rfl, by simp, by simp; omega, hz, rfl, ownB_nil w _, Below.refl _ _⟩
    case round =>
      obtain ⟨ys, zz, rfl, hy, hzz, hz64, he0, ho, hon⟩ := hrel
      have he := Lib.hid he0
      clear he0
      have hlen2 : ys.length ≤ 140737488355009 := by omega
      have hbw := hon.size
      by_cases hlt : 128 ≤ zz
      · have E : Hid (Value.int IntKind.u8 ((zz : Int) % 128 + 128) = bv (UInt8.ofNat (128 + zz % 128))) := by
          show _ = _
          rw [bv_ofNat (by omega)]
          congr 1
          omega
        have E2 : Hid ((zz : Int) / 128 = ((zz / 128 : Nat) : Int)) := by show _ = _; omega
        go_wp2_with (at_builtin; go_must (refine push_byte rfl _ _ rfl w.heap.size u4 ys _ _ E.out rfl rfl ho (by omega) hbw ?_); intro v' w1 ho1 hon1)
        go_roundw
        case rel =>
          have hd : Wm.digs (10 - ys.length) zz = UInt8.ofNat (128 + zz % 128) :: Wm.digs (10 - (ys ++ [UInt8.ofNat (128 + zz % 128)]).length) (zz / 128) := by
            rw [show 10 - ys.length = (10 - (ys ++ [UInt8.ofNat (128 + zz % 128)]).length) + 1 from by simp; omega, Wm.digs, if_neg (by omega)]
          have hy9 : ys.length ≠ 9 := by
            intro h9
            rw [h9] at hzz
            omega
          refine ⟨ys ++ [UInt8.ofNat (128 + zz % 128)], zz / 128, by rw [E2.out], by simp; omega, ?_, by omega, ?_, ho1, hon.trans (hon1.below ho hbw)⟩
          · rw [show 10 - ys.length = (10 - (ys ++ [UInt8.ofNat (128 + zz % 128)]).length) + 1 from by simp; omega, Nat.pow_succ] at hzz
            omega
          · rw [← he.out, hd]; simp
        case measure => simp [intOf]; omega
      · have E : Hid (Value.int IntKind.u8 (zz : Int) = bv (UInt8.ofNat zz)) := by
          show _ = _
          rw [bv_ofNat (by omega)]
        have hd : Hid (Wm.digs (10 - ys.length) zz = [UInt8.ofNat zz]) := by
          show _ = _
          rw [show 10 - ys.length = (9 - ys.length) + 1 from by omega, Wm.digs, if_pos (by omega)]
        go_wp2_with (at_builtin; go_must (refine push_byte rfl _ _ rfl w.heap.size u4 ys _ _ E.out rfl rfl ho (by omega) hbw ?_); intro v' w1 ho1 hon1)
        go_ret
        refine ⟨_, rfl, ?_, hon.trans (hon1.below ho hbw)⟩
        rw [← he.out, hd.out]
        exact ho1
set_option maxRecDepth 100000 in
set_option maxHeartbeats 400000 in
theorem refBytes_any (s : List UInt8) (w : World) (hs : s.length ≤ 1000000000000) : Calls Tryd.prog 69 #[sv s] w (NewEnd (Wm.encBytes s) w) := by
  have HS := Lib.hid (bs_size s)
  have hel := Wm.enc_len s.length
  have H := Lib.hid (refInt_any (s.length : Int) w ⟨by omega, by omega⟩)
  unfold sv
  generalize hS : bs s = S at HS
  have HS2 := Lib.hid hS
  clear hS
  go_enter Tryd.func69, Tryd.ntmps69
  go_wp2_with fail
  rw [HS.out]
  refine H.out.mono ?_
  rintro e w1 ⟨v1, rfl, h2, hb1⟩
  have hsz := hb1.size
  go_wp2_with (at_builtin; go_must (refine push_str rfl _ _ rfl w.heap.size v1 (Wm.enc s.length) s S HS2.out.symm rfl rfl h2 (by omega) (by omega) ?_); intro v2 w2 ho2 hb2)
  go_ret
  exact ⟨_, rfl, ho2, hb1.trans hb2⟩
theorem NewEnd.slice {l : List UInt8} {w : World} {e : Ending} {w' : World} (h : NewEnd l w e w') : ∃ A c, e = .returned (.slice A l.length c) ∧ l.length ≤ c ∧ c ≤ maxLen ∧ (A = none → c = 0) ∧ Rds w' w'.heap.size A (l.map bv) ∧ Below w.heap.size w w' := by
  obtain ⟨v', rfl, h2, h3⟩ := h
  obtain ⟨A, c, rfl, g1, g2, g3, g4⟩ := own_form h2
  exact ⟨A, c, rfl, g1, g2, g3, g4, h3⟩
theorem below_lit {w0 w' : World} {o : Obj} (h : Below (w0.alloc o).heap.size (w0.alloc o) w') : Below w0.heap.size w0 w' :=
  ((Below.refl _ _).alloc (Nat.le_refl _) o).trans (h.mono (by simp))
/-- A call that ends in a bool and leaves all that was there. -/
def OkEnd (b : Bool) (w : World) (e : Ending) (w' : World) : Prop := e = .returned (.bool b) ∧ Below w.heap.size w w'
/-- It returns a bool, and has drawn some orders at most. -/
def BoolEnd (b : Bool) (w : World) (e : Ending) (w' : World) : Prop := e = .returned (.bool b) ∧ ∃ n, w' = w.drewN n
theorem drewN_zero (w : World) : w.drewN 0 = w := rfl
theorem below_drewN {B : Nat} {a w : World} (h : Below B a w) (n : Nat) : Below B a (w.drewN n) := ⟨h.os, h.tape, h.output, h.size, h.block⟩
theorem BoolEnd.below {b : Bool} {w : World} {e : Ending} {w' : World} (h : BoolEnd b w e w') : e = .returned (.bool b) ∧ Below w.heap.size w w' := by
  obtain ⟨h1, n, rfl⟩ := h
  exact ⟨h1, below_drewN (Below.refl _ _) n⟩
theorem bs_of (s : ByteArray) : bs s.data.toList = s := by unfold bs; simp
theorem sv_of (s : ByteArray) : Value.string s = sv s.data.toList := by unfold sv; rw [bs_of]
theorem size_of (s : ByteArray) : s.data.toList.length = s.size := by rw [Array.length_toList]; rfl
end Go.Proofs.YtedhjjlnionckaaDoor
