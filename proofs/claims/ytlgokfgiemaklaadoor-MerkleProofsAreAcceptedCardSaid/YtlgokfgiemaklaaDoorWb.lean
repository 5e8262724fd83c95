/-
  The encoding's functions that other packages call: wire.Int, wire.Bytes, and the reference's. (Picked out of XInt, XGet, XStr, XLst, XDec, XRef, XRefL: see tools/pick.py.)
-/
import Derived.Test.YtlgokfgiemaklaaDoorWmm
import Derived.Test.YtlgokfgiemaklaaDoorKb
import Derived.Deep.LoopGhost
import Derived.Lib.AppendStr
namespace Go.Proofs.YtlgokfgiemaklaaDoor
open Go.RowKit

theorem xor_max (x : Int) (h0 : 0 ≤ x) (h1 : x < 18446744073709551616) : bits BinOp.xor IntKind.u64 IntKind.u64.max x = 18446744073709551615 - x := by
  obtain ⟨a, rfl⟩ := Int.eq_ofNat_of_zero_le h0
  have ha : a < 18446744073709551616 := by omega
  rw [show IntKind.u64.max = ((18446744073709551615 : Nat) : Int) from rfl, u64_xor_nat _ a (by omega) ha]
  have : (18446744073709551615 : Nat) ^^^ a = 18446744073709551615 - a := by
    apply Nat.eq_of_testBit_eq
    intro i
    rw [show 18446744073709551615 - a = 2 ^ 64 - (a + 1) from by omega, Nat.testBit_two_pow_sub_succ (by omega)]
    rw [show (18446744073709551615 : Nat) = 2 ^ 64 - 1 from rfl, Nat.testBit_xor, Nat.testBit_two_pow_sub_one]
    by_cases hi : i < 64
    · simp [hi]
    · have : a.testBit i = false := Nat.testBit_lt_two_pow (Nat.lt_of_lt_of_le (show a < 2 ^ 64 by omega) (Nat.pow_le_pow_right (by omega) (by omega)))
      simp [hi, this]
  rw [this]; omega
set_option maxHeartbeats 400000 in
theorem fold_any (n : Int) (hn : Wm.Fits n) (w : World) :
    Calls Tryd.prog 100 #[.int .i64 n] w fun e w' => e = .returned (.int .u64 (Wm.zig n : Int)) ∧ w = w' := by
  obtain ⟨h1, h2⟩ := hn
  by_cases h : n < 0
  · have e1 : IntKind.u64.wrap n = n + 18446744073709551616 := by rw [IntKind.wrap_u64]; omega
    have e2 : IntKind.u64.wrap (IntKind.u64.wrap n * 2) = n * 2 + 18446744073709551616 := by rw [e1, IntKind.wrap_u64]; omega
    have e3 := xor_max (n * 2 + 18446744073709551616) (by omega) (by omega)
    have E : Hid (bits BinOp.xor IntKind.u64 IntKind.u64.max (IntKind.u64.wrap (IntKind.u64.wrap n * 2)) = (Wm.zig n : Int)) := by
      show _ = _
      rw [e2, e3]; unfold Wm.zig; rw [if_pos h]; omega
    clear e1 e2 e3
    go_enter Tryd.func100, Tryd.ntmps100
    go_wp2
    go_ret
    exact ⟨ret_eq (by rw [← E.out]; rfl), rfl⟩
  · have E : Hid (n * 2 = (Wm.zig n : Int)) := by
      show _ = _
      unfold Wm.zig; rw [if_neg h]; omega
    go_enter Tryd.func100, Tryd.ntmps100
    go_wp2
    go_ret
    exact ⟨ret_eq (by rw [← E.out]; rfl), rfl⟩
theorem or_step (v k d : Nat) (hk : k ≤ 9) (hv : v < 128 ^ k) (hd : d * 128 ^ k < 18446744073709551616) :
    bits BinOp.or IntKind.u64 (v : Int) (IntKind.u64.wrap ((d : Int) * 2 ^ (7 * k))) = ((v + d * 128 ^ k : Nat) : Int) := by
  have e2 : (2 : Nat) ^ (7 * k) = 128 ^ k := by rw [Nat.pow_mul]
  have e : ((d : Int) * 2 ^ (7 * k)) = ((d * 128 ^ k : Nat) : Int) := by rw [Int.natCast_mul, ← e2, Int.natCast_pow]; rfl
  rw [e, IntKind.wrap_u64, show (((d * 128 ^ k : Nat) : Int) % 18446744073709551616) = ((d * 128 ^ k : Nat) : Int) from by omega]
  have hp : 128 ^ k ≤ 128 ^ 9 := Nat.pow_le_pow_right (by omega) hk
  rw [u64_or_nat _ _ (by omega) hd, Nat.or_comm, nat_join (7 * k) _ v (by rw [e2]; exact Nat.mul_mod_left _ _) (by rw [e2]; exact hv), Nat.add_comm]
theorem or_nn (a b : Int) : 0 ≤ bits BinOp.or IntKind.u64 a b := by
  show 0 ≤ IntKind.u64.wrap ((BitVec.ofInt 64 a ||| BitVec.ofInt 64 b).toNat : Int)
  rw [IntKind.wrap_u64]; omega
set_option maxRecDepth 100000 in
set_option maxHeartbeats 1000000 in
theorem appendInt_any (base : Nat) (v : Value) (xs : List UInt8) (n : Int) (w : World) (hown : OwnB w base v xs) (hb : base ≤ w.heap.size) (hn : Wm.Fits n) (hlen : xs.length ≤ 140737488355000) :
    Calls Tryd.prog 98 #[v, .int .i64 n] w (AppEnd base v (xs ++ Wm.enc n) w) := by
  have hz := Wm.zig_lt hn
  have F := Lib.hid (fold_any n hn w)
  go_enter Tryd.func98, Tryd.ntmps98
  go_wp2_with fail
  refine F.out.mono ?_
  rintro e w' ⟨rfl, rfl⟩
  go_wp2_with fail
  go_loopw [0, 5] (fun b z wr => ∃ (ys : List UInt8) (zz : Nat), z = .int .u64 zz ∧ ys.length ≤ 9 ∧ zz < 128 ^ (10 - ys.length) ∧ zz < 18446744073709551616 ∧ ys ++ Wm.digs (10 - ys.length) zz = Wm.enc n ∧
      OwnB wr base b (xs ++ ys) ∧ Onto w v wr b) (fun _ z _ => (intOf z).toNat)
  case atStart => exact ⟨[], _, rfl, by simp, by simp; omega, hz, rfl, by simpa using hown, Onto.refl _ _⟩
  case round =>
    obtain ⟨ys, zz, rfl, hy, hzz, hz64, he0, ho, hon⟩ := hrel
    have he := Lib.hid he0
    clear he0
    have hlen2 : (xs ++ ys).length ≤ 140737488355009 := by simp; omega
    have hbw : base ≤ wr.heap.size := Nat.le_trans hb hon.1.size
    by_cases hlt : 128 ≤ zz
    · have E : Hid (Value.int IntKind.u8 (bits BinOp.or IntKind.u8 128 ((zz : Int) % 128)) = bv (UInt8.ofNat (128 + zz % 128))) := by
        show _ = _
        rw [bv_ofNat (by omega)]
        have := u8_or_nat 128 (zz % 128) (by omega) (by omega)
        rw [show ((zz : Int) % 128) = ((zz % 128 : Nat) : Int) from by omega]
        refine congrArg _ (this.trans ?_)
        rw [nat_join 7 128 (zz % 128) (by decide) (by omega)]
      have E2 : Hid ((zz : Int) / 128 = ((zz / 128 : Nat) : Int)) := by show _ = _; omega
      go_wp2_with (at_builtin; go_must (refine push_byte rfl _ _ rfl base u0 (xs ++ ys) _ _ E.out rfl rfl ho (by omega) hbw ?_); intro v' w1 ho1 hon1)
      go_roundw
      case rel =>
        have hd : Wm.digs (10 - ys.length) zz = UInt8.ofNat (128 + zz % 128) :: Wm.digs (10 - (ys ++ [UInt8.ofNat (128 + zz % 128)]).length) (zz / 128) := by
          rw [show 10 - ys.length = (10 - (ys ++ [UInt8.ofNat (128 + zz % 128)]).length) + 1 from by simp; omega, Wm.digs, if_neg (by omega)]
        have hy9 : ys.length ≠ 9 := by
          intro h9
          rw [h9] at hzz
          omega
        refine ⟨ys ++ [UInt8.ofNat (128 + zz % 128)], zz / 128, by rw [E2.out], by simp; omega, ?_, by omega, ?_, by rw [← List.append_assoc]; exact ho1, hon.trans hon1⟩
        · rw [show 10 - ys.length = (10 - (ys ++ [UInt8.ofNat (128 + zz % 128)]).length) + 1 from by simp; omega, Nat.pow_succ] at hzz
          omega
        · rw [← he.out, hd]; simp
      case measure => simp [intOf]; omega
    · have E : Hid (Value.int IntKind.u8 (zz : Int) = bv (UInt8.ofNat zz)) := by
        show _ = _
        rw [bv_ofNat (by omega)]
      have hd : Hid (Wm.digs (10 - ys.length) zz = [UInt8.ofNat zz]) := by
        show _ = _
        rw [show 10 - ys.length = (9 - ys.length) + 1 from by omega, Wm.digs, if_pos (by omega)]
      go_wp2_with (at_builtin; go_must (refine push_byte rfl _ _ rfl base u0 (xs ++ ys) _ _ E.out rfl rfl ho (by omega) hbw ?_); intro v' w1 ho1 hon1)
      go_ret
      refine ⟨_, rfl, ?_, hon.trans hon1⟩
      rw [← he.out, hd.out, ← List.append_assoc]
      exact ho1
set_option maxRecDepth 100000 in
set_option maxHeartbeats 400000 in
theorem appendBytes_any (base : Nat) (v : Value) (xs s : List UInt8) (w : World) (hown : OwnB w base v xs) (hb : base ≤ w.heap.size) (hlen : xs.length + s.length ≤ 140737488350000) :
    Calls Tryd.prog 91 #[v, sv s] w (MoreEnd base (xs ++ Wm.encBytes s) w) := by
  have HS := Lib.hid (bs_size s)
  have hel := Wm.enc_len s.length
  have H := Lib.hid (appendInt_any base v xs (s.length : Int) w hown hb ⟨by omega, by omega⟩ (by omega))
  unfold sv
  generalize hS : bs s = S at HS
  have HS2 := Lib.hid hS
  clear hS
  go_enter Tryd.func91, Tryd.ntmps91
  go_wp2_with fail
  rw [HS.out]
  refine H.out.mono ?_
  rintro e w1 ⟨v1, rfl, h2, h3⟩
  have hb1 := h3.below hown hb
  have hsz := hb1.size
  go_wp2_with (at_builtin; go_must (refine push_str rfl _ _ rfl base v1 (xs ++ Wm.enc s.length) s S HS2.out.symm rfl rfl h2 (by simp; omega) (by omega) ?_); intro v2 w2 ho2 hb2)
  go_ret
  exact ⟨_, rfl, by rw [Wm.encBytes, ← List.append_assoc]; exact ho2, hb1.trans hb2⟩
theorem bytes_any (s : List UInt8) (w : World) (hs : s.length ≤ 1000000000000) : Calls Tryd.prog 79 #[sv s] w (NewEnd (Wm.encBytes s) w) := by
  have H := Lib.hid (appendBytes_any w.heap.size (.slice none 0 0) [] s w (ownB_nil w _) (Nat.le_refl _) (by simp; omega))
  unfold sv at H ⊢
  generalize bs s = S at H
  go_enter Tryd.func79, Tryd.ntmps79
  go_wp2_with fail
  refine H.out.mono ?_
  rintro e w' ⟨v', rfl, h2, h3⟩
  go_wp2
  go_ret
  exact ⟨_, rfl, h2, h3⟩
set_option maxRecDepth 100000 in
set_option maxHeartbeats 1000000 in
theorem refInt_any (n : Int) (w : World) (hn : Wm.Fits n) : Calls Tryd.prog 97 #[.int .i64 n] w (NewEnd (Wm.enc n) w) := by
  have hz := Wm.zig_lt hn
  obtain ⟨h1, h2⟩ := hn
  by_cases hneg : n < 0
  · have ez : Hid ((-1 - n) * 2 + 1 = (Wm.zig n : Int)) := by show _ = _; unfold Wm.zig; rw [if_pos hneg]; omega
    go_enter Tryd.func97, Tryd.ntmps97
    go_wp2_with fail
    rw [ez.out]
    clear ez
    go_loopw [3, 4] (fun z b wr => ∃ (ys : List UInt8) (zz : Nat), z = .int .u64 zz ∧ ys.length ≤ 9 ∧ zz < 128 ^ (10 - ys.length) ∧ zz < 18446744073709551616 ∧ ys ++ Wm.digs (10 - ys.length) zz = Wm.enc n ∧
        OwnB wr w.heap.size b ys ∧ Below w.heap.size w wr) (fun z _ _ => (intOf z).toNat)
    case atStart => exact ⟨[], _, rfl, by simp, by simp; omega, hz, rfl, ownB_nil w _, Below.refl _ _⟩
    case round =>
      obtain ⟨ys, zz, rfl, hy, hzz, hz64, he0, ho, hon⟩ := hrel
      have he := Lib.hid he0
      clear he0
      have hlen2 : ys.length ≤ 140737488355009 := by omega
      have hbw := hon.size
      by_cases hlt : 128 ≤ zz
      · have E : Hid (Value.int IntKind.u8 ((zz : Int) % 128 + 128) = bv (UInt8.ofNat (128 + zz % 128))) := by
          show _ = _
          rw [bv_ofNat (by omega)]
          congr 1
          omega
        have E2 : Hid ((zz : Int) / 128 = ((zz / 128 : Nat) : Int)) := by show _ = _; omega
        go_wp2_with (at_builtin; go_must (refine push_byte rfl _ _ rfl w.heap.size u4 ys _ _ E.out rfl rfl ho (by omega) hbw ?_); intro v' w1 ho1 hon1)
        go_roundw
        case rel =>
          have hd : Wm.digs (10 - ys.length) zz = UInt8.ofNat (128 + zz % 128) :: Wm.digs (10 - (ys ++ [UInt8.ofNat (128 + zz % 128)]).length) (zz / 128) := by
            rw [show 10 - ys.length = (10 - (ys ++ [UInt8.ofNat (128 + zz % 128)]).length) + 1 from by simp; omega, Wm.digs, if_neg (by omega)]
          have hy9 : ys.length ≠ 9 := by
            intro h9
            rw [h9] at hzz
            omega
          refine ⟨ys ++ [UInt8.ofNat (128 + zz % 128)], zz / 128, by rw [E2.out], by simp; omega, ?_, by omega, ?_, ho1, hon.trans (hon1.below ho hbw)⟩
          · rw [show 10 - ys.length = (10 - (ys ++ [UInt8.ofNat (128 + zz % 128)]).length) + 1 from by simp; omega, Nat.pow_succ] at hzz
            omega
          · rw [← he.out, hd]; simp
        case measure => simp [intOf]; omega
      · have E : Hid (Value.int IntKind.u8 (zz : Int) = bv (UInt8.ofNat zz)) := by
          show _ = _
          rw [bv_ofNat (by omega)]
        have hd : Hid (Wm.digs (10 - ys.length) zz = [UInt8.ofNat zz]) := by
          show _ = _
          rw [show 10 - ys.length = (9 - ys.length) + 1 from by omega, Wm.digs, if_pos (by omega)]
        go_wp2_with (at_builtin; go_must (refine push_byte rfl _ _ rfl w.heap.size u4 ys _ _ E.out rfl rfl ho (by omega) hbw ?_); intro v' w1 ho1 hon1)
        go_ret
        refine ⟨_, rfl, ?_, hon.trans (hon1.below ho hbw)⟩
        rw [← he.out, hd.out]
        exact ho1
  · have ez : Hid (n * 2 = (Wm.zig n : Int)) := by show _ = _; unfold Wm.zig; rw [if_neg hneg]; omega
    go_enter Tryd.func97, Tryd.ntmps97
    go_wp2_with fail
    rw [ez.out]
    clear ez
    go_loopw [3, 4] (fun z b wr => ∃ (ys : List UInt8) (zz : Nat), z = .int .u64 zz ∧ ys.length ≤ 9 ∧ zz < 128 ^ (10 - ys.length) ∧ zz < 18446744073709551616 ∧ ys ++ Wm.digs (10 - ys.length) zz = Wm.enc n ∧
        OwnB wr w.heap.size b ys ∧ Below w.heap.size w wr) (fun z _ _ => (intOf z).toNat)
    case atStart => exact ⟨[], _, rfl, by simp, by simp; omega, hz, rfl, ownB_nil w _, Below.refl _ _⟩
    case round =>
      obtain ⟨ys, zz, rfl, hy, hzz, hz64, he0, ho, hon⟩ := hrel
      have he := Lib.hid he0
      clear he0
      have hlen2 : ys.length ≤ 140737488355009 := by omega
      have hbw := hon.size
      by_cases hlt : 128 ≤ zz
      · have E : Hid (Value.int IntKind.u8 ((zz : Int) % 128 + 128) = bv (UInt8.ofNat (128 + zz % 128))) := by
          show _ = _
          rw [bv_ofNat (by omega)]
          congr 1
          omega
        have E2 : Hid ((zz : Int) / 128 = ((zz / 128 : Nat) : Int)) := by show _ = _; omega
        go_wp2_with (at_builtin; go_must (refine push_byte rfl _ _ rfl w.heap.size u4 ys _ _ E.out rfl rfl ho (by omega) hbw ?_); intro v' w1 ho1 hon1)
        go_roundw
        case rel =>
          have hd : Wm.digs (10 - ys.length) zz = UInt8.ofNat (128 + zz % 128) :: Wm.digs (10 - (ys ++ [UInt8.ofNat (128 + zz % 128)]).length) (zz / 128) := by
            rw [show 10 - ys.length = (10 - (ys ++ [UInt8.ofNat (128 + zz % 128)]).length) + 1 from by simp; omega, Wm.digs, if_neg (by omega)]
          have hy9 : ys.length ≠ 9 := by
            intro h9
            rw [h9] at hzz
            omega
          refine ⟨ys ++ [UInt8.ofNat (128 + zz % 128)], zz / 128, by rw [E2.out], by simp; omega, ?_, by omega, ?_, ho1, hon.trans (hon1.below ho hbw)⟩
          · rw [show 10 - ys.length = (10 - (ys ++ [UInt8.ofNat (128 + zz % 128)]).length) + 1 from by simp; omega, Nat.pow_succ] at hzz
            omega
          · rw [← he.out, hd]; simp
        case measure => simp [intOf]; omega
      · have E : Hid (Value.int IntKind.u8 (zz : Int) = bv (UInt8.ofNat zz)) := by
          show _ = _
          rw [bv_ofNat (by omega)]
        have hd : Hid (Wm.digs (10 - ys.length) zz = [UInt8.ofNat zz]) := by
          show _ = _
          rw [show 10 - ys.length = (9 - ys.length) + 1 from by omega, Wm.digs, if_pos (by omega)]
        go_wp2_with (at_builtin; go_must (refine push_byte rfl _ _ rfl w.heap.size u4 ys _ _ E.out rfl rfl ho (by omega) hbw ?_); intro v' w1 ho1 hon1)
        go_ret
        refine ⟨_, rfl, ?_, hon.trans (hon1.below ho hbw)⟩
        rw [← he.out, hd.out]
        exact ho1
set_option maxRecDepth 100000 in
set_option maxHeartbeats 400000 in
theorem refBytes_any (s : List UInt8) (w : World) (hs : s.length ≤ 1000000000000) : Calls Tryd.prog 84 #[sv s] w (NewEnd (Wm.encBytes s) w) := by
  have HS := Lib.hid (bs_size s)
  have hel := Wm.enc_len s.length
  have H := Lib.hid (refInt_any (s.length : Int) w ⟨by omega, by omega⟩)
  unfold sv
  generalize hS : bs s = S at HS
  have HS2 := Lib.hid hS
  clear hS
  go_enter Tryd.func84, Tryd.ntmps84
  go_wp2_with fail
  rw [HS.out]
  refine H.out.mono ?_
  rintro e w1 ⟨v1, rfl, h2, hb1⟩
  have hsz := hb1.size
  go_wp2_with (at_builtin; go_must (refine push_str rfl _ _ rfl w.heap.size v1 (Wm.enc s.length) s S HS2.out.symm rfl rfl h2 (by omega) (by omega) ?_); intro v2 w2 ho2 hb2)
  go_ret
  exact ⟨_, rfl, ho2, hb1.trans hb2⟩
end Go.Proofs.YtlgokfgiemaklaaDoor
