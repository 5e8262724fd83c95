/-
  Contracts: the reference's integers.
-/
import Derived.Test.YthnbiegpfjnadaaLst
namespace Go.Proofs.Ythnbiegpfjnadaa
open Go.RowKit

set_option maxRecDepth 100000 in
set_option maxHeartbeats 1000000 in
theorem refInt_any (n : Int) (w : World) (hn : Wm.Fits n) : Calls Try.prog 15 #[.int .i64 n] w (NewEnd (Wm.enc n) w) := by
  have hz := Wm.zig_lt hn
  obtain ⟨h1, h2⟩ := hn
  by_cases hneg : n < 0
  · have ez : Hid ((-1 - n) * 2 + 1 = (Wm.zig n : Int)) := by show _ = _; unfold Wm.zig; rw [if_pos hneg]; omega
    go_enter Try.func15, Try.ntmps15
    go_wp2_with fail
    rw [ez.out]
    clear ez
    go_loopw [3, 4] (fun z b wr => ∃ (ys : List UInt8) (zz : Nat), z = .int .u64 zz ∧ ys.length ≤ 9 ∧ zz < 128 ^ (10 - ys.length) ∧ zz < 18446744073709551616 ∧ ys ++ Wm.digs (10 - ys.length) zz = Wm.enc n ∧
        OwnB wr w.heap.size b ys ∧ Below w.heap.size w wr) (fun z _ _ => (intOf z).toNat)
    case atStart => exact ⟨[], _, rfl, by simp, by simp; omega, hz, rfl, ownB_nil w _, Below.refl _ _⟩
    case round =>
      obtain ⟨ys, zz, rfl, hy, hzz, hz64, he0, ho, hon⟩ := hrel
      have he := Lib.hid he0
      clear he0
      have hlen2 : ys.length ≤ 140737488355009 := by omega
      have hbw := hon.size
      by_cases hlt : 128 ≤ zz
      · have E : Hid (Value.int IntKind.u8 ((zz : Int) % 128 + 128) = bv (UInt8.ofNat (128 + zz % 128))) := by
          show _ = _
          rw [bv_ofNat (by omega)]
          congr 1
          omega
        have E2 : Hid ((zz : Int) / 128 = ((zz / 128 : Nat) : Int)) := by show _ = _; omega
        go_wp2_with (at_builtin; go_must (refine push_byte rfl _ _ rfl w.heap.size u4 ys _ _ E.out rfl rfl ho (by omega) hbw ?_); intro v' w1 ho1 hon1)
        go_roundw
        case rel =>
          have hd : Wm.digs (10 - ys.length) zz = UInt8.ofNat (128 + zz % 128) :: Wm.digs (10 - (ys ++ [UInt8.ofNat (128 + zz % 128)]).length) (zz / 128) := by
            rw [show 10 - ys.length = (10 - (ys ++ [UInt8.ofNat (128 + zz % 128)]).length) + 1 from by simp; omega, Wm.digs, if_neg (by omega)]
          have hy9 : ys.length ≠ 9 := by
            intro h9
            rw [h9] at hzz
            omega
          refine ⟨ys ++ [UInt8.ofNat (128 + zz % 128)], zz / 128, by rw [E2.out], by simp; omega, ?_, by omega, ?_, ho1, hon.trans (hon1.below ho hbw)⟩
          · rw [show 10 - ys.length = (10 - (ys ++ [UInt8.ofNat (128 + zz % 128)]).length) + 1 from by simp; omega, Nat.pow_succ] at hzz
            omega
          · rw [← he.out, hd]; simp
        case measure => simp [intOf]; omega
      · have E : Hid (Value.int IntKind.u8 (zz : Int) = bv (UInt8.ofNat zz)) := by
          show _ = _
          rw [bv_ofNat (by omega)]
        have hd : Hid (Wm.digs (10 - ys.length) zz = [UInt8.ofNat zz]) := by
          show _ = _
          rw [show 10 - ys.length = (9 - ys.length) + 1 from by omega, Wm.digs, if_pos (by omega)]
        go_wp2_with (at_builtin; go_must (refine push_byte rfl _ _ rfl w.heap.size u4 ys _ _ E.out rfl rfl ho (by omega) hbw ?_); intro v' w1 ho1 hon1)
        go_ret
        refine ⟨_, rfl, ?_, hon.trans (hon1.below ho hbw)⟩
        rw [← he.out, hd.out]
        exact ho1
  · have ez : Hid (n * 2 = (Wm.zig n : Int)) := by show _ = _; unfold Wm.zig; rw [if_neg hneg]; omega
    go_enter Try.func15, Try.ntmps15
    go_wp2_with fail
    rw [ez.out]
    clear ez
    go_loopw [3, 4] (fun z b wr => ∃ (ys : List UInt8) (zz : Nat), z = .int .u64 zz ∧ ys.length ≤ 9 ∧ zz < 128 ^ (10 - ys.length) ∧ zz < 18446744073709551616 ∧ ys ++ Wm.digs (10 - ys.length) zz = Wm.enc n ∧
        OwnB wr w.heap.size b ys ∧ Below w.heap.size w wr) (fun z _ _ => (intOf z).toNat)
    case atStart => exact ⟨[], _, rfl, by simp, by simp; omega, hz, rfl, ownB_nil w _, Below.refl _ _⟩
    case round =>
      obtain ⟨ys, zz, rfl, hy, hzz, hz64, he0, ho, hon⟩ := hrel
      have he := Lib.hid he0
      clear he0
      have hlen2 : ys.length ≤ 140737488355009 := by omega
      have hbw := hon.size
      by_cases hlt : 128 ≤ zz
      · have E : Hid (Value.int IntKind.u8 ((zz : Int) % 128 + 128) = bv (UInt8.ofNat (128 + zz % 128))) := by
          show _ = _
          rw [bv_ofNat (by omega)]
          congr 1
          omega
        have E2 : Hid ((zz : Int) / 128 = ((zz / 128 : Nat) : Int)) := by show _ = _; omega
        go_wp2_with (at_builtin; go_must (refine push_byte rfl _ _ rfl w.heap.size u4 ys _ _ E.out rfl rfl ho (by omega) hbw ?_); intro v' w1 ho1 hon1)
        go_roundw
        case rel =>
          have hd : Wm.digs (10 - ys.length) zz = UInt8.ofNat (128 + zz % 128) :: Wm.digs (10 - (ys ++ [UInt8.ofNat (128 + zz % 128)]).length) (zz / 128) := by
            rw [show 10 - ys.length = (10 - (ys ++ [UInt8.ofNat (128 + zz % 128)]).length) + 1 from by simp; omega, Wm.digs, if_neg (by omega)]
          have hy9 : ys.length ≠ 9 := by
            intro h9
            rw [h9] at hzz
            omega
          refine ⟨ys ++ [UInt8.ofNat (128 + zz % 128)], zz / 128, by rw [E2.out], by simp; omega, ?_, by omega, ?_, ho1, hon.trans (hon1.below ho hbw)⟩
          · rw [show 10 - ys.length = (10 - (ys ++ [UInt8.ofNat (128 + zz % 128)]).length) + 1 from by simp; omega, Nat.pow_succ] at hzz
            omega
          · rw [← he.out, hd]; simp
        case measure => simp [intOf]; omega
      · have E : Hid (Value.int IntKind.u8 (zz : Int) = bv (UInt8.ofNat zz)) := by
          show _ = _
          rw [bv_ofNat (by omega)]
        have hd : Hid (Wm.digs (10 - ys.length) zz = [UInt8.ofNat zz]) := by
          show _ = _
          rw [show 10 - ys.length = (9 - ys.length) + 1 from by omega, Wm.digs, if_pos (by omega)]
        go_wp2_with (at_builtin; go_must (refine push_byte rfl _ _ rfl w.heap.size u4 ys _ _ E.out rfl rfl ho (by omega) hbw ?_); intro v' w1 ho1 hon1)
        go_ret
        refine ⟨_, rfl, ?_, hon.trans (hon1.below ho hbw)⟩
        rw [← he.out, hd.out]
        exact ho1
end Go.Proofs.Ythnbiegpfjnadaa
