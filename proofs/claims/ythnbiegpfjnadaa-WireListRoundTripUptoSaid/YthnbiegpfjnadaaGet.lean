/-
  Contracts: GetInt of the package and of the reference; appendInt and Int.
-/
import Derived.Test.YthnbiegpfjnadaaInt
namespace Go.Proofs.Ythnbiegpfjnadaa
open Go.RowKit

/-- What GetInt returns. -/
def GetEnd (l : List UInt8) (w : World) (e : Ending) (w' : World) : Prop :=
  e = .returned (.tuple #[.int .i64 (Wm.getInt l).1, .int .i64 ((Wm.getInt l).2.1 : Int), .int .i64 (Wm.getInt l).2.2]) ∧ w = w'
theorem getEnd {l : List UInt8} {w : World} {n : Int} {u : Nat} {x : Int} {a b c : Value} (h : Wm.getInt l = (n, u, x)) (ha : a = .int .i64 n) (hb : b = .int .i64 u) (hc : c = .int .i64 x) : GetEnd l w (.returned (.tuple #[a, b, c])) w := by
  subst ha; subst hb; subst hc
  unfold GetEnd
  rw [h]
  exact ⟨rfl, rfl⟩

set_option maxRecDepth 100000 in
set_option maxHeartbeats 1000000 in
theorem getInt_any (l : List UInt8) (A : Option Addr) (c : Nat) (w : World) (hr : Rds w w.heap.size A (l.map bv)) (hl : l.length ≤ maxLen) :
    Calls Try.prog 24 #[.slice A l.length c] w (GetEnd l w) := by
  have hd := digits_any l A c w hr hl
  have hz := Wm.dig_lt l
  have hg := Lib.hid (Wm.getInt_dig l)
  have H := Lib.hid hd
  clear hd
  rcases hdl : Wm.dig l with ⟨z, u, x⟩
  rw [hdl] at hz hg
  by_cases hx : x = 0
  · have t : (x != 0) = false := by simp; omega
    have R : Hid (Wm.getInt l = (Wm.zag z, u, 0)) := by have := hg.out; rw [if_pos hx] at this; exact this
    have D := Lib.hid hdl
    obtain ⟨hz1, _⟩ := hz
    clear hg hdl hx
    go_enter Try.func24, Try.ntmps24
    go_wp2_with fail
    refine H.out.mono ?_
    rintro e w' ⟨rfl, rfl⟩
    rw [D.out]
    go_wp2_with fail
    refine (unfold_any z hz1 _).mono ?_
    rintro e w' ⟨rfl, rfl⟩
    go_wp2
    go_ret3
    exact getEnd R.out rfl rfl rfl
  · have t : (x != 0) = true := by simp; omega
    have R : Hid (Wm.getInt l = (0, 0, x)) := by have := hg.out; rw [if_neg hx] at this; exact this
    have D := Lib.hid hdl
    clear hg hdl hx hz
    go_enter Try.func24, Try.ntmps24
    go_wp2_with fail
    refine H.out.mono ?_
    rintro e w' ⟨rfl, rfl⟩
    rw [D.out]
    go_wp2
    go_ret3
    exact getEnd R.out rfl rfl rfl

theorem infoByte : (Try.prog.info? 5).map (fun i => (i.zero, i.size, i.bytes)) = some (some (.int .u8 0), 1, 1) := by kernel_rfl

/-- The bytes l are a row of the call's own, from block 'base' on. -/
def OwnB (w : World) (base : Nat) (v : Value) (l : List UInt8) : Prop := w.ownsRow base 5 1 v l.length (l.map bv)
theorem ownB_nil (w : World) (base : Nat) : OwnB w base (.slice none 0 0) [] := World.ownsRow_nil w base _ _

/-- 'b = append(b, x)', x a byte, b the call's own: the walk's step. -/
theorem push_byte {w0 : World} {ops : Array Oper} {rest : List Oper} {o : Oper} {a : Act} {Q : Exit → Act → World → Prop} (hgd : o.guard = none) (s x : Operand)
    (ho : o.op = .call { callee := .builtin .append, args := #[s, x], argTypes := #[28, 28] })
    (base : Nat) (v : Value) (l : List UInt8) (b : UInt8) (u : Value) (hu : u = bv b) (hs : a.eval s = v) (hx : a.eval x = .slice (some ⟨w0.heap.size, 0, none⟩) 1 1)
    (hown : OwnB w0 base v l) (hlen : l.length ≤ 140737488355300) (hbase : base ≤ w0.heap.size)
    (h : ∀ v' w', OwnB w' base v' (l ++ [b]) → Onto w0 v w' v' → wpList Try.prog ops Q rest (a.put o.dst v') w') :
    wpList Try.prog ops Q (o :: rest) a (w0.alloc (.cells #[u] 5)) := by
  subst hu
  obtain ⟨i0, hi, hz0, hz1, hz2⟩ := info_parts infoByte
  refine wpList_push hgd s x 28 ho base 5 i0 (.int .u8 0) 1 Try.underlying28 hi hz0 hz1 hz2 rfl v l.length (l.map bv) (bv b) hs hx rfl hown (by omega) (by unfold maxLen; omega) hbase ?_
  intro v' w' h1 h2
  exact h v' w' (by unfold OwnB; simpa using h1) h2

/-- What appending to v leaves: v' reads as l. -/
def AppEnd (base : Nat) (v : Value) (l : List UInt8) (w : World) (e : Ending) (w' : World) : Prop :=
  ∃ v', e = .returned v' ∧ OwnB w' base v' l ∧ Onto w v w' v'

set_option maxRecDepth 100000 in
set_option maxHeartbeats 1000000 in
theorem appendInt_any (base : Nat) (v : Value) (xs : List UInt8) (n : Int) (w : World) (hown : OwnB w base v xs) (hb : base ≤ w.heap.size) (hn : Wm.Fits n) (hlen : xs.length ≤ 140737488355000) :
    Calls Try.prog 38 #[v, .int .i64 n] w (AppEnd base v (xs ++ Wm.enc n) w) := by
  have hz := Wm.zig_lt hn
  have F := Lib.hid (fold_any n hn w)
  go_enter Try.func38, Try.ntmps38
  go_wp2_with fail
  refine F.out.mono ?_
  rintro e w' ⟨rfl, rfl⟩
  go_wp2_with fail
  go_loopw [0, 5] (fun b z wr => ∃ (ys : List UInt8) (zz : Nat), z = .int .u64 zz ∧ ys.length ≤ 9 ∧ zz < 128 ^ (10 - ys.length) ∧ zz < 18446744073709551616 ∧ ys ++ Wm.digs (10 - ys.length) zz = Wm.enc n ∧
      OwnB wr base b (xs ++ ys) ∧ Onto w v wr b) (fun _ z _ => (intOf z).toNat)
  case atStart => exact ⟨[], _, rfl, by simp, by simp; omega, hz, rfl, by simpa using hown, Onto.refl _ _⟩
  case round =>
    obtain ⟨ys, zz, rfl, hy, hzz, hz64, he0, ho, hon⟩ := hrel
    have he := Lib.hid he0
    clear he0
    have hlen2 : (xs ++ ys).length ≤ 140737488355009 := by simp; omega
    have hbw : base ≤ wr.heap.size := Nat.le_trans hb hon.1.size
    by_cases hlt : 128 ≤ zz
    · have E : Hid (Value.int IntKind.u8 (bits BinOp.or IntKind.u8 128 ((zz : Int) % 128)) = bv (UInt8.ofNat (128 + zz % 128))) := by
        show _ = _
        rw [bv_ofNat (by omega)]
        have := u8_or_nat 128 (zz % 128) (by omega) (by omega)
        rw [show ((zz : Int) % 128) = ((zz % 128 : Nat) : Int) from by omega]
        refine congrArg _ (this.trans ?_)
        rw [nat_join 7 128 (zz % 128) (by decide) (by omega)]
      have E2 : Hid ((zz : Int) / 128 = ((zz / 128 : Nat) : Int)) := by show _ = _; omega
      go_wp2_with (at_builtin; go_must (refine push_byte rfl _ _ rfl base u0 (xs ++ ys) _ _ E.out rfl rfl ho (by omega) hbw ?_); intro v' w1 ho1 hon1)
      go_roundw
      case rel =>
        have hd : Wm.digs (10 - ys.length) zz = UInt8.ofNat (128 + zz % 128) :: Wm.digs (10 - (ys ++ [UInt8.ofNat (128 + zz % 128)]).length) (zz / 128) := by
          rw [show 10 - ys.length = (10 - (ys ++ [UInt8.ofNat (128 + zz % 128)]).length) + 1 from by simp; omega, Wm.digs, if_neg (by omega)]
        have hy9 : ys.length ≠ 9 := by
          intro h9
          rw [h9] at hzz
          omega
        refine ⟨ys ++ [UInt8.ofNat (128 + zz % 128)], zz / 128, by rw [E2.out], by simp; omega, ?_, by omega, ?_, by rw [← List.append_assoc]; exact ho1, hon.trans hon1⟩
        · rw [show 10 - ys.length = (10 - (ys ++ [UInt8.ofNat (128 + zz % 128)]).length) + 1 from by simp; omega, Nat.pow_succ] at hzz
          omega
        · rw [← he.out, hd]; simp
      case measure => simp [intOf]; omega
    · have E : Hid (Value.int IntKind.u8 (zz : Int) = bv (UInt8.ofNat zz)) := by
        show _ = _
        rw [bv_ofNat (by omega)]
      have hd : Hid (Wm.digs (10 - ys.length) zz = [UInt8.ofNat zz]) := by
        show _ = _
        rw [show 10 - ys.length = (9 - ys.length) + 1 from by omega, Wm.digs, if_pos (by omega)]
      go_wp2_with (at_builtin; go_must (refine push_byte rfl _ _ rfl base u0 (xs ++ ys) _ _ E.out rfl rfl ho (by omega) hbw ?_); intro v' w1 ho1 hon1)
      go_ret
      refine ⟨_, rfl, ?_, hon.trans hon1⟩
      rw [← he.out, hd.out, ← List.append_assoc]
      exact ho1

/-- What Int returns: a row of its own. -/
def NewEnd (l : List UInt8) (w : World) (e : Ending) (w' : World) : Prop :=
  ∃ v', e = .returned v' ∧ OwnB w' w.heap.size v' l ∧ Below w.heap.size w w'
theorem AppEnd.new {l : List UInt8} {w : World} {e : Ending} {w' : World} (h : AppEnd w.heap.size (.slice none 0 0) l w e w') : NewEnd l w e w' := by
  obtain ⟨v', h1, h2, h3⟩ := h
  exact ⟨v', h1, h2, h3.below (ownB_nil w _) (Nat.le_refl _)⟩

theorem int_any (n : Int) (w : World) (hn : Wm.Fits n) : Calls Try.prog 14 #[.int .i64 n] w (NewEnd (Wm.enc n) w) := by
  have H := Lib.hid (appendInt_any w.heap.size (.slice none 0 0) [] n w (ownB_nil w _) (Nat.le_refl _) hn (by simp))
  go_enter Try.func14, Try.ntmps14
  go_wp2_with fail
  refine H.out.mono ?_
  rintro e w' ⟨v', rfl, h2, h3⟩
  go_wp2
  go_ret
  exact AppEnd.new ⟨_, rfl, h2, h3⟩
end Go.Proofs.Ythnbiegpfjnadaa
