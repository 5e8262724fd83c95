/-
  Contracts of stage 4: the reference's Mul, Inv, Exp, Log, Pow.
-/
import Derived.Test.YtgajlgnniidgmaaDoorGfa
namespace Go.Proofs.YtgajlgnniidgmaaDoor
set_option linter.unusedVariables false
set_option linter.unusedSimpArgs false
open Go.RowKit

theorem i64_xor_nat (a b : Nat) (ha : a < 1024) (hb : b < 1024) : bits .xor .i64 (a : Int) (b : Int) = ((a ^^^ b : Nat) : Int) := by
  have hx : a ^^^ b < 2 ^ 10 := Nat.xor_lt_two_pow (by omega) (by omega)
  show IntKind.i64.wrap ((BitVec.ofInt 64 (a : Int) ^^^ BitVec.ofInt 64 (b : Int)).toNat : Int) = _
  have e : ∀ n : Nat, n < 1024 → (BitVec.ofInt 64 (n : Int)).toNat = n := fun n hn => by
    rw [BitVec.ofInt_natCast, BitVec.toNat_ofNat]; exact Nat.mod_eq_of_lt (by omega)
  rw [BitVec.toNat_xor, e a ha, e b hb, i64w (by omega)]
theorem xt_step (X : UInt8) : (255 < 2 * X.toNat → bits .xor .i64 (2 * (X.toNat : Int)) 285 = ((Gf.xt X).toNat : Int)) ∧ (¬ 255 < 2 * X.toNat → 2 * (X.toNat : Int) = ((Gf.xt X).toNat : Int)) := by
  have hX := UInt8.toNat_lt X
  have h := Gf.xt_toNat X
  constructor
  · intro hb
    rw [if_pos hb] at h
    rw [h]
    exact i64_xor_nat (2 * X.toNat) 285 (by omega) (by omega)
  · intro hb
    rw [if_neg hb] at h
    rw [h]
    omega

set_option maxRecDepth 100000 in
set_option maxHeartbeats 1000000 in
theorem refMul_any (a b : UInt8) (w : World) : Calls Tryd.prog 86 #[bv a, bv b] w fun e w' => e = .returned (bv (Gf.mul a b)) ∧ w = w' := by
  have ha := UInt8.toNat_lt a
  have hb := UInt8.toNat_lt b
  have e1 : wrap64 (a.toNat : Int) = a.toNat := w64 (by omega)
  have e2 : wrap64 (b.toNat : Int) = b.toNat := w64 (by omega)
  unfold bv
  go_enter Tryd.func86, Tryd.ntmps86
  go_wp2_with fail
  clear ha hb
  go_loopw [5, 6, 7] (fun x y s wr => ∃ X Y S : UInt8, x = .int .i64 X.toNat ∧ y = .int .i64 Y.toNat ∧ s = .int .i64 S.toNat ∧ S ^^^ Gf.mul X Y = Gf.mul a b ∧ w = wr) (fun _ y _ _ => (intOf y).toNat)
  case atStart => exact ⟨a, b, 0, rfl, rfl, rfl, by simp, rfl⟩
  case round =>
    obtain ⟨X, Y, S, rfl, rfl, rfl, he0, rfl⟩ := hrel
    have hX := UInt8.toNat_lt X
    have hY := UInt8.toNat_lt Y
    have hS := UInt8.toNat_lt S
    by_cases hpos : 0 < Y.toNat
    · have hst := Gf.mul_step X Y
      have hh := Gf.half_toNat Y
      have hx := xt_step X
      have ho := Gf.odd_iff Y
      have t0 : 0 < (Y.toNat : Int) := by omega
      generalize Gf.xt X = T at hst hx
      generalize hZ : Y >>> (1 : UInt8) = Z at hst hh
      have hhi : (Y.toNat : Int) / 2 = (Z.toNat : Int) := by omega
      have hlt : Z.toNat < Y.toNat := by omega
      clear hh hZ
      by_cases hodd : Y.toNat % 2 = 1
      · have hn : ¬ (Y &&& (1 : UInt8) = 0) := by rw [ho]; omega
        rw [if_neg hn] at hst
        have t1 : Int.tmod (Y.toNat : Int) 2 = 1 := by rw [Int.tmod_eq_emod_of_nonneg (by omega)]; omega
        have ex : bits .xor .i64 (S.toNat : Int) (X.toNat : Int) = ((S ^^^ X).toNat : Int) := by rw [i64_xor_nat _ _ (by omega) (by omega), UInt8.toNat_xor]
        have hnext : Hid ((S ^^^ X) ^^^ Gf.mul T Z = Gf.mul a b) := by
          show _ = _
          rw [← he0, hst, UInt8.xor_assoc]
        generalize S ^^^ X = U at ex hnext
        clear hn hst he0
        by_cases hbig : 255 < 2 * X.toNat
        · have t2 : (255 : Int) < 2 * (X.toNat : Int) := by omega
          have e5 := hx.1 hbig
          clear hbig hx hodd ho hpos
          go_wp2_with fail
          go_roundw
          case rel => exact ⟨T, Z, U, by go_num, by go_num, by go_num, hnext.out, trivial⟩
          case measure => simp [intOf]; omega
        · have t2 : ¬ (255 : Int) < 2 * (X.toNat : Int) := by omega
          have e5 := hx.2 hbig
          clear hbig hx hodd ho hpos
          go_wp2_with fail
          go_roundw
          case rel => exact ⟨T, Z, U, by go_num, by go_num, by go_num, hnext.out, trivial⟩
          case measure => simp [intOf]; omega
      · have hn : (Y &&& (1 : UInt8) = 0) := by rw [ho]; omega
        rw [if_pos hn] at hst
        have t1 : (Y.toNat : Int) % 2 = 0 := by omega
        have hnext : Hid (S ^^^ Gf.mul T Z = Gf.mul a b) := by
          show _ = _
          rw [← he0, hst]
          simp
        clear hn hst he0
        by_cases hbig : 255 < 2 * X.toNat
        · have t2 : (255 : Int) < 2 * (X.toNat : Int) := by omega
          have e5 := hx.1 hbig
          clear hbig hx hodd ho hpos
          go_wp2_with fail
          go_roundw
          case rel => exact ⟨T, Z, S, by go_num, by go_num, by go_num, hnext.out, trivial⟩
          case measure => simp [intOf]; omega
        · have t2 : ¬ (255 : Int) < 2 * (X.toNat : Int) := by omega
          have e5 := hx.2 hbig
          clear hbig hx hodd ho hpos
          go_wp2_with fail
          go_roundw
          case rel => exact ⟨T, Z, S, by go_num, by go_num, by go_num, hnext.out, trivial⟩
          case measure => simp [intOf]; omega
    · have hz : Y = 0 := UInt8.toNat_inj.1 (by simp; omega)
      have hres : Hid (bv S = bv (Gf.mul a b)) := by
        show _ = _
        rw [← he0, hz, Gf.mul_zero]
        simp
      have t0 : ¬ 0 < (Y.toNat : Int) := by omega
      have hs : (S.toNat : Int) % 256 = S.toNat := by omega
      unfold bv at hres
      clear hpos hz he0
      go_wp2_with fail
      go_ret
      exact ⟨by rw [← hres.out]; rfl, rfl⟩

set_option maxRecDepth 100000 in
set_option maxHeartbeats 1000000 in
theorem refInv_any (a : UInt8) (w : World) (ha : a ≠ 0) : Calls Tryd.prog 87 #[bv a] w fun e w' => e = .returned (bv (Gf.inv a)) ∧ w = w' := by
  have H := Lib.hid (fun b => refMul_any a b w)
  have hm := Lib.hid (Gf.mul_inv ha)
  unfold bv at H ⊢
  go_enter Tryd.func87, Tryd.ntmps87
  go_wp2_with fail
  go_loopw [3] (fun i wr => ∃ k : Nat, 1 ≤ k ∧ k ≤ 256 ∧ i = .int .i64 k ∧ (∀ j : UInt8, j.toNat < k → Gf.mul a j ≠ 1) ∧ w = wr) (fun i _ => 256 - (intOf i).toNat)
  case atStart =>
    refine ⟨1, by omega, by omega, rfl, fun j hj => ?_, rfl⟩
    have : j = 0 := UInt8.toNat_inj.1 (by simp; omega)
    rw [this, Gf.mul_zero]
    decide
  case round =>
    obtain ⟨k, hk1, hk, rfl, hno0, rfl⟩ := hrel
    have hno := Lib.hid hno0
    clear hno0
    by_cases hlt : k < 256
    · obtain ⟨b, rfl⟩ : ∃ b : UInt8, k = b.toNat := ⟨UInt8.ofNat k, by rw [UInt8.toNat_ofNat']; omega⟩
      have e1 : (b.toNat : Int) % 256 = (b.toNat : Int) := by omega
      have t : (b.toNat : Int) < 256 := by omega
      have H1 := Lib.hid (H.out b)
      by_cases h1 : Gf.mul a b = 1
      · have hr := Lib.hid (Gf.inv_unique h1)
        rw [h1] at H1
        clear h1 hno
        go_wp2_with fail
        refine H1.out.mono ?_
        rintro e w' ⟨rfl, rfl⟩
        go_wp2_with fail
        go_ret
        exact ⟨by rw [← hr.out]; rfl, rfl⟩
      · have t1 : (((Gf.mul a b).toNat : Int) == 1) = false := by
          simp only [beq_eq_false_iff_ne, ne_eq]
          intro h
          exact h1 (UInt8.toNat_inj.1 (show (Gf.mul a b).toNat = 1 by omega))
        have hn : Hid (∀ j : UInt8, j.toNat < b.toNat + 1 → Gf.mul a j ≠ 1) := fun j hj => by
          rcases Nat.lt_or_ge j.toNat b.toNat with h | h
          · exact hno.out j h
          · have : j = b := UInt8.toNat_inj.1 (by omega)
            rw [this]
            exact h1
        clear h1 hno
        generalize Gf.mul a b = z at H1 t1
        go_wp2_with fail
        refine H1.out.mono ?_
        rintro e w' ⟨rfl, rfl⟩
        go_wp2_with fail
        go_roundw
        case rel => exact ⟨b.toNat + 1, by omega, by omega, by go_num, hn.out, trivial⟩
        case measure => simp [intOf]; omega
    · exact absurd hm.out (hno.out _ (by have := UInt8.toNat_lt (Gf.inv a); omega))

set_option maxRecDepth 100000 in
set_option maxHeartbeats 1000000 in
theorem exponent_any (n : Int) (w : World) : Calls Tryd.prog 85 #[.int .i64 n] w fun e w' => e = .returned (.int .i64 (n % 255)) ∧ w = w' := by
  have hm := tmod_cases n
  have e1 : wrap64 (n.tmod 255 + 255) = n.tmod 255 + 255 := w64 (by omega)
  have e2 : Int.tmod (n.tmod 255 + 255) 255 = n % 255 := by
    rw [Int.tmod_eq_emod_of_nonneg (by omega)]
    omega
  have hE := Lib.hid (And.intro e1 e2)
  clear hm e1 e2
  go_enter Tryd.func85, Tryd.ntmps85
  go_wp2_with fail
  simp only [hE.out.1, hE.out.2]
  go_ret
  exact ⟨rfl, rfl⟩

set_option maxRecDepth 100000 in
set_option maxHeartbeats 1000000 in
theorem refExp_any (n : Int) (w : World) : Calls Tryd.prog 77 #[.int .i64 n] w fun e w' => e = .returned (bv (Gf.exi n)) ∧ w = w' := by
  obtain ⟨m, hm, hmn, he⟩ := Gf.exi_nat n
  rw [he]
  have HE := Lib.hid (exponent_any n w)
  have HM := Lib.hid (fun b => refMul_any b 2 w)
  rw [← hmn] at HE
  clear hmn he
  unfold bv at HM ⊢
  go_enter Tryd.func77, Tryd.ntmps77
  go_wp2_with fail
  go_loopw [3, 4] (fun x i wr => ∃ k : Nat, k ≤ m ∧ i = .int .i64 k ∧ x = .int .u8 (Gf.ex k).toNat ∧ w = wr) (fun _ i _ => m - (intOf i).toNat)
  case atStart => exact ⟨0, by omega, rfl, rfl, rfl⟩
  case round =>
    obtain ⟨k, hk, rfl, rfl, rfl⟩ := hrel
    by_cases hlt : k < m
    · have t : (k : Int) < (m : Int) := by omega
      have hn : Hid (Gf.mul (Gf.ex k) 2 = Gf.ex (k + 1)) := by show _ = _; rw [Gf.mul_comm, Gf.two_mul]; rfl
      have H1 := Lib.hid (HM.out (Gf.ex k))
      rw [hn.out] at H1
      generalize hE1 : Gf.ex (k + 1) = E1 at H1
      have hE1' := Lib.hid hE1
      clear hE1 hn
      go_wp2_with fail
      refine HE.out.mono ?_
      rintro e w' ⟨rfl, rfl⟩
      go_wp2_with fail
      refine H1.out.mono ?_
      rintro e w' ⟨rfl, rfl⟩
      go_wp2_with fail
      go_roundw
      case rel => exact ⟨k + 1, by omega, by go_num, by rw [hE1'.out], trivial⟩
      case measure => simp [intOf]; omega
    · have t : ¬ (k : Int) < (m : Int) := by omega
      have hkm : k = m := by omega
      go_wp2_with fail
      refine HE.out.mono ?_
      rintro e w' ⟨rfl, rfl⟩
      go_wp2_with fail
      go_ret
      exact ⟨by first | rfl | (rw [hkm]; rfl), rfl⟩

end Go.Proofs.YtgajlgnniidgmaaDoor
