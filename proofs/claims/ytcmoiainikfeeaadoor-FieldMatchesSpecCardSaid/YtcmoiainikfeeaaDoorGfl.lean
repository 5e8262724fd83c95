/-
  The law that bytes are a field: its walk.
-/
import Derived.Test.YtcmoiainikfeeaaDoorGfs
namespace Go.Proofs.YtcmoiainikfeeaaDoor
set_option linter.unusedVariables false
set_option linter.unusedSimpArgs false
open Go.RowKit

theorem mul_to (x y z : UInt8) (h : Gf.mul x y = z) : Hid (∀ W, PTab 0 W → Calls Tryd.prog 11 #[.int .u8 x.toNat, .int .u8 y.toNat] W fun e w' => e = .returned (.int .u8 z.toNat) ∧ ∃ n, w' = W.drewN n) := fun W hT => by
  have := mul_any x y W hT
  rw [h] at this
  exact this
theorem sanity_to (w : World) (n : Nat) (hT : PTab 0 w) : Calls Tryd.prog 10 #[] (w.drewN n) fun e w' => e = .returned (.bool true) ∧ Below w.heap.size w w' :=
  (sanity_any (w.drewN n) hT).mono fun e w' h => ⟨h.1, ⟨h.2.os, h.2.tape, h.2.output, h.2.size, h.2.block⟩⟩
theorem int_ne {x y : UInt8} (h : x ≠ y) : ((x.toNat : Int) == (y.toNat : Int)) = false := by
  simp only [beq_eq_false_iff_ne, ne_eq]
  intro e
  exact h (UInt8.toNat_inj.1 (by omega))
theorem zero_int {x : UInt8} (h : x = 0) : (x.toNat : Int) = 0 := by rw [h]; rfl

set_option maxRecDepth 100000 in
set_option maxHeartbeats 4000000 in
theorem walk_field (a b c : UInt8) (w : World) (ht : PTab 0 w) : Calls Tryd.prog 4 #[bv a, bv b, bv c] w (OkEnd true w) := by
  have hT := Lib.hid ht
  have hT2 : Hid (∀ n, PTab 0 (w.drewN n)) := fun n => ht
  obtain ⟨z1, h1⟩ : ∃ z, Gf.mul a b = z := ⟨_, rfl⟩
  obtain ⟨z2, h2⟩ : ∃ z, Gf.mul z1 c = z := ⟨_, rfl⟩
  obtain ⟨z3, h3⟩ : ∃ z, Gf.mul b c = z := ⟨_, rfl⟩
  obtain ⟨z5, h5⟩ : ∃ z, Gf.mul a c = z := ⟨_, rfl⟩
  obtain ⟨u, hu⟩ : ∃ u, b ^^^ c = u := ⟨_, rfl⟩
  obtain ⟨z4, h4⟩ : ∃ z, Gf.mul a u = z := ⟨_, rfl⟩
  have hx1 : bits .xor .u8 (b.toNat : Int) (c.toNat : Int) = (u.toNat : Int) := by rw [u8_xor_bv, hu]
  have hx2 : bits .xor .u8 (z1.toNat : Int) (z5.toNat : Int) = (z4.toNat : Int) := by rw [u8_xor_bv, ← h1, ← h5, ← Gf.mul_xor, hu, h4]
  have M1 := mul_to a b z1 h1
  have M1' := mul_to b a z1 (by rw [Gf.mul_comm, h1])
  have M2 := mul_to z1 c z2 h2
  have M3 := mul_to b c z3 h3
  have M2' := mul_to a z3 z2 (by rw [← h3, ← Gf.mul_assoc, h1, h2])
  have M4 := mul_to a u z4 h4
  have M5 := mul_to a c z5 h5
  have M6 : Hid (∀ W, PTab 0 W → Calls Tryd.prog 11 #[.int .u8 a.toNat, .int .u8 1] W fun e w' => e = .returned (.int .u8 a.toNat) ∧ ∃ n, w' = W.drewN n) := fun W h => (mul_to a 1 a (Gf.mul_one a)).out W h
  have HS : Hid (∀ n, Calls Tryd.prog 10 #[] (w.drewN n) fun e w' => e = .returned (.bool true) ∧ Below w.heap.size w w') := fun n => sanity_to w n ht
  have hz1 : z1 = 0 ↔ a = 0 ∨ b = 0 := by rw [← h1]; exact Gf.mul_eq_zero a b
  have fin : ∀ W, Below w.heap.size w W → ∀ n, Below w.heap.size w (W.drewN n) := fun W h n => below_drewN h n
  have hTB : Hid (∀ W, Below w.heap.size w W → PTab 0 W) := fun W h => ht.on h
  clear h1 h2 h3 h4 h5 hu
  have hA0 : a = 0 ↔ (a.toNat : Int) = 0 := by
    constructor
    · exact zero_int
    · intro h; exact UInt8.toNat_inj.1 (by simp; omega)
  have hB0 : b = 0 ↔ (b.toNat : Int) = 0 := by
    constructor
    · exact zero_int
    · intro h; exact UInt8.toNat_inj.1 (by simp; omega)
  have hZ0 : z1 = 0 ↔ (z1.toNat : Int) = 0 := by
    constructor
    · exact zero_int
    · intro h; exact UInt8.toNat_inj.1 (by simp; omega)
  rw [hA0, hB0, hZ0] at hz1
  have HI : Hid ((a = 0 → Calls Tryd.prog 8 #[.int .u8 (a.toNat : Int)] w fun e w' => e = .returned (.tuple #[.int .u8 0, .int .i64 1]) ∧ w = w') ∧ (¬ a = 0 → ∃ x : UInt8, (Calls Tryd.prog 8 #[.int .u8 (a.toNat : Int)] w fun e w' => e = .returned (.tuple #[.int .u8 (x.toNat : Int), .int .i64 0]) ∧ w = w') ∧ ∀ W, PTab 0 W → Calls Tryd.prog 11 #[.int .u8 a.toNat, .int .u8 x.toNat] W fun e w' => e = .returned (.int .u8 1) ∧ ∃ n, w' = W.drewN n)) := by
    refine ⟨fun h => ?_, fun h => ⟨Gf.inv a, inv_any a w h ht, (mul_to a (Gf.inv a) 1 (Gf.mul_inv h)).out⟩⟩
    subst h
    exact inv_zero w
  rw [hA0] at HI
  have ha256 := UInt8.toNat_lt a
  unfold bv
  clear hA0 hB0 hZ0
  generalize (a.toNat : Int) = A at *
  generalize (b.toNat : Int) = B at *
  generalize (z1.toNat : Int) = Z1 at *
  generalize (z2.toNat : Int) = Z2 at *
  generalize (z3.toNat : Int) = Z3 at *
  generalize (z4.toNat : Int) = Z4 at *
  generalize (z5.toNat : Int) = Z5 at *
  generalize (u.toNat : Int) = U at *
  clear ha256
  by_cases ha : A = 0
  · have hz : Z1 = 0 := hz1.2 (.inl ha)
    have I := Lib.hid (HI.out.1 ha)
    subst ha
    subst hz
    clear hz1 ht HI
    go_enter Tryd.func4, Tryd.ntmps4
    go_wp2_with fail
    refine I.out.mono ?_
    rintro e w' ⟨rfl, rfl⟩
    go_wp2_with fail
    refine (M1.out _ ?_).mono ?_
    · exact hT.out
    rintro e w' ⟨rfl, n1, rfl⟩
    go_wp2_with fail
    refine (M1.out _ ?_).mono ?_
    · exact hT.out
    rintro e w' ⟨rfl, n2, rfl⟩
    go_wp2_with fail
    refine (M1'.out _ ?_).mono ?_
    · exact hT.out
    rintro e w' ⟨rfl, n3, rfl⟩
    go_wp2_with fail
    refine (M1.out _ ?_).mono ?_
    · exact hT.out
    rintro e w' ⟨rfl, n4, rfl⟩
    go_wp2_with fail
    refine (M2.out _ ?_).mono ?_
    · exact hT.out
    rintro e w' ⟨rfl, n5, rfl⟩
    go_wp2_with fail
    refine (M3.out _ ?_).mono ?_
    · exact hT.out
    rintro e w' ⟨rfl, n6, rfl⟩
    go_wp2_with fail
    refine (M2'.out _ ?_).mono ?_
    · exact hT.out
    rintro e w' ⟨rfl, n7, rfl⟩
    go_wp2_with fail
    refine (M4.out _ ?_).mono ?_
    · exact hT.out
    rintro e w' ⟨rfl, n8, rfl⟩
    go_wp2_with fail
    refine (M1.out _ ?_).mono ?_
    · exact hT.out
    rintro e w' ⟨rfl, n9, rfl⟩
    go_wp2_with fail
    refine (M5.out _ ?_).mono ?_
    · exact hT.out
    rintro e w' ⟨rfl, n10, rfl⟩
    go_wp2_with fail
    refine (HS.out _).mono ?_
    rintro e w' ⟨rfl, hb⟩
    go_wp2_with fail
    refine (M6.out _ (hTB.out _ hb)).mono ?_
    rintro e w'' ⟨rfl, m, rfl⟩
    have hB := fin _ hb m
    go_wp2_with fail
    go_ret
    exact ⟨rfl, hB⟩
  · obtain ⟨x, I0, MI0⟩ := HI.out.2 (fun h => ha h)
    have I := Lib.hid I0
    have MI := Lib.hid MI0
    have ta : (A == 0) = false := by simpa using ha
    have tn : (A != 0) = true := by simpa using ha
    clear I0 MI0 HI ht
    by_cases hb0 : B = 0
    · have hz : Z1 = 0 := hz1.2 (.inr hb0)
      subst hb0
      subst hz
      clear hz1
      go_enter Tryd.func4, Tryd.ntmps4
      go_wp2_with fail
      refine I.out.mono ?_
      rintro e w' ⟨rfl, rfl⟩
      go_wp2_with fail
      refine (MI.out _ ?_).mono ?_
      · exact hT.out
      rintro e w' ⟨rfl, n1, rfl⟩
      go_wp2_with fail
      refine (M1.out _ ?_).mono ?_
      · exact hT.out
      rintro e w' ⟨rfl, n2, rfl⟩
      go_wp2_with fail
      refine (M1.out _ ?_).mono ?_
      · exact hT.out
      rintro e w' ⟨rfl, n3, rfl⟩
      go_wp2_with fail
      refine (M1'.out _ ?_).mono ?_
      · exact hT.out
      rintro e w' ⟨rfl, n4, rfl⟩
      go_wp2_with fail
      refine (M1.out _ ?_).mono ?_
      · exact hT.out
      rintro e w' ⟨rfl, n5, rfl⟩
      go_wp2_with fail
      refine (M2.out _ ?_).mono ?_
      · exact hT.out
      rintro e w' ⟨rfl, n6, rfl⟩
      go_wp2_with fail
      refine (M3.out _ ?_).mono ?_
      · exact hT.out
      rintro e w' ⟨rfl, n7, rfl⟩
      go_wp2_with fail
      refine (M2'.out _ ?_).mono ?_
      · exact hT.out
      rintro e w' ⟨rfl, n8, rfl⟩
      go_wp2_with fail
      refine (M4.out _ ?_).mono ?_
      · exact hT.out
      rintro e w' ⟨rfl, n9, rfl⟩
      go_wp2_with fail
      refine (M1.out _ ?_).mono ?_
      · exact hT.out
      rintro e w' ⟨rfl, n10, rfl⟩
      go_wp2_with fail
      refine (M5.out _ ?_).mono ?_
      · exact hT.out
      rintro e w' ⟨rfl, n11, rfl⟩
      go_wp2_with fail
      refine (HS.out _).mono ?_
      rintro e w' ⟨rfl, hb⟩
      go_wp2_with fail
      refine (M6.out _ (hTB.out _ hb)).mono ?_
      rintro e w'' ⟨rfl, m, rfl⟩
      have hB := fin _ hb m
      go_wp2_with fail
      go_ret
      exact ⟨rfl, hB⟩
    · have tz : (Z1 == 0) = false := by
        simp only [beq_eq_false_iff_ne, ne_eq]
        intro h
        rcases hz1.1 h with h | h
        · exact ha h
        · exact hb0 h
      have tb : (B == 0) = false := by simpa using hb0
      clear hz1
      go_enter Tryd.func4, Tryd.ntmps4
      go_wp2_with fail
      refine I.out.mono ?_
      rintro e w' ⟨rfl, rfl⟩
      go_wp2_with fail
      refine (MI.out _ ?_).mono ?_
      · exact hT.out
      rintro e w' ⟨rfl, n1, rfl⟩
      go_wp2_with fail
      refine (M1.out _ ?_).mono ?_
      · exact hT.out
      rintro e w' ⟨rfl, n2, rfl⟩
      go_wp2_with fail
      refine (M1.out _ ?_).mono ?_
      · exact hT.out
      rintro e w' ⟨rfl, n3, rfl⟩
      go_wp2_with fail
      refine (M1'.out _ ?_).mono ?_
      · exact hT.out
      rintro e w' ⟨rfl, n4, rfl⟩
      go_wp2_with fail
      refine (M1.out _ ?_).mono ?_
      · exact hT.out
      rintro e w' ⟨rfl, n5, rfl⟩
      go_wp2_with fail
      refine (M2.out _ ?_).mono ?_
      · exact hT.out
      rintro e w' ⟨rfl, n6, rfl⟩
      go_wp2_with fail
      refine (M3.out _ ?_).mono ?_
      · exact hT.out
      rintro e w' ⟨rfl, n7, rfl⟩
      go_wp2_with fail
      refine (M2'.out _ ?_).mono ?_
      · exact hT.out
      rintro e w' ⟨rfl, n8, rfl⟩
      go_wp2_with fail
      refine (M4.out _ ?_).mono ?_
      · exact hT.out
      rintro e w' ⟨rfl, n9, rfl⟩
      go_wp2_with fail
      refine (M1.out _ ?_).mono ?_
      · exact hT.out
      rintro e w' ⟨rfl, n10, rfl⟩
      go_wp2_with fail
      refine (M5.out _ ?_).mono ?_
      · exact hT.out
      rintro e w' ⟨rfl, n11, rfl⟩
      go_wp2_with fail
      refine (HS.out _).mono ?_
      rintro e w' ⟨rfl, hb⟩
      go_wp2_with fail
      refine (M6.out _ (hTB.out _ hb)).mono ?_
      rintro e w'' ⟨rfl, m, rfl⟩
      have hB := fin _ hb m
      go_wp2_with fail
      go_ret
      exact ⟨rfl, hB⟩

theorem walk_field_n (a b c : Nat) (w : World) (ha : a < 256) (hb : b < 256) (hc : c < 256) (ht : PTab 0 w) : Calls Tryd.prog 4 #[.int .u8 a, .int .u8 b, .int .u8 c] w (OkEnd true w) := by
  have h := walk_field (UInt8.ofNat a) (UInt8.ofNat b) (UInt8.ofNat c) w ht
  rw [bv_ofNat ha, bv_ofNat hb, bv_ofNat hc] at h
  exact h
end Go.Proofs.YtcmoiainikfeeaaDoor
