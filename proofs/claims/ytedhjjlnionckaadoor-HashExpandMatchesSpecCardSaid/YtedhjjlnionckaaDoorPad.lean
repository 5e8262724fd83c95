/-
  Contracts of stage 2: the reference's padding.
-/
import Derived.Test.YtedhjjlnionckaaDoorRun
namespace Go.Proofs.YtedhjjlnionckaaDoor
set_option linter.unusedVariables false
open Go.RowKit

theorem Sha.pad_steps (b : List UInt8) : Sha.pad b = (b ++ [128] ++ List.replicate (Sha.zeros b.length) 0) ++ Sha.be64 (8 * b.length) := by
  unfold Sha.pad
  simp

def sliceLen : Value → Nat
  | .slice _ n _ => n
  | _ => 0

set_option maxRecDepth 100000 in
set_option maxHeartbeats 2000000 in
theorem padded_any (l : List UInt8) (A : Option Addr) (c : Nat) (w : World) (hr : Rds w w.heap.size A (l.map bv)) (hcap : A = none → c = 0) (hl : l.length ≤ 1000000000) :
    Calls Tryd.prog 58 #[.slice A l.length c] w (NewEnd (Sha.pad l) w) := by
  rw [Sha.pad_steps]
  obtain ⟨z, hz⟩ : ∃ z, z = Sha.zeros l.length := ⟨_, rfl⟩
  have hz64 : z < 64 := by rw [hz]; unfold Sha.zeros; omega
  have hzfit : Hid ((l.length + 1 + z) % 64 = 56) := by show _ = _; rw [hz]; exact Sha.zeros_fit _
  have hzmin : Hid (∀ j, j < z → (l.length + 1 + j) % 64 ≠ 56) := fun j h => Sha.zeros_least _ j (by omega)
  rw [← hz]
  obtain ⟨Y, hY⟩ : ∃ Y, Y = Sha.be64 (8 * l.length) := ⟨_, rfl⟩
  have hY8 : Hid (Y.length = 8) := by show _ = _; rw [hY]; rfl
  have hat : Hid (∀ i, i < 8 → Y[i]? = some (UInt8.ofNat (((8 * l.length) >>> (56 - 8 * i)) % 256))) := by
    intro i hi
    rw [hY]
    unfold Sha.be64
    rw [List.getElem?_map, List.getElem?_range hi]
    rfl
  rw [← hY]
  have hR := Lib.hid hr
  clear hY hz hr
  have b128 : Hid (Value.int IntKind.u8 128 = bv 128) := rfl
  have b0 : Hid (Value.int IntKind.u8 0 = bv 0) := rfl
  have hn : Hid ((l ++ [128]).length = l.length + 1) := by show _ = _; simp
  have hown0 : Hid (OwnB (w.alloc (.cells #[] 5)) w.heap.size (.slice (some ⟨w.heap.size, 0, none⟩) 0 0) []) :=
    ⟨by simp, .inr ⟨w.heap.size, 0, #[], rfl, Nat.le_refl _, heap_alloc_new w _, Nat.le_refl 0, by unfold maxLen; omega, rfl, rfl⟩⟩
  obtain ⟨N, hN0⟩ : ∃ N, N = 8 * l.length := ⟨_, rfl⟩
  have hN := Lib.hid hN0
  have el : IntKind.u64.wrap (l.length : Int) = l.length := by rw [IntKind.wrap_u64]; omega
  have eN : IntKind.u64.wrap (8 * (l.length : Int)) = (N : Int) := by rw [IntKind.wrap_u64]; omega
  rw [← hN0] at hat
  clear hN0
  obtain ⟨m, hm0⟩ : ∃ m, m = l.length := ⟨_, rfl⟩
  have hm := Lib.hid hm0
  rw [← hm0] at el eN ⊢
  clear hm0
  have hA0 : Hid (Below w.heap.size w (w.alloc (.cells #[] 5))) := (Below.refl _ _).alloc (Nat.le_refl _) _
  go_enter Tryd.func58, Tryd.ntmps58
  go_wp2_with (at_builtin; first | (refine push_bytes rfl _ _ rfl w.heap.size (.slice (some ⟨w.heap.size, 0, none⟩) 0 0) [] l w.heap.size A m c hm.out hcap rfl rfl (hR.out.below hA0.out) hown0.out (by simp only [List.length_nil]; omega) (by simp) ?_; intro v1 w1 ho1 hb1; have hB1 : Below w.heap.size w w1 := hA0.out.trans hb1) | (refine push_byte rfl _ _ rfl w.heap.size v1 l _ _ b128.out rfl rfl ho1 (by omega) hB1.size ?_; intro v2 w2 ho2 hon2; have hB2 : Below w.heap.size w w2 := hB1.trans (hon2.below ho1 hB1.size)))
  go_loopw [3] (fun v wr => ∃ (j n c' : Nat) (A' : Option Addr), j ≤ z ∧ v = .slice A' n c' ∧ n = l.length + 1 + j ∧ OwnB wr w.heap.size (.slice A' n c') (l ++ [128] ++ List.replicate j 0) ∧ Below w.heap.size w wr) (fun v _ => l.length + 1 + z - sliceLen v)
  case atStart =>
    obtain ⟨A2, c2, rfl, _, _, _, _⟩ := own_form ho2
    exact ⟨0, _, c2, A2, by omega, rfl, by simp, by simpa using ho2, hB2⟩
  case round =>
    obtain ⟨j, n, c', A', hj, rfl, hn0, ho, hbw⟩ := hrel
    have hnn := Lib.hid hn0
    obtain ⟨r, hr0⟩ : ∃ r, r = n % 64 := ⟨_, rfl⟩
    have er : (n : Int).tmod 64 = (r : Int) := by rw [Int.tmod_eq_emod_of_nonneg (by omega), hr0]; omega
    have en : IntKind.i64.wrap (r : Int) = r := by rw [IntKind.wrap_i64]; omega
    by_cases hlt : j < z
    · have tr : ((r : Int) != 56) = true := by
        have := hzmin.out j hlt
        simp only [bne_iff_ne, ne_eq]
        omega
      clear hr0 hn0
      have hle : (l ++ [128] ++ List.replicate j 0).length ≤ 140737488355300 := by simp; omega
      go_wp2_with (at_builtin; go_must (refine push_byte rfl _ _ rfl w.heap.size (.slice A' n c') (l ++ [128] ++ List.replicate j 0) _ _ b0.out rfl rfl ho hle hbw.size ?_); intro v3 w3 ho3 hon3)
      obtain ⟨A3, c3, rfl, _, _, _, _⟩ := own_form ho3
      have hl3 : (l ++ [128] ++ List.replicate j 0 ++ [0]).length = l.length + 1 + (j + 1) := by simp; omega
      rw [hl3] at ho3 hon3 ⊢
      have hap : Hid (l ++ [128] ++ List.replicate j 0 ++ [0] = l ++ [128] ++ List.replicate (j + 1) 0) := by
        show _ = _
        rw [List.replicate_succ', List.append_assoc (l ++ [128])]
      rw [hap.out] at ho3
      go_roundw
      case rel => exact ⟨j + 1, _, c3, A3, by omega, rfl, rfl, ho3, hbw.trans (hon3.below ho hbw.size)⟩
      case measure => simp [sliceLen]; have := hnn.out; omega
    · have tr : ((r : Int) != 56) = false := by
        have h1 := hzfit.out
        have : j = z := by omega
        simp only [bne_eq_false_iff_eq]
        omega
      have hjz : j = z := by omega
      clear hr0 hn0 hlt
      obtain ⟨Pre, hPre⟩ : ∃ Pre, Pre = l ++ [128] ++ List.replicate z 0 := ⟨_, rfl⟩
      have hPl : Pre.length ≤ 1000001000 := by rw [hPre]; simp; omega
      have hfin : Hid (l ++ [128] ++ List.replicate z 0 ++ Y = Pre ++ Y) := by show _ = _; rw [hPre]
      rw [hjz, ← hPre] at ho
      clear hPre
      go_wp2_with fail
      go_loopw [3, 5] (fun v i wr => ∃ k : Nat, k ≤ 8 ∧ i = .int .i64 k ∧ OwnB wr w.heap.size v (Pre ++ Y.take k) ∧ Below w.heap.size w wr) (fun _ i _ => 8 - (intOf i).toNat)
      case atStart => exact ⟨0, by omega, rfl, by simpa using ho, hbw⟩
      case round =>
        clear ho hbw
        obtain ⟨k, hk, rfl, ho, hbw⟩ := hrel
        by_cases hlt : k < 8
        · have e0 : IntKind.i64.wrap (8 * (k : Int)) = 8 * k := by rw [IntKind.wrap_i64]; omega
          have e3 : 56 - 8 * (k : Int) = ((56 - 8 * k : Nat) : Int) := by omega
          have e1 : IntKind.i64.wrap (56 - 8 * (k : Int)) = ((56 - 8 * k : Nat) : Int) := by rw [IntKind.wrap_i64]; omega
          have e2 : ((56 - 8 * k : Nat) : Int) < 64 := by omega
          have ik : (k : Int) < 8 := by omega
          have hE : Hid (Value.int .u8 ((N : Int) / 2 ^ (56 - 8 * k) % 256) = bv (UInt8.ofNat ((N >>> (56 - 8 * k)) % 256))) := by
            show _ = _
            rw [bv_ofNat (Nat.mod_lt _ (by decide)), Nat.shiftRight_eq_div_pow]
            simp
          have hnx : Hid (Pre ++ Y.take k ++ [UInt8.ofNat ((N >>> (56 - 8 * k)) % 256)] = Pre ++ Y.take (k + 1)) := by
            show _ = _
            rw [List.take_add_one, hat.out k hlt, List.append_assoc]
            rfl
          have hle : (Pre ++ Y.take k).length ≤ 140737488355300 := by rw [List.length_append, List.length_take]; omega
          go_wp2_with (at_builtin; go_must (refine push_byte rfl _ _ rfl w.heap.size u3 (Pre ++ Y.take k) _ _ hE.out rfl rfl ho hle hbw.size ?_); intro v4 w4 ho4 hon4)
          rw [hnx.out] at ho4
          go_roundw
          case rel => exact ⟨k + 1, by omega, by go_num, ho4, hbw.trans (hon4.below ho hbw.size)⟩
          case measure => simp [intOf]; omega
        · rw [List.take_of_length_le (by rw [hY8.out]; omega), ← hfin.out] at ho
          go_wp2_with fail
          go_ret
          exact ⟨_, rfl, ho, hbw⟩
end Go.Proofs.YtedhjjlnionckaaDoor
