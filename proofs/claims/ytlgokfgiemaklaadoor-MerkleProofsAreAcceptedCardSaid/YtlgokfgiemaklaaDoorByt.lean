/-
  Contracts of stage 2: the bytes of a hash value and of a length.
-/
import Derived.Test.YtlgokfgiemaklaaDoorCmp
import Derived.Test.YtlgokfgiemaklaaDoorKc
namespace Go.Proofs.YtlgokfgiemaklaaDoor
open Go.RowKit

theorem size_b8 : (Tryd.prog.info? 120).map (·.size) = some 8 := by kernel_rfl
theorem size_b32 : (Tryd.prog.info? 98).map (·.size) = some 32 := by kernel_rfl

set_option maxRecDepth 100000 in
set_option maxHeartbeats 1000000 in
theorem be64_any (n : Nat) (w : World) : Calls Tryd.prog 81 #[.int .u64 n] w fun e w' => e = .returned (.agg ((Sha.be64 n).map bv).toArray) ∧ Below w.heap.size w w' := by
  obtain ⟨Y, hY⟩ : ∃ Y, Y = Sha.be64 n := ⟨_, rfl⟩
  have hY8 : Y.length = 8 := by rw [hY]; rfl
  have hat : Hid (∀ i, i < 8 → Y[i]? = some (UInt8.ofNat ((n >>> (56 - 8 * i)) % 256))) := by
    intro i hi
    rw [hY]
    unfold Sha.be64
    rw [List.getElem?_map, List.getElem?_range hi]
    rfl
  rw [← hY]
  have hYl := Lib.hid hY8
  clear hY hY8
  go_enter Tryd.func81, Tryd.ntmps81
  go_wp2_with fail
  go_loopw [5] (fun i wr => ∃ k : Nat, k ≤ 8 ∧ i = .int .i64 k ∧ Blk wr (w.heap.size + 1) (fill Y k) 120 ∧ Blk wr w.heap.size (bz 8) 120 ∧ Below w.heap.size w wr) (fun i _ => 8 - (intOf i).toNat)
  case atStart => exact ⟨0, by omega, rfl, by rw [fill_zero, hYl.out]; exact (Blk.new _ (bz 8) _).at (by simp), (Blk.new _ (bz 8) _).alloc _, ((Below.refl _ _).alloc (by simp) _).alloc (by simp) _⟩
  case round =>
    obtain ⟨k, hk, rfl, hB0, hR0, hbw⟩ := hrel
    have hB := Lib.hid hB0
    have hR := Lib.hid hR0
    clear hB0 hR0
    by_cases hlt : k < 8
    · have e0 : IntKind.i64.wrap (8 * (k : Int)) = 8 * k := by rw [IntKind.wrap_i64]; omega
      have e3 : 56 - 8 * (k : Int) = ((56 - 8 * k : Nat) : Int) := by omega
      have e1 : IntKind.i64.wrap (56 - 8 * (k : Int)) = ((56 - 8 * k : Nat) : Int) := by rw [IntKind.wrap_i64]; omega
      have e2 : ((56 - 8 * k : Nat) : Int) < 64 := by omega
      have ik : (k : Int) < 8 := by omega
      have hk1 : k + 1 ≤ 8 := hlt
      have hfl : (fill Y k).length = 8 := by rw [fill_len _ _ (by rw [hYl.out]; omega), hYl.out]
      have hnx : Hid (splice (fill Y k) k [.int .u8 ((n : Int) / 2 ^ (56 - 8 * k) % 256)] = fill Y (k + 1)) := by
        show _ = _
        rw [← fill_next Y k _ (hat.out k hlt), bv_ofNat (Nat.mod_lt _ (by decide)), Nat.shiftRight_eq_div_pow]
        simp
      go_wp2_with (refine wpList_blk_store rfl 5 _ _ rfl k (.int .u8 ((n : Int) / 2 ^ (56 - 8 * k) % 256)) rfl rfl hB.out size_u8 (by rw [hfl]; exact hk1) (one_int _ _) ?_; intro w3 hW3 ho3)
      go_roundw
      case rel =>
        refine ⟨k + 1, by omega, by go_num, ?_, hR.out.only ho3 (by omega), hbw.trans (ho3.below (by omega))⟩
        rw [← hnx.out]
        exact hW3.out
      case measure => simp [intOf]; omega
    · have hB2 := hB.out
      have hR2 := hR.out
      rw [fill_all _ _ (by rw [hYl.out]; omega)] at hB2
      have hcl : (Y.map bv).length = 8 := by rw [List.length_map, hYl.out]
      have hsz : Hid ((Tryd.prog.info? 120).map (·.size) = some (Y.map bv).length) := by show _ = _; rw [hcl]; exact size_b8
      have hz : (bz 8).length = 8 := rfl
      have t : ¬ (k : Int) < 8 := by omega
      clear hB hR hlt
      go_wp2_with (first | (refine wpList_blk_load rfl 120 _ rfl 0 rfl hB2 (Y.map bv) (take_all0 _) (.array 8 5) Tryd.underlying120 rfl hsz.out ?_) | (refine wpList_blk_store rfl 120 _ _ rfl 0 (.agg (Y.map bv).toArray) rfl rfl hR2 (by simpa [Value.cells] using hsz.out) (by rw [hz]; simpa [Value.cells] using Nat.le_of_eq hcl) (bytes_cells _) ?_; intro w3 hR3 ho3))
      have hall : splice (bz 8) 0 (Value.agg (Y.map bv).toArray).cells.toList = Y.map bv := by
        rw [splice_all _ _ (by rw [hz]; simpa [Value.cells] using hcl)]
        rfl
      refine bodyPost_ret (ret_blk rfl _ w3 (g := w.heap.size) rfl (hR3.out) (.array 8 5) Tryd.underlying120 rfl ?_) rfl ⟨?_, hbw.trans (ho3.below (by omega))⟩
      · rw [hall]; exact hsz.out
      · rw [hall]

set_option maxRecDepth 100000 in
set_option maxHeartbeats 1000000 in
theorem bytesOf_any (s : List Nat) (w : World) (hs : s.length = 8) (hsm : Sha.Small s) : Calls Tryd.prog 82 #[.agg (s.map uv).toArray] w fun e w' => e = .returned (.agg ((Sha.bytes s).map bv).toArray) ∧ Below w.heap.size w w' := by
  obtain ⟨Y, hY⟩ : ∃ Y, Y = Sha.bytes s := ⟨_, rfl⟩
  have hY32 : Y.length = 32 := by rw [hY, Sha.bytes_len, hs]
  have hat : Hid (∀ (k x j : Nat), s[k]? = some x → j < 4 → Y[4 * k + j]? = some (UInt8.ofNat ((x >>> (24 - 8 * j)) % 256))) := by
    intro k x j hk hj
    have hkl := (List.getElem?_eq_some_iff.1 hk).1
    rw [hY, Sha.bytes_at s _ (by omega), show (4 * k + j) / 4 = k by omega, show (4 * k + j) % 4 = j by omega, List.getD_eq_getElem?_getD, hk]
    rfl
  rw [← hY]
  have hYl := Lib.hid hY32
  have hs8 := Lib.hid hs
  have hsm' := Lib.hid hsm
  have hsl : (s.map uv).length = 8 := by rw [List.length_map, hs]
  have hsz : Hid ((Tryd.prog.info? 100).map (·.size) = some (s.map uv).length) := by show _ = _; rw [hsl]; exact size_w8
  clear hY hY32 hs hsm hsl
  have hB1 := Lib.hid (fun o1 o2 => ((Blk.new w (s.map uv) 100).alloc o1).alloc o2)
  go_enter Tryd.func82, Tryd.ntmps82
  go_wp2_with (refine wpList_blk_load rfl 100 _ rfl 0 rfl (hB1.out _ _) (s.map uv) (take_all0 _) (.array 8 99) Tryd.underlying100 rfl hsz.out ?_)
  go_loopw [7] (fun i wr => ∃ k : Nat, k ≤ 8 ∧ i = .int .i64 k ∧ Blk wr (w.heap.size + 1 + 1) (fill Y (4 * k)) 98 ∧ Blk wr (w.heap.size + 1) (bz 32) 98 ∧ Below w.heap.size w wr) (fun i _ => 8 - (intOf i).toNat)
  case atStart => exact ⟨0, by omega, rfl, by rw [Nat.mul_zero, fill_zero, hYl.out]; exact (Blk.new _ (bz 32) _).at (by simp), ((Blk.new _ (bz 32) _).alloc _).at (by simp), (((Below.refl _ _).alloc (by simp) _).alloc (by simp) _).alloc (by simp; omega) _⟩
  case round =>
    clear hB1 hsz
    obtain ⟨k, hk, rfl, hB0, hR0, hbw⟩ := hrel
    have hB := Lib.hid hB0
    have hR := Lib.hid hR0
    clear hB0 hR0
    by_cases hlt : k < 8
    · obtain ⟨x, hx⟩ : ∃ x, s[k]? = some x := ⟨_, List.getElem?_eq_getElem (by rw [hs8.out]; exact hlt)⟩
      have hxs : x < 4294967296 := hsm'.out x (List.mem_of_getElem? hx)
      have hxv : Hid ((s.map uv).toArray[k]? = some (.int .u32 x)) := by
        show _ = _
        rw [List.getElem?_toArray, List.getElem?_map, hx]
        rfl
      have hP := fun (j : Nat) (hj : j < 4) => show ∃ p : Nat, p = 4 * k + j ∧ (p : Int) < 32 ∧ p + 1 ≤ (fill Y p).length ∧ Hid (∀ z : Int, z = ((x >>> (24 - 8 * j) % 256 : Nat) : Int) → splice (fill Y p) p [.int .u8 z] = fill Y (p + 1)) from
        ⟨_, rfl, by omega, by rw [fill_len _ _ (by rw [hYl.out]; omega), hYl.out]; omega, fun z hz => by
          rw [← fill_next Y _ _ (hat.out k x j hx hj), bv_ofNat (Nat.mod_lt _ (by decide)), hz]⟩
      obtain ⟨p0, hp0, hb0, hl0, hf0⟩ := hP 0 (by omega)
      obtain ⟨p1, hp1, hb1, hl1, hf1⟩ := hP 1 (by omega)
      obtain ⟨p2, hp2, hb2, hl2, hf2⟩ := hP 2 (by omega)
      obtain ⟨p3, hp3, hb3, hl3, hf3⟩ := hP 3 (by omega)
      have hB0 := hB.out
      rw [show 4 * k = p0 by omega] at hB0
      have hB0' := Lib.hid hB0
      have hxs' := Lib.hid hxs
      have ik : (k : Int) < 8 := by omega
      have e0 : IntKind.i64.wrap (4 * (k : Int)) = p0 := by rw [IntKind.wrap_i64]; omega
      have e1 : IntKind.i64.wrap ((p0 : Int) + 1) = p1 := by rw [IntKind.wrap_i64]; omega
      have e2 : IntKind.i64.wrap ((p0 : Int) + 2) = p2 := by rw [IntKind.wrap_i64]; omega
      have e3 : IntKind.i64.wrap ((p0 : Int) + 3) = p3 := by rw [IntKind.wrap_i64]; omega
      have q0 : (x : Int) / (16777216 : Int) % (256 : Int) = ((x >>> (24 - 8 * 0) % 256 : Nat) : Int) := by rw [Nat.shiftRight_eq_div_pow]; omega
      have q1 : (x : Int) / (65536 : Int) % (256 : Int) = ((x >>> (24 - 8 * 1) % 256 : Nat) : Int) := by rw [Nat.shiftRight_eq_div_pow]; omega
      have q2 : (x : Int) / (256 : Int) % (256 : Int) = ((x >>> (24 - 8 * 2) % 256 : Nat) : Int) := by rw [Nat.shiftRight_eq_div_pow]; omega
      have q3 : (x : Int) % (256 : Int) = ((x >>> (24 - 8 * 3) % 256 : Nat) : Int) := by rw [Nat.shiftRight_eq_div_pow]; omega
      have F0 : Hid (∀ W, Hid (Blk W (w.heap.size + 1 + 1) (splice (fill Y p0) p0 [.int .u8 ((x : Int) / 16777216 % 256)]) 98) → Hid (Blk W (w.heap.size + 1 + 1) (fill Y p1) 98)) := fun W h => by
        have := h.out; rw [hf0.out _ q0, show p0 + 1 = p1 by omega] at this; exact this
      have F1 : Hid (∀ W, Hid (Blk W (w.heap.size + 1 + 1) (splice (fill Y p1) p1 [.int .u8 ((x : Int) / 65536 % 256)]) 98) → Hid (Blk W (w.heap.size + 1 + 1) (fill Y p2) 98)) := fun W h => by
        have := h.out; rw [hf1.out _ q1, show p1 + 1 = p2 by omega] at this; exact this
      have F2 : Hid (∀ W, Hid (Blk W (w.heap.size + 1 + 1) (splice (fill Y p2) p2 [.int .u8 ((x : Int) / 256 % 256)]) 98) → Hid (Blk W (w.heap.size + 1 + 1) (fill Y p3) 98)) := fun W h => by
        have := h.out; rw [hf2.out _ q2, show p2 + 1 = p3 by omega] at this; exact this
      have F3 : Hid (∀ W, Hid (Blk W (w.heap.size + 1 + 1) (splice (fill Y p3) p3 [.int .u8 ((x : Int) % 256)]) 98) → Hid (Blk W (w.heap.size + 1 + 1) (fill Y (4 * (k + 1))) 98)) := fun W h => by
        have := h.out; rw [hf3.out _ q3, show p3 + 1 = 4 * (k + 1) by omega] at this; exact this
      have P := Lib.hid (And.intro hp0 (And.intro hp1 (And.intro hp2 hp3)))
      clear hB0 hxs hP hp0 hp1 hp2 hp3 hx q0 q1 q2 q3 hf0 hf1 hf2 hf3 hB
      go_wp2_with (first | (refine wpList_index_arr rfl 100 _ _ rfl _ .i64 k rfl rfl 8 99 Tryd.underlying100 (.int .u32) Tryd.underlying99 rfl size_u32 hlt _ hxv.out ?_) | (refine wpList_blk_store rfl 5 _ _ rfl p0 (.int .u8 ((x : Int) / 16777216 % 256)) rfl rfl hB0'.out size_u8 hl0 (one_int _ _) ?_; intro w3 hW3' ho3; have hW3 := F0.out w3 hW3'; clear hW3') | (refine wpList_blk_store rfl 5 _ _ rfl p1 (.int .u8 ((x : Int) / 65536 % 256)) rfl rfl hW3.out size_u8 hl1 (one_int _ _) ?_; intro w4 hW4' ho4; have hW4 := F1.out w4 hW4'; clear hW4') | (refine wpList_blk_store rfl 5 _ _ rfl p2 (.int .u8 ((x : Int) / 256 % 256)) rfl rfl hW4.out size_u8 hl2 (one_int _ _) ?_; intro w5 hW5' ho5; have hW5 := F2.out w5 hW5'; clear hW5') | (refine wpList_blk_store rfl 5 _ _ rfl p3 (.int .u8 ((x : Int) % 256)) rfl rfl hW5.out size_u8 hl3 (one_int _ _) ?_; intro w6 hW6' ho6; have hW6 := F3.out w6 hW6'; clear hW6'))
      go_roundw
      case rel =>
        have ho := ((ho3.trans ho4).trans ho5).trans ho6
        exact ⟨k + 1, by omega, by go_num, hW6.out, hR.out.only ho (by omega), hbw.trans (ho.below (by omega))⟩
      case measure => simp [intOf]; omega
    · have hB2 := hB.out
      have hR2 := hR.out
      rw [fill_all _ _ (by rw [hYl.out]; omega)] at hB2
      have hcl : (Y.map bv).length = 32 := by rw [List.length_map, hYl.out]
      have hsz : Hid ((Tryd.prog.info? 98).map (·.size) = some (Y.map bv).length) := by show _ = _; rw [hcl]; exact size_b32
      have hz : (bz 32).length = 32 := rfl
      have t : ¬ (k : Int) < 8 := by omega
      clear hB hR hlt
      go_wp2_with (first | (refine wpList_blk_load rfl 98 _ rfl 0 rfl hB2 (Y.map bv) (take_all0 _) (.array 32 5) Tryd.underlying98 rfl hsz.out ?_) | (refine wpList_blk_store rfl 98 _ _ rfl 0 (.agg (Y.map bv).toArray) rfl rfl hR2 (by simpa [Value.cells] using hsz.out) (by rw [hz]; simpa [Value.cells] using Nat.le_of_eq hcl) (bytes_cells _) ?_; intro w3 hR3 ho3))
      have hall : splice (bz 32) 0 (Value.agg (Y.map bv).toArray).cells.toList = Y.map bv := by
        rw [splice_all _ _ (by rw [hz]; simpa [Value.cells] using hcl)]
        rfl
      refine bodyPost_ret (ret_blk rfl _ w3 (g := w.heap.size + 1) rfl (hR3.out) (.array 32 5) Tryd.underlying98 rfl ?_) rfl ⟨?_, hbw.trans (ho3.below (by omega))⟩
      · rw [hall]; exact hsz.out
      · rw [hall]
end Go.Proofs.YtlgokfgiemaklaaDoor
