/-
  Contracts of stage 2: the reference's Short, for a Sum that keeps its contract.
-/
import Derived.Test.YtlgokfgiemaklaaDoorPwm
namespace Go.Proofs.YtlgokfgiemaklaaDoor
set_option linter.unusedVariables false
open Go.RowKit

/-- What the reference's Sum is to do. -/
def RefSum : Prop := ∀ (l : List UInt8) (A : Option Addr) (c : Nat) (w : World), Rds w w.heap.size A (l.map bv) → (A = none → c = 0) → l.length ≤ 1000000 → Tab 3 w →
  Calls Tryd.prog 83 #[.slice A l.length c] w fun e w' => e = .returned (av (Sha.sum l)) ∧ Below w.heap.size w w'

set_option maxRecDepth 100000 in
set_option maxHeartbeats 1000000 in
theorem short_of (HS : RefSum) (l : List UInt8) (A : Option Addr) (c : Nat) (w : World) (hr : Rds w w.heap.size A (l.map bv)) (hc : A = none → c = 0) (hl : l.length ≤ 1000000) (ht : Tab 3 w) :
    Calls Tryd.prog 66 #[.slice A l.length c] w fun e w' => e = .returned (av ((Sha.sum l).take 16)) ∧ Below w.heap.size w w' := by
  obtain ⟨W1, hW1⟩ : ∃ W1, W1 = w.alloc (.cells (bz 16).toArray 31) := ⟨_, rfl⟩
  have hB1 : Below w.heap.size w W1 := by rw [hW1]; exact (Below.refl _ _).alloc (Nat.le_refl _) _
  have hR1 : Hid (Blk W1 w.heap.size (bz 16) 31) := by show Blk _ _ _ _; rw [hW1]; exact Blk.new _ _ _
  have H := Lib.hid (HS l A c W1 ((hr.below hB1).more hB1.size) hc hl (ht.on hB1))
  have hZl := Sha.sum_len l
  generalize Sha.sum l = Z at H hZl ⊢
  obtain ⟨Y, hY⟩ : ∃ Y, Y = Z.take 16 := ⟨_, rfl⟩
  have hYl : Hid (Y.length = 16) := by show _ = _; rw [hY, List.length_take, hZl]; rfl
  have hat : Hid (∀ k z, k < 16 → Z[k]? = some z → Y[k]? = some z) := fun k z hk hz => by rw [hY, List.getElem?_take_of_lt hk]; exact hz
  have hZm : (Z.map bv).length = 32 := by rw [List.length_map, hZl]
  have hZs : Hid ((Tryd.prog.info? 98).map (·.size) = some (Z.map bv).length) := by show _ = _; rw [hZm]; exact size_b32
  have hZ32 := Lib.hid hZl
  have hZo := av_one Z
  rw [← hY]
  unfold av at H ⊢
  clear hY hr ht hl HS hZl
  go_enter Tryd.func66, Tryd.ntmps66
  go_wp2_with fail
  generalize hg : w.alloc _ = Wg
  have hgW : Wg = W1 := by rw [← hg, hW1]; rfl
  clear hg hW1
  subst hgW
  refine H.out.mono ?_
  rintro e w2 ⟨rfl, hb2⟩
  have hB2 : Below w.heap.size w w2 := hB1.trans (hb2.mono hB1.size)
  have hR2 := Lib.hid (hR1.out.below hb2 hR1.out.lt)
  have hlt2 : w.heap.size < w2.heap.size := hR2.out.lt
  clear hb2 hB1 hR1 H
  go_wp2_with (refine wpList_row_store rfl 98 _ _ rfl (Z.map bv) rfl rfl (Blk.new w2 (bz 32) 98) hZs.out (by rw [hZm]; rfl) hZo ?_; intro w3 hZ3 ho3; have hs3 : w3.heap.size = w2.heap.size + 1 := by rw [ho3.size]; simp)
  have hB3 : Below w.heap.size w w3 := (hB2.alloc hB2.size _).trans (ho3.below hB2.size)
  have hR3 := (hR2.out.alloc (.cells (bz 32).toArray 98)).only ho3 (Nat.ne_of_lt hlt2)
  generalize hg : w3.alloc _ = w4
  have hg4 : w4 = w3.alloc (.cells (bz 16).toArray 31) := hg.symm
  have hB4 : Below w.heap.size w w4 := by rw [hg4]; exact hB3.alloc hB3.size _
  have hR4 : Blk w4 w.heap.size (bz 16) 31 := by rw [hg4]; exact hR3.alloc _
  have hZ4 : Blk w4 w2.heap.size (Z.map bv) 98 := by rw [hg4]; exact hZ3.out.alloc _
  have hD4 : Blk w4 (w2.heap.size + 1) (fill Y 0) 31 := by rw [hg4, fill_zero, hYl.out]; exact (Blk.new w3 (bz 16) _).at hs3.symm
  clear hg hg4 hR3 hZ3 ho3 hs3 hB3 hR2 hB2
  go_loopw [5] (fun i wr => ∃ k : Nat, k ≤ 16 ∧ i = .int .i64 k ∧ Blk wr (w2.heap.size + 1) (fill Y k) 31 ∧ Blk wr w2.heap.size (Z.map bv) 98 ∧ Blk wr w.heap.size (bz 16) 31 ∧ Below w.heap.size w wr) (fun i _ => 16 - (intOf i).toNat)
  case atStart => exact ⟨0, by omega, rfl, hD4, hZ4, hR4, hB4⟩
  case round =>
    clear hD4 hZ4 hR4 hB4
    obtain ⟨k, hk, rfl, hD0, hZ0, hR0, hbw⟩ := hrel
    have hD := Lib.hid hD0
    have hZ := Lib.hid hZ0
    have hR := Lib.hid hR0
    clear hD0 hZ0 hR0
    by_cases hlt : k < 16
    · obtain ⟨z, hz⟩ : ∃ z, Z[k]? = some z := ⟨_, List.getElem?_eq_getElem (by rw [hZ32.out]; omega)⟩
      have hcell : wr.cell? ⟨w2.heap.size, k, none⟩ = some (.int .u8 (z.toNat : Int)) := hZ.out.cell (by rw [List.getElem?_map, hz]; rfl)
      have hnx : Hid (splice (fill Y k) k [.int .u8 (z.toNat : Int)] = fill Y (k + 1)) := fill_next Y k z (hat.out k z hlt hz)
      have hfl : (fill Y k).length = 16 := by rw [fill_len _ _ (by rw [hYl.out]; omega), hYl.out]
      have ik : (k : Int) < 16 := by omega
      have ik2 : (k : Int) < 32 := by omega
      have hk1 : k + 1 ≤ 16 := hlt
      clear hz
      generalize z.toNat = zn at hcell hnx
      go_wp2_with (refine wpList_blk_store rfl 5 _ _ rfl k (.int .u8 (zn : Int)) rfl rfl hD.out size_u8 (by rw [hfl]; exact hk1) (one_int _ _) ?_; intro w5 hW5 ho5)
      go_roundw
      case rel =>
        refine ⟨k + 1, by omega, by go_num, ?_, hZ.out.only ho5 (by omega), hR.out.only ho5 (by omega), hbw.trans (ho5.below (by omega))⟩
        rw [← hnx.out]
        exact hW5.out
      case measure => simp [intOf]; omega
    · have hD2 := hD.out
      have hR2 := hR.out
      rw [fill_all _ _ (by rw [hYl.out]; omega)] at hD2
      have hcl : (Y.map bv).length = 16 := by rw [List.length_map, hYl.out]
      have hsz := Lib.hid (size_dig16 _ hcl)
      have hYo := av_one Y
      have t : ¬ (k : Int) < 16 := by omega
      clear hD hR hlt hZ
      go_wp2_with (first | (refine wpList_blk_load rfl 31 _ rfl 0 rfl hD2 (Y.map bv) (take_all0 _) (.array 16 5) arr_dig rfl hsz.out ?_) | (refine wpList_row_store rfl 31 _ _ rfl (Y.map bv) rfl rfl hR2 hsz.out (by rw [hcl]; rfl) hYo ?_; intro w6 hW6 ho6))
      exact bodyPost_ret (ret_blk rfl _ w6 (g := w.heap.size) rfl hW6.out (.array 16 5) arr_dig rfl hsz.out) rfl ⟨rfl, hbw.trans (ho6.below (Nat.le_refl _))⟩
end Go.Proofs.YtlgokfgiemaklaaDoor
