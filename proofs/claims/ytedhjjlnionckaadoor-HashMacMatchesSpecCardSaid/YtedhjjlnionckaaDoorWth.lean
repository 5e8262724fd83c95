/-
  Contracts of stage 2: a block of the reference, changed, and what follows it.
-/
import Derived.Test.YtedhjjlnionckaaDoorMsg
namespace Go.Proofs.YtedhjjlnionckaaDoor
set_option linter.unusedVariables false
open Go.RowKit

set_option maxRecDepth 100000 in
set_option maxHeartbeats 1000000 in
theorem with_any (l : List UInt8) (x : UInt8) (X : Int) (msg : List UInt8) (A : Option Addr) (c : Nat) (w : World) (hX : X = x.toNat) (hr : Rds w w.heap.size A (l.map bv)) (hl : l.length ≤ 1000000) (hm : msg.length ≤ 1000000000) :
    Calls Tryd.prog 68 #[.slice A l.length c, .int .u8 X, sv msg] w (NewEnd (l.map (· ^^^ x) ++ msg) w) := by
  have hX' := Lib.hid hX
  have hlY : (l.map (· ^^^ x)).length = l.length := List.length_map ..
  obtain ⟨Y, hY⟩ : ∃ Y, Y = l.map (· ^^^ x) := ⟨_, rfl⟩
  have hat : Hid (∀ k z, l[k]? = some z → Y[k]? = some (z ^^^ x)) := fun k z hz => by rw [hY, List.getElem?_map, hz]; rfl
  rw [← hY] at hlY ⊢
  clear hX hY
  unfold sv
  obtain ⟨S, hS0⟩ : ∃ S, S = bs msg := ⟨_, rfl⟩
  have hS := Lib.hid hS0
  rw [← hS0]
  clear hS0
  go_enter Tryd.func68, Tryd.ntmps68
  go_wp2_with fail
  go_loopw [7, 8] (fun b' i wr => ∃ k : Nat, k ≤ l.length ∧ i = .int .i64 k ∧ OwnB wr w.heap.size b' (Y.take k) ∧ Below w.heap.size w wr) (fun _ i _ => l.length - (intOf i).toNat)
  case atStart => exact ⟨0, by omega, rfl, ownB_nil _ _, Below.refl _ _⟩
  case round =>
    obtain ⟨k, hk, rfl, ho, hbw⟩ := hrel
    by_cases hlt : k < l.length
    · obtain ⟨z, hz⟩ : ∃ z, l[k]? = some z := ⟨_, List.getElem?_eq_getElem hlt⟩
      obtain ⟨ad, rfl, hab, hcell⟩ := (hr.below hbw).look (k := k) (u := .int .u8 (z.toNat : Int)) (by rw [List.getElem?_map, hz]; rfl)
      have hE : Hid (Value.int .u8 (bits BinOp.xor IntKind.u8 (z.toNat : Int) X) = bv (z ^^^ x)) := by
        show _ = _
        rw [xor_u8 z x X hX'.out]
        rfl
      have hnx : Hid (Y.take k ++ [z ^^^ x] = Y.take (k + 1)) := by
        show _ = _
        rw [List.take_add_one, hat.out k z hz]
        rfl
      have hle : (Y.take k).length ≤ 140737488355300 := by rw [List.length_take]; omega
      clear hz
      generalize z.toNat = zn at hcell hE
      go_wp2_with (at_builtin; go_must (refine push_byte rfl _ _ rfl w.heap.size u7 (Y.take k) _ _ hE.out rfl rfl ho hle hbw.size ?_); intro v4 w4 ho4 hon4)
      rw [hnx.out] at ho4
      go_roundw
      case rel => exact ⟨k + 1, by omega, by go_num, ho4, hbw.trans (hon4.below ho hbw.size)⟩
      case measure => simp [intOf]; omega
    · rw [List.take_of_length_le (by omega)] at ho
      go_wp2_with (first | (refine wpList_bytes_of rfl _ rfl msg S hS.out rfl ?_; intro w4 A4 c4 hr4 _ _ hb4 _; have ho4 : OwnB w4 w.heap.size u7 Y := own_below ho (hb4.mono (Nat.le_refl _))) | (at_builtin; refine push_bytes rfl _ _ rfl w.heap.size u7 Y msg _ (some A4) _ c4 rfl (fun h => by cases h) rfl rfl hr4 ho4 (by omega) (Nat.le_trans hbw.size hb4.size) ?_; intro v5 w5 ho5 hb5))
      go_ret
      exact ⟨_, rfl, ho5, hbw.trans ((hb4.mono hbw.size).trans hb5)⟩
end Go.Proofs.YtedhjjlnionckaaDoor
