/-
  Contracts of stage 2: the reference's messages.
-/
import Derived.Test.YtedhjjlnionckaaDoorFewb
import Derived.Test.YtedhjjlnionckaaDoorWrd
namespace Go.Proofs.YtedhjjlnionckaaDoor
set_option linter.unusedVariables false
open Go.RowKit

set_option maxRecDepth 100000 in
set_option maxHeartbeats 1000000 in
theorem message_any (parts : List (List UInt8)) (A : Option Addr) (c : Nat) (w : World) (hr : Rds w w.heap.size A (parts.map sv)) (hl : parts.length ≤ 1000000) (hf : (Sha.message parts).length ≤ 1000000000) :
    Calls Tryd.prog 23 #[.slice A parts.length c] w fun e w' => e = .returned (sv (Sha.message parts)) ∧ Below w.heap.size w w' := by
  obtain ⟨M, hM0⟩ : ∃ M, M = Sha.message parts := ⟨_, rfl⟩
  have hM : Hid (M = parts.flatMap Wm.encBytes) := hM0
  have hF : Hid ((parts.flatMap Wm.encBytes).length ≤ 1000000000) := hf
  rw [← hM0]
  clear hf hM0
  go_enter Tryd.func23, Tryd.ntmps23
  go_wp2_with fail
  go_loopw [3, 4] (fun b' i wr => ∃ k : Nat, k ≤ parts.length ∧ i = .int .i64 k ∧ OwnB wr w.heap.size b' ((parts.take k).flatMap Wm.encBytes) ∧ Below w.heap.size w wr) (fun _ i _ => parts.length - (intOf i).toNat)
  case atStart => exact ⟨0, by omega, rfl, ownB_nil _ _, Below.refl _ _⟩
  case round =>
    obtain ⟨k, hk, rfl, ho, hbw⟩ := hrel
    have hsz := hbw.size
    by_cases hlt : k < parts.length
    · obtain ⟨ad, rfl, hab, hcell⟩ := (hr.below hbw).look (k := k) (u := sv parts[k]) (by simp [hlt])
      have hfl := Wm.flat_take_len Wm.encBytes parts k
      have hfl1 := Wm.flat_take_len Wm.encBytes parts (k + 1)
      have hff := hF.out
      rw [Wm.take_flat Wm.encBytes parts k parts[k] (List.getElem?_eq_getElem hlt), List.length_append] at hfl1
      have hle : parts[k].length ≤ (Wm.encBytes parts[k]).length := by simp [Wm.encBytes]
      have htf := Lib.hid (Wm.take_flat Wm.encBytes parts k parts[k] (List.getElem?_eq_getElem hlt))
      have HA := Lib.hid (refBytes_any parts[k] wr (by omega))
      unfold sv at hcell HA
      generalize bs parts[k] = S at hcell HA
      go_wp2_with fail
      refine HA.out.mono ?_
      intro e w2 h2'
      obtain ⟨A2, c2, rfl, _, _, hn2, hr2, hb2⟩ := NewEnd.slice h2'
      clear h2'
      have ho2 : OwnB w2 w.heap.size u3 _ := own_below ho hb2
      have hsz2 := hb2.size
      go_wp2_with (at_builtin; go_must (refine push_bytes rfl _ _ rfl w.heap.size u3 _ _ _ A2 _ c2 rfl hn2 rfl rfl hr2 ho2 (by omega) (by omega) ?_); intro v3 w3 ho3 hb3)
      go_roundw
      case rel => exact ⟨k + 1, by omega, by go_num, by rw [htf.out]; exact ho3, hbw.trans ((hb2.mono hsz).trans hb3)⟩
      case measure => simp [intOf]; omega
    · rw [List.take_of_length_le (by omega), ← hM.out] at ho
      obtain ⟨A1, c1, rfl, _, _, _, hr1⟩ := own_form ho
      have hcv := run_bytes_bs (P := Tryd.prog) wr 22 9 5 Tryd.underlying22 Tryd.underlying5 Tryd.underlying9 c1 hr1
      go_wp2_with fail
      go_ret
      exact ⟨rfl, hbw⟩
end Go.Proofs.YtedhjjlnionckaaDoor
