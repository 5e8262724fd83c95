/-
  Contracts of stage 2: the statements' helpers on lists of texts.
-/
import Derived.Test.YtedhjjlnionckaaDoorRun
namespace Go.Proofs.YtedhjjlnionckaaDoor
set_option linter.unusedVariables false
open Go.RowKit

/-- At most 12 texts, of at most 400 bytes. -/
def FewS (xs : List (List UInt8)) : Prop := xs.length ≤ 12 ∧ ∀ x ∈ xs, x.length ≤ 400
instance (xs : List (List UInt8)) : Decidable (FewS xs) := by unfold FewS; infer_instance
theorem bs_app (a b : List UInt8) : bs a ++ bs b = bs (a ++ b) := by
  unfold bs
  apply ByteArray.ext
  simp

set_option maxRecDepth 100000 in
set_option maxHeartbeats 1000000 in
theorem few02_any {B : Nat} (xs : List (List UInt8)) (A : Option Addr) (c : Nat) (w : World) (hr : Rds w B A (xs.map sv)) (hl : xs.length ≤ 140737488351232) :
    Calls Tryd.prog 17 #[.slice A xs.length c] w fun e w' => e = .returned (.bool (decide (FewS xs))) ∧ w = w' := by
  by_cases hbig : 12 < xs.length
  · have t1 : (12 : Int) < (xs.length : Int) := by omega
    have hb : decide (FewS xs) = false := decide_eq_false fun h => by have := h.1; omega
    rw [hb]
    clear hb hbig
    go_enter Tryd.func17, Tryd.ntmps17
    go_wp2
    go_ret
    exact ⟨rfl, rfl⟩
  · have t1 : ¬ (12 : Int) < (xs.length : Int) := by omega
    have t2 : xs.length ≤ 12 := by omega
    have hD := Lib.hid (rfl : decide (FewS xs) = decide (FewS xs))
    obtain ⟨r, hr0⟩ : ∃ r, r = decide (FewS xs) := ⟨_, rfl⟩
    have HR := Lib.hid hr0
    rw [← hr0]
    clear hr0 hbig hD
    go_enter Tryd.func17, Tryd.ntmps17
    go_wp2
    go_loopw [3] (fun i wr => ∃ k : Nat, k ≤ xs.length ∧ i = .int .i64 k ∧ w = wr ∧ ∀ x ∈ xs.take k, x.length ≤ 400) (fun i _ => xs.length - (intOf i).toNat)
    case atStart => exact ⟨0, by omega, rfl, rfl, fun x hx => by cases hx⟩
    case round =>
      obtain ⟨k, hk, rfl, rfl, hall0⟩ := hrel
      have hall := Lib.hid hall0
      clear hall0
      by_cases hlt : k < xs.length
      · obtain ⟨ad, rfl, hab, hcell⟩ := hr.look (k := k) (u := sv xs[k]) (by simp [hlt])
        have hx := Lib.hid (List.getElem?_eq_getElem hlt)
        have HS := Lib.hid (bs_size xs[k])
        unfold sv at hcell
        generalize bs xs[k] = S at hcell HS
        generalize xs[k] = x at hx HS
        by_cases hbx : 400 < x.length
        · have t3 : (400 : Int) < (S.size : Int) := by rw [HS.out]; omega
          have hf : Hid (r = false) := by
            show _ = _
            rw [HR.out]
            exact decide_eq_false fun h => by have := h.2 x (List.mem_of_getElem? hx.out); omega
          clear hbx
          go_wp2
          go_ret
          exact ⟨by rw [hf.out]; rfl, rfl⟩
        · have t3 : ¬ (400 : Int) < (S.size : Int) := by rw [HS.out]; omega
          have hn : Hid (∀ y ∈ xs.take (k + 1), y.length ≤ 400) := fun y hy => by
            rw [List.take_add_one, hx.out] at hy
            rcases List.mem_append.1 hy with h | h
            · exact hall.out y h
            · simp at h; subst h; omega
          clear hbx
          go_wp2
          go_roundw
          case rel => exact ⟨k + 1, by omega, by go_num, trivial, hn.out⟩
          case measure => simp [intOf]; omega
      · have hf : Hid (r = true) := by
          show _ = _
          rw [HR.out]
          have := hall.out
          rw [List.take_of_length_le (by omega)] at this
          exact decide_eq_true ⟨t2, this⟩
        go_wp2
        go_ret
        exact ⟨by rw [hf.out]; rfl, rfl⟩
end Go.Proofs.YtedhjjlnionckaaDoor
