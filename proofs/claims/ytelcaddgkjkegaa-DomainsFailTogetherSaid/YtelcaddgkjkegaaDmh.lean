/-
  Stage 10 (domain): Relate of the program.
-/
import Derived.Test.YtelcaddgkjkegaaDmg
namespace Go.Proofs.Ytelcaddgkjkegaa
set_option linter.unusedVariables false
set_option linter.unusedSimpArgs false
open Go.RowKit

theorem Dm.rel_at {d : Dm} {a b : Int} {k : Nat} (hk : k < 4) (no : ∀ l : Nat, l < k → ¬ d.tog a b l) (yes : d.tog a b k) : d.rel a b = k := by
  have n0 : 0 < k → ¬ d.tog a b 0 := no 0
  have n1 : 1 < k → ¬ d.tog a b 1 := no 1
  have n2 : 2 < k → ¬ d.tog a b 2 := no 2
  unfold Dm.rel
  match k, hk with
  | 0, _ => rw [if_pos (show d.tog a b 0 from yes)]; rfl
  | 1, _ => rw [if_neg (n0 (by omega)), if_pos (show d.tog a b 1 from yes)]; rfl
  | 2, _ => rw [if_neg (n0 (by omega)), if_neg (n1 (by omega)), if_pos (show d.tog a b 2 from yes)]; rfl
  | 3, _ => rw [if_neg (n0 (by omega)), if_neg (n1 (by omega)), if_neg (n2 (by omega)), if_pos (show d.tog a b 3 from yes)]; rfl
theorem Dm.rel_none {d : Dm} {a b : Int} (no : ∀ l : Nat, l < 4 → ¬ d.tog a b l) : d.rel a b = 4 := by
  have n0 := no 0 (by omega)
  have n1 := no 1 (by omega)
  have n2 := no 2 (by omega)
  have n3 := no 3 (by omega)
  unfold Dm.rel
  rw [if_neg (by exact n0), if_neg (by exact n1), if_neg (by exact n2), if_neg (by exact n3)]
theorem no_next {P : Nat → Prop} {k : Nat} (no : ∀ l : Nat, l < k → ¬ P l) (h : ¬ P k) : ∀ l : Nat, l < k + 1 → ¬ P l := fun l hl => by
  by_cases e : l = k
  · rw [e]; exact h
  · exact no l (by omega)

set_option maxRecDepth 100000 in
set_option maxHeartbeats 4000000 in
theorem drel_any {B : Nat} (h : Hd) (d : Dm) (a b : Int) (w : World) (m : DomM w B h d) :
    Calls Try.prog 22 #[h.val, .int .i64 a, .int .i64 b] w fun e w' => e = .returned (.int .i64 (d.rel a b)) ∧ Below w.heap.size w w' := by
  obtain ⟨W1, hW1⟩ : ∃ W1, W1 = w.alloc (.cells h.cells.toArray 25) := ⟨_, rfl⟩
  have hB1 : Hid (Below w.heap.size w W1) := by show Below _ _ _; rw [hW1]; exact (Below.refl _ _).alloc (Nat.le_refl _) _
  have hR1 : Hid (Blk W1 w.heap.size h.cells 25) := by show Blk _ _ _ _; rw [hW1]; exact Blk.new _ _ _
  have hm1 := Lib.hid (m.below hB1.out)
  have CF := Lib.hid (fun lv k W (hW : Below W1.heap.size W1 W) => dof_any h d lv k W (hm1.out.below hW))
  have hW1' := Lib.hid hW1
  have hlt1 := Lib.hid hR1.out.lt
  have hdd := Lib.hid size_dom
  have hun : Hid (Try.prog.underlying 25 = _) := Try.underlying25
  obtain ⟨r, hr0⟩ : ∃ r, r = d.rel a b := ⟨_, rfl⟩
  have hr := Lib.hid hr0
  rw [← hr0]
  unfold Hd.cells at hR1 hW1'
  unfold Hd.val at CF ⊢
  clear m hW1 hm1 hr0
  go_enter Try.func22, Try.ntmps22
  go_wp2_with fail
  generalize hg : w.alloc _ = Wg
  have hgW : W1 = Wg := by rw [← hg, hW1'.out]
  clear hg hW1'
  subst hgW
  go_wp2_with fail
  go_loopw [9] (fun i wr => ∃ k : Nat, k ≤ 4 ∧ i = .int .i64 k ∧ Hid (∀ l : Nat, l < k → ¬ d.tog a b l) ∧ Hid (Below W1.heap.size W1 wr)) (fun i _ => 4 - (intOf i).toNat)
  case atStart => exact ⟨0, by omega, rfl, fun l hl => by omega, Below.refl _ _⟩
  case round =>
    obtain ⟨k, hk, rfl, hno, hBw⟩ := hrel
    by_cases hlt : k < 4
    · have t : (k : Int) < 4 := by omega
      have hR2 := Lib.hid (hR1.out.below hBw.out hlt1.out)
      obtain ⟨x, hx0⟩ : ∃ x, x = d.of k a := ⟨_, rfl⟩
      obtain ⟨y, hy0⟩ : ∃ y, y = d.of k b := ⟨_, rfl⟩
      have C1 := Lib.hid (CF.out k a wr hBw.out)
      have C2 := Lib.hid (fun W hW => CF.out k b W hW)
      rw [← hx0] at C1
      have hx := Lib.hid hx0
      have hy := Lib.hid hy0
      clear hx0 hy0
      go_wp2_with (refine wpList_blk_load rfl 25 _ rfl 0 rfl hR2.out _ (take_all0 _) _ hun.out rfl hdd.out ?_)
      refine C1.out.mono ?_
      rintro e w2 ⟨rfl, hb2⟩
      have hB2 := Lib.hid (hBw.out.trans (hb2.mono hBw.out.size))
      have hR3 := Lib.hid (hR1.out.below hB2.out hlt1.out)
      have C3 := Lib.hid (C2.out w2 hB2.out)
      rw [← hy.out] at C3
      clear hb2
      by_cases h0 : 0 ≤ x
      · have hcase : Hid (x = y ↔ d.tog a b k) := by
          show _ ↔ _
          unfold Dm.tog
          rw [← hx.out, ← hy.out]
          exact ⟨fun e => ⟨h0, e⟩, fun e => e.2⟩
        go_wp2_with (first | (refine wpList_blk_loadW (by rfl) 25 _ rfl 0 rfl hR3.out _ (take_all0 _) _ hun.out rfl hdd.out ?_) | (refine wpList_blk_load rfl 25 _ rfl 0 rfl hR3.out _ (take_all0 _) _ hun.out rfl hdd.out ?_))
        refine C3.out.mono ?_
        rintro e w3 ⟨rfl, hb3⟩
        have hB3 := Lib.hid (hB2.out.trans (hb3.mono hB2.out.size))
        have hBz := Lib.hid (hB1.out.trans (hB3.out.mono hB1.out.size))
        clear hb3
        by_cases hxy : x = y
        · have hz : Hid (r = k) := by show _ = _; rw [hr.out]; exact Dm.rel_at hlt hno.out (hcase.out.1 hxy)
          have te : (x == y) = true := by rw [hxy]; simp
          clear hxy
          go_wp2_with fail
          go_ret
          exact ⟨by rw [hz.out]; rfl, hBz.out⟩
        · have te : (x == y) = false := by simp only [beq_eq_false_iff_ne, ne_eq]; exact hxy
          have hnx : Hid (∀ l : Nat, l < k + 1 → ¬ d.tog a b l) := no_next (P := fun l => d.tog a b l) hno.out (fun ht => hxy (hcase.out.2 ht))
          clear hxy
          go_wp2_with fail
          go_roundw
          case rel => exact ⟨k + 1, by omega, by go_num, hnx, hB3⟩
          case measure => simp [intOf]; omega
      · have hnx : Hid (∀ l : Nat, l < k + 1 → ¬ d.tog a b l) := no_next (P := fun l => d.tog a b l) hno.out (fun ht => h0 (by rw [hx.out]; exact ht.1))
        go_wp2_with fail
        go_roundw
        case rel => exact ⟨k + 1, by omega, by go_num, hnx, hB2⟩
        case measure => simp [intOf]; omega
    · have t : ¬ (k : Int) < 4 := by omega
      obtain rfl : k = 4 := by omega
      have hz : Hid (r = 4) := by show _ = _; rw [hr.out]; exact Dm.rel_none hno.out
      have hBz := Lib.hid (hB1.out.trans (hBw.out.mono hB1.out.size))
      go_wp2_with fail
      go_ret
      exact ⟨by rw [hz.out]; rfl, hBz.out⟩
end Go.Proofs.Ytelcaddgkjkegaa
