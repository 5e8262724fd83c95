/-
  Contracts of stage 2: hashes, digests and digits as strings.
-/
import Derived.Test.YtedhjjlnionckaaDoorExp
import Derived.Test.YtedhjjlnionckaaDoorRegC
namespace Go.Proofs.YtedhjjlnionckaaDoor
set_option linter.unusedVariables false
open Go.RowKit

set_option maxRecDepth 100000 in
set_option maxHeartbeats 1000000 in
theorem bytes32_any (Z : List UInt8) (w : World) (hZ : Z.length = 32) : Calls Tryd.prog 56 #[av Z] w fun e w' => e = .returned (sv Z) ∧ Below w.heap.size w w' := by
  have hZl := Lib.hid hZ
  obtain ⟨W1, hW1⟩ : ∃ W1, W1 = w.alloc (.cells (Z.map bv).toArray 24) := ⟨_, rfl⟩
  have hB1 : Below w.heap.size w W1 := by rw [hW1]; exact (Below.refl _ _).alloc (Nat.le_refl _) _
  have hK : Hid (Blk W1 w.heap.size (Z.map bv) 24) := by show Blk _ _ _ _; rw [hW1]; exact Blk.new _ _ _
  have hs1 : W1.heap.size = w.heap.size + 1 := by rw [hW1]; simp
  unfold av
  go_enter Tryd.func56, Tryd.ntmps56
  go_wp2_with fail
  rw [← hW1]
  clear hW1
  go_loopw [3, 4] (fun b i wr => ∃ k : Nat, k ≤ 32 ∧ i = .int .i64 k ∧ OwnB wr W1.heap.size b (Z.take k) ∧ Below W1.heap.size W1 wr) (fun _ i _ => 32 - (intOf i).toNat)
  case atStart => exact ⟨0, by omega, rfl, ownB_nil _ _, Below.refl _ _⟩
  case round =>
    obtain ⟨k, hk, rfl, ho, hbw⟩ := hrel
    have hsz := hbw.size
    by_cases hlt : k < 32
    · obtain ⟨z, hz⟩ : ∃ z, Z[k]? = some z := ⟨_, List.getElem?_eq_getElem (by rw [hZl.out]; exact hlt)⟩
      have hcell : wr.cell? ⟨w.heap.size, k, none⟩ = some (.int .u8 (z.toNat : Int)) := (hK.out.below hbw hK.out.lt).cell (by rw [List.getElem?_map, hz]; rfl)
      have htk : Hid (Z.take (k + 1) = Z.take k ++ [z]) := by
        show _ = _
        obtain ⟨hk1, hzg⟩ := List.getElem?_eq_some_iff.1 hz
        rw [List.take_succ_eq_append_getElem hk1, hzg]
      have hl : (Z.take k).length ≤ 140737488355300 := by rw [List.length_take]; omega
      have ik : (k : Int) < 32 := by omega
      clear hz
      go_wp2_with (at_builtin; go_must (refine push_byte rfl _ _ rfl W1.heap.size u3 (Z.take k) z _ rfl rfl rfl ho hl hsz ?_); intro v' w1 ho1 hon1)
      go_roundw
      case rel => exact ⟨k + 1, by omega, by go_num, by rw [htk.out]; exact ho1, hbw.trans (hon1.below ho hsz)⟩
      case measure => simp [intOf]; omega
    · have hkk : Z.take k = Z := List.take_of_length_le (by rw [hZl.out]; omega)
      rw [hkk] at ho
      obtain ⟨A, c, rfl, _, _, _, hrd⟩ := own_form ho
      have hc := run_bytes_bs (P := Tryd.prog) wr 22 9 5 Tryd.underlying22 Tryd.underlying5 Tryd.underlying9 c hrd
      rw [hZl.out] at hc
      have hfin : Below w.heap.size w wr := hB1.trans (hbw.mono hB1.size)
      have t : ¬ (k : Int) < 32 := by omega
      go_wp2_with fail
      go_ret
      exact ⟨rfl, hfin⟩

set_option maxRecDepth 100000 in
set_option maxHeartbeats 1000000 in
theorem text16_any (Z : List UInt8) (w : World) (hZ : Z.length = 16) : Calls Tryd.prog 57 #[av Z] w fun e w' => e = .returned (sv Z) ∧ Below w.heap.size w w' := by
  have hZl := Lib.hid hZ
  obtain ⟨W1, hW1⟩ : ∃ W1, W1 = w.alloc (.cells (Z.map bv).toArray 30) := ⟨_, rfl⟩
  have hB1 : Below w.heap.size w W1 := by rw [hW1]; exact (Below.refl _ _).alloc (Nat.le_refl _) _
  have hK : Hid (Blk W1 w.heap.size (Z.map bv) 30) := by show Blk _ _ _ _; rw [hW1]; exact Blk.new _ _ _
  have hs1 : W1.heap.size = w.heap.size + 1 := by rw [hW1]; simp
  unfold av
  go_enter Tryd.func57, Tryd.ntmps57
  go_wp2_with fail
  rw [← hW1]
  clear hW1
  go_loopw [3, 4] (fun b i wr => ∃ k : Nat, k ≤ 16 ∧ i = .int .i64 k ∧ OwnB wr W1.heap.size b (Z.take k) ∧ Below W1.heap.size W1 wr) (fun _ i _ => 16 - (intOf i).toNat)
  case atStart => exact ⟨0, by omega, rfl, ownB_nil _ _, Below.refl _ _⟩
  case round =>
    obtain ⟨k, hk, rfl, ho, hbw⟩ := hrel
    have hsz := hbw.size
    by_cases hlt : k < 16
    · obtain ⟨z, hz⟩ : ∃ z, Z[k]? = some z := ⟨_, List.getElem?_eq_getElem (by rw [hZl.out]; exact hlt)⟩
      have hcell : wr.cell? ⟨w.heap.size, k, none⟩ = some (.int .u8 (z.toNat : Int)) := (hK.out.below hbw hK.out.lt).cell (by rw [List.getElem?_map, hz]; rfl)
      have htk : Hid (Z.take (k + 1) = Z.take k ++ [z]) := by
        show _ = _
        obtain ⟨hk1, hzg⟩ := List.getElem?_eq_some_iff.1 hz
        rw [List.take_succ_eq_append_getElem hk1, hzg]
      have hl : (Z.take k).length ≤ 140737488355300 := by rw [List.length_take]; omega
      have ik : (k : Int) < 16 := by omega
      clear hz
      go_wp2_with (at_builtin; go_must (refine push_byte rfl _ _ rfl W1.heap.size u3 (Z.take k) z _ rfl rfl rfl ho hl hsz ?_); intro v' w1 ho1 hon1)
      go_roundw
      case rel => exact ⟨k + 1, by omega, by go_num, by rw [htk.out]; exact ho1, hbw.trans (hon1.below ho hsz)⟩
      case measure => simp [intOf]; omega
    · have hkk : Z.take k = Z := List.take_of_length_le (by rw [hZl.out]; omega)
      rw [hkk] at ho
      obtain ⟨A, c, rfl, _, _, _, hrd⟩ := own_form ho
      have hc := run_bytes_bs (P := Tryd.prog) wr 22 9 5 Tryd.underlying22 Tryd.underlying5 Tryd.underlying9 c hrd
      rw [hZl.out] at hc
      have hfin : Below w.heap.size w wr := hB1.trans (hbw.mono hB1.size)
      have t : ¬ (k : Int) < 16 := by omega
      go_wp2_with fail
      go_ret
      exact ⟨rfl, hfin⟩

def digits16 : List UInt8 := [48, 49, 50, 51, 52, 53, 54, 55, 56, 57, 97, 98, 99, 100, 101, 102]
def hexs (l : List UInt8) : List UInt8 := l.flatMap fun b => [digits16.getD (b.toNat / 16) 0, digits16.getD (b.toNat % 16) 0]
theorem hexs_len (l : List UInt8) : (hexs l).length = 2 * l.length := by
  unfold hexs
  induction l with
  | nil => rfl
  | cons b l ih => rw [List.flatMap_cons, List.length_append, ih, List.length_cons]; simp only [List.length_cons, List.length_nil]; omega
theorem bs_at (l : List UInt8) (k : Nat) : (bs l)[k]? = l[k]? := by
  by_cases h : k < l.length
  · rw [getElem?_pos (bs l) k (by rw [bs_size]; exact h), List.getElem?_eq_getElem h]; rfl
  · rw [getElem?_neg (bs l) k (by rw [bs_size]; exact h), List.getElem?_eq_none (by omega)]
theorem bs_get {S : ByteArray} {k : Nat} {z : UInt8} (h : S[k]? = some z) : ∀ (hk : k < S.size), S[k]'hk = z := fun hk => by
  rw [getElem?_pos S k hk] at h
  exact Option.some.inj h

set_option maxRecDepth 100000 in
set_option maxHeartbeats 1000000 in
theorem hex_any (l : List UInt8) (w : World) (hl : l.length ≤ 1000000) : Calls Tryd.prog 55 #[sv l] w fun e w' => e = .returned (sv (hexs l)) ∧ Below w.heap.size w w' := by
  have HS := Lib.hid (bs_size l)
  have hat := Lib.hid (bs_at l)
  have hdg := Lib.hid (fun (n : Nat) (h : n < 16) => show (bs digits16)[n]? = some (digits16.getD n 0) from by
    rw [bs_at, List.getD_eq_getElem?_getD, List.getElem?_eq_getElem (by exact h)]; rfl)
  have hds : (bs digits16).size = 16 := rfl
  unfold sv
  go_enter Tryd.func55, Tryd.ntmps55
  go_wp2_with fail
  rw [show (⟨#[48, 49, 50, 51, 52, 53, 54, 55, 56, 57, 97, 98, 99, 100, 101, 102]⟩ : ByteArray) = bs digits16 from rfl]
  generalize bs digits16 = DD at hdg hds ⊢
  go_loopw [4, 5] (fun b i wr => ∃ k : Nat, k ≤ l.length ∧ i = .int .i64 k ∧ OwnB wr w.heap.size b (hexs (l.take k)) ∧ Below w.heap.size w wr) (fun _ i _ => l.length - (intOf i).toNat)
  case atStart => exact ⟨0, by omega, rfl, ownB_nil _ _, Below.refl _ _⟩
  case round =>
    obtain ⟨k, hk, rfl, ho, hbw⟩ := hrel
    have hsz := hbw.size
    by_cases hlt : k < l.length
    · obtain ⟨z, hz⟩ : ∃ z, l[k]? = some z := ⟨_, List.getElem?_eq_getElem hlt⟩
      have hzS := bs_get (show (bs l)[k]? = some z by rw [hat.out, hz])
      have t : (k : Int) < (bs l).size := by rw [HS.out]; omega
      have t' : k < (bs l).size := by rw [HS.out]; omega
      have z256 := UInt8.toNat_lt z
      obtain ⟨n1, hn1⟩ : ∃ n1, n1 = z.toNat / 16 := ⟨_, rfl⟩
      obtain ⟨n2, hn2⟩ : ∃ n2, n2 = z.toNat % 16 := ⟨_, rfl⟩
      have i1 : n1 < 16 := by omega
      have i2 : n2 < 16 := by omega
      have i1' : n1 < DD.size := by omega
      have i2' : n2 < DD.size := by omega
      have j1 : (n1 : Int) < 16 := by omega
      have j2 : (n2 : Int) < 16 := by omega
      obtain ⟨e1, he1⟩ : ∃ e1, digits16.getD n1 0 = e1 := ⟨_, rfl⟩
      obtain ⟨e2, he2⟩ : ∃ e2, digits16.getD n2 0 = e2 := ⟨_, rfl⟩
      have d1 := bs_get ((hdg.out n1 i1).trans (by rw [he1]))
      have d2 := bs_get ((hdg.out n2 i2).trans (by rw [he2]))
      have hee := Lib.hid (And.intro he1 he2)
      clear he1 he2
      have q1 : IntKind.u8.wrap ((z.toNat : Int) / 16) = n1 := by rw [IntKind.wrap_u8]; omega
      have q2 : Int.tmod (z.toNat : Int) 16 = n2 := by rw [Int.tmod_eq_emod_of_nonneg (by omega)]; omega
      have hnn := Lib.hid (And.intro hn1 hn2)
      clear hn1 hn2
      have hz' := Lib.hid hz
      clear hz
      generalize bs l = S at hzS t t' ⊢
      go_wp2_with fail
      refine wp_region_planC 14 [(true, 0), (true, 1), (true, 2), (true, 3), (true, 4), (true, 5), (true, 6), (true, 7), (true, 8), (true, 9), (true, 10), (true, 11), (true, 12), (false, 13), (false, 14), (true, 15)] (by decide) (by kernel_rfl) (by kernel_rfl) (by decide) (by intro c a d v w h; cases d <;> exact h) ?_
      change wpPlanL _ _ _ _ _ _ wr.drew
      iterate 13 (refine wpPlanL_plain rfl (fun K hK => ?_); go_simp; refine hK _ ?_; clear hK K)
      refine wpPlanL_call rfl (fun K hK => ?_)
      go_wp2_with fail
      have hb2 : Below wr.drew.heap.size wr.drew (wr.drew.alloc (.cells ([e1, e2].map bv).toArray 5)) := (Below.refl _ _).alloc (Nat.le_refl _) _
      refine planPostL_normal ⟨.inr hb2, hK _ _ ?_⟩
      clear hK K
      change wpPlanL _ _ _ _ _ _ (wr.drew.alloc (.cells ([e1, e2].map bv).toArray 5))
      have hbk := Blk.new wr.drew ([e1, e2].map bv) 5
      have hw2 : Below w.heap.size w (wr.drew.alloc (.cells ([e1, e2].map bv).toArray 5)) := (hbw.drew).alloc hsz _
      have ho2 : OwnB (wr.drew.alloc (.cells ([e1, e2].map bv).toArray 5)) w.heap.size u4 (hexs (l.take k)) := World.ownsRow.alloc (World.ownsRow.drew ho) _
      have hrd : Rds (wr.drew.alloc (.cells ([e1, e2].map bv).toArray 5)) (wr.drew.alloc (.cells ([e1, e2].map bv).toArray 5)).heap.size (some ⟨wr.drew.heap.size, 0, none⟩) ([e1, e2].map bv) := hbk.rds 0 2
      have hs2 := hw2.size
      have hbound : (hexs (l.take k)).length + [e1, e2].length ≤ 140737488355328 := by
        have : (hexs (l.take k)).length = 2 * (l.take k).length := hexs_len _
        rw [this, List.length_take]
        simp
        omega
      have hhx : Hid (hexs (l.take (k + 1)) = hexs (l.take k) ++ [e1, e2]) := by
        show _ = _
        obtain ⟨hk1, hzg⟩ := List.getElem?_eq_some_iff.1 hz'.out
        rw [List.take_succ_eq_append_getElem hk1, hzg]
        unfold hexs
        rw [List.flatMap_append, List.flatMap_singleton, ← hnn.out.1, ← hnn.out.2, hee.out.1, hee.out.2]
      change wpPlanL _ _ _ _ _ _ (wr.drew.alloc (.cells ([e1, e2].map bv).toArray 5))
      generalize wr.drew.alloc (.cells ([e1, e2].map bv).toArray 5) = w2 at hw2 ho2 hrd hs2 ⊢
      refine wpPlanL_call rfl (fun K hK => ?_)
      refine push_bytes rfl _ _ rfl w.heap.size u4 (hexs (l.take k)) [e1, e2] _ _ 2 2 rfl (by simp) rfl rfl hrd ho2 hbound hs2 ?_
      intro v3 w3 ho3 hb3
      refine wpList_end (planPostL_normal ⟨.inl rfl, hK _ _ ?_⟩)
      clear hK K
      iterate 1 (refine wpPlanL_plain rfl (fun K hK => ?_); go_simp; refine hK _ ?_; clear hK K)
      refine wpPlanL_nil ?_
      go_wp2_with fail
      go_roundw
      case rel => exact ⟨k + 1, by omega, by go_num, by rw [hhx.out]; exact ho3, hw2.trans hb3⟩
      case measure => simp [intOf]; omega
    · have hkk : l.take k = l := List.take_of_length_le (by omega)
      rw [hkk] at ho
      obtain ⟨A, c, rfl, _, _, _, hrd⟩ := own_form ho
      have hc := run_bytes_bs (P := Tryd.prog) wr 22 9 5 Tryd.underlying22 Tryd.underlying5 Tryd.underlying9 c hrd
      have t : ¬ (k : Int) < (bs l).size := by rw [HS.out]; omega
      generalize bs l = S at t ⊢
      go_wp2_with fail
      go_ret
      exact ⟨rfl, hbw⟩
end Go.Proofs.YtedhjjlnionckaaDoor
