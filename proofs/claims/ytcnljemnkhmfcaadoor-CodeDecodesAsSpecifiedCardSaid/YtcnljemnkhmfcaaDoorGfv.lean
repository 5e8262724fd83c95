/-
  Contracts of stage 4: vectors that a closure builds byte by byte; Sum, Scale, Combine.
-/
import Derived.Test.YtcnljemnkhmfcaaDoorGfa
namespace Go.Proofs.YtcnljemnkhmfcaaDoor
set_option linter.unusedVariables false
set_option linter.unusedSimpArgs false
open Go.RowKit

theorem u8_xor_bv (x y : UInt8) : bits .xor .u8 (x.toNat : Int) (y.toNat : Int) = ((x ^^^ y).toNat : Int) := by
  have hx := UInt8.toNat_lt x
  have hy := UInt8.toNat_lt y
  rw [u8_xor_nat _ _ (by omega) (by omega), UInt8.toNat_xor]
theorem one_u8 (b : UInt8) : ∀ u ∈ (bv b).cells.toList, u.oneCell' = true := one_int .u8 _

set_option maxRecDepth 100000 in
set_option maxHeartbeats 1000000 in
/-- vector(n, at), where at is a closure that returns F i and draws orders at most. -/
theorem vector_of (f n : Nat) (cap : List Value) (F : Nat → UInt8) (w : World) (hn : n ≤ 140737488355328) (hcf : ∀ (args : Array Value) (W : World), (callFunc f args).run Tryd.prog W = .ok (.enter f args) W)
    (HG : ∀ i, i < n → ∀ W, Below w.heap.size w W → Calls Tryd.prog f (Value.int .i64 i :: cap).toArray W fun e W' => e = .returned (bv (F i)) ∧ ∃ k, W' = W.drewN k) :
    Calls Tryd.prog 53 #[.int .i64 n, .func (.func f) #[] cap.toArray] w fun e w' => e = .returned (sv ((List.range n).map F)) ∧ Below w.heap.size w w' := by
  obtain ⟨Y, hY⟩ : ∃ Y, Y = (List.range n).map F := ⟨_, rfl⟩
  have hYl : Y.length = n := by rw [hY]; simp
  have hYg : Hid (∀ i, i < n → Y[i]? = some (F i)) := fun i hi => by rw [hY]; simp [hi]
  rw [← hY]
  clear hY
  obtain ⟨W1, hW1⟩ : ∃ W1, W1 = w.alloc (.cells (madeCells #[.int .u8 0] n) 5) := ⟨_, rfl⟩
  have hB1 : Hid (Below w.heap.size w W1) := by show Below _ _ _; rw [hW1]; exact (Below.refl _ _).alloc (Nat.le_refl _) _
  have hK1 : Hid (Blk W1 w.heap.size (fill Y 0) 5) := by
    show Blk _ _ _ _
    rw [hW1, made_zeros, fill_zero, hYl]
    exact Blk.new _ _ _
  have hmk := run_make_row' (P := Tryd.prog) 57 5 (.int .u8 0) 1 Tryd.underlying57 infoByte rfl .i64 .i64 n (by omega) (by omega) w
  rw [← hW1] at hmk
  have hYl' := Lib.hid hYl
  have HG' := Lib.hid HG
  clear HG hYl
  go_enter Tryd.func53, Tryd.ntmps53
  go_wp2_with fail
  rw [← hW1]
  clear hW1 hmk
  go_loopw [10] (fun i wr => ∃ k : Nat, k ≤ n ∧ i = .int .i64 k ∧ Blk wr w.heap.size (fill Y k) 5 ∧ Below w.heap.size w wr) (fun i _ => n - (intOf i).toNat)
  case atStart => exact ⟨0, by omega, rfl, hK1.out, hB1.out⟩
  case round =>
    obtain ⟨k, hk, rfl, hK0, hB⟩ := hrel
    have hK := Lib.hid hK0
    clear hK0
    by_cases hlt : k < n
    · have t : (k : Int) < (n : Int) := by omega
      have t0 : 0 ≤ (k : Int) := by omega
      have H1 := Lib.hid (HG'.out k hlt wr hB)
      have hy := Lib.hid (hYg.out k hlt)
      generalize F k = z at H1 hy
      go_wp2_with fail
      refine H1.out.mono ?_
      rintro e w2 ⟨rfl, m, rfl⟩
      have hK2 : Hid (Blk (wr.drewN m) w.heap.size (fill Y k) 5) := hK.out
      have hB2 : Hid (Below w.heap.size w (wr.drewN m)) := below_drewN hB m
      have hfl : Hid ((fill Y k).length = n) := by show _ = _; rw [fill_len Y k (by rw [hYl'.out]; exact hk), hYl'.out]
      go_wp2_with (refine wpList_blk_store rfl 5 _ _ rfl k (bv z) rfl rfl hK2.out size_u8 (by rw [hfl.out]; exact hlt) (one_u8 z) ?_; intro w3 hw3 ho3)
      have hK3 : Blk w3 w.heap.size (fill Y (k + 1)) 5 := by
        have := hw3.out
        rw [show (bv z).cells.toList = [bv z] from rfl, fill_next Y k z hy.out] at this
        exact this
      have hB3 : Below w.heap.size w w3 := hB2.out.trans (ho3.below (Nat.le_refl _))
      go_roundw
      case rel => exact ⟨k + 1, by omega, by go_num, hK3, hB3⟩
      case measure => simp [intOf]; omega
    · have t : ¬ (k : Int) < (n : Int) := by omega
      have hkn : k = n := by omega
      have hrd : Rds wr wr.heap.size (some ⟨w.heap.size, 0, none⟩) (Y.map bv) := by
        have h := hK.out.rds 0 n
        rw [fill_all Y k (by rw [hYl'.out, hkn]; exact Nat.le_refl _), List.drop_zero, List.take_of_length_le (by rw [List.length_map, hYl'.out]; exact Nat.le_refl _)] at h
        exact h
      have hc := run_bytes_bs (P := Tryd.prog) wr 57 9 5 Tryd.underlying57 Tryd.underlying5 Tryd.underlying9 n hrd
      rw [hYl'.out] at hc
      go_wp2_with fail
      go_ret
      exact ⟨rfl, hB⟩

set_option maxRecDepth 100000 in
theorem hcf_sum1 (args : Array Value) (W : World) : (callFunc 54 args).run Tryd.prog W = .ok (.enter 54 args) W := by
  first
    | rfl
    | (with_unfolding_all rfl)
    | kernel_rfl
set_option maxRecDepth 100000 in
theorem hcf_comb1 (args : Array Value) (W : World) : (callFunc 80 args).run Tryd.prog W = .ok (.enter 80 args) W := by
  first
    | rfl
    | (with_unfolding_all rfl)
    | kernel_rfl

theorem sv_get {l : List UInt8} {k : Nat} {z : UInt8} (h : l[k]? = some z) : ∀ (hk : k < (bs l).size), (bs l)[k]'hk = z := bs_get ((bs_at l k).trans h)
theorem getD_of {l : List UInt8} {k : Nat} {z : UInt8} (h : l[k]? = some z) : l.getD k 0 = z := by rw [List.getD_eq_getElem?_getD, h]; rfl

set_option maxRecDepth 100000 in
set_option maxHeartbeats 1000000 in
theorem sum1_any (a b : List UInt8) (i ga gb : Nat) (w : World) (hi : i < a.length) (ha : Blk w ga [sv a] 9) (hb : Blk w gb [sv b] 9) :
    Calls Tryd.prog 54 #[.int .i64 i, .pointer (some ⟨gb, 0, none⟩), .pointer (some ⟨ga, 0, none⟩)] w fun e w' => e = .returned (bv (a.getD i 0 ^^^ b.getD i 0)) ∧ ∃ k, w' = w.drewN k := by
  have hca : w.cell? ⟨ga, 0, none⟩ = some (sv a) := ha.cell rfl
  have hcb : w.cell? ⟨gb, 0, none⟩ = some (sv b) := hb.cell rfl
  have sa := bs_size a
  have sb := bs_size b
  obtain ⟨x, hx⟩ : ∃ x, a[i]? = some x := ⟨_, List.getElem?_eq_getElem hi⟩
  have gx := sv_get hx
  rw [getD_of hx]
  have ta : i < (bs a).size := by omega
  have ta' : (i : Int) < (bs a).size := by omega
  have t0 : 0 ≤ (i : Int) := by omega
  by_cases hib : i < b.length
  · obtain ⟨y, hy⟩ : ∃ y, b[i]? = some y := ⟨_, List.getElem?_eq_getElem hib⟩
    have gy := sv_get hy
    rw [getD_of hy]
    have tb : i < (bs b).size := by omega
    have tb' : (i : Int) < (bs b).size := by omega
    have hxy := u8_xor_bv x y
    have qa : ∀ x : ExtOf w.drew, x.world.cell? ⟨ga, 0, none⟩ = some (sv a) := fun x => (ha.drew.below x.ext ha.lt).cell rfl
    have qb : ∀ x : ExtOf w.drew, x.world.cell? ⟨gb, 0, none⟩ = some (sv b) := fun x => (hb.drew.below x.ext hb.lt).cell rfl
    unfold sv at hca hcb qa qb
    generalize x ^^^ y = z at hxy
    generalize bs a = A at *
    generalize bs b = B at *
    clear hx hy sa sb hib hi ha hb
    unfold bv
    go_enter Tryd.func54, Tryd.ntmps54
    go_wp2_with fail
    refine wp_region_planL 99 [(true, 0), (true, 1), (true, 2), (true, 3), (true, 4), (true, 5), (true, 6), (true, 7)] (by kernel_rfl) (by decide) (by kernel_rfl) (by kernel_rfl) (by kernel_rfl) (by decide) (by intro c a d v w h; cases d <;> exact h) ?_
    change wpPlanL _ _ _ _ _ _ w.drew
    iterate 8 (refine wpPlanL_plain rfl (fun K hK => ?_); go_simp; refine hK _ ?_; clear hK K)
    refine wpPlanL_nil ?_
    go_wp2_with fail
    go_ret
    exact ⟨rfl, 1, rfl⟩
  · have hgb : b.getD i 0 = 0 := by rw [List.getD_eq_getElem?_getD, List.getElem?_eq_none (by omega)]; rfl
    rw [hgb, UInt8.xor_zero]
    have tb' : ¬ (i : Int) < (bs b).size := by omega
    unfold sv at hca hcb
    generalize bs a = A at *
    generalize bs b = B at *
    clear hx sa sb hib hi ha hb hgb
    unfold bv
    go_enter Tryd.func54, Tryd.ntmps54
    go_wp2_with fail
    go_ret
    exact ⟨rfl, 0, rfl⟩

set_option maxRecDepth 100000 in
set_option maxHeartbeats 1000000 in
theorem sum_ge (a b : List UInt8) (w : World) (hl : b.length ≤ a.length) (hn : a.length ≤ 140737488355328) :
    Calls Tryd.prog 30 #[sv a, sv b] w fun e w' => e = .returned (sv (Gf.vsum a b)) ∧ Below w.heap.size w w' := by
  have sa := bs_size a
  have sb := bs_size b
  obtain ⟨W2, hW2⟩ : ∃ W2, W2 = (w.alloc (.cells #[sv a] 9)).alloc (.cells #[sv b] 9) := ⟨_, rfl⟩
  have hs2 : W2.heap.size = w.heap.size + 2 := by rw [hW2]; simp
  have hB2 : Hid (Below w.heap.size w W2) := by show Below _ _ _; rw [hW2]; exact ((Below.refl _ _).alloc (Nat.le_refl _) _).alloc (by simp) _
  have hA2 : Blk W2 w.heap.size [sv a] 9 := by rw [hW2]; exact (Blk.new _ [_] _).alloc _
  have hb2 : Blk W2 (w.heap.size + 1) [sv b] 9 := by rw [hW2]; exact (Blk.new _ [_] _).at (by simp)
  have hv : (List.range a.length).map (fun i => a.getD i 0 ^^^ b.getD i 0) = Gf.vsum a b := by unfold Gf.vsum; rw [Nat.max_eq_left hl]
  have HV := Lib.hid (vector_of 54 a.length [.pointer (some ⟨w.heap.size + 1, 0, none⟩), .pointer (some ⟨w.heap.size, 0, none⟩)] (fun i => a.getD i 0 ^^^ b.getD i 0) W2 hn hcf_sum1 (fun i hi W hB => sum1_any a b i w.heap.size (w.heap.size + 1) W hi (hA2.below hB hA2.lt) (hb2.below hB hb2.lt)))
  rw [hv] at HV
  have t : ¬ ((bs a).size : Int) < (bs b).size := by omega
  have hW2' := Lib.hid hW2
  have hs2' := Lib.hid hs2
  generalize Gf.vsum a b = V at HV
  have sa' : ((bs a).size : Int) = (a.length : Int) := by omega
  have hmf : ∀ (fn : Fn) (first cap : Array Value) (w : World), (Instr.makeFunc fn first cap).run Tryd.prog w = .ok (.func fn first cap) w := fun _ _ _ _ => rfl
  unfold sv at hW2' HV ⊢
  generalize bs a = A at *
  generalize bs b = B at *
  clear sa sb hW2 hs2 hA2 hb2 hv hl hn
  go_enter Tryd.func30, Tryd.ntmps30
  go_wp2_with fail
  generalize hg : (w.alloc _).alloc _ = Wg
  have hgW : W2 = Wg := by rw [← hg, hW2'.out]
  clear hg hW2'
  subst hgW
  refine HV.out.mono ?_
  rintro e w5 ⟨rfl, hb5⟩
  go_wp2_with fail
  go_ret
  exact ⟨rfl, hB2.out.trans (hb5.mono (by rw [hs2'.out]; omega))⟩

set_option maxRecDepth 100000 in
set_option maxHeartbeats 1000000 in
theorem sum_any (a b : List UInt8) (w : World) (ha : a.length ≤ 140737488355328) (hb : b.length ≤ 140737488355328) :
    Calls Tryd.prog 30 #[sv a, sv b] w fun e w' => e = .returned (sv (Gf.vsum a b)) ∧ Below w.heap.size w w' := by
  by_cases hl : b.length ≤ a.length
  · exact sum_ge a b w hl ha
  have sa := bs_size a
  have sb := bs_size b
  obtain ⟨W2, hW2⟩ : ∃ W2, W2 = (w.alloc (.cells #[sv a] 9)).alloc (.cells #[sv b] 9) := ⟨_, rfl⟩
  have hs2 : W2.heap.size = w.heap.size + 2 := by rw [hW2]; simp
  have hB2 : Hid (Below w.heap.size w W2) := by show Below _ _ _; rw [hW2]; exact ((Below.refl _ _).alloc (Nat.le_refl _) _).alloc (by simp) _
  have HS := Lib.hid (sum_ge b a W2 (by omega) hb)
  rw [Gf.vsum_comm b a] at HS
  have t : ((bs a).size : Int) < (bs b).size := by omega
  have hW2' := Lib.hid hW2
  have hs2' := Lib.hid hs2
  generalize Gf.vsum a b = V at HS
  unfold sv at hW2' HS ⊢
  generalize bs a = A at *
  generalize bs b = B at *
  clear sa sb hW2 hs2 ha hb hl
  go_enter Tryd.func30, Tryd.ntmps30
  go_wp2_with fail
  generalize hg : (w.alloc _).alloc _ = Wg
  have hgW : W2 = Wg := by rw [← hg, hW2'.out]
  clear hg hW2'
  subst hgW
  refine HS.out.mono ?_
  rintro e w5 ⟨rfl, hb5⟩
  go_wp2_with fail
  go_ret
  exact ⟨rfl, hB2.out.trans (hb5.mono (by rw [hs2'.out]; omega))⟩

end Go.Proofs.YtcnljemnkhmfcaaDoor
