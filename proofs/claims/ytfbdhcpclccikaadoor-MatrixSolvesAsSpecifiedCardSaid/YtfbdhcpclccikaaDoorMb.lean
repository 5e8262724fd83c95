/-
  Contracts of stage 5: build.
-/
import Derived.Test.YtfbdhcpclccikaaDoorMo
namespace Go.Proofs.YtfbdhcpclccikaaDoor
set_option linter.unusedVariables false
set_option linter.unusedSimpArgs false
open Go.RowKit

theorem infoRow : (Tryd.prog.info? 43).map (fun i => (i.zero, i.size, i.bytes)) = some (some (.slice none 0 0), 1, 24) := by kernel_rfl
theorem size_row : (Tryd.prog.info? 43).map (·.size) = some 1 := by kernel_rfl
theorem one_slice (A : Option Addr) (n c : Nat) : ∀ u ∈ (Value.slice A n c).cells.toList, u.oneCell' = true := by
  intro u hu
  have hu' : u ∈ [Value.slice A n c] := hu
  rw [List.mem_singleton.1 hu']
  rfl
theorem made_nils (n : Nat) : madeCells #[Value.slice none 0 0] n = (List.replicate n (Value.slice none 0 0)).toArray := by
  unfold madeCells
  apply Array.ext'
  simp [Nat.mod_one]
  apply List.ext_getElem <;> simp
theorem zeros_row (n : Nat) : (List.replicate n (Value.int .u8 0)) = (List.replicate n (0 : UInt8)).map bv := by
  rw [List.map_replicate]; rfl
/-- What a call that builds a matrix ends with. -/
def MatEnd (w : World) (rows : Nat) (M : List (List UInt8)) (e : Ending) (w' : World) : Prop :=
  (∃ g bs, e = .returned (.slice (some ⟨g, 0, none⟩) rows rows) ∧ Om w' w.heap.size g bs M []) ∧ Below w.heap.size w w'
theorem size_int5 : (Tryd.prog.info? 3).map (·.size) = some 1 := by kernel_rfl

set_option maxRecDepth 100000 in
/-- The closure of build, by that of its caller. -/
theorem build1_of (f : Nat) (cap : List Value) (i j ab ib : Nat) (z : UInt8) (w : World) (hcf : ∀ (args : Array Value) (W : World), (callFunc f args).run Tryd.prog W = .ok (.enter f args) W)
    (ha : w.cell? ⟨ab, 0, none⟩ = some (.func (.func f) #[] cap.toArray)) (hi : w.cell? ⟨ib, 0, none⟩ = some (.int .i64 i))
    (HG : Calls Tryd.prog f (Value.int .i64 i :: .int .i64 j :: cap).toArray w fun e W' => e = .returned (bv z) ∧ ∃ k, W' = w.drewN k) :
    Calls Tryd.prog 99 #[.int .i64 j, .pointer (some ⟨ab, 0, none⟩), .pointer (some ⟨ib, 0, none⟩)] w fun e W' => e = .returned (bv z) ∧ ∃ k, W' = w.drewN k := by
  have HG' := Lib.hid HG
  clear HG
  go_enter Tryd.func99, Tryd.ntmps99
  go_wp2_with fail
  refine HG'.out.mono ?_
  rintro e w' ⟨rfl, k, rfl⟩
  go_wp2_with fail
  go_ret
  exact ⟨rfl, k, rfl⟩

set_option maxRecDepth 100000 in
set_option maxHeartbeats 2000000 in
theorem build_of (f : Nat) (cap : List Value) (F : Nat → Nat → UInt8) (rows cols : Nat) (w : World) (hr : rows ≤ 1000000) (hc : cols ≤ 1000000) (hcf : ∀ (args : Array Value) (W : World), (callFunc f args).run Tryd.prog W = .ok (.enter f args) W)
    (HG : ∀ i j, i < rows → j < cols → ∀ W, Below w.heap.size w W → Calls Tryd.prog f (Value.int .i64 i :: .int .i64 j :: cap).toArray W fun e W' => e = .returned (bv (F i j)) ∧ ∃ k, W' = W.drewN k) :
    Calls Tryd.prog 67 #[.int .i64 rows, .int .i64 cols, .func (.func f) #[] cap.toArray] w (MatEnd w rows (matF F rows cols)) := by
  obtain ⟨W2, hW2⟩ : ∃ W2, W2 = (w.alloc (.cells #[.func (.func f) #[] cap.toArray] 98)).alloc (.cells (madeCells #[.slice none 0 0] rows) 43) := ⟨_, rfl⟩
  have hB2 : Hid (Below w.heap.size w W2) := by show Below _ _ _; rw [hW2]; exact ((Below.refl _ _).alloc (Nat.le_refl _) _).alloc (by simp) _
  have hs2 : W2.heap.size = w.heap.size + 2 := by rw [hW2]; simp
  have hA2 : Hid (Blk W2 w.heap.size [.func (.func f) #[] cap.toArray] 98) := by show Blk _ _ _ _; rw [hW2]; exact (Blk.new _ [_] _).alloc _
  have hO2 : Hid (Om W2 w.heap.size (w.heap.size + 1) [] (matF F 0 cols) (List.replicate rows (.slice none 0 0))) := by
    show Om _ _ _ _ _ _
    refine Om.fresh (by omega) ?_
    rw [hW2, made_nils]
    exact (Blk.new _ _ _).at (by simp)
  have hmk := run_make_row' (P := Tryd.prog) 22 43 (.slice none 0 0) 24 Tryd.underlying22 infoRow rfl .i64 .i64 rows (by omega) (by omega) (w.alloc (.cells #[.func (.func f) #[] cap.toArray] 98))
  rw [← hW2] at hmk
  have hs1 : (w.alloc (.cells #[.func (.func f) #[] cap.toArray] 98)).heap.size = w.heap.size + 1 := by simp
  rw [hs1] at hmk
  have HG' := Lib.hid HG
  have hs2' := Lib.hid hs2
  have hmf : ∀ (fn : Fn) (first cap : Array Value) (w : World), (Instr.makeFunc fn first cap).run Tryd.prog w = .ok (.func fn first cap) w := fun _ _ _ _ => rfl
  clear hs1 HG hs2 hW2
  go_enter Tryd.func67, Tryd.ntmps67
  go_wp2_with fail
  go_loopw [13] (fun i wr => ∃ (k : Nat) (bs : List Nat), k ≤ rows ∧ i = .int .i64 k ∧ Below w.heap.size w wr ∧ Blk wr w.heap.size [.func (.func f) #[] cap.toArray] 98 ∧ Om wr w.heap.size (w.heap.size + 1) bs (matF F k cols) (List.replicate (rows - k) (.slice none 0 0))) (fun i _ => rows - (intOf i).toNat)
  case atStart => exact ⟨0, [], by omega, rfl, hB2.out, hA2.out, hO2.out⟩
  case round =>
    obtain ⟨k, bs, hk, rfl, hB0, hA0, hO0⟩ := hrel
    have hB := Lib.hid hB0
    have hA := Lib.hid hA0
    have hO := Lib.hid hO0
    clear hB0 hA0 hO0
    by_cases hlt : k < rows
    · have t : (k : Int) < (rows : Int) := by omega
      have t0 : 0 ≤ (k : Int) := by omega
      -- the box of the row's number
      obtain ⟨W4, hW4⟩ : ∃ W4, W4 = wr.alloc (.cells #[.int .i64 k] 3) := ⟨_, rfl⟩
      have hB4 : Hid (Below wr.heap.size wr W4) := by show Below _ _ _; rw [hW4]; exact (Below.refl _ _).alloc (Nat.le_refl _) _
      have hs4 : Hid (W4.heap.size = wr.heap.size + 1) := by show _ = _; rw [hW4]; simp
      have hI4 : Hid (Blk W4 wr.heap.size [.int .i64 k] 3) := by show Blk _ _ _ _; rw [hW4]; exact Blk.new _ [_] _
      have hW4' := Lib.hid hW4
      clear hW4
      -- the new row, of zeros
      obtain ⟨W5, hW5⟩ : ∃ W5, W5 = W4.drew.alloc (.cells (madeCells #[.int .u8 0] cols) 5) := ⟨_, rfl⟩
      have hb5 : Hid (Below W4.drew.heap.size W4.drew W5) := by show Below _ _ _; rw [hW5]; exact (Below.refl _ _).alloc (Nat.le_refl _) _
      have hZ5 : Hid (Blk W5 W4.heap.size ((List.replicate cols (0 : UInt8)).map bv) 5) := by
        show Blk _ _ _ _
        rw [hW5, made_zeros, zeros_row]
        exact Blk.new _ _ _
      have hmk2 := run_make_row' (P := Tryd.prog) 43 5 (.int .u8 0) 1 Tryd.underlying43 infoByte rfl .i64 .i64 cols (by omega) (by omega) W4.drew
      rw [← hW5] at hmk2
      have hsz : Hid (W4.drew.heap.size = W4.heap.size) := rfl
      rw [hsz.out] at hmk2
      have hB45 : Hid (Below wr.heap.size wr W5) := hB4.out.trans (Below.mono (show Below W4.heap.size W4 W5 from ⟨hb5.out.os, hb5.out.tape, hb5.out.output, hb5.out.size, hb5.out.block⟩) hB4.out.size)
      have hO5 := Lib.hid (hO.out.keep hB45.out)
      have hI5 := Lib.hid (hI4.out.drew.below hb5.out hI4.out.drew.lt)
      have hA5 := Lib.hid (hA.out.below hB45.out hA.out.lt)
      have hlen5 : Hid (k + 1 ≤ (rvals bs (matF F k cols) ++ List.replicate (rows - k) (Value.slice none 0 0)).length) := by
        show _ ≤ _
        rw [List.length_append, rvals_len hO.out.len, matF_len, List.length_replicate]
        omega
      have hbsl : Hid (∀ x ∈ bs, x < wr.heap.size) := fun x hx => by
        obtain ⟨j, hj⟩ := List.getElem?_of_mem hx
        have hjl := (List.getElem?_eq_some_iff.1 hj).1
        exact (hO.out.row j x _ hj (List.getElem?_eq_getElem (by rw [← hO.out.len]; exact hjl))).lt
      have hgl : Hid (w.heap.size + 1 < wr.heap.size) := hO.out.out.lt
      clear hW5
      have z1 : ∀ z : ExtOf W4.drew, z.world.cell? ⟨wr.heap.size, 0, none⟩ = some (.int .i64 k) := fun z => (hI4.out.drew.below z.ext hI4.out.drew.lt).cell rfl
      go_wp2_with fail
      generalize hg : wr.alloc _ = Wg
      have hgW : W4 = Wg := by rw [← hg, hW4'.out]
      clear hg hW4'
      subst hgW
      refine wp_region_planL 5 [(true, 0), (true, 1), (true, 2), (false, 3), (true, 4), (false, 5)] (by kernel_rfl) (by decide) (by kernel_rfl) (by kernel_rfl) (by kernel_rfl) (by decide) (by intro c a d v w h; cases d <;> exact h) ?_
      change wpPlanL _ _ _ _ _ _ W4.drew
      iterate 3 (refine wpPlanL_plain rfl (fun K hK => ?_); go_simp; refine hK _ ?_; clear hK K)
      clear z1
      refine wpPlanL_call rfl (fun K hK => ?_)
      go_wp2_with fail
      refine planPostL_normal ⟨.inr hb5.out, hK _ _ ?_⟩
      clear hK K hmk2
      iterate 1 (refine wpPlanL_plain rfl (fun K hK => ?_); go_simp; refine hK _ ?_; clear hK K)
      refine wpPlanL_call rfl (fun K hK => ?_)
      refine wpList_blk_store rfl 43 _ _ rfl k (.slice (some ⟨W4.heap.size, 0, none⟩) cols cols) rfl rfl hO5.out.out size_row hlen5.out (one_slice _ _ _) ?_
      intro W6 hW6 ho6
      refine wpList_end (planPostL_normal ⟨.inl rfl, hK _ _ ?_⟩)
      clear hK K
      refine wpPlanL_nil ?_
      have hs4' := hs4.out
      have hnin : W4.heap.size ∉ bs := fun hh => by have := hbsl.out _ hh; omega
      have hgne : W4.heap.size ≠ w.heap.size + 1 := by have := hgl.out; omega
      have hrep : List.replicate (rows - k) (Value.slice none 0 0) = Value.slice none 0 0 :: List.replicate (rows - (k + 1)) (.slice none 0 0) := by
        rw [show rows - k = (rows - (k + 1)) + 1 by omega, List.replicate_succ]
      have hO6 := Lib.hid (Om.push (b := W4.heap.size) (m := List.replicate cols (0 : UInt8)) (by have := hO5.out; rw [hrep] at this; exact this) ho6 (by
        have := hW6.out
        rw [hrep] at this
        rw [matF_len, List.length_replicate]
        exact this) (hZ5.out.only ho6 hgne) (by have := hB.out.size; omega) hgne hnin (by rw [List.length_replicate]; unfold maxLen; omega))
      have hI6 := Lib.hid (hI5.out.only ho6 (by have := hgl.out; omega))
      have hA6 := Lib.hid (hA5.out.only ho6 (by omega))
      have hB6 : Hid (Below w.heap.size w W6) := (hB.out.trans (hB45.out.mono hB.out.size)).trans (ho6.below (by omega))
      obtain ⟨b, hb, _, hbb, hcb, hkb⟩ := hO6.out.at (i := k) (m := List.replicate cols (0 : UInt8)) (by rw [List.getElem?_append_right (by rw [matF_len]; exact Nat.le_refl _), matF_len, Nat.sub_self]; rfl)
      have hbe : b = W4.heap.size := by
        have hbl : bs.length = k := by rw [hO.out.len, matF_len]
        rw [List.getElem?_append_right (by omega), hbl, Nat.sub_self] at hb
        exact (Option.some.inj hb).symm
      subst hbe
      rw [List.length_replicate] at hcb
      have c1 : W6.cell? ⟨wr.heap.size, 0, none⟩ = some (.int .i64 k) := hI6.out.cell rfl
      have FILL := Lib.hid (fill_of 99 [.pointer (some ⟨w.heap.size, 0, none⟩), .pointer (some ⟨wr.heap.size, 0, none⟩)] (F k) W4.heap.size (List.replicate cols (0 : UInt8)) cols W6 (by rw [List.length_replicate]; omega) hkb (enter_of Tryd.func99 (by kernel_rfl) (by kernel_rfl)) (fun j hj W hOn _ => by
        rw [List.length_replicate] at hj
        have hne1 : w.heap.size ≠ W4.heap.size := by have := hgl.out; omega
        exact build1_of f cap k j w.heap.size wr.heap.size (F k j) W hcf ((hA6.out.only hOn hne1).cell rfl) ((hI6.out.only hOn (by omega)).cell rfl) (HG'.out k j hlt hj W (hB6.out.trans (hOn.below (by have := hgl.out; omega))))))
      have hb' := Lib.hid hb
      rw [List.length_replicate] at FILL
      clear hb hkb hbb hW6 hrep hO5 hI5 hA5 hZ5 hB45 hb5 hlen5 hnin hgne ho6 hs4'
      go_wp2_with fail
      refine FILL.out.mono ?_
      rintro e w7 ⟨rfl, ho7, hk7⟩
      have hO7 : Om w7 w.heap.size (w.heap.size + 1) (bs ++ [W4.heap.size]) (matF F (k + 1) cols) (List.replicate (rows - (k + 1)) (.slice none 0 0)) := by
        have h := hO6.out.setRow (i := k) (m := List.replicate cols (0 : UInt8)) hb'.out (by rw [List.getElem?_append_right (by rw [matF_len]; exact Nat.le_refl _), matF_len, Nat.sub_self]; rfl) ho7 hk7 (by rw [rowF_len, List.length_replicate])
        rw [List.set_append_right _ _ (by rw [matF_len]; exact Nat.le_refl _), matF_len, Nat.sub_self] at h
        rw [matF_succ]
        exact h
      have hA7 : Blk w7 w.heap.size [.func (.func f) #[] cap.toArray] 98 := hA6.out.only ho7 (by have := hgl.out; have := hs4.out; omega)
      have hB7 : Below w.heap.size w w7 := hB6.out.trans (ho7.below (by have := hgl.out; have := hs4.out; omega))
      clear FILL hk7 ho7 hO6 hI6 hA6 hB6 c1 hcb
      have hO7' := Lib.hid hO7
      have hA7' := Lib.hid hA7
      have hB7' := Lib.hid hB7
      clear hO7 hA7 hB7
      go_wp2_with fail
      go_roundw
      case rel => exact ⟨k + 1, _, by omega, by go_num, hB7'.out, hA7'.out, hO7'.out⟩
      case measure => simp [intOf]; omega
    · have t : ¬ (k : Int) < (rows : Int) := by omega
      have hfin : Hid (Om wr w.heap.size (w.heap.size + 1) bs (matF F rows cols) []) := by
        have h := hO.out
        rw [show k = rows by omega, Nat.sub_self] at h
        exact h
      go_wp2_with fail
      go_ret
      exact ⟨⟨_, _, rfl, hfin.out⟩, hB.out⟩
end Go.Proofs.YtfbdhcpclccikaaDoor
