/-
  Contracts of stage 5: the reference's solutions. (Written by tools/genmry.py.)
-/
import Derived.Test.YtfbdhcpclccikaaDoorMrvx
namespace Go.Proofs.YtfbdhcpclccikaaDoor
set_option linter.unusedVariables false
set_option linter.unusedSimpArgs false
open Go.RowKit

set_option maxRecDepth 100000 in
set_option maxHeartbeats 16000000 in
theorem solutions_any (M : List (List UInt8)) (b : List UInt8) (A Ab : Option Addr) (c cb m n : Nat) (w : World) (h : Mat w w.heap.size A M) (hb : Rds w w.heap.size Ab (b.map bv)) (hm : M.length = m) (hbl : b.length = m) (hre : Rect M n) (hl : m ≤ 100000) (hn : n ≤ 10000) :
    Calls Tryd.prog 81 #[.slice A m c, .slice Ab m cb, .int .i64 n] w (SolvedEnd w (rsX (sysM M b) n) (rsK (sysM M b) n) (rsE (sysM M b) n)) := by
  obtain ⟨dd, hdu, hdr⟩ := row_sol
  have hdu' := Lib.hid hdu
  obtain ⟨W1, hW1⟩ : ∃ W1, W1 = w.alloc (.cells #[.slice none 0 0, .slice none 0 0, .int .i64 0] 47) := ⟨_, rfl⟩
  have hB1 : Hid (Below w.heap.size w W1) := by show Below _ _ _; rw [hW1]; exact (Below.refl _ _).alloc (Nat.le_refl _) _
  have hR1 : Hid (Blk W1 w.heap.size [.slice none 0 0, .slice none 0 0, .int .i64 0] 47) := by show Blk _ _ _ _; rw [hW1]; exact Blk.new _ [_, _, _] _
  have hs1 : Hid (w.heap.size < W1.heap.size) := hR1.out.lt
  have hW1' := Lib.hid hW1
  have hM1 : Hid (Mat W1 W1.heap.size A M) := (h.below hB1.out).more hB1.out.size
  have hV1 : Hid (Rds W1 W1.heap.size Ab (b.map bv)) := (hb.below hB1.out).more hB1.out.size
  obtain ⟨S, hS⟩ : ∃ S, S = sysM M b := ⟨_, rfl⟩
  rw [← hS]
  have hSr : Hid (Rect S (n + 1)) := by rw [hS]; exact sysM_rect hre b
  have hSl : Hid (S.length = m) := by show _ = _; rw [hS, sysM_len, hm]
  have hSg : Hid (∀ k x y, M[k]? = some x → b[k]? = some y → S.take (k + 1) = S.take k ++ [x ++ [y]]) := fun k x y hx hy => by
    refine take_snoc ?_
    have hk := (List.getElem?_eq_some_iff.1 hx).1
    rw [hS]
    unfold sysM
    rw [sysK_get, hx, List.getD_eq_getElem?_getD, hy]
    simp [hk]
  have hre' := Lib.hid hre
  have hm' := Lib.hid hm
  have hbl' := Lib.hid hbl
  have hS' := Lib.hid hS
  clear hdu hW1 h hb hm hbl hre hS
  go_enter Tryd.func81, Tryd.ntmps81
  go_wp2_with fail
  generalize hg : w.alloc _ = Wg
  have hgW : W1 = Wg := by rw [← hg, hW1'.out]
  clear hg hW1'
  subst hgW
  go_loopw [7, 8] (fun v i wr => ∃ k : Nat, k ≤ m ∧ i = .int .i64 k ∧ OwnQ w.heap.size wr W1.heap.size v (S.take k) ∧ Below W1.heap.size W1 wr) (fun _ i _ => m - (intOf i).toNat)
  case atStart => exact ⟨0, by omega, rfl, ownQ_nil _ _ _, Below.refl _ _⟩
  case round =>
    obtain ⟨k, hk, rfl, ho, hbw⟩ := hrel
    by_cases hlt : k < m
    · have t : (k : Int) < (m : Int) := by omega
      have t0 : 0 ≤ (k : Int) := by omega
      obtain ⟨mk, hmk⟩ : ∃ x, M[k]? = some x := ⟨_, List.getElem?_eq_getElem (by have := hm'.out; omega)⟩
      obtain ⟨bk, hbk⟩ : ∃ x, b[k]? = some x := ⟨_, List.getElem?_eq_getElem (by have := hbl'.out; omega)⟩
      have hmkl := hre'.out.at hmk
      obtain ⟨ad, vm, rfl, hab, hca, am, cm, rfl, hcm1, hcm2, hamn, hrm⟩ := hM1.out.at hmk
      obtain ⟨ab, rfl, hbb, hcb⟩ := hV1.out.look (k := k) (u := bv bk) (by rw [List.getElem?_map, hbk]; rfl)
      rw [hmkl] at hca hcm1
      have hgk := Lib.hid (hSg.out k mk bk hmk hbk)
      have CE : Hid (∀ W, Below W1.heap.size W1 W → W.cell? (ad.add k) = some (.slice am n cm) ∧ W.cell? (ab.add k) = some (.int .u8 bk.toNat)) := fun W hW =>
        ⟨(hW.cell (p := ad.add k) (by rw [add_block]; exact hab)).trans hca, (hW.cell (p := ab.add k) (by rw [add_block]; exact hbb)).trans hcb⟩
      have hrm' := Lib.hid hrm
      have hamn' := Lib.hid hamn
      have hmkl' := Lib.hid hmkl
      have hd : Hid (Below W1.heap.size W1 wr.drew) := hbw.drew
      have hod : Hid (OwnQ w.heap.size wr.drew W1.heap.size _ (S.take k)) := ho.keep ((Below.refl _ _).drew)
      have hln : (S.take k).length ≤ 1000000 := by rw [List.length_take]; omega
      obtain ⟨row, hrow⟩ : ∃ l, l = mk ++ [bk] := ⟨_, rfl⟩
      have hrowl : Hid (row.length = n + 1) := by show _ = _; rw [hrow]; simp; exact hmkl
      rw [← hrow] at hgk
      have hrow' := Lib.hid hrow
      clear hmk hbk hmkl hab hca hcm1 hcm2 hamn hrm hbb hcb ho hbw hrow
      go_wp2_with fail
      have hne : Nonempty (SOf fun W => W.cell? (ad.add k) = some (.slice am n cm) ∧ W.cell? (ab.add k) = some (.int .u8 bk.toNat)) := ⟨⟨wr.drew, CE.out _ hd.out⟩⟩
      refine wp_region_planH (fun W => W.cell? (ad.add k) = some (.slice am n cm) ∧ W.cell? (ab.add k) = some (.int .u8 bk.toNat)) [0, 2, 3, 4, 5, 7, 8, 9, 10] 7 (by kernel_rfl) (by kernel_rfl) (by kernel_rfl) (by kernel_rfl) (by intro c a d v w h; cases d <;> exact h) (CE.out _ hd.out) ?_
      change wpPlanH _ _ _ _ _ _ _ _ _ wr.drew
      have g0 : ∀ x : SOf (fun W : World => W.cell? (ad.add k) = some (.slice am n cm) ∧ W.cell? (ab.add k) = some (.int .u8 bk.toNat)), x.world.cell? (ad.add k) = some (.slice am n cm) := fun x => x.meets.1
      have g1 : ∀ x : SOf (fun W : World => W.cell? (ad.add k) = some (.slice am n cm) ∧ W.cell? (ab.add k) = some (.int .u8 bk.toNat)), x.world.cell? (ab.add k) = some (.int .u8 bk.toNat) := fun x => x.meets.2
      iterate 9 (refine wpPlanH_plain rfl (fun K hK => ?_); go_simp; refine hK _ ?_; clear hK K)
      clear g0 g1 hne
      generalize wr.drew = w4 at hd hod ⊢
      have hw4 : W1.heap.size ≤ w4.heap.size := hd.out.size
      have ONE : Hid (∀ W : World, Rds (W.alloc (.cells #[.int .u8 bk.toNat] 5)) (W.alloc (.cells #[.int .u8 bk.toNat] 5)).heap.size (some ⟨W.heap.size, 0, none⟩) ([bk].map bv) ∧ W.heap.size < (W.alloc (.cells #[.int .u8 bk.toNat] 5)).heap.size) := fun W => by
        have hB : Blk (W.alloc (.cells #[.int .u8 bk.toNat] 5)) W.heap.size [.int .u8 bk.toNat] 5 := Blk.new W [_] _
        have := hB.rds 0 1
        exact ⟨this, hB.lt⟩
      have ALO : Hid (∀ (W : World) (o : Obj), Below w4.heap.size w4 W → Below w4.heap.size w4 (W.alloc o)) := fun W o hW => hW.alloc hW.size o
      refine wpAnyH_each (rs := [1, 11]) (by kernel_rfl) (by decide) (fun K hK i hi => ?_)
      simp only [List.mem_cons, List.not_mem_nil, or_false] at hi
      rcases hi with rfl | rfl
      · refine wpOp_listed rfl ?_
        go_wp2_with fail
        have hb5 : Hid (Below w4.heap.size w4 (w4.alloc (.cells #[] 5))) := (Below.refl _ _).alloc (Nat.le_refl _) _
        refine postH_normal (hK _ _ _ (CE.out _ (hd.out.trans (hb5.out.mono hw4))) ?_)
        clear hK K
        have hO5 := Lib.hid (ownB_made w4 w4.heap.size (Nat.le_refl _))
        have hlt5 : Hid (w4.heap.size < (w4.alloc (.cells #[] 5)).heap.size) := by show _ < _; simp
        generalize w4.alloc (.cells #[] 5) = w5 at hb5 hO5 hlt5 ⊢
        refine wpAnyH_each (rs := [6, 11]) (by kernel_rfl) (by decide) (fun K hK i hi => ?_)
        simp only [List.mem_cons, List.not_mem_nil, or_false] at hi
        rcases hi with rfl | rfl
        · refine wpOp_listed rfl ?_
          refine push_bytesG rfl _ _ rfl w4.heap.size _ [] mk _ am n cm hmkl'.out.symm hamn'.out rfl rfl (hrm'.out.below (hd.out.trans (hb5.out.mono hw4))) hO5.out (by simp; have := hmkl'.out; omega) hb5.out.size ?_
          intro v6 w6 ho6 hb6 hg6 _
          have hB6 : Hid (Below w4.heap.size w4 w6) := hb5.out.trans hb6
          have hO6 : Hid (OwnB w6 w4.heap.size v6 mk) := by rw [List.nil_append] at ho6; exact ho6
          refine wpList_end (postH_normal (hK _ _ _ (CE.out _ (hd.out.trans (hB6.out.mono hw4))) ?_))
          clear hK K ho6 hb6 hg6 hO5 hb5
          refine wpAnyH_each (rs := [11]) (by kernel_rfl) (by decide) (fun K hK i hi => ?_)
          obtain rfl := List.mem_singleton.1 hi
          refine wpOp_listed rfl ?_
          go_wp2_with fail
          refine postH_normal (hK _ _ _ (CE.out _ (hd.out.trans ((ALO.out w6 _ hB6.out).mono hw4))) ?_)
          clear hK K
          have hBt := Lib.hid (ALO.out w6 (.cells #[.int .u8 bk.toNat] 5) hB6.out)
          have hOt : Hid (OwnB (w6.alloc (.cells #[.int .u8 bk.toNat] 5)) w4.heap.size v6 mk) := ownB_keep hO6.out ((Below.refl _ _).alloc (Nat.le_refl _) _)
          have hKt := Lib.hid (ONE.out w6)
          obtain ⟨gb, hgb⟩ : ∃ g, g = w6.heap.size := ⟨_, rfl⟩
          rw [← hgb] at hKt ⊢
          clear hgb hB6 hO6
          generalize w6.alloc (.cells #[.int .u8 bk.toNat] 5) = wt at hBt hOt hKt ⊢
          refine wpAnyH_each (rs := [12]) (by kernel_rfl) (by decide) (fun K hK i hi => ?_)
          obtain rfl := List.mem_singleton.1 hi
          refine wpOp_listed rfl ?_
          refine push_bytesG rfl _ _ rfl w4.heap.size _ mk [bk] _ (some ⟨gb, 0, none⟩) 1 1 rfl (fun hh => by cases hh) rfl rfl hKt.out.1 hOt.out (by simp; have := hmkl'.out; omega) hBt.out.size ?_
          intro v7 w7 ho7 hb7 _ _
          have hB7 : Hid (Below w4.heap.size w4 w7) := hBt.out.trans hb7
          rw [← hrow'.out] at ho7
          have hO7 := Lib.hid ho7
          refine wpList_end (postH_normal (hK _ _ _ (CE.out _ (hd.out.trans (hB7.out.mono hw4))) ?_))
          clear hK K ho7 hb7 hOt hBt hKt
          have hx4 : Hid (w.heap.size < w4.heap.size) := Nat.lt_of_lt_of_le hs1.out hw4
          have hoff := Lib.hid (own_off (x := w.heap.size) hO7.out hod.out hx4.out)
          have hod7 := Lib.hid (hod.out.keep hB7.out)
          obtain ⟨Av7, cv7, hv7, _⟩ := own_form hO7.out
          rw [hrowl.out] at hv7
          subst hv7
          refine wpAnyH_each (rs := [13]) (by kernel_rfl) (by decide) (fun K hK i hi => ?_)
          obtain rfl := List.mem_singleton.1 hi
          refine wpOp_listed rfl ?_
          go_wp2_with fail
          refine postH_normal (hK _ _ _ (CE.out _ (hd.out.trans ((ALO.out w7 _ hB7.out).mono hw4))) ?_)
          clear hK K
          refine wpAnyH_each (rs := [14]) (by kernel_rfl) (by decide) (fun K hK i hi => ?_)
          obtain rfl := List.mem_singleton.1 hi
          refine wpOp_listed rfl ?_
          refine push_q rfl _ _ rfl W1.heap.size _ (S.take k) row _ rfl rfl hod7.out hoff.out hln (Nat.le_trans hw4 hB7.out.size) ?_
          intro v8 w8 ho8 hb8 hg8
          have hB8 : Hid (Below W1.heap.size W1 w8) := (hd.out.trans (hB7.out.mono hw4)).trans hb8
          have hO8 := Lib.hid ho8
          refine wpList_end (postH_normal (hK _ _ _ (CE.out _ hB8.out) ?_))
          clear hK K ho8 hb8 hg8 hoff hod7 hO7 hB7 hod hd
          refine wpAnyH_each (rs := [15]) (by kernel_rfl) (by decide) (fun K hK i hi => ?_)
          obtain rfl := List.mem_singleton.1 hi
          refine wpOp_listed rfl ?_
          go_wp2_with fail
          refine postH_normal (hK _ _ _ (CE.out _ hB8.out) ?_)
          clear hK K
          refine wpAnyH_done (by kernel_rfl) ?_ _
          go_wp2_with fail
          go_roundw
          case rel => exact ⟨k + 1, by omega, by go_num, by rw [hgk.out]; exact hO8.out, hB8.out⟩
          case measure => simp [intOf]; omega
        · refine wpOp_listed rfl ?_
          go_wp2_with fail
          refine postH_normal (hK _ _ _ (CE.out _ (hd.out.trans ((ALO.out w5 _ hb5.out).mono hw4))) ?_)
          clear hK K
          have hB6 := Lib.hid (ALO.out w5 (.cells #[.int .u8 bk.toNat] 5) hb5.out)
          have hO6 : Hid (OwnB (w5.alloc (.cells #[.int .u8 bk.toNat] 5)) w4.heap.size (.slice (some ⟨w4.heap.size, 0, none⟩) 0 0) []) := ownB_keep hO5.out ((Below.refl _ _).alloc (Nat.le_refl _) _)
          have hKt0 := Lib.hid (ONE.out w5)
          obtain ⟨gb, hgb⟩ : ∃ g, g = w5.heap.size := ⟨_, rfl⟩
          have hgb5 : Hid (w4.heap.size < gb) := by show _ < _; rw [hgb]; exact hlt5.out
          rw [← hgb] at hKt0 ⊢
          clear hgb hb5 hO5
          generalize w5.alloc (.cells #[.int .u8 bk.toNat] 5) = w6 at hB6 hO6 hKt0 ⊢
          refine wpAnyH_each (rs := [6]) (by kernel_rfl) (by decide) (fun K hK i hi => ?_)
          obtain rfl := List.mem_singleton.1 hi
          refine wpOp_listed rfl ?_
          refine push_bytesG rfl _ _ rfl w4.heap.size _ [] mk _ am n cm hmkl'.out.symm hamn'.out rfl rfl (hrm'.out.below (hd.out.trans (hB6.out.mono hw4))) hO6.out (by simp; have := hmkl'.out; omega) hB6.out.size ?_
          intro v6 wt ho6 hb6 hg6 _
          have hBt : Hid (Below w4.heap.size w4 wt) := hB6.out.trans hb6
          have hOt : Hid (OwnB wt w4.heap.size v6 mk) := by rw [List.nil_append] at ho6; exact ho6
          have hKt : Hid (Rds wt wt.heap.size (some ⟨gb, 0, none⟩) ([bk].map bv) ∧ gb < wt.heap.size) := ⟨hKt0.out.1.apart hg6 (fun ad' ha' hh => by cases ha'; have := hgb5.out; have := Option.some.inj hh; simp only at this; omega), Nat.lt_of_lt_of_le hKt0.out.2 hb6.size⟩
          refine wpList_end (postH_normal (hK _ _ _ (CE.out _ (hd.out.trans (hBt.out.mono hw4))) ?_))
          clear hK K ho6 hb6 hg6 hO6 hB6 hKt0
          refine wpAnyH_each (rs := [12]) (by kernel_rfl) (by decide) (fun K hK i hi => ?_)
          obtain rfl := List.mem_singleton.1 hi
          refine wpOp_listed rfl ?_
          refine push_bytesG rfl _ _ rfl w4.heap.size _ mk [bk] _ (some ⟨gb, 0, none⟩) 1 1 rfl (fun hh => by cases hh) rfl rfl hKt.out.1 hOt.out (by simp; have := hmkl'.out; omega) hBt.out.size ?_
          intro v7 w7 ho7 hb7 _ _
          have hB7 : Hid (Below w4.heap.size w4 w7) := hBt.out.trans hb7
          rw [← hrow'.out] at ho7
          have hO7 := Lib.hid ho7
          refine wpList_end (postH_normal (hK _ _ _ (CE.out _ (hd.out.trans (hB7.out.mono hw4))) ?_))
          clear hK K ho7 hb7 hOt hBt hKt
          have hx4 : Hid (w.heap.size < w4.heap.size) := Nat.lt_of_lt_of_le hs1.out hw4
          have hoff := Lib.hid (own_off (x := w.heap.size) hO7.out hod.out hx4.out)
          have hod7 := Lib.hid (hod.out.keep hB7.out)
          obtain ⟨Av7, cv7, hv7, _⟩ := own_form hO7.out
          rw [hrowl.out] at hv7
          subst hv7
          refine wpAnyH_each (rs := [13]) (by kernel_rfl) (by decide) (fun K hK i hi => ?_)
          obtain rfl := List.mem_singleton.1 hi
          refine wpOp_listed rfl ?_
          go_wp2_with fail
          refine postH_normal (hK _ _ _ (CE.out _ (hd.out.trans ((ALO.out w7 _ hB7.out).mono hw4))) ?_)
          clear hK K
          refine wpAnyH_each (rs := [14]) (by kernel_rfl) (by decide) (fun K hK i hi => ?_)
          obtain rfl := List.mem_singleton.1 hi
          refine wpOp_listed rfl ?_
          refine push_q rfl _ _ rfl W1.heap.size _ (S.take k) row _ rfl rfl hod7.out hoff.out hln (Nat.le_trans hw4 hB7.out.size) ?_
          intro v8 w8 ho8 hb8 hg8
          have hB8 : Hid (Below W1.heap.size W1 w8) := (hd.out.trans (hB7.out.mono hw4)).trans hb8
          have hO8 := Lib.hid ho8
          refine wpList_end (postH_normal (hK _ _ _ (CE.out _ hB8.out) ?_))
          clear hK K ho8 hb8 hg8 hoff hod7 hO7 hB7 hod hd
          refine wpAnyH_each (rs := [15]) (by kernel_rfl) (by decide) (fun K hK i hi => ?_)
          obtain rfl := List.mem_singleton.1 hi
          refine wpOp_listed rfl ?_
          go_wp2_with fail
          refine postH_normal (hK _ _ _ (CE.out _ hB8.out) ?_)
          clear hK K
          refine wpAnyH_done (by kernel_rfl) ?_ _
          go_wp2_with fail
          go_roundw
          case rel => exact ⟨k + 1, by omega, by go_num, by rw [hgk.out]; exact hO8.out, hB8.out⟩
          case measure => simp [intOf]; omega
      · refine wpOp_listed rfl ?_
        go_wp2_with fail
        have hb5 := Lib.hid (ALO.out w4 (.cells #[.int .u8 bk.toNat] 5) (Below.refl _ _))
        refine postH_normal (hK _ _ _ (CE.out _ (hd.out.trans (hb5.out.mono hw4))) ?_)
        clear hK K
        have hKt0 := Lib.hid (ONE.out w4)
        obtain ⟨gb, hgb⟩ : ∃ g, g = w4.heap.size := ⟨_, rfl⟩
        rw [← hgb] at hKt0 ⊢
        have hgb' := Lib.hid hgb
        clear hgb
        generalize w4.alloc (.cells #[.int .u8 bk.toNat] 5) = w5 at hb5 hKt0 ⊢
        refine wpAnyH_each (rs := [1]) (by kernel_rfl) (by decide) (fun K hK i hi => ?_)
        obtain rfl := List.mem_singleton.1 hi
        refine wpOp_listed rfl ?_
        go_wp2_with fail
        refine postH_normal (hK _ _ _ (CE.out _ (hd.out.trans ((ALO.out w5 _ hb5.out).mono hw4))) ?_)
        clear hK K
        have hB6 := Lib.hid (ALO.out w5 (.cells #[] 5) hb5.out)
        have hO6 := Lib.hid (ownB_made w5 w4.heap.size hb5.out.size)
        have hKt1 : Hid (Rds (w5.alloc (.cells #[] 5)) (w5.alloc (.cells #[] 5)).heap.size (some ⟨gb, 0, none⟩) ([bk].map bv) ∧ gb < w5.heap.size) := ⟨hKt0.out.1.hold ((Below.refl _ _).alloc (Nat.le_refl _) _), hKt0.out.2⟩
        obtain ⟨g5, hg5⟩ : ∃ g, g = w5.heap.size := ⟨_, rfl⟩
        rw [← hg5] at hO6 hKt1 ⊢
        clear hg5 hb5 hKt0
        generalize w5.alloc (.cells #[] 5) = w6 at hB6 hO6 hKt1 ⊢
        refine wpAnyH_each (rs := [6]) (by kernel_rfl) (by decide) (fun K hK i hi => ?_)
        obtain rfl := List.mem_singleton.1 hi
        refine wpOp_listed rfl ?_
        refine push_bytesG rfl _ _ rfl w4.heap.size _ [] mk _ am n cm hmkl'.out.symm hamn'.out rfl rfl (hrm'.out.below (hd.out.trans (hB6.out.mono hw4))) hO6.out (by simp; have := hmkl'.out; omega) hB6.out.size ?_
        intro v6 wt ho6 hb6 hg6 _
        have hBt : Hid (Below w4.heap.size w4 wt) := hB6.out.trans hb6
        have hOt : Hid (OwnB wt w4.heap.size v6 mk) := by rw [List.nil_append] at ho6; exact ho6
        have hgb6 : gb < w6.heap.size := by
          have h1 := hKt1.out.2
          have h2 := hO6.out.lt g5 rfl
          omega
        have hKt : Hid (Rds wt wt.heap.size (some ⟨gb, 0, none⟩) ([bk].map bv) ∧ gb < wt.heap.size) := ⟨hKt1.out.1.apart hg6 (fun ad' ha' hh => by cases ha'; have := hKt1.out.2; have := Option.some.inj hh; simp only at this; omega), Nat.lt_of_lt_of_le hgb6 hb6.size⟩
        refine wpList_end (postH_normal (hK _ _ _ (CE.out _ (hd.out.trans (hBt.out.mono hw4))) ?_))
        clear hK K ho6 hb6 hg6 hO6 hB6 hKt1 hgb6
        refine wpAnyH_each (rs := [12]) (by kernel_rfl) (by decide) (fun K hK i hi => ?_)
        obtain rfl := List.mem_singleton.1 hi
        refine wpOp_listed rfl ?_
        refine push_bytesG rfl _ _ rfl w4.heap.size _ mk [bk] _ (some ⟨gb, 0, none⟩) 1 1 rfl (fun hh => by cases hh) rfl rfl hKt.out.1 hOt.out (by simp; have := hmkl'.out; omega) hBt.out.size ?_
        intro v7 w7 ho7 hb7 _ _
        have hB7 : Hid (Below w4.heap.size w4 w7) := hBt.out.trans hb7
        rw [← hrow'.out] at ho7
        have hO7 := Lib.hid ho7
        refine wpList_end (postH_normal (hK _ _ _ (CE.out _ (hd.out.trans (hB7.out.mono hw4))) ?_))
        clear hK K ho7 hb7 hOt hBt hKt
        have hx4 : Hid (w.heap.size < w4.heap.size) := Nat.lt_of_lt_of_le hs1.out hw4
        have hoff := Lib.hid (own_off (x := w.heap.size) hO7.out hod.out hx4.out)
        have hod7 := Lib.hid (hod.out.keep hB7.out)
        obtain ⟨Av7, cv7, hv7, _⟩ := own_form hO7.out
        rw [hrowl.out] at hv7
        subst hv7
        refine wpAnyH_each (rs := [13]) (by kernel_rfl) (by decide) (fun K hK i hi => ?_)
        obtain rfl := List.mem_singleton.1 hi
        refine wpOp_listed rfl ?_
        go_wp2_with fail
        refine postH_normal (hK _ _ _ (CE.out _ (hd.out.trans ((ALO.out w7 _ hB7.out).mono hw4))) ?_)
        clear hK K
        refine wpAnyH_each (rs := [14]) (by kernel_rfl) (by decide) (fun K hK i hi => ?_)
        obtain rfl := List.mem_singleton.1 hi
        refine wpOp_listed rfl ?_
        refine push_q rfl _ _ rfl W1.heap.size _ (S.take k) row _ rfl rfl hod7.out hoff.out hln (Nat.le_trans hw4 hB7.out.size) ?_
        intro v8 w8 ho8 hb8 hg8
        have hB8 : Hid (Below W1.heap.size W1 w8) := (hd.out.trans (hB7.out.mono hw4)).trans hb8
        have hO8 := Lib.hid ho8
        refine wpList_end (postH_normal (hK _ _ _ (CE.out _ hB8.out) ?_))
        clear hK K ho8 hb8 hg8 hoff hod7 hO7 hB7 hod hd
        refine wpAnyH_each (rs := [15]) (by kernel_rfl) (by decide) (fun K hK i hi => ?_)
        obtain rfl := List.mem_singleton.1 hi
        refine wpOp_listed rfl ?_
        go_wp2_with fail
        refine postH_normal (hK _ _ _ (CE.out _ hB8.out) ?_)
        clear hK K
        refine wpAnyH_done (by kernel_rfl) ?_ _
        go_wp2_with fail
        go_roundw
        case rel => exact ⟨k + 1, by omega, by go_num, by rw [hgk.out]; exact hO8.out, hB8.out⟩
        case measure => simp [intOf]; omega
    · have t : ¬ (k : Int) < (m : Int) := by omega
      have hkk : S.take k = S := List.take_of_length_le (by rw [hSl.out]; omega)
      rw [hkk] at ho
      have hbw' := Lib.hid hbw
      obtain ⟨Aq, cq, rfl, hcb, hcbm, _, hmb⟩ := ho.mat
      have hmb' := Lib.hid hmb
      rw [hSl.out] at hcb
      rw [hSl.out]
      obtain ⟨R, hR⟩ : ∃ R, redR S = R := ⟨_, rfl⟩
      obtain ⟨P, hP⟩ : ∃ R, redP S = R := ⟨_, rfl⟩
      obtain ⟨r, hr⟩ : ∃ r, P.length = r := ⟨_, rfl⟩
      obtain ⟨f1, f2, f3, f4, f5, f6⟩ := sol_facts hSr.out
      rw [hP, hR] at f2 f6
      rw [hP] at f1 f4 f5
      rw [hR] at f3
      have hRl : Hid (R.length = r) := f2.trans hr
      have hRr := Lib.hid f3
      have hPn := Lib.hid f4
      have hrm : r ≤ m := by rw [← hr]; have := hSl.out; omega
      have FB : Hid (n ∈ P → rsE S n = 8 ∧ rsX S n = [] ∧ rsK S n = []) := fun h => by
        have hb := f5 h
        unfold rsE rsX rsK
        rw [hb]
        exact ⟨rfl, rfl, rfl⟩
      have FG : Hid (n ∉ P → rsE S n = 0 ∧ rsX S n = setP R n P 0 (List.replicate n 0) ∧ rsK S n = kers R P n n) := fun h => by
        obtain ⟨h1, h2, h3⟩ := f6 h
        unfold rsE rsX rsK
        rw [h1]
        exact ⟨rfl, h2, h3⟩
      have RC := Lib.hid (refReduce_v S m r (n + 1) Aq cq wr hmb'.out hSl.out hcb (by omega) hSr.out (by omega) hR hP hr)
      have hr' := Lib.hid hr
      have HMK : Hid (∀ W, (Instr.makeSlice 43 (.int .i64 n) (.int .i64 n)).run Tryd.prog W = .ok (.slice (some ⟨W.heap.size, 0, none⟩) n n) (W.alloc (.cells (madeCells #[.int .u8 0] n) 5))) := fun W => run_make_row' (P := Tryd.prog) 43 5 (.int .u8 0) 1 Tryd.underlying43 infoByte rfl .i64 .i64 n (by omega) (by omega) W
      have HZ : Hid (∀ W : World, Below W.heap.size W (W.alloc (.cells (madeCells #[.int .u8 0] n) 5)) ∧ Blk (W.alloc (.cells (madeCells #[.int .u8 0] n) 5)) W.heap.size ((List.replicate n (0 : UInt8)).map bv) 5) := fun W =>
        ⟨(Below.refl _ _).alloc (Nat.le_refl _) _, by rw [made_zeros, zeros_row]; exact Blk.new _ _ _⟩
      clear hR hP hr hkk ho hmb hbw hcb hcbm f1 f2 f3 f4 f5 f6 hM1 hV1
      go_wp2_with fail
      refine RC.out.mono ?_
      rintro e w5 ⟨Ar, cr, Ap, cp, rfl, hmr, hmp, hb5⟩
      have hb15 := hbw'.out.trans (hb5.mono hbw'.out.size)
      have hB5 : Hid (Below w.heap.size w w5) := hB1.out.trans (hb15.mono hB1.out.size)
      have hR5 : Hid (Blk w5 w.heap.size [.slice none 0 0, .slice none 0 0, .int .i64 0] 47) := hR1.out.below hb15 hR1.out.lt
      have hX5 := Lib.hid hmr
      have hP5 := Lib.hid hmp
      have hs5 : Hid (w.heap.size < w5.heap.size) := Nat.lt_of_lt_of_le hs1.out hb15.size
      clear RC hmr hmp hb5 hb15 hmb' hbw' hB1 hR1 hs1
      have hRb := Lib.hid (Blk.new w5 [.slice none 0 0, .slice none 0 0] 38)
      have hAb : Hid (∀ o, Below w5.heap.size w5 (w5.alloc o)) := fun o => (Below.refl _ _).alloc (Nat.le_refl _) _
      go_wp2_with (first | (refine wpList_row_store rfl 38 _ _ rfl [.slice Ar r cr, .slice Ap r cp] rfl rfl hRb.out size_red rfl (red_one _ _ _ _ _ _) ?_; intro w6 hw6 ho6; have D6 := Lib.hid ((hAb.out _).trans (ho6.below (Nat.le_refl _))); have hs6 := Lib.hid (show w5.heap.size < w6.heap.size from hw6.out.lt); clear ho6; obtain ⟨w7, hw7⟩ : ∃ w7, w7 = w6.alloc (.cells (madeCells #[.int .u8 0] n) 5) := ⟨_, rfl⟩; have hmk := HMK.out w6; rw [← hw7] at hmk; have hz7 := HZ.out w6; rw [← hw7] at hz7; clear hw7; have hZ7 := Lib.hid hz7; clear hz7; have hRc := Lib.hid (Blk.new w7 [.slice none 0 0, .slice none 0 0, .int .i64 0] 47); have hAc : Hid (∀ o, Below w7.heap.size w7 (w7.alloc o)) := fun o => (Below.refl _ _).alloc (Nat.le_refl _) _) | (refine wpList_row_store rfl 47 _ _ rfl [.slice (some ⟨w6.heap.size, 0, none⟩) n n, .slice none 0 0, .int .i64 0] rfl rfl hRc.out size_sol rfl (sol_one _ _ _ _ _ _ _) ?_; intro w8 hw8 ho8; have D8 := Lib.hid ((hAc.out _).trans (ho8.below (Nat.le_refl _))); clear ho8))
      have hX6 : Hid (Mat w6 w6.heap.size Ar R) := hX5.out.keep D6.out
      have hP6 : Hid (Rds w6 w6.heap.size Ap (P.map pv)) := hP5.out.hold D6.out
      have hK6 : Hid (Blk w6 w5.heap.size [.slice Ar r cr, .slice Ap r cp] 38) := hw6.out
      have hB6 : Hid (Below w.heap.size w w6) := hB5.out.trans (D6.out.mono hB5.out.size)
      have hR6 : Hid (Blk w6 w.heap.size [.slice none 0 0, .slice none 0 0, .int .i64 0] 47) := hR5.out.below D6.out hR5.out.lt
      have hsw : Hid (w.heap.size < w6.heap.size) := Nat.lt_trans hs5.out hs6.out
      have hlt7 : Hid (w6.heap.size < w7.heap.size) := hZ7.out.2.lt
      have hB8 : Hid (Below w6.heap.size w6 w8) := hZ7.out.1.trans (D8.out.mono hZ7.out.1.size)
      have hX8 : Hid (Blk w8 w6.heap.size ((setP R n (P.take 0) 0 (List.replicate n 0)).map bv) 5) := hZ7.out.2.below D8.out hlt7.out
      have hG8 : Hid (Blk w8 w7.heap.size [.slice (some ⟨w6.heap.size, 0, none⟩) n n, .slice none 0 0, .int .i64 0] 47) := hw8.out
      obtain ⟨ga, hga⟩ : ∃ g, g = w5.heap.size := ⟨_, rfl⟩
      obtain ⟨gx, hgx⟩ : ∃ g, g = w6.heap.size := ⟨_, rfl⟩
      obtain ⟨gs, hgs⟩ : ∃ g, g = w7.heap.size := ⟨_, rfl⟩
      have hgg : Hid (ga < gx ∧ gx < gs ∧ w.heap.size < gx) := by rw [hga, hgx, hgs]; exact ⟨hs6.out, hlt7.out, hsw.out⟩
      rw [← hga] at hK6
      rw [← hgx] at hX6 hP6 hB8 hX8
      rw [← hgx, ← hgs] at hG8
      rw [← hga, ← hgx, ← hgs]
      clear hX5 hP5 hB5 hR5 hs5 hRb hAb hw6 hw8 D6 D8 hs6 hsw hlt7 hZ7 hRc hAc hmk hga hgs
      have hgx' := Lib.hid hgx
      clear hgx
      -- reading the reduced rows and the pivots, in every later world
      have RD : Hid (∀ W : World, Below gx w6 W → W.cell? ⟨ga, 0, none⟩ = some (.slice Ar r cr) ∧ W.cell? ⟨ga, 1, none⟩ = some (.slice Ap r cp)) := fun W hW =>
        ⟨(hW.cell (p := ⟨ga, 0, none⟩) hgg.out.1).trans (hK6.out.cell (j := 0) rfl), (hW.cell (p := ⟨ga, 1, none⟩) hgg.out.1).trans (hK6.out.cell (j := 1) rfl)⟩
      have RW : Hid (∀ k, k < r → ∃ p ar am cm ap, P[k]? = some p ∧ Ar = some ar ∧ Ap = some ap ∧ ∀ W : World, Below gx w6 W → W.cell? (ap.add k) = some (.int .i64 p) ∧ W.cell? (ar.add k) = some (.slice (some am) (n + 1) cm) ∧ ∀ j, j < n + 1 → W.cell? (am.add j) = some (.int .u8 (el R k j).toNat)) := fun k hk => by
        obtain ⟨p, hp⟩ : ∃ q, P[k]? = some q := ⟨_, List.getElem?_eq_getElem (by rw [hr'.out]; exact hk)⟩
        obtain ⟨x, hx⟩ : ∃ m, R[k]? = some m := ⟨_, List.getElem?_eq_getElem (by rw [hRl.out]; exact hk)⟩
        have hxl := hRr.out.at hx
        obtain ⟨ap, hA, hapb, hcp⟩ := hP6.out.look (k := k) (u := pv p) (by rw [List.getElem?_map, hp]; rfl)
        obtain ⟨ar, vm, hA2, harb, hcm, hvm⟩ := hX6.out.at hx
        obtain ⟨am, cm, hvme, ham, _, hrow⟩ := row_look hvm (by omega)
        refine ⟨p, ar, am, cm, ap, hp, hA2, hA, fun W hW => ⟨(hW.cell (p := ap.add k) (by rw [add_block]; exact hapb)).trans hcp, ?_, fun j hj => ?_⟩⟩
        · rw [(hW.cell (p := ar.add k) (by rw [add_block]; exact harb)).trans hcm, hvme, hxl]
        · rw [(hW.cell (p := am.add j) (by rw [add_block]; exact ham)), hrow j (by omega), el_get hx]
          rfl
      have HPR : Hid (∀ W : World, Below gx w6 W → Rds W gx Ap (P.map pv)) := fun W hW => hP6.out.below hW
      clear hX6 hP6 hK6 hRl
      go_loopw [11] (fun i wr => ∃ k : Nat, k ≤ r ∧ i = .int .i64 k ∧ Blk wr gx ((setP R n (P.take k) 0 (List.replicate n 0)).map bv) 5 ∧ Blk wr gs [.slice (some ⟨gx, 0, none⟩) n n, .slice none 0 0, .int .i64 0] 47 ∧ Below gx w6 wr ∧ Hid (∀ j, j < k → P[j]? ≠ some n)) (fun i _ => r - (intOf i).toNat)
      case atStart => exact ⟨0, Nat.zero_le _, rfl, hX8.out, hG8.out, hB8.out, fun j hj => by omega⟩
      case round =>
        obtain ⟨k, hk, rfl, hx0, hg0, hb0, hall⟩ := hrel
        have hX := Lib.hid hx0
        have hG := Lib.hid hg0
        have hb := Lib.hid hb0
        clear hx0 hg0 hb0
        obtain ⟨c0, c1⟩ := RD.out wr hb.out
        by_cases hlt : k < r
        · have t : (k : Int) < (r : Int) := by omega
          have t0 : 0 ≤ (k : Int) := by omega
          obtain ⟨p, ar, am, cm, ap, hp, rfl, rfl, hW⟩ := RW.out k hlt
          have hp' := Lib.hid hp
          have hW' := Lib.hid hW
          obtain ⟨c2, -, -⟩ := hW wr hb.out
          have hR9 : Hid (Blk wr w.heap.size [.slice none 0 0, .slice none 0 0, .int .i64 0] 47) := hR6.out.below (hb.out.mono (Nat.le_refl gx) |>.mono (by have := hgg.out; omega) : Below (w.heap.size + 1) w6 wr) (Nat.lt_succ_self _)
          by_cases hpn : p = n
          · have t2 : ((p : Int) == (n : Int)) = true := by simp only [beq_iff_eq]; omega
            have hbad := Lib.hid (FB.out (by rw [← hpn]; exact List.mem_of_getElem? hp))
            clear hp hW hpn
            go_wp2_with (refine wpList_row_store rfl 47 _ _ rfl [.slice none 0 0, .slice none 0 0, .int .i64 8] rfl rfl hR9.out size_sol rfl (sol_one _ _ _ _ _ _ _) ?_; intro w10 hw10 ho10)
            refine bodyPost_ret (ret_blk rfl _ w10 (g := w.heap.size) rfl hw10.out dd hdu'.out hdr size_sol) rfl ?_
            rw [hbad.out.1, hbad.out.2.1, hbad.out.2.2]
            exact SolvedEnd.nothing ((hB6.out.trans (hb.out.mono (Nat.le_trans hB6.out.size (Nat.le_of_eq hgx'.out.symm)))).trans (ho10.below (Nat.le_refl _)))
          · have t2 : ((p : Int) == (n : Int)) = false := by rw [beq_eq_false_iff_ne]; omega
            have hpl : p < n := by have := hPn.out p (List.mem_of_getElem? hp); omega
            have tp : (p : Int) < (n : Int) := by omega
            have tp0 : 0 ≤ (p : Int) := by omega
            have tn1 : (n : Int) < (n : Int) + 1 := by omega
            have tn0 : 0 ≤ (n : Int) := by omega
            have hnx : Hid (∀ j, j < k + 1 → P[j]? ≠ some n) := fun j hj hh => by
              by_cases hjk : j = k
              · subst hjk; rw [hp'.out] at hh; exact hpn (Option.some.inj hh)
              · exact hall.out j (by omega) hh
            have hset := Lib.hid (setP_next (R := R) (col := n) (List.replicate n 0) hp)
            have hgs := hgx'.out
            have hd : Hid (Below gx w6 wr.drew) := hb.out.drew
            have hgw : Hid (gx ≤ wr.drew.heap.size) := by show gx ≤ wr.heap.size; have := hb.out.size; omega
            have zB : Hid (∀ z : ExtOf wr.drew, Below gx w6 z.world) := fun z => hd.out.trans (z.ext.mono hgw.out)
            have y0 : ∀ z : ExtOf wr.drew, z.world.cell? ⟨gs, 0, none⟩ = some (.slice (some ⟨gx, 0, none⟩) n n) := fun z => (hG.out.drew.below z.ext hG.out.drew.lt).cell rfl
            have y1 : ∀ z : ExtOf wr.drew, z.world.cell? ⟨ga, 1, none⟩ = some (.slice (some ap) r cp) := fun z => (RD.out _ (zB.out z)).2
            have y2 : ∀ z : ExtOf wr.drew, z.world.cell? (ap.add k) = some (.int .i64 p) := fun z => (hW'.out _ (zB.out z)).1
            have y3 : ∀ z : ExtOf wr.drew, z.world.cell? ⟨ga, 0, none⟩ = some (.slice (some ar) r cr) := fun z => (RD.out _ (zB.out z)).1
            have y4 : ∀ z : ExtOf wr.drew, z.world.cell? (ar.add k) = some (.slice (some am) (n + 1) cm) := fun z => (hW'.out _ (zB.out z)).2.1
            have y5 : ∀ z : ExtOf wr.drew, z.world.cell? (am.add n) = some (.int .u8 (el R k n).toNat) := fun z => (hW'.out _ (zB.out z)).2.2 n (by omega)
            generalize el R k n = ev at y5 hset
            have hXd : Hid (Blk wr.drew gx ((setP R n (P.take k) 0 (List.replicate n 0)).map bv) 5) := hX.out.drew
            have hXl : Hid (((setP R n (P.take k) 0 (List.replicate n (0 : UInt8))).map bv).length = n) := by show _ = _; rw [List.length_map, setP_len, List.length_replicate]
            have hGd : Hid (Blk wr.drew gs [.slice (some ⟨gx, 0, none⟩) n n, .slice none 0 0, .int .i64 0] 47) := hG.out.drew
            clear hp hW hpn hX hG hgs hR9
            go_wp2_with fail
            refine wp_region_planM [16] [(true, 0), (true, 1), (true, 2), (true, 3), (true, 4), (true, 5), (true, 6), (true, 7), (true, 8), (true, 9), (true, 10), (true, 11), (true, 12), (true, 13), (true, 14), (true, 15), (false, 16)] (by decide) (by kernel_rfl) (by kernel_rfl) (by decide) (by intro c a d v w h; cases d <;> exact h) ?_
            change wpPlanM _ _ _ _ _ _ wr.drew
            iterate 16 (refine wpPlanM_plain rfl (fun K hK => ?_); go_simp; refine hK _ ?_; clear hK K)
            clear y0 y1 y2 y3 y4 y5
            refine wpPlanM_call rfl (fun K hK => ?_)
            refine wpList_blk_store rfl 5 _ _ rfl p (.int .u8 ev.toNat) rfl rfl hXd.out size_u8 (by rw [hXl.out]; exact hpl) (one_u8b ev) ?_
            intro w8' hw8' ho8'
            have hX9 : Hid (Blk w8' gx ((setP R n (P.take (k + 1)) 0 (List.replicate n 0)).map bv) 5) := by
              have hh := hw8'.out
              rw [show (Value.int .u8 (ev.toNat : Int)).cells.toList = [bv ev] from rfl, splice_set _ _ _ (by rw [hXl.out]; exact hpl), ← List.map_set] at hh
              show Blk _ _ _ _
              rw [hset.out]
              exact hh
            have hG9 : Hid (Blk w8' gs [.slice (some ⟨gx, 0, none⟩) n n, .slice none 0 0, .int .i64 0] 47) := blk_apart hGd.out ho8' (by have := hgg.out; omega)
            have hB9 : Hid (Below gx w6 w8') := hd.out.trans (ho8'.below (Nat.le_refl _))
            clear hw8' ho8' hXd hGd hd
            go_wp2_with fail
            refine planPostL_normal ⟨.inl (by simp), hK _ _ ?_⟩
            clear hK K
            refine wpPlanM_nil ?_
            go_wp2_with fail
            go_roundw
            case rel => exact ⟨k + 1, by omega, by go_num, hX9.out, hG9.out, hB9.out, hnx⟩
            case measure => simp [intOf]; omega
        · have t : ¬ (k : Int) < (r : Int) := by omega
          have ek : r = k := by omega
          subst ek
          have hnP : Hid (n ∉ P) := fun hh => by
            obtain ⟨j, hj⟩ := List.getElem?_of_mem hh
            exact hall.out j (by have := (List.getElem?_eq_some_iff.1 hj).1; have := hr'.out; omega) hj
          have hPl : Hid (∀ p ∈ P, p < n) := fun p hp => by
            have := hPn.out p hp
            rcases Nat.lt_or_ge p n with h | h
            · exact h
            · exact absurd (show n ∈ P by rw [show n = p by omega]; exact hp) hnP.out
          have hgood := Lib.hid (FG.out hnP.out)
          have hXF : Hid (Blk wr gx ((rsX S n).map bv) 5) := by
            show Blk _ _ _ _
            have := hX.out
            rw [List.take_of_length_le (Nat.le_of_eq hr'.out)] at this
            rw [hgood.out.2.1]
            exact this
          have hK0 : Hid (KRel gx gs n wr (kers R P n 0)) := ⟨none, 0, hG.out, ownO_nil _ _ _⟩
          have hbb := Lib.hid hb.out
          clear hX hG hb hX8 hG8 hB8 FB FG hPn
          have hgsw : Hid (gs < wr.heap.size) := by obtain ⟨A9, c9, h9, _⟩ := hK0.out; exact h9.lt
          go_wp2_with fail
          clear c0 c1
          go_loopw [12] (fun i wr => ∃ q : Nat, q ≤ n ∧ i = .int .i64 q ∧ Blk wr gx ((rsX S n).map bv) 5 ∧ KRel gx gs n wr (kers R P n q) ∧ Below gx w6 wr) (fun i _ => n - (intOf i).toNat)
          case atStart => exact ⟨0, Nat.zero_le _, rfl, hXF.out, hK0.out, hbb.out⟩
          case round =>
            obtain ⟨wq, hwq⟩ : ∃ wq, wq = wr := ⟨_, rfl⟩
            subst hwq
            obtain ⟨q, hq, rfl, hx0, hk0, hb0⟩ := hrel
            have hX := Lib.hid hx0
            have hKr := Lib.hid hk0
            have hb := Lib.hid hb0
            clear hx0 hk0 hb0 hXF hK0 hbb
            obtain ⟨d0, d1⟩ := RD.out wq hb.out
            by_cases hlt : q < n
            · have tq : (q : Int) < (n : Int) := by omega
              have tq0 : 0 ≤ (q : Int) := by omega
              have HAS : Hid (Calls Tryd.prog 105 #[.slice Ap r cp, .int .i64 q] wq fun e w' => e = .returned (.bool (hasB P q)) ∧ w' = wq) := by
                have h1 := refHas_any P q Ap cp wq (HPR.out wq hb.out) (by rw [hr'.out]; omega)
                rw [hr'.out, any_hasB] at h1
                exact h1
              obtain ⟨bq, hbq⟩ : ∃ bq, hasB P q = bq := ⟨_, rfl⟩
              rw [hbq] at HAS
              have hks := Lib.hid (kers_succ R P n q)
              rw [hbq] at hks
              have hbq' := Lib.hid hbq
              clear hbq
              go_wp2_with fail
              refine HAS.out.mono ?_
              rintro e w10 ⟨rfl, rfl⟩
              cases bq with
              | true =>
                have hK1 : Hid (KRel gx gs n w10 (kers R P n (q + 1))) := by
                  show KRel _ _ _ _ _
                  rw [hks.out]
                  show KRel _ _ _ _ (kers R P n q ++ [])
                  rw [List.append_nil]
                  exact hKr.out
                go_wp2_with fail
                go_roundw
                case rel => exact ⟨q + 1, by omega, by go_num, hX.out, hK1.out, hb.out⟩
                case measure => simp [intOf]; omega
              | false =>
                obtain ⟨wa, hwa⟩ : ∃ wa, wa = w10.alloc (.cells (madeCells #[.int .u8 0] n) 5) := ⟨_, rfl⟩
                have hmk := HMK.out w10
                rw [← hwa] at hmk
                have hza0 := HZ.out w10
                rw [← hwa] at hza0
                clear hwa
                have hza := Lib.hid hza0
                clear hza0
                obtain ⟨gv, hgv⟩ : ∃ g, g = w10.heap.size := ⟨_, rfl⟩
                rw [← hgv] at hmk hza
                have hgv' := Lib.hid hgv
                clear hgv
                have hone : Hid ((setP R q (P.take 0) 0 ((List.replicate n (0 : UInt8)).set q 1)) = (List.replicate n (0 : UInt8)).set q 1) := rfl
                go_wp2_with (refine wpList_blk_store rfl 5 _ _ rfl q (bv 1) rfl rfl hza.out.2 size_u8 (by rw [List.length_map, List.length_replicate]; exact hlt) (one_u8b 1) ?_; intro wb hwb hob)
                have hVb : Hid (Blk wb gv ((setP R q (P.take 0) 0 ((List.replicate n (0 : UInt8)).set q 1)).map bv) 5) := by
                  have hh := hwb.out
                  rw [show (bv 1).cells.toList = [bv 1] from rfl, splice_set _ _ _ (by rw [List.length_map, List.length_replicate]; exact hlt), ← List.map_set] at hh
                  exact hh
                have hBb : Hid (Below gv w10 wb) := hza.out.1.trans (hob.below (Nat.le_refl _))
                have hgx10 : Hid (gx ≤ gv) := by show gx ≤ gv; rw [hgv'.out]; have := hb.out.size; have := hgx'.out; omega
                have hgs10 : Hid (gs < gv) := by
                  show gs < gv
                  rw [hgv'.out]
                  obtain ⟨A9, c9, h9, _⟩ := hKr.out
                  exact h9.lt
                clear hwb hob hza hmk hone d0 d1
                go_wp2_with fail
                go_loopw [15] (fun i wr => ∃ k : Nat, k ≤ r ∧ i = .int .i64 k ∧ Blk wr gv ((setP R q (P.take k) 0 ((List.replicate n (0 : UInt8)).set q 1)).map bv) 5 ∧ Below gv w10 wr) (fun i _ => r - (intOf i).toNat)
                case atStart => exact ⟨0, Nat.zero_le _, rfl, hVb.out, hBb.out⟩
                case round =>
                  obtain ⟨k, hk, rfl, hv0, hi0⟩ := hrel
                  have hV := Lib.hid hv0
                  have hI := Lib.hid hi0
                  clear hv0 hi0 hVb hBb
                  have hB6w : Hid (Below gx w6 wr) := hb.out.trans (hI.out.mono hgx10.out)
                  obtain ⟨d0, d1⟩ := RD.out wr hB6w.out
                  by_cases hltk : k < r
                  · have tk : (k : Int) < (r : Int) := by omega
                    have tk0 : 0 ≤ (k : Int) := by omega
                    obtain ⟨p, ar, am, cm, ap, hp, rfl, rfl, hW⟩ := RW.out k hltk
                    have hW' := Lib.hid hW
                    have hpl : p < n := hPl.out p (List.mem_of_getElem? hp)
                    have tp : (p : Int) < (n : Int) := by omega
                    have tp0 : 0 ≤ (p : Int) := by omega
                    have tqn : (q : Int) < (n : Int) + 1 := by omega
                    have hset := Lib.hid (setP_next (R := R) (col := q) ((List.replicate n (0 : UInt8)).set q 1) hp)
                    have hd : Hid (Below gx w6 wr.drew) := hB6w.out.drew
                    have hId : Hid (Below gv w10 wr.drew) := hI.out.drew
                    have hgw : Hid (gx ≤ wr.drew.heap.size) := by show gx ≤ wr.heap.size; have := hI.out.size; have := hgx10.out; have := hgv'.out; omega
                    have zB : Hid (∀ z : ExtOf wr.drew, Below gx w6 z.world) := fun z => hd.out.trans (z.ext.mono hgw.out)
                    have y1 : ∀ z : ExtOf wr.drew, z.world.cell? ⟨ga, 1, none⟩ = some (.slice (some ap) r cp) := fun z => (RD.out _ (zB.out z)).2
                    have y2 : ∀ z : ExtOf wr.drew, z.world.cell? (ap.add k) = some (.int .i64 p) := fun z => (hW'.out _ (zB.out z)).1
                    have y3 : ∀ z : ExtOf wr.drew, z.world.cell? ⟨ga, 0, none⟩ = some (.slice (some ar) r cr) := fun z => (RD.out _ (zB.out z)).1
                    have y4 : ∀ z : ExtOf wr.drew, z.world.cell? (ar.add k) = some (.slice (some am) (n + 1) cm) := fun z => (hW'.out _ (zB.out z)).2.1
                    have y5 : ∀ z : ExtOf wr.drew, z.world.cell? (am.add q) = some (.int .u8 (el R k q).toNat) := fun z => (hW'.out _ (zB.out z)).2.2 q (by omega)
                    generalize el R k q = ev at y5 hset
                    have hVd : Hid (Blk wr.drew gv ((setP R q (P.take k) 0 ((List.replicate n (0 : UInt8)).set q 1)).map bv) 5) := hV.out.drew
                    have hVl : Hid (((setP R q (P.take k) 0 ((List.replicate n (0 : UInt8)).set q 1)).map bv).length = n) := by show _ = _; rw [List.length_map, setP_len, List.length_set, List.length_replicate]
                    clear hp hW hV hI hB6w
                    go_wp2_with fail
                    refine wp_region_planM [15] [(true, 0), (true, 1), (true, 2), (true, 3), (true, 4), (true, 5), (true, 6), (true, 7), (true, 8), (true, 9), (true, 10), (true, 11), (true, 12), (true, 13), (true, 14), (false, 15)] (by decide) (by kernel_rfl) (by kernel_rfl) (by decide) (by intro c a d v w h; cases d <;> exact h) ?_
                    change wpPlanM _ _ _ _ _ _ wr.drew
                    iterate 15 (refine wpPlanM_plain rfl (fun K hK => ?_); go_simp; refine hK _ ?_; clear hK K)
                    clear y1 y2 y3 y4 y5
                    refine wpPlanM_call rfl (fun K hK => ?_)
                    refine wpList_blk_store rfl 5 _ _ rfl p (.int .u8 ev.toNat) rfl rfl hVd.out size_u8 (by rw [hVl.out]; exact hpl) (one_u8b ev) ?_
                    intro w8' hw8' ho8'
                    have hV9 : Hid (Blk w8' gv ((setP R q (P.take (k + 1)) 0 ((List.replicate n (0 : UInt8)).set q 1)).map bv) 5) := by
                      have hh := hw8'.out
                      rw [show (Value.int .u8 (ev.toNat : Int)).cells.toList = [bv ev] from rfl, splice_set _ _ _ (by rw [hVl.out]; exact hpl), ← List.map_set] at hh
                      show Blk _ _ _ _
                      rw [hset.out]
                      exact hh
                    have hI9 : Hid (Below gv w10 w8') := hId.out.trans (ho8'.below (Nat.le_refl _))
                    clear hw8' ho8' hVd hd hId
                    go_wp2_with fail
                    refine planPostL_normal ⟨.inl (by simp), hK _ _ ?_⟩
                    clear hK K
                    refine wpPlanM_nil ?_
                    go_wp2_with fail
                    go_roundw
                    case rel => exact ⟨k + 1, by omega, by go_num, hV9.out, hI9.out⟩
                    case measure => simp [intOf]; omega
                  · have tk : ¬ (k : Int) < (r : Int) := by omega
                    have hVF : Hid (Blk wr gv ((kerX R P n q).map bv) 5) := by
                      have := hV.out
                      rw [List.take_of_length_le (by rw [hr'.out]; omega)] at this
                      exact this
                    obtain ⟨AK, cK, hKb, hKo⟩ := hKr.out
                    have hIw : Below w10.heap.size w10 wr := by have := hI.out; rw [hgv'.out] at this; exact this
                    have hKb1 : Hid (Blk wr gs [.slice (some ⟨gx, 0, none⟩) n n, .slice AK (kers R P n q).length cK, .int .i64 0] 47) := hKb.below hIw hKb.lt
                    have hKo1 : Hid (OwnO (· ≤ gs) wr (gs + 1) (.slice AK (kers R P n q).length cK) (kers R P n q)) := hKo.keep hIw
                    have hRO : Hid (RowO (· ≤ gs) wr (Value.slice AK (kers R P n q).length cK).ownBlock (.slice (some ⟨gv, 0, none⟩) n n) (kerX R P n q)) := new_o hVF.out (kerX_len _ _ _ _) (by unfold maxLen; omega) (Nat.le_of_eq hgv'.out.symm) hKo (by have := hgs10.out; omega)
                    have hln : (kers R P n q).length ≤ 1000000 := by have := kers_len R P n q; omega
                    have hbase : gs + 1 ≤ wr.heap.size := hKb1.out.lt
                    have hX9 : Hid (Blk wr gx ((rsX S n).map bv) 5) := hX.out.below hIw hX.out.lt
                    have hgx9 : gx < gs + 1 := by have := hgg.out; omega
                    have e1 := hKb1.out.cell (j := 1) rfl
                    obtain ⟨kl, hkl⟩ : ∃ kl, (kers R P n q).length = kl := ⟨_, rfl⟩
                    rw [hkl] at e1 hRO hKo1 hKb1
                    have hkl' := Lib.hid hkl
                    obtain ⟨kl1, hkl10⟩ : ∃ kl, (kers R P n q ++ [kerX R P n q]).length = kl := ⟨_, rfl⟩
                    have hkl1 := Lib.hid hkl10
                    clear hkl10
                    clear hKb hKo hIw hkl
                    go_wp2_with (first | (at_builtin; go_must (refine push_o rfl _ _ rfl (gs + 1) (.slice AK kl cK) (kers R P n q) (kerX R P n q) _ rfl rfl hKo1.out hRO.out hln hbase ?_); intro v11 w11 ho11 hb11; obtain ⟨A12, c12, hv12, _⟩ := ho11.mat; rw [hkl1.out] at hv12; subst hv12; have hKb2 := Lib.hid (hKb1.out.below hb11 (Nat.lt_succ_self gs)); have hX10 := Lib.hid (hX9.out.below hb11 hgx9); have hO12 := Lib.hid ho11; have hB12 := Lib.hid hb11; clear ho11 hb11) | (refine wpList_blk_store rfl 22 _ _ rfl 1 (.slice A12 kl1 c12) rfl rfl hKb2.out size_rows (by show 1 + 1 ≤ 3; omega) (one_slice _ _ _) ?_; intro w13 hw13 ho13))
                    have hK13 : Hid (KRel gx gs n w13 (kers R P n (q + 1))) := by
                      show KRel _ _ _ _ _
                      rw [hks.out]
                      show KRel _ _ _ _ (kers R P n q ++ [kerX R P n q])
                      refine ⟨A12, c12, ?_, ?_⟩
                      · rw [hkl1.out]; exact hw13.out
                      · rw [hkl1.out]; exact hO12.out.only ho13 (Nat.lt_succ_self gs) (Nat.le_refl gs)
                    have hX13 : Hid (Blk w13 gx ((rsX S n).map bv) 5) := blk_apart hX10.out ho13 (by have := hgg.out; omega)
                    have hB13 : Hid (Below gx w6 w13) := (hB6w.out.trans (hB12.out.mono (by omega))).trans (ho13.below (by have := hgg.out; omega))
                    clear hw13 ho13 hKb2 hX10 hO12 hB12 hKo1 hKb1 hRO hX9 e1
                    go_roundw
                    case rel => exact ⟨q + 1, by omega, by go_num, hX13.out, hK13.out, hB13.out⟩
                    case measure => simp [intOf]; omega
            · have tq : ¬ (q : Int) < (n : Int) := by omega
              have ek : n = q := by omega
              subst ek
              obtain ⟨AK, cK, hKb0, hKo0⟩ := hKr.out
              have hKb := Lib.hid hKb0
              have hKo := Lib.hid hKo0
              obtain ⟨kl, hkl0⟩ : ∃ kl, (kers R P n n).length = kl := ⟨_, rfl⟩
              have hkl := Lib.hid hkl0
              rw [hkl0] at hKb hKo
              clear hKb0 hKo0 hkl0
              have hw6x : Hid (w.heap.size + 1 ≤ gx) := by have := hgg.out; show _ ≤ _; omega
              have hR9 : Hid (Blk wq w.heap.size [.slice none 0 0, .slice none 0 0, .int .i64 0] 47) := hR6.out.below (hb.out.mono hw6x.out) (Nat.lt_succ_self _)
              have hfin : Hid (∀ w20, Only w.heap.size wq w20 → SolvedEnd w (rsX S n) (rsK S n) (rsE S n) (.returned (.agg #[.slice (some ⟨gx, 0, none⟩) n n, .slice AK kl cK, .int .i64 0])) w20) := fun w20 ho20 => by
                have hxl : (rsX S n).length = n := by rw [hgood.out.2.1, setP_len, List.length_replicate]
                have hkk : (rsK S n).length = kl := by rw [hgood.out.2.2]; exact hkl.out
                refine ⟨some ⟨gx, 0, none⟩, n, AK, cK, by rw [hxl, hkk, hgood.out.1], ?_, ?_, (hB6.out.trans (hb.out.mono (by have := hgx'.out; have := hB6.out.size; omega))).trans (ho20.below (Nat.le_refl _)), fun y hy => ⟨?_, fun ad ha => by cases ha; have := hgg.out; show gx ≠ y; omega⟩⟩
                rotate_right
                · rw [hgood.out.2.2]
                  exact (hKo.out.only ho20 (by have := hgg.out; omega) (by have := hgg.out; show w.heap.size ≤ gs; omega)).matX (by have := hgg.out; show y ≤ gs; omega) (by have := hgg.out; omega)
                · have h1 := (blk_apart hX.out ho20 (by have := hgg.out; omega)).rds 0 n
                  rw [List.drop_zero, List.take_of_length_le (by rw [List.length_map, hxl]; exact Nat.le_refl _)] at h1
                  exact h1
                · rw [hgood.out.2.2]
                  obtain ⟨A3, c3, e3, _, _, _, g5⟩ := (hKo.out.only ho20 (by have := hgg.out; omega) (by have := hgg.out; show w.heap.size ≤ gs; omega)).mat
                  cases e3
                  exact g5
              clear hX hKo
              go_wp2_with (first | (refine wpList_blk_load rfl 47 _ rfl 0 rfl hKb.out [.slice (some ⟨gx, 0, none⟩) n n, .slice AK kl cK, .int .i64 0] rfl dd hdu'.out hdr size_sol ?_) | (refine wpList_row_store rfl 47 _ _ rfl [.slice (some ⟨gx, 0, none⟩) n n, .slice AK kl cK, .int .i64 0] rfl rfl hR9.out size_sol rfl (sol_one _ _ _ _ _ _ _) ?_; intro w20 hw20 ho20))
              exact bodyPost_ret (ret_blk rfl _ w20 (g := w.heap.size) rfl hw20.out dd hdu'.out hdr size_sol) rfl (hfin.out w20 ho20)
end Go.Proofs.YtfbdhcpclccikaaDoor
