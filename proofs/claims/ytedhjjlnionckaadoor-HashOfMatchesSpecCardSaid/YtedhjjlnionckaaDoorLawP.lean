/-
  The law on digests of parts: its walk.
-/
import Derived.Test.YtedhjjlnionckaaDoorRfin
import Derived.Test.YtedhjjlnionckaaDoorOpn
namespace Go.Proofs.YtedhjjlnionckaaDoor
set_option linter.unusedVariables false
open Go.RowKit

set_option maxRecDepth 100000 in
set_option maxHeartbeats 2000000 in
theorem walk_ofspec (tag : Int) (A : Option Addr) (c : Nat) (l : List (List UInt8)) (w : World) (htag : -9223372036854775808 ≤ tag ∧ tag ≤ 9223372036854775807) (H : SlS w A l.length c l) (ht : Tab 1 w) (hc : Tab 0 w) :
    Calls Tryd.prog 4 #[.int .i64 tag, .slice A l.length c] w (OkEnd true w) := by
  have hT := Lib.hid ht
  have hC := Lib.hid hc
  have HSan := Lib.hid (fun W hT => sanity_any W hT)
  have hR := Lib.hid H.rds
  have hreach := H.reach
  clear H
  have F1 := Lib.hid (fun W (hb : Below w.heap.size w W) => few02_any l A c W (hR.out.below hb) hreach)
  by_cases hf : FewS l
  · rw [decide_eq_true hf] at F1
    have hml := message_few hf
    have hl12 := hf.1
    obtain ⟨D, hD⟩ : ∃ D, D = Sha.hashOf tag l := ⟨_, rfl⟩
    have hDl : D.length = 16 := by rw [hD]; unfold Sha.hashOf; rw [List.length_take, Sha.sum_len]; rfl
    have H1 := Lib.hid (fun W (hr : Rds W W.heap.size A (l.map sv)) hT => of_any tag l A c W hr (by omega) (by omega) hT)
    have H2 := Lib.hid (fun W (hr : Rds W W.heap.size A (l.map sv)) hC => refOf_of refSum tag l A c W hr (by omega) (by omega) hC)
    have H3 := Lib.hid (fun W (hr : Rds W W.heap.size A (l.map sv)) hT => of_any (tag % 256) l A c W hr (by omega) (by omega) hT)
    rw [hashOf_255] at H3
    rw [← hD] at H1 H2 H3
    have hand := i64_and255 tag
    have hDm : (D.map bv).length = 16 := by rw [List.length_map, hDl]
    have hDs := Lib.hid (size_dig16 _ hDm)
    have hDo := av_one D
    obtain ⟨n, hn⟩ : ∃ n, n = l.length := ⟨_, rfl⟩
    have hnl := Lib.hid hn
    rw [← hn] at H1 H2 H3 F1 hl12 ⊢
    unfold av at H1 H2 H3
    clear hD hn hreach hml hf
    go_enter Tryd.func4, Tryd.ntmps4
    go_wp2_with fail
    refine (HSan.out _ ht).mono ?_
    rintro e w1 ⟨rfl, hb1⟩
    go_wp2_with fail
    refine (F1.out _ hb1).mono ?_
    rintro e w1' ⟨rfl, rfl⟩
    go_wp2_with fail
    refine (H1.out _ ((hR.out.below hb1).more hb1.size) (hT.out.on hb1)).mono ?_
    rintro e w2 ⟨rfl, hb2⟩
    have hB2 : Below w.heap.size w w2 := hb1.trans (hb2.mono hb1.size)
    clear hb1 hb2
    go_wp2_with (refine wpList_row_store rfl 30 _ _ rfl (D.map bv) rfl rfl (Blk.new w2 (bz 16) 30) hDs.out (by rw [hDm]; rfl) hDo ?_; intro w3 hW3 ho3; have hB3 : Below w.heap.size w w3 := (hB2.alloc hB2.size _).trans (ho3.below hB2.size))
    refine wp_region_planL 99 [(true, 0), (true, 1), (true, 2), (true, 3), (true, 4), (false, 5), (true, 6), (true, 7), (true, 8), (true, 9), (true, 10), (true, 11), (true, 12), (false, 13), (true, 14), (true, 15), (true, 16)] (by kernel_rfl) (by decide) (by kernel_rfl) (by kernel_rfl) (by kernel_rfl) (by decide) (by intro c a d v w h; cases d <;> exact h) ?_
    change wpPlanL _ _ _ _ _ _ w3.drew
    iterate 2 (refine wpPlanL_plain rfl (fun K hK => ?_); go_simp; refine hK _ ?_; clear hK K)
    refine wpPlanL_runW rfl (by rfl) _ (fun x => load_run 30 _ rfl w2.heap.size 0 rfl (D.map bv) (.array 16 5) Tryd.underlying30 rfl hDs.out x.world ((hW3.out.below (x.below (Nat.le_refl _)) hW3.out.lt).range 0 _ (take_all0 _))) ?_
    iterate 2 (refine wpPlanL_plain rfl (fun K hK => ?_); go_simp; refine hK _ ?_; clear hK K)
    refine wpPlanL_call rfl (fun K hK => ?_)
    go_wp2_with fail
    refine (H2.out _ ((hR.out.below hB3.drew).more hB3.size) (hC.out.on hB3.drew)).mono ?_
    rintro e w5 ⟨rfl, hb5⟩
    go_wp2_with fail
    refine planPostL_normal ⟨.inr hb5, hK _ _ ?_⟩
    clear hK K
    have hb5 := drewBelow hb5
    have hB5 : Below w.heap.size w w5 := hB3.trans (hb5.mono hB3.size)
    have hW5 := Lib.hid (hW3.out.below hb5 hW3.out.lt)
    refine wpPlanL_runW rfl (by rfl) _ (fun x => eql_run 30 _ _ _ rfl 16 Tryd.underlying30 (by kernel_rfl) D D hDl hDl rfl rfl true (by simp) x.world) ?_
    iterate 2 (refine wpPlanL_plain rfl (fun K hK => ?_); go_simp; refine hK _ ?_; clear hK K)
    refine wpPlanL_runW rfl (by rfl) _ (fun x => load_run 30 _ rfl w2.heap.size 0 rfl (D.map bv) (.array 16 5) Tryd.underlying30 rfl hDs.out x.world ((hW5.out.below x.ext hW5.out.lt).range 0 _ (take_all0 _))) ?_
    iterate 3 (refine wpPlanL_plain rfl (fun K hK => ?_); go_simp; refine hK _ ?_; clear hK K)
    refine wpPlanL_call rfl (fun K hK => ?_)
    go_wp2_with fail
    refine (H3.out _ ((hR.out.below hB5).more hB5.size) (hT.out.on hB5)).mono ?_
    rintro e w6 ⟨rfl, hb6⟩
    go_wp2_with fail
    refine planPostL_normal ⟨.inr hb6, hK _ _ ?_⟩
    clear hK K
    have hB6 : Below w.heap.size w w6 := hB5.trans (hb6.mono hB5.size)
    refine wpPlanL_runW rfl (by rfl) _ (fun x => eql_run 30 _ _ _ rfl 16 Tryd.underlying30 (by kernel_rfl) D D hDl hDl rfl rfl true (by simp) x.world) ?_
    iterate 2 (refine wpPlanL_plain rfl (fun K hK => ?_); go_simp; refine hK _ ?_; clear hK K)
    refine wpPlanL_nil ?_
    go_wp2_with fail
    go_ret
    exact ⟨rfl, hB6⟩
  · rw [decide_eq_false hf] at F1
    clear hf
    go_enter Tryd.func4, Tryd.ntmps4
    go_wp2_with fail
    refine (HSan.out _ ht).mono ?_
    rintro e w1 ⟨rfl, hb1⟩
    go_wp2_with fail
    refine (F1.out _ hb1).mono ?_
    rintro e w1' ⟨rfl, rfl⟩
    go_wp2_with fail
    go_ret
    exact ⟨rfl, hb1⟩
end Go.Proofs.YtedhjjlnionckaaDoor
