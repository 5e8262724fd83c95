/-
  The law on the hash of a row of bytes: its walk.
-/
import Derived.Test.YtedhjjlnionckaaDoorRfin
import Derived.Test.YtedhjjlnionckaaDoorOpn
namespace Go.Proofs.YtedhjjlnionckaaDoor
set_option linter.unusedVariables false
open Go.RowKit

set_option maxRecDepth 100000 in
set_option maxHeartbeats 2000000 in
theorem walk_sumspec (A : Option Addr) (c : Nat) (l : List UInt8) (w : World) (H : SlB w A l.length c l) (ht : Tab 1 w) (hc : Tab 0 w) :
    Calls Tryd.prog 3 #[.slice A l.length c] w (OkEnd true w) := by
  have hT := Lib.hid ht
  have hC := Lib.hid hc
  have HSan := Lib.hid (fun W hT => sanity_any W hT)
  have hR := Lib.hid H.rds
  have hreach := H.reach
  clear H
  by_cases hA : 600 < l.length
  · obtain ⟨n, hn⟩ : ∃ n, n = l.length := ⟨_, rfl⟩
    rw [← hn] at hA hreach ⊢
    have t1 : (600 : Int) < (n : Int) := by omega
    clear hn
    go_enter Tryd.func3, Tryd.ntmps3
    go_wp2_with fail
    refine (HSan.out _ ht).mono ?_
    rintro e w1 ⟨rfl, hb1⟩
    go_wp2_with fail
    go_ret
    exact ⟨rfl, hb1⟩
  · obtain ⟨Z, hZ⟩ : ∃ Z, Z = Sha.sum l := ⟨_, rfl⟩
    have hZl : Z.length = 32 := by rw [hZ]; exact Sha.sum_len l
    have H1 := Lib.hid (fun W (hr : Rds W W.heap.size A (l.map bv)) hT => hashSum_any l A c W hr (by omega) hT)
    have H2 := Lib.hid (fun W A2 c2 (hr : Rds W W.heap.size (some A2) (l.map bv)) hC => refSum l (some A2) c2 W hr (fun h => by cases h) (by omega) hC)
    rw [← hZ] at H1 H2
    have hcv := Lib.hid (fun W B hr => conv_at l A c B W hr)
    have hl6 : l.length ≤ 600 := by omega
    obtain ⟨S, hS0⟩ : ∃ S, S = bs l := ⟨_, rfl⟩
    have hS := Lib.hid hS0
    rw [← hS0] at hcv
    have hZm : (Z.map bv).length = 32 := by rw [List.length_map, hZl]
    have hZs : Hid ((Tryd.prog.info? 24).map (·.size) = some (Z.map bv).length) := by show _ = _; rw [hZm]; exact size_b32
    have hZo := av_one Z
    have hSS : (S.toList == S.toList) = true := by simp
    obtain ⟨n, hn⟩ : ∃ n, n = l.length := ⟨_, rfl⟩
    have hnl := Lib.hid hn
    rw [← hn] at H1 hcv hl6 ⊢
    have t1 : ¬ (600 : Int) < (n : Int) := by omega
    unfold av at H1 H2
    clear hZ hS0 hn hA hreach
    go_enter Tryd.func3, Tryd.ntmps3
    go_wp2_with fail
    refine (HSan.out _ ht).mono ?_
    rintro e w1 ⟨rfl, hb1⟩
    have hr1 := Lib.hid ((hR.out.below hb1).more hb1.size)
    have hcx := hcv.out _ _ hr1.out
    go_wp2_with fail
    refine (H1.out _ hr1.out (hT.out.on hb1)).mono ?_
    rintro e w2 ⟨rfl, hb2⟩
    have hB2 : Below w.heap.size w w2 := hb1.trans (hb2.mono hb1.size)
    clear hb1 hb2 hr1 hcx
    go_wp2_with (refine wpList_row_store rfl 24 _ _ rfl (Z.map bv) rfl rfl (Blk.new w2 (bz 32) 24) hZs.out (by rw [hZm]; rfl) hZo ?_; intro w3 hW3 ho3; have hB3 : Below w.heap.size w w3 := (hB2.alloc hB2.size _).trans (ho3.below hB2.size))
    refine wp_region_planL 99 [(true, 0), (true, 1), (true, 2), (true, 3), (false, 4), (false, 5), (true, 6), (true, 7), (true, 8), (true, 9), (true, 10), (true, 11), (true, 12), (true, 13), (true, 14)] (by kernel_rfl) (by decide) (by kernel_rfl) (by kernel_rfl) (by kernel_rfl) (by decide) (by intro c a d v w h; cases d <;> exact h) ?_
    change wpPlanL _ _ _ _ _ _ w3.drew
    iterate 2 (refine wpPlanL_plain rfl (fun K hK => ?_); go_simp; refine hK _ ?_; clear hK K)
    refine wpPlanL_runW rfl (by rfl) _ (fun x => load_run 24 _ rfl w2.heap.size 0 rfl (Z.map bv) (.array 32 5) Tryd.underlying24 rfl hZs.out x.world ((hW3.out.below (x.below (Nat.le_refl _)) hW3.out.lt).range 0 _ (take_all0 _))) ?_
    iterate 1 (refine wpPlanL_plain rfl (fun K hK => ?_); go_simp; refine hK _ ?_; clear hK K)
    refine wpPlanL_call rfl (fun K hK => ?_)
    refine wpList_bytes_ofW (by rfl) _ rfl l S hS.out rfl ?_
    intro w4 A4 c4 hr4 hb4
    refine wpList_end (planPostL_normal ⟨.inr hb4, hK _ _ ?_⟩)
    clear hK K
    have hb4 := drewBelow hb4
    have hB4 : Below w.heap.size w w4 := hB3.trans (hb4.mono hB3.size)
    refine wpPlanL_call rfl (fun K hK => ?_)
    go_wp2_with fail
    refine (H2.out _ _ _ hr4 (hC.out.on hB4)).mono ?_
    rintro e w5 ⟨rfl, hb5⟩
    go_wp2_with fail
    refine planPostL_normal ⟨.inr hb5, hK _ _ ?_⟩
    clear hK K
    have hB5 : Below w.heap.size w w5 := hB4.trans (hb5.mono hB4.size)
    have hcx := fun x : ExtOf w5 => hcv.out x.world _ ((hR.out.below (hB5.trans (x.ext.mono hB5.size))))
    refine wpPlanL_runW rfl (by rfl) _ (fun x => eql_run 24 _ _ _ rfl 32 Tryd.underlying24 (by kernel_rfl) Z Z hZl hZl rfl rfl true (by simp) x.world) ?_
    iterate 3 (refine wpPlanL_plain rfl (fun K hK => ?_); go_simp; refine hK _ ?_; clear hK K)
    iterate 2 (refine wpPlanL_plain rfl (fun K hK => ?_); go_simp; refine hK _ ?_; clear hK K)
    refine wpPlanL_runW rfl (by rfl) _ (fun x => eqs_run _ _ _ _ rfl Tryd.underlying9 _ _ true hSS rfl rfl x.world) ?_
    iterate 2 (refine wpPlanL_plain rfl (fun K hK => ?_); go_simp; refine hK _ ?_; clear hK K)
    refine wpPlanL_nil ?_
    go_wp2_with fail
    go_ret
    exact ⟨rfl, hB5⟩
end Go.Proofs.YtedhjjlnionckaaDoor
