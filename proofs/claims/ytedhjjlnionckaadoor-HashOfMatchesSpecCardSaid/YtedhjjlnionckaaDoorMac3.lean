/-
  Contracts of stage 2: Mac.
-/
import Derived.Test.YtedhjjlnionckaaDoorOf
namespace Go.Proofs.YtedhjjlnionckaaDoor
set_option linter.unusedVariables false
open Go.RowKit

set_option maxRecDepth 100000 in
set_option maxHeartbeats 1000000 in
theorem mac_any (key : List UInt8) (parts : List (List UInt8)) (A : Option Addr) (c : Nat) (w : World) (hr : Rds w w.heap.size A (parts.map sv)) (hn : parts.length ≤ 1000000) (hlen : key.length + (Sha.message parts).length ≤ 100000000) (ht : Tab 1 w) :
    Calls Tryd.prog 22 #[sv key, .slice A parts.length c] w fun e w' => e = .returned (av (Sha.mac key parts)) ∧ Below w.heap.size w w' := by
  have HK := Lib.hid (fun W hT => keyedBy_any key W (by omega) hT)
  have HA := Lib.hid (fun v W (h : SVal (ipad key) v) (hrW : Rds W W.heap.size A (parts.map sv)) (hT : Tab 1 W) => addParts_any (ipad key) parts v A c W h hrW (by omega) (by rw [ipad_len]; omega) hT)
  have HS := Lib.hid (fun v vs W (h : KVal key v) (hs : SVal (ipad key ++ Sha.message parts) vs) (hT : Tab 1 W) => keyedSum_any key (ipad key ++ Sha.message parts) v vs W h hs (by rw [List.length_append, ipad_len]; omega) hT)
  have hYl := Sha.hmac_len key (Sha.message parts)
  rw [← hmac_pads] at HS
  have HD := Lib.hid (fun W => digest_any (Sha.hmac key (Sha.message parts)) W hYl)
  change Hid (∀ W, Calls _ _ _ W fun e w' => e = .returned (av (Sha.mac key parts)) ∧ _) at HD
  have hDl : ((Sha.mac key parts).map bv).length = 16 := by unfold Sha.mac; rw [List.length_map, List.length_take, hYl]; rfl
  have hY1 := av_one (Sha.mac key parts)
  have hszY := Lib.hid (size_dig16 _ hDl)
  unfold av at HS HD ⊢
  generalize (Sha.mac key parts).map bv = D at HD hDl hY1 hszY ⊢
  generalize (Sha.hmac key (Sha.message parts)).map bv = Z at HS HD
  unfold sv at HK ⊢
  have hR0 := Blk.new w (bz 16) 30
  have hB0 : Below w.heap.size w (w.alloc (.cells (bz 16).toArray 30)) := (Below.refl _ _).alloc (Nat.le_refl _) _
  have hT0 := ht.on hB0
  clear hlen hYl hn
  go_enter Tryd.func22, Tryd.ntmps22
  go_wp2_with fail
  refine (HK.out _ hT0).mono ?_
  rintro e w1 ⟨⟨v1, rfl, hk1⟩, hb1⟩
  obtain ⟨Li, Lo, rfl, ⟨hvi, hLi, hLi1⟩, ⟨hvo, hLo, hLo1⟩⟩ := id hk1
  have hk1' := Lib.hid hk1
  have hvi' := Lib.hid hvi
  have hszK : Hid ((Tryd.prog.info? 103).map (·.size) = some (Li ++ Lo).length) := by show _ = _; rw [List.length_append, hLi, hLo]; exact size_key
  have hszI : Hid ((Tryd.prog.info? 87).map (·.size) = some Li.length) := by show _ = _; rw [hLi]; exact size_str
  have h1 : Hid (∀ u ∈ Li ++ Lo, u.oneCell' = true) := fun u hu => (List.mem_append.1 hu).elim (hLi1 u) (hLo1 u)
  have hcutI : ((Li ++ Lo).drop 0).take Li.length = Li := by rw [List.drop_zero, List.take_left' rfl]
  have hlK : (Li ++ Lo).length = (Tryd.zeroCells103).toList.length := by rw [List.length_append, hLi, hLo, Array.length_toList, zero_key]
  have hR1 := Lib.hid ((hR0.below hb1 hR0.lt).alloc (.cells Tryd.zeroCells103 103))
  have hB1 : Below w.heap.size w (w1.alloc (.cells Tryd.zeroCells103 103)) := (hB0.trans (hb1.mono hB0.size)).alloc (Nat.le_trans hB0.size hb1.size) _
  have hne : w.heap.size < w1.heap.size := Nat.lt_of_lt_of_le hR0.lt hb1.size
  have hD1 := Blk.new' w1 Tryd.zeroCells103 103
  clear hb1 hR0 hB0 hT0 HK hk1 hvi hvo hLi1 hLo1
  go_wp2_with (refine wpList_row_store rfl 103 _ _ rfl (Li ++ Lo) rfl rfl hD1 hszK.out hlK h1.out ?_; intro w2 hW2 ho2)
  have hR2 := Lib.hid (hR1.out.only ho2 (by omega))
  have hB2 : Below w.heap.size w w2 := hB1.trans (ho2.below (by omega))
  have hT2 := ht.on hB2
  have hr2 : Rds w2.drew w2.drew.heap.size A (parts.map sv) := (hr.below hB2).more hB2.size
  clear hR1 hB1 ht ho2 hr
  refine wp_region_planL 7 [(true, 0), (true, 1), (true, 2), (true, 3), (false, 4), (false, 5), (false, 6), (false, 7)] (by kernel_rfl) (by decide) (by kernel_rfl) (by kernel_rfl) (by kernel_rfl) (by decide) (by intro c a d v w h; cases d <;> exact h) ?_
  change wpPlanL _ _ _ _ _ _ w2.drew
  refine wpPlanL_load rfl rfl 103 _ rfl w1.heap.size 0 rfl (Li ++ Lo) _ Tryd.underlying103 rfl hszK.out (fun x => ((hW2.out.below (x.below (Nat.le_refl _)) hW2.out.lt).range 0 _ (take_all0 _))) ?_
  iterate 1 (refine wpPlanL_plain rfl (fun K hK => ?_); go_simp; refine hK _ ?_; clear hK K)
  refine wpPlanL_load rfl rfl 87 _ rfl w1.heap.size 0 rfl Li _ Tryd.underlying87 rfl hszI.out (fun x => ((hW2.out.below (x.below (Nat.le_refl _)) hW2.out.lt).range 0 Li hcutI)) ?_
  iterate 1 (refine wpPlanL_plain rfl (fun K hK => ?_); go_simp; refine hK _ ?_; clear hK K)
  refine wpPlanL_call rfl (fun K hK => ?_)
  go_wp2_with fail
  refine (HA.out _ _ hvi'.out hr2 hT2.drew).mono ?_
  rintro e w3 ⟨v3, ⟨rfl, hv3⟩, hb3⟩
  go_wp2_with fail
  refine planPostL_normal ⟨.inr hb3, hK _ _ ?_⟩
  clear hK K
  have hb3 := drewBelow hb3
  refine wpPlanL_call rfl (fun K hK => ?_)
  go_wp2_with fail
  refine (HS.out _ _ _ hk1'.out hv3 (hT2.on hb3)).mono ?_
  rintro e w7 ⟨rfl, hb7⟩
  go_wp2_with fail
  refine planPostL_normal ⟨.inr hb7, hK _ _ ?_⟩
  clear hK K hv3
  refine wpPlanL_call rfl (fun K hK => ?_)
  go_wp2_with fail
  refine (HD.out _).mono ?_
  rintro e w8 ⟨rfl, hb8⟩
  go_wp2_with fail
  refine planPostL_normal ⟨.inr hb8, hK _ _ ?_⟩
  clear hK K
  have hb27 : Below w2.heap.size w2 w7 := hb3.trans (hb7.mono hb3.size)
  have hb28 : Below w2.heap.size w2 w8 := hb27.trans (hb8.mono hb27.size)
  have hR8 := hR2.out.below hb28 hR2.out.lt
  refine wpPlanL_call rfl (fun K hK => ?_)
  refine wpList_row_store rfl 30 _ _ rfl D rfl rfl hR8 hszY.out hDl hY1 ?_
  intro w9 hW9 ho9
  refine wpList_end (planPostL_normal ⟨.inl rfl, hK _ _ ?_⟩)
  clear hK K
  refine wpPlanL_nil ?_
  go_wp2_with fail
  exact bodyPost_ret (ret_blk rfl _ w9 (g := w.heap.size) rfl hW9.out (.array 16 5) arr_dig rfl hszY.out) rfl ⟨rfl, (hB2.trans (hb28.mono hB2.size)).trans (ho9.below (Nat.le_refl _))⟩
end Go.Proofs.YtedhjjlnionckaaDoor
