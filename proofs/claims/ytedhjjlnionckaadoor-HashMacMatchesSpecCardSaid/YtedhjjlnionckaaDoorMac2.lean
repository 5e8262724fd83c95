/-
  Contracts of stage 2: Hmac, Mac.
-/
import Derived.Test.YtedhjjlnionckaaDoorMac
namespace Go.Proofs.YtedhjjlnionckaaDoor
set_option linter.unusedVariables false
open Go.RowKit

theorem Tab.drew {g : Nat} {w : World} (h : Tab g w) : Tab g w.drew := h

set_option maxRecDepth 100000 in
set_option maxHeartbeats 1000000 in
theorem keyedSum_any (key m : List UInt8) (v vs : Value) (w : World) (hk : KVal key v) (hs : SVal m vs) (hlen : m.length ≤ 1000000000) (ht : Tab 1 w) :
    Calls Tryd.prog 66 #[v, vs] w fun e w' => e = .returned (av (Sha.sum (opad key ++ Sha.sum m))) ∧ Below w.heap.size w w' := by
  obtain ⟨Li, Lo, rfl, ⟨hvi, hLi, hLi1⟩, ⟨hvo, hLo, hLo1⟩⟩ := hk
  obtain ⟨Ls, rfl, hLs, hLs1⟩ := hs.cells
  have hZl := Sha.sum_len m
  have hYl := Sha.sum_len (opad key ++ Sha.sum m)
  have HM := Lib.hid (fun W (hT : Tab 1 W) => sum_v m _ W hs hlen hT)
  have HA := Lib.hid (fun W (hT : Tab 1 W) => add_v (opad key) (Sha.sum m) _ W hvo (by rw [opad_len, hZl]; omega) hT)
  have HM2 := Lib.hid (fun v W (h : SVal (opad key ++ Sha.sum m) v) (hT : Tab 1 W) => sum_v (opad key ++ Sha.sum m) v W h (by rw [List.length_append, opad_len, hZl]; omega) hT)
  generalize hY : Sha.sum (opad key ++ Sha.sum m) = Y at HM2 hYl ⊢
  have hszS : Hid ((Tryd.prog.info? 87).map (·.size) = some Ls.length) := by show _ = _; rw [hLs]; exact size_str
  have hszO : Hid ((Tryd.prog.info? 87).map (·.size) = some Lo.length) := by show _ = _; rw [hLo]; exact size_str
  have hcutO : ((Li ++ Lo).drop 73).take Lo.length = Lo := by rw [List.drop_left' hLi, List.take_of_length_le (Nat.le_refl _)]
  obtain ⟨W3, hW3⟩ : ∃ W3, W3 = ((w.alloc (.cells (Li ++ Lo).toArray 103)).alloc (.cells Ls.toArray 87)).alloc (.cells (bz 32).toArray 24) := ⟨_, rfl⟩
  have hB0 : Blk W3 w.heap.size (Li ++ Lo) 103 := by rw [hW3]; exact ((Blk.new _ _ _).alloc _).alloc _
  have hS0 : Blk W3 (w.heap.size + 1) Ls 87 := by rw [hW3]; exact ((Blk.new _ _ _).alloc _).at (by simp)
  have hR0 : Blk W3 (w.heap.size + 1 + 1) (bz 32) 24 := by rw [hW3]; exact (Blk.new _ _ _).at (by simp)
  have hbel : Below w.heap.size w W3 := by rw [hW3]; exact (((Below.refl _ _).alloc (by simp) _).alloc (by simp) _).alloc (by simp; omega) _
  have hs3 : W3.heap.size = w.heap.size + 1 + 1 + 1 := by rw [hW3]; simp
  have hT0 := ht.on hbel
  have HMx : Hid (Calls Tryd.prog 54 #[.agg Ls.toArray] W3 fun e w' => e = .returned (av (Sha.sum m)) ∧ Below W3.heap.size W3 w') := HM.out W3 hT0
  have hS0' : Hid (Blk (((w.alloc (.cells (Li ++ Lo).toArray 103)).alloc (.cells Ls.toArray 87)).alloc (.cells (bz 32).toArray 24)) (w.heap.size + 1) Ls 87) := by show Blk _ _ _ _; rw [← hW3]; exact hS0
  have HMx' : Hid (Calls Tryd.prog 54 #[.agg Ls.toArray] (((w.alloc (.cells (Li ++ Lo).toArray 103)).alloc (.cells Ls.toArray 87)).alloc (.cells (bz 32).toArray 24)) fun e w' => e = .returned (av (Sha.sum m)) ∧ Below W3.heap.size W3 w') := by rw [← hW3]; exact HMx
  clear HMx hW3 HM hs hlen
  unfold av at HMx' HM2 ⊢
  unfold sv at HA
  have hZ32 : ((Sha.sum m).map bv).length = 32 := by rw [List.length_map, hZl]
  have hZ1 := av_one (Sha.sum m)
  have hszZ : Hid ((Tryd.prog.info? 24).map (·.size) = some ((Sha.sum m).map bv).length) := by show _ = _; rw [hZ32]; exact size_b32
  have hY32 : (Y.map bv).length = 32 := by rw [List.length_map, hYl]
  have hY1 := av_one Y
  have hszY : Hid ((Tryd.prog.info? 24).map (·.size) = some (Y.map bv).length) := by show _ = _; rw [hY32]; exact size_b32
  have hcv : Hid (∀ W B A, Rds W B A ((Sha.sum m).map bv) → (convert 22 9 (.slice A 32 32)).run Tryd.prog W = .ok (.string (bs (Sha.sum m))) W) := fun W B A h => by
    have := run_bytes_bs (P := Tryd.prog) W 22 9 5 Tryd.underlying22 Tryd.underlying5 Tryd.underlying9 32 h
    rw [hZl] at this
    exact this
  generalize (Sha.sum m).map bv = Z at HMx' hZ32 hZ1 hszZ hcv
  clear hY hYl hZl
  generalize Y.map bv = D at HM2 hY32 hY1 hszY ⊢
  go_enter Tryd.func66, Tryd.ntmps66
  go_wp2_with (refine wpList_blk_load rfl 87 _ rfl 0 rfl hS0'.out Ls (take_all0 _) _ Tryd.underlying87 rfl hszS.out ?_)
  refine HMx'.out.mono ?_
  rintro e w4 ⟨rfl, hb4⟩
  have hB4 := Lib.hid ((hB0.below hb4 hB0.lt).alloc (.cells (bz 32).toArray 24))
  have hR4 := Lib.hid ((hR0.below hb4 hR0.lt).alloc (.cells (bz 32).toArray 24))
  have hbw4 : Below w.heap.size w (w4.alloc (.cells (bz 32).toArray 24)) := (hbel.trans (hb4.mono hbel.size)).alloc (Nat.le_trans hbel.size hb4.size) _
  have hs4 : w.heap.size + 1 + 1 + 1 ≤ w4.heap.size := by have := hb4.size; omega
  have hD4 := Blk.new w4 (bz 32) 24
  clear hb4 hB0 hS0 hR0 hbel hT0 hS0' HMx'
  go_wp2_with (refine wpList_row_store rfl 24 _ _ rfl Z rfl rfl hD4 hszZ.out (by rw [hZ32]; rfl) hZ1 ?_; intro w5 hW5 ho5)
  have hB5 := Lib.hid (hB4.out.only ho5 (by omega))
  have hR5 := Lib.hid (hR4.out.only ho5 (by omega))
  have hbw5 : Below w.heap.size w w5 := hbw4.trans (ho5.below (by omega))
  have hT5 := ht.on hbw5
  clear hB4 hR4 hbw4 hD4 ho5 ht
  refine wp_region_planL 6 [(true, 0), (true, 1), (true, 2), (true, 3), (false, 4), (false, 5), (false, 6)] (by kernel_rfl) (by decide) (by kernel_rfl) (by kernel_rfl) (by kernel_rfl) (by decide) (by intro c a d v w h; cases d <;> exact h) ?_
  change wpPlanL _ _ _ _ _ _ w5.drew
  have hcx := fun x : ExtOf w5.drew => hcv.out x.world _ _ (by simpa [hZ32] using (hW5.out.below (x.below (Nat.le_refl _)) hW5.out.lt).rds 0 32 |> fun h => by rw [List.drop_zero, List.take_of_length_le (Nat.le_of_eq hZ32)] at h; exact h)
  iterate 1 (refine wpPlanL_plain rfl (fun K hK => ?_); go_simp; refine hK _ ?_; clear hK K)
  refine wpPlanL_load rfl rfl 87 _ rfl w.heap.size 73 rfl Lo _ Tryd.underlying87 rfl hszO.out (fun x => ((hB5.out.below (x.below (Nat.le_refl _)) hB5.out.lt).range 73 Lo hcutO)) ?_
  iterate 2 (refine wpPlanL_plain rfl (fun K hK => ?_); go_simp; refine hK _ ?_; clear hK K)
  refine wpPlanL_call rfl (fun K hK => ?_)
  go_wp2_with fail
  refine (HA.out _ hT5.drew).mono ?_
  rintro e w6 ⟨v6, ⟨rfl, hv6⟩, hb6⟩
  go_wp2_with fail
  refine planPostL_normal ⟨.inr hb6, hK _ _ ?_⟩
  clear hK K hcx
  have hb6 := drewBelow hb6
  refine wpPlanL_call rfl (fun K hK => ?_)
  go_wp2_with fail
  refine (HM2.out _ _ hv6 (hT5.on hb6)).mono ?_
  rintro e w8 ⟨rfl, hb8⟩
  go_wp2_with fail
  refine planPostL_normal ⟨.inr hb8, hK _ _ ?_⟩
  clear hK K hv6
  have hb58 : Below w5.heap.size w5 w8 := hb6.trans (hb8.mono hb6.size)
  have hR8 := hR5.out.below hb58 hR5.out.lt
  refine wpPlanL_call rfl (fun K hK => ?_)
  refine wpList_row_store rfl 24 _ _ rfl D rfl rfl hR8 hszY.out (by rw [hY32]; rfl) hY1 ?_
  intro w9 hW9 ho9
  refine wpList_end (planPostL_normal ⟨.inl rfl, hK _ _ ?_⟩)
  clear hK K
  refine wpPlanL_nil ?_
  go_wp2_with fail
  exact bodyPost_ret (ret_blk rfl _ w9 (g := w.heap.size + 1 + 1) rfl hW9.out (.array 32 5) Tryd.underlying24 rfl hszY.out) rfl ⟨rfl, (hbw5.trans (hb58.mono hbw5.size)).trans (ho9.below (by omega))⟩

theorem bytes_one_le {a b : Nat} (h : a ≤ b) : a ≤ b := h

set_option maxRecDepth 100000 in
set_option maxHeartbeats 1000000 in
theorem hmac_any (key msg : List UInt8) (w : World) (hlen : key.length + msg.length ≤ 100000000) (ht : Tab 1 w) :
    Calls Tryd.prog 20 #[sv key, sv msg] w fun e w' => e = .returned (av (Sha.hmac key msg)) ∧ Below w.heap.size w w' := by
  have HK := Lib.hid (fun W hT => keyedBy_any key W (by omega) hT)
  have HA := Lib.hid (fun v W (h : SVal (ipad key) v) (hT : Tab 1 W) => add_v (ipad key) msg v W h (by rw [ipad_len]; omega) hT)
  have HS := Lib.hid (fun v vs W (h : KVal key v) (hs : SVal (ipad key ++ msg) vs) (hT : Tab 1 W) => keyedSum_any key (ipad key ++ msg) v vs W h hs (by rw [List.length_append, ipad_len]; omega) hT)
  have hYl := Sha.hmac_len key msg
  rw [← hmac_pads] at HS
  unfold av at HS ⊢
  have hY32 : ((Sha.hmac key msg).map bv).length = 32 := by rw [List.length_map, hYl]
  have hY1 := av_one (Sha.hmac key msg)
  have hszY : Hid ((Tryd.prog.info? 24).map (·.size) = some ((Sha.hmac key msg).map bv).length) := by show _ = _; rw [hY32]; exact size_b32
  generalize (Sha.hmac key msg).map bv = D at HS hY32 hY1 hszY ⊢
  unfold sv at HA HK ⊢
  have hR0 := Blk.new w (bz 32) 24
  have hB0 : Below w.heap.size w (w.alloc (.cells (bz 32).toArray 24)) := (Below.refl _ _).alloc (Nat.le_refl _) _
  have hT0 := ht.on hB0
  clear hlen hYl
  go_enter Tryd.func20, Tryd.ntmps20
  go_wp2_with fail
  refine (HK.out _ hT0).mono ?_
  rintro e w1 ⟨⟨v1, rfl, hk1⟩, hb1⟩
  obtain ⟨Li, Lo, rfl, ⟨hvi, hLi, hLi1⟩, ⟨hvo, hLo, hLo1⟩⟩ := id hk1
  have hk1' := Lib.hid hk1
  have hvi' := Lib.hid hvi
  have hszK : Hid ((Tryd.prog.info? 103).map (·.size) = some (Li ++ Lo).length) := by show _ = _; rw [List.length_append, hLi, hLo]; exact size_key
  have hszI : Hid ((Tryd.prog.info? 87).map (·.size) = some Li.length) := by show _ = _; rw [hLi]; exact size_str
  have h1 : Hid (∀ u ∈ Li ++ Lo, u.oneCell' = true) := fun u hu => (List.mem_append.1 hu).elim (hLi1 u) (hLo1 u)
  have hcutI : ((Li ++ Lo).drop 0).take Li.length = Li := by rw [List.drop_zero, List.take_left' rfl]
  have hlK : (Li ++ Lo).length = (Tryd.zeroCells103).toList.length := by rw [List.length_append, hLi, hLo, Array.length_toList, zero_key]
  have hR1 := Lib.hid ((hR0.below hb1 hR0.lt).alloc (.cells Tryd.zeroCells103 103))
  have hB1 : Below w.heap.size w (w1.alloc (.cells Tryd.zeroCells103 103)) := (hB0.trans (hb1.mono hB0.size)).alloc (Nat.le_trans hB0.size hb1.size) _
  have hne : w.heap.size < w1.heap.size := Nat.lt_of_lt_of_le hR0.lt hb1.size
  have hD1 := Blk.new' w1 Tryd.zeroCells103 103
  clear hb1 hR0 hB0 hT0 HK hk1 hvi hvo hLi1 hLo1
  go_wp2_with (refine wpList_row_store rfl 103 _ _ rfl (Li ++ Lo) rfl rfl hD1 hszK.out hlK h1.out ?_; intro w2 hW2 ho2)
  have hR2 := Lib.hid (hR1.out.only ho2 (by omega))
  have hB2 : Below w.heap.size w w2 := hB1.trans (ho2.below (by omega))
  have hT2 := ht.on hB2
  clear hR1 hB1 ht ho2
  refine wp_region_planL 6 [(true, 0), (true, 1), (true, 2), (true, 3), (false, 4), (false, 5), (false, 6)] (by kernel_rfl) (by decide) (by kernel_rfl) (by kernel_rfl) (by kernel_rfl) (by decide) (by intro c a d v w h; cases d <;> exact h) ?_
  change wpPlanL _ _ _ _ _ _ w2.drew
  refine wpPlanL_load rfl rfl 103 _ rfl w1.heap.size 0 rfl (Li ++ Lo) _ Tryd.underlying103 rfl hszK.out (fun x => ((hW2.out.below (x.below (Nat.le_refl _)) hW2.out.lt).range 0 _ (take_all0 _))) ?_
  iterate 1 (refine wpPlanL_plain rfl (fun K hK => ?_); go_simp; refine hK _ ?_; clear hK K)
  refine wpPlanL_load rfl rfl 87 _ rfl w1.heap.size 0 rfl Li _ Tryd.underlying87 rfl hszI.out (fun x => ((hW2.out.below (x.below (Nat.le_refl _)) hW2.out.lt).range 0 Li hcutI)) ?_
  iterate 1 (refine wpPlanL_plain rfl (fun K hK => ?_); go_simp; refine hK _ ?_; clear hK K)
  refine wpPlanL_call rfl (fun K hK => ?_)
  go_wp2_with fail
  refine (HA.out _ _ hvi'.out hT2.drew).mono ?_
  rintro e w3 ⟨v3, ⟨rfl, hv3⟩, hb3⟩
  go_wp2_with fail
  refine planPostL_normal ⟨.inr hb3, hK _ _ ?_⟩
  clear hK K
  have hb3 := drewBelow hb3
  refine wpPlanL_call rfl (fun K hK => ?_)
  go_wp2_with fail
  refine (HS.out _ _ _ hk1'.out hv3 (hT2.on hb3)).mono ?_
  rintro e w8 ⟨rfl, hb8⟩
  go_wp2_with fail
  refine planPostL_normal ⟨.inr hb8, hK _ _ ?_⟩
  clear hK K hv3
  have hb28 : Below w2.heap.size w2 w8 := hb3.trans (hb8.mono hb3.size)
  have hR8 := hR2.out.below hb28 hR2.out.lt
  refine wpPlanL_call rfl (fun K hK => ?_)
  refine wpList_row_store rfl 24 _ _ rfl D rfl rfl hR8 hszY.out (by rw [hY32]; rfl) hY1 ?_
  intro w9 hW9 ho9
  refine wpList_end (planPostL_normal ⟨.inl rfl, hK _ _ ?_⟩)
  clear hK K
  refine wpPlanL_nil ?_
  go_wp2_with fail
  exact bodyPost_ret (ret_blk rfl _ w9 (g := w.heap.size) rfl hW9.out (.array 32 5) Tryd.underlying24 rfl hszY.out) rfl ⟨rfl, (hB2.trans (hb28.mono hB2.size)).trans (ho9.below (Nat.le_refl _))⟩
end Go.Proofs.YtedhjjlnionckaaDoor
