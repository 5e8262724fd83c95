/-
  Contracts of stage 2: Expand.
-/
import Derived.Test.YtedhjjlnionckaaDoorMac3
import Derived.Laws.MakeOwn
namespace Go.Proofs.YtedhjjlnionckaaDoor
set_option linter.unusedVariables false
open Go.RowKit

/-- A row of the call's own is one still behind a call that leaves all that was there. -/
theorem own_below {w w' : World} {base : Nat} {v : Value} {l : List UInt8} (h : OwnB w base v l) (hb : Below w.heap.size w w') : OwnB w' base v l := by
  refine ⟨h.1, ?_⟩
  rcases h.2 with hn | ⟨g, cap, cur, rfl, hg, hh, rest⟩
  · exact .inl hn
  · refine .inr ⟨g, cap, cur, rfl, hg, ?_, rest⟩
    rw [hb.block g (Array.getElem?_eq_some_iff.1 hh).1]
    exact hh

set_option maxRecDepth 100000 in
set_option maxHeartbeats 4000000 in
theorem expand_pos (seed : List UInt8) (n : Nat) (w : World) (h1 : 1 ≤ n) (h2 : n ≤ 1048576) (hlen : seed.length ≤ 100000000) (ht : Tab 1 w) :
    Calls Tryd.prog 27 #[sv seed, .int .i64 n] w fun e w' => e = .returned (sv (Sha.expand seed n)) ∧ Below w.heap.size w w' := by
  have HK := Lib.hid (fun W hT => keyedBy_any seed W (by omega) hT)
  have HA0 := Lib.hid (fun (k : Nat) (hk : k ≤ 1048576) v W (h : SVal (ipad seed) v) (hT : Tab 1 W) => add_v (ipad seed) (Wm.enc (k : Int)) v W h (by rw [ipad_len]; have := Wm.enc_len k; omega) hT)
  have HS0 := Lib.hid (fun (k : Nat) (hk : k ≤ 1048576) v vs W (h : KVal seed v) (hs : SVal (ipad seed ++ Wm.enc (k : Int)) vs) (hT : Tab 1 W) => keyedSum_any seed (ipad seed ++ Wm.enc (k : Int)) v vs W h hs (by rw [List.length_append, ipad_len]; have := Wm.enc_len k; omega) hT)
  have t1 : ¬ (n : Int) < 1 := by omega
  have t2 : ¬ (1048576 : Int) < n := by omega
  obtain ⟨M, hM⟩ : ∃ M, M = n + 31 := ⟨_, rfl⟩
  have e0 : IntKind.i64.wrap ((n : Int) + 32) = (n : Int) + 32 := by rw [IntKind.wrap_i64]; omega
  have e1 : IntKind.i64.wrap ((n : Int) + 32 - 1) = M := by rw [IntKind.wrap_i64]; omega
  have e2 : (n : Int) + 32 - 1 = M := by omega
  have hT := Lib.hid ht
  have hn2 := Lib.hid h2
  have hn1 := Lib.hid h1
  unfold sv at HK ⊢
  go_enter Tryd.func27, Tryd.ntmps27
  go_wp2_with fail
  refine (HK.out _ ht).mono ?_
  rintro e w1 ⟨⟨v1, rfl, hk1⟩, hb1⟩
  obtain ⟨Li, Lo, rfl, ⟨hvi, hLi, hLi1⟩, ⟨hvo, hLo, hLo1⟩⟩ := id hk1
  have hk1' := Lib.hid hk1
  have hvi' := Lib.hid hvi
  have hszK : Hid ((Tryd.prog.info? 103).map (·.size) = some (Li ++ Lo).length) := by show _ = _; rw [List.length_append, hLi, hLo]; exact size_key
  have hszI : Hid ((Tryd.prog.info? 87).map (·.size) = some Li.length) := by show _ = _; rw [hLi]; exact size_str
  have hu1 : Hid (∀ u ∈ Li ++ Lo, u.oneCell' = true) := fun u hu => (List.mem_append.1 hu).elim (hLi1 u) (hLo1 u)
  have hcutI : ((Li ++ Lo).drop 0).take Li.length = Li := by rw [List.drop_zero, List.take_left' rfl]
  have hlK : (Li ++ Lo).length = (Tryd.zeroCells103).toList.length := by rw [List.length_append, hLi, hLo, Array.length_toList, zero_key]
  have hB1 : Below w.heap.size w (w1.alloc (.cells Tryd.zeroCells103 103)) := hb1.alloc hb1.size _
  have hge1 := hb1.size
  have hD1 := Blk.new' w1 Tryd.zeroCells103 103
  clear hb1 HK hk1 hvi hvo hLi1 hLo1 ht h1 h2 hlen hM
  go_wp2_with (refine wpList_row_store rfl 103 _ _ rfl (Li ++ Lo) rfl rfl hD1 hszK.out hlK hu1.out ?_; intro w2 hW2 ho2; obtain ⟨i0, hi, hz0, hz1, hz2⟩ := info_parts infoByte; obtain ⟨wm, hmk, hom, hgm⟩ := run_make_own (P := Tryd.prog) w2 w2.heap.size 22 5 i0 _ 1 Tryd.underlying22 hi hz0 hz1 .i64 .i64 M (by rw [hz2]; have := hn2.out; omega) (by unfold maxLen; have := hn2.out; omega) (Nat.le_refl _); have hbm : Below w2.heap.size w2 wm := (Below.refl _ _).grown hgm (Nat.le_refl _) (by simp); clear hi hz0 hz1 hz2 hgm)
  have hB2 : Below w.heap.size w w2 := hB1.trans (ho2.below hge1)
  have hT2 := Lib.hid (hT.out.on hB2)
  clear hB1 hD1 ho2 hmk
  go_loopw [6, 7] (fun b i wr => ∃ k : Nat, k ≤ (n + 31) / 32 ∧ i = .int .i64 k ∧ OwnB wr w2.heap.size b (Sha.stream seed k) ∧ Below w2.heap.size w2 wr) (fun _ i _ => (n + 31) / 32 - (intOf i).toNat)
  case atStart => exact ⟨0, by omega, rfl, hom, hbm⟩
  case round =>
    clear hom hbm
    obtain ⟨k, hk, rfl, ho0, hbw⟩ := hrel
    have hsl := Sha.stream_len seed k
    have hn2' := hn2.out
    have hn1' := hn1.out
    obtain ⟨Ab, cb, rfl, hle, hmax, hnil, hrdb⟩ := own_form ho0
    have ho := Lib.hid ho0
    clear ho0
    rw [hsl] at hle
    by_cases hlt : 32 * k < n
    · have t3 : ((Sha.stream seed k).length : Int) < n := by rw [hsl]; omega
      have hkb : k ≤ 1048576 := by omega
      have HI := Lib.hid (fun W => int_any (k : Int) W ⟨by omega, by omega⟩)
      have HA := Lib.hid (fun W (hT : Tab 1 W) => HA0.out k hkb _ W hvi'.out hT)
      have HS := Lib.hid (fun vs W (hs : SVal (ipad seed ++ Wm.enc (k : Int)) vs) (hT : Tab 1 W) => HS0.out k hkb _ vs W hk1'.out hs hT)
      rw [← hmac_pads] at HS
      have hml := Lib.hid (Sha.hmac_len seed (Wm.enc k))
      have hbound : Hid ((Sha.stream seed k).length + (Sha.hmac seed (Wm.enc k)).length ≤ 140737488355328) := by show _ ≤ _; rw [hsl, hml.out]; omega
      obtain ⟨D, hDe0⟩ : ∃ D, D = (Sha.hmac seed (Wm.enc k)).map bv := ⟨_, rfl⟩
      have hDl : D.length = 32 := by rw [hDe0, List.length_map]; exact hml.out
      have hD1 : ∀ u ∈ D, u.oneCell' = true := by rw [hDe0]; exact av_one _
      have hszD : Hid ((Tryd.prog.info? 24).map (·.size) = some D.length) := by show _ = _; rw [hDl]; exact size_b32
      have hDe := Lib.hid hDe0
      unfold av at HS
      rw [← hDe0] at HS
      unfold sv at HA
      have hTw := hT2.out.on hbw
      have hWr := hW2.out.below hbw hW2.out.lt
      clear hDe0 HA0 HS0 hsl hrdb hle hmax hnil hn2' hn1'
      go_wp2_with fail
      refine wp_region_tree 9 (.plain 0 (.plain 1 (.plain 2 (.plain 3 (.two 4 (.plain 5 (.two 6 (.two 7 (.one 8 (.one 9 .stop)) 8 (.one 7 (.one 9 .stop))) 8 (.one 6 (.one 7 (.one 9 .stop))))) 8 (.one 4 (.plain 5 (.one 6 (.one 7 (.one 9 .stop)))))))))) (by kernel_rfl) (by decide) (by kernel_rfl) (by kernel_rfl) (by decide) (by intro c a d v w h; cases d <;> exact h) ?_
      change wpTree _ _ _ _ _ _ wr.drew
      refine wpTree_load rfl rfl 103 _ rfl w1.heap.size 0 rfl (Li ++ Lo) _ Tryd.underlying103 rfl hszK.out (fun x => ((hWr.below (x.below (Nat.le_refl _)) hWr.lt).range 0 _ (take_all0 _))) ?_
      iterate 1 (refine wpTree_plain rfl (fun K hK => ?_); go_simp; refine hK _ ?_; clear hK K)
      refine wpTree_load rfl rfl 87 _ rfl w1.heap.size 0 rfl Li _ Tryd.underlying87 rfl hszI.out (fun x => ((hWr.below (x.below (Nat.le_refl _)) hWr.lt).range 0 Li hcutI)) ?_
      iterate 1 (refine wpTree_plain rfl (fun K hK => ?_); go_simp; refine hK _ ?_; clear hK K)
      have B0 : Below wr.heap.size wr wr.drew := (Below.refl _ _).drew
      generalize wr.drew = wr2 at B0 ⊢
      refine wpTree_two rfl rfl (fun K hK => ?_) (fun K hK => ?_)
      · go_wp2_with fail
        refine (HI.out _).mono ?_
        rintro e x1 h1
        obtain ⟨A1, c1, rfl, _, _, _, hrd1, hbI1⟩ := h1.slice
        clear h1
        go_wp2_with fail
        refine planPostL_normal ⟨.inr hbI1, hK _ _ ?_⟩
        clear hK K
        have hcx := fun y : ExtOf x1 => run_bytes_bs (P := Tryd.prog) y.world 22 9 5 Tryd.underlying22 Tryd.underlying5 Tryd.underlying9 c1 (hrd1.below y.ext)
        iterate 1 (refine wpTree_plain rfl (fun K hK => ?_); go_simp; refine hK _ ?_; clear hK K)
        clear hcx hrd1
        have B1 : Below wr.heap.size wr x1 := B0.trans (hbI1.mono B0.size)
        refine wpTree_two rfl rfl (fun K hK => ?_) (fun K hK => ?_)
        · go_wp2_with fail
          refine (HA.out _ (hTw.on B1)).mono ?_
          rintro e x2 ⟨v6, ⟨rfl, hv6⟩, hb2⟩
          go_wp2_with fail
          refine planPostL_normal ⟨.inr hb2, hK _ _ ?_⟩
          clear hK K
          have B2 : Below wr.heap.size wr x2 := B1.trans (hb2.mono B1.size)
          refine wpTree_two rfl rfl (fun K hK => ?_) (fun K hK => ?_)
          · go_wp2_with fail
            refine (HS.out _ _ hv6 (hTw.on B2)).mono ?_
            rintro e x3 ⟨rfl, hb3⟩
            go_wp2_with fail
            refine planPostL_normal ⟨.inr hb3, hK _ _ ?_⟩
            clear hK K
            have B3 : Below wr.heap.size wr x3 := B2.trans (hb3.mono B2.size)
            refine wpTree_one rfl (fun K hK => ?_)
            go_wp2_with fail
            have hb4 : Below x3.heap.size x3 (x3.alloc (.cells (bz 32).toArray 24)) := (Below.refl _ _).alloc (Nat.le_refl _) _
            have hD : Blk (x3.alloc (.cells (bz 32).toArray 24)) x3.heap.size (bz 32) 24 := Blk.new _ _ _
            have hge : wr.heap.size ≤ x3.heap.size := B3.size
            refine planPostL_normal ⟨.inr hb4, hK _ _ ?_⟩
            clear hK K
            change wpTree _ _ _ _ _ _ (x3.alloc (.cells (bz 32).toArray 24))
            obtain ⟨g8, hg8⟩ : ∃ g8, g8 = x3.heap.size := ⟨_, rfl⟩
            rw [← hg8] at hD hge ⊢
            generalize x3.alloc (.cells (bz 32).toArray 24) = x4 at hb4 hD
            have B4 : Below wr.heap.size wr x4 := B3.trans (hb4.mono B3.size)
            clear hg8
            refine wpTree_one rfl (fun K hK => ?_)
            refine wpList_row_store rfl 24 _ _ rfl D rfl rfl hD hszD.out (by rw [hDl]; rfl) hD1 ?_
            intro w9 hW9 ho9
            refine wpList_end (planPostL_normal ⟨.inl rfl, hK _ _ ?_⟩)
            clear hK K hv6
            refine wpTree_stop ?_
            have B9 : Below wr.heap.size wr w9 := B4.trans (ho9.below hge)
            have ho' := own_below ho.out B9
            have hrdD : Rds w9 w9.heap.size (some ⟨g8, 0, none⟩) ((Sha.hmac seed (Wm.enc k)).map bv) := by
              have h := hW9.out.rds 0 32
              rw [List.drop_zero, List.take_of_length_le (Nat.le_of_eq hDl)] at h
              rw [← hDe.out]
              exact h
            have hbw9 : Below w2.heap.size w2 w9 := hbw.trans (B9.mono hbw.size)
            have hSV : Hid (Value.slice (some ⟨g8, 0, none⟩) 32 32 = .slice (some (if 32 = 0 then (⟨g8, 0, none⟩ : Addr) else (⟨g8, 0, none⟩ : Addr).add 0)) (32 - 0) (32 - 0)) := rfl
            have hst : Hid (Sha.stream seed (k + 1) = Sha.stream seed k ++ Sha.hmac seed (Wm.enc k)) := rfl
            clear ho hW9 hD
            have hszw := hbw9.size
            go_wp2_with (first | (refine wpList_slice_arr rfl 24 _ _ _ rfl ⟨g8, 0, none⟩ rfl 32 5 Tryd.underlying24 size_u8 0 32 (.inl ⟨rfl, rfl⟩) (.inl ⟨rfl, rfl⟩) (Nat.zero_le _) (Nat.le_refl _) _ hSV.out ?_) | (at_builtin; go_must (refine push_bytes rfl _ _ rfl w2.heap.size _ (Sha.stream seed k) (Sha.hmac seed (Wm.enc k)) _ _ 32 32 hml.out.symm (by simp) rfl rfl hrdD ho' hbound.out hszw ?_); intro v10 w10 ho10 hb10))
            go_roundw
            case rel => exact ⟨k + 1, by omega, by go_num, by rw [hst.out]; exact ho10, hbw9.trans hb10⟩
            case measure => simp [intOf]; omega
          · go_wp2_with fail
            have hb5 : Below x2.heap.size x2 (x2.alloc (.cells (bz 32).toArray 24)) := (Below.refl _ _).alloc (Nat.le_refl _) _
            have hD : Blk (x2.alloc (.cells (bz 32).toArray 24)) x2.heap.size (bz 32) 24 := Blk.new _ _ _
            have hge : wr.heap.size ≤ x2.heap.size := B2.size
            refine planPostL_normal ⟨.inr hb5, hK _ _ ?_⟩
            clear hK K
            change wpTree _ _ _ _ _ _ (x2.alloc (.cells (bz 32).toArray 24))
            obtain ⟨g8, hg8⟩ : ∃ g8, g8 = x2.heap.size := ⟨_, rfl⟩
            rw [← hg8] at hD hge ⊢
            generalize x2.alloc (.cells (bz 32).toArray 24) = x5 at hb5 hD
            have B5 : Below wr.heap.size wr x5 := B2.trans (hb5.mono B2.size)
            clear hg8
            refine wpTree_one rfl (fun K hK => ?_)
            go_wp2_with fail
            refine (HS.out _ _ hv6 (hTw.on B5)).mono ?_
            rintro e x6 ⟨rfl, hb6⟩
            go_wp2_with fail
            refine planPostL_normal ⟨.inr hb6, hK _ _ ?_⟩
            clear hK K
            have B6 : Below wr.heap.size wr x6 := B5.trans (hb6.mono B5.size)
            have hD := hD.below hb6 hD.lt
            refine wpTree_one rfl (fun K hK => ?_)
            refine wpList_row_store rfl 24 _ _ rfl D rfl rfl hD hszD.out (by rw [hDl]; rfl) hD1 ?_
            intro w9 hW9 ho9
            refine wpList_end (planPostL_normal ⟨.inl rfl, hK _ _ ?_⟩)
            clear hK K hv6
            refine wpTree_stop ?_
            have B9 : Below wr.heap.size wr w9 := B6.trans (ho9.below hge)
            have ho' := own_below ho.out B9
            have hrdD : Rds w9 w9.heap.size (some ⟨g8, 0, none⟩) ((Sha.hmac seed (Wm.enc k)).map bv) := by
              have h := hW9.out.rds 0 32
              rw [List.drop_zero, List.take_of_length_le (Nat.le_of_eq hDl)] at h
              rw [← hDe.out]
              exact h
            have hbw9 : Below w2.heap.size w2 w9 := hbw.trans (B9.mono hbw.size)
            have hSV : Hid (Value.slice (some ⟨g8, 0, none⟩) 32 32 = .slice (some (if 32 = 0 then (⟨g8, 0, none⟩ : Addr) else (⟨g8, 0, none⟩ : Addr).add 0)) (32 - 0) (32 - 0)) := rfl
            have hst : Hid (Sha.stream seed (k + 1) = Sha.stream seed k ++ Sha.hmac seed (Wm.enc k)) := rfl
            clear ho hW9 hD
            have hszw := hbw9.size
            go_wp2_with (first | (refine wpList_slice_arr rfl 24 _ _ _ rfl ⟨g8, 0, none⟩ rfl 32 5 Tryd.underlying24 size_u8 0 32 (.inl ⟨rfl, rfl⟩) (.inl ⟨rfl, rfl⟩) (Nat.zero_le _) (Nat.le_refl _) _ hSV.out ?_) | (at_builtin; go_must (refine push_bytes rfl _ _ rfl w2.heap.size _ (Sha.stream seed k) (Sha.hmac seed (Wm.enc k)) _ _ 32 32 hml.out.symm (by simp) rfl rfl hrdD ho' hbound.out hszw ?_); intro v10 w10 ho10 hb10))
            go_roundw
            case rel => exact ⟨k + 1, by omega, by go_num, by rw [hst.out]; exact ho10, hbw9.trans hb10⟩
            case measure => simp [intOf]; omega
        · go_wp2_with fail
          have hb7 : Below x1.heap.size x1 (x1.alloc (.cells (bz 32).toArray 24)) := (Below.refl _ _).alloc (Nat.le_refl _) _
          have hD : Blk (x1.alloc (.cells (bz 32).toArray 24)) x1.heap.size (bz 32) 24 := Blk.new _ _ _
          have hge : wr.heap.size ≤ x1.heap.size := B1.size
          refine planPostL_normal ⟨.inr hb7, hK _ _ ?_⟩
          clear hK K
          change wpTree _ _ _ _ _ _ (x1.alloc (.cells (bz 32).toArray 24))
          obtain ⟨g8, hg8⟩ : ∃ g8, g8 = x1.heap.size := ⟨_, rfl⟩
          rw [← hg8] at hD hge ⊢
          generalize x1.alloc (.cells (bz 32).toArray 24) = x7 at hb7 hD
          have B7 : Below wr.heap.size wr x7 := B1.trans (hb7.mono B1.size)
          clear hg8
          refine wpTree_one rfl (fun K hK => ?_)
          go_wp2_with fail
          refine (HA.out _ (hTw.on B7)).mono ?_
          rintro e x8 ⟨v6, ⟨rfl, hv6⟩, hb8⟩
          go_wp2_with fail
          refine planPostL_normal ⟨.inr hb8, hK _ _ ?_⟩
          clear hK K
          have B8 : Below wr.heap.size wr x8 := B7.trans (hb8.mono B7.size)
          have hD := hD.below hb8 hD.lt
          refine wpTree_one rfl (fun K hK => ?_)
          go_wp2_with fail
          refine (HS.out _ _ hv6 (hTw.on B8)).mono ?_
          rintro e x9 ⟨rfl, hb9⟩
          go_wp2_with fail
          refine planPostL_normal ⟨.inr hb9, hK _ _ ?_⟩
          clear hK K
          have B9 : Below wr.heap.size wr x9 := B8.trans (hb9.mono B8.size)
          have hD := hD.below hb9 hD.lt
          refine wpTree_one rfl (fun K hK => ?_)
          refine wpList_row_store rfl 24 _ _ rfl D rfl rfl hD hszD.out (by rw [hDl]; rfl) hD1 ?_
          intro w9 hW9 ho9
          refine wpList_end (planPostL_normal ⟨.inl rfl, hK _ _ ?_⟩)
          clear hK K hv6
          refine wpTree_stop ?_
          have B9 : Below wr.heap.size wr w9 := B9.trans (ho9.below hge)
          have ho' := own_below ho.out B9
          have hrdD : Rds w9 w9.heap.size (some ⟨g8, 0, none⟩) ((Sha.hmac seed (Wm.enc k)).map bv) := by
            have h := hW9.out.rds 0 32
            rw [List.drop_zero, List.take_of_length_le (Nat.le_of_eq hDl)] at h
            rw [← hDe.out]
            exact h
          have hbw9 : Below w2.heap.size w2 w9 := hbw.trans (B9.mono hbw.size)
          have hSV : Hid (Value.slice (some ⟨g8, 0, none⟩) 32 32 = .slice (some (if 32 = 0 then (⟨g8, 0, none⟩ : Addr) else (⟨g8, 0, none⟩ : Addr).add 0)) (32 - 0) (32 - 0)) := rfl
          have hst : Hid (Sha.stream seed (k + 1) = Sha.stream seed k ++ Sha.hmac seed (Wm.enc k)) := rfl
          clear ho hW9 hD
          have hszw := hbw9.size
          go_wp2_with (first | (refine wpList_slice_arr rfl 24 _ _ _ rfl ⟨g8, 0, none⟩ rfl 32 5 Tryd.underlying24 size_u8 0 32 (.inl ⟨rfl, rfl⟩) (.inl ⟨rfl, rfl⟩) (Nat.zero_le _) (Nat.le_refl _) _ hSV.out ?_) | (at_builtin; go_must (refine push_bytes rfl _ _ rfl w2.heap.size _ (Sha.stream seed k) (Sha.hmac seed (Wm.enc k)) _ _ 32 32 hml.out.symm (by simp) rfl rfl hrdD ho' hbound.out hszw ?_); intro v10 w10 ho10 hb10))
          go_roundw
          case rel => exact ⟨k + 1, by omega, by go_num, by rw [hst.out]; exact ho10, hbw9.trans hb10⟩
          case measure => simp [intOf]; omega
      · go_wp2_with fail
        have hb10 : Below wr2.heap.size wr2 (wr2.alloc (.cells (bz 32).toArray 24)) := (Below.refl _ _).alloc (Nat.le_refl _) _
        have hD : Blk (wr2.alloc (.cells (bz 32).toArray 24)) wr2.heap.size (bz 32) 24 := Blk.new _ _ _
        have hge : wr.heap.size ≤ wr2.heap.size := B0.size
        refine planPostL_normal ⟨.inr hb10, hK _ _ ?_⟩
        clear hK K
        change wpTree _ _ _ _ _ _ (wr2.alloc (.cells (bz 32).toArray 24))
        obtain ⟨g8, hg8⟩ : ∃ g8, g8 = wr2.heap.size := ⟨_, rfl⟩
        rw [← hg8] at hD hge ⊢
        generalize wr2.alloc (.cells (bz 32).toArray 24) = x10 at hb10 hD
        have B10 : Below wr.heap.size wr x10 := B0.trans (hb10.mono B0.size)
        clear hg8
        refine wpTree_one rfl (fun K hK => ?_)
        go_wp2_with fail
        refine (HI.out _).mono ?_
        rintro e x11 h11
        obtain ⟨A11, c11, rfl, _, _, _, hrd11, hbI11⟩ := h11.slice
        clear h11
        go_wp2_with fail
        refine planPostL_normal ⟨.inr hbI11, hK _ _ ?_⟩
        clear hK K
        have hcx := fun y : ExtOf x11 => run_bytes_bs (P := Tryd.prog) y.world 22 9 5 Tryd.underlying22 Tryd.underlying5 Tryd.underlying9 c11 (hrd11.below y.ext)
        iterate 1 (refine wpTree_plain rfl (fun K hK => ?_); go_simp; refine hK _ ?_; clear hK K)
        clear hcx hrd11
        have B11 : Below wr.heap.size wr x11 := B10.trans (hbI11.mono B10.size)
        have hD := hD.below hbI11 hD.lt
        refine wpTree_one rfl (fun K hK => ?_)
        go_wp2_with fail
        refine (HA.out _ (hTw.on B11)).mono ?_
        rintro e x12 ⟨v6, ⟨rfl, hv6⟩, hb12⟩
        go_wp2_with fail
        refine planPostL_normal ⟨.inr hb12, hK _ _ ?_⟩
        clear hK K
        have B12 : Below wr.heap.size wr x12 := B11.trans (hb12.mono B11.size)
        have hD := hD.below hb12 hD.lt
        refine wpTree_one rfl (fun K hK => ?_)
        go_wp2_with fail
        refine (HS.out _ _ hv6 (hTw.on B12)).mono ?_
        rintro e x13 ⟨rfl, hb13⟩
        go_wp2_with fail
        refine planPostL_normal ⟨.inr hb13, hK _ _ ?_⟩
        clear hK K
        have B13 : Below wr.heap.size wr x13 := B12.trans (hb13.mono B12.size)
        have hD := hD.below hb13 hD.lt
        refine wpTree_one rfl (fun K hK => ?_)
        refine wpList_row_store rfl 24 _ _ rfl D rfl rfl hD hszD.out (by rw [hDl]; rfl) hD1 ?_
        intro w9 hW9 ho9
        refine wpList_end (planPostL_normal ⟨.inl rfl, hK _ _ ?_⟩)
        clear hK K hv6
        refine wpTree_stop ?_
        have B9 : Below wr.heap.size wr w9 := B13.trans (ho9.below hge)
        have ho' := own_below ho.out B9
        have hrdD : Rds w9 w9.heap.size (some ⟨g8, 0, none⟩) ((Sha.hmac seed (Wm.enc k)).map bv) := by
          have h := hW9.out.rds 0 32
          rw [List.drop_zero, List.take_of_length_le (Nat.le_of_eq hDl)] at h
          rw [← hDe.out]
          exact h
        have hbw9 : Below w2.heap.size w2 w9 := hbw.trans (B9.mono hbw.size)
        have hSV : Hid (Value.slice (some ⟨g8, 0, none⟩) 32 32 = .slice (some (if 32 = 0 then (⟨g8, 0, none⟩ : Addr) else (⟨g8, 0, none⟩ : Addr).add 0)) (32 - 0) (32 - 0)) := rfl
        have hst : Hid (Sha.stream seed (k + 1) = Sha.stream seed k ++ Sha.hmac seed (Wm.enc k)) := rfl
        clear ho hW9 hD
        have hszw := hbw9.size
        go_wp2_with (first | (refine wpList_slice_arr rfl 24 _ _ _ rfl ⟨g8, 0, none⟩ rfl 32 5 Tryd.underlying24 size_u8 0 32 (.inl ⟨rfl, rfl⟩) (.inl ⟨rfl, rfl⟩) (Nat.zero_le _) (Nat.le_refl _) _ hSV.out ?_) | (at_builtin; go_must (refine push_bytes rfl _ _ rfl w2.heap.size _ (Sha.stream seed k) (Sha.hmac seed (Wm.enc k)) _ _ 32 32 hml.out.symm (by simp) rfl rfl hrdD ho' hbound.out hszw ?_); intro v10 w10 ho10 hb10))
        go_roundw
        case rel => exact ⟨k + 1, by omega, by go_num, by rw [hst.out]; exact ho10, hbw9.trans hb10⟩
        case measure => simp [intOf]; omega
    · have hfin := Sha.expand_any seed n k (by omega)
      have hrdt := hrdb.take n
      rw [← List.map_take, hfin] at hrdt
      have hc := run_bytes_bs (P := Tryd.prog) wr 22 9 5 Tryd.underlying22 Tryd.underlying5 Tryd.underlying9 cb hrdt
      rw [Sha.expand_len] at hc
      have t3 : ¬ ((Sha.stream seed k).length : Int) < n := by rw [hsl]; omega
      have i1 : (n : Int) ≤ cb := by omega
      have i2 : n ≤ cb := by omega
      have hB9 : Below w.heap.size w wr := hB2.trans (hbw.mono hB2.size)
      clear hfin hrdb hrdt hle ho
      generalize (Sha.stream seed k).length = ln at t3 ⊢
      go_wp2_with fail
      go_ret
      exact ⟨rfl, hB9⟩
end Go.Proofs.YtedhjjlnionckaaDoor
