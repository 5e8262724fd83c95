/-
  The law on keys of one block: its walk.
-/
import Derived.Test.YtchdpckbgabhhaaDoorPlw
namespace Go.Proofs.YtchdpckbgabhhaaDoor
set_option linter.unusedVariables false
open Go.RowKit

theorem made_zeros (n : Nat) : madeCells #[Value.int .u8 0] n = (List.replicate n (Value.int .u8 0)).toArray := by
  unfold madeCells
  apply Array.ext'
  simp [Nat.mod_one]
  apply List.ext_getElem <;> simp
theorem bs_append (a b : List UInt8) : bs a ++ bs b = bs (a ++ b) := by
  unfold bs
  apply ByteArray.ext
  simp

set_option maxRecDepth 100000 in
set_option maxHeartbeats 2000000 in
theorem walk_keys (key msg : List UInt8) (z : Nat) (w : World) (hk : key.length ≤ 140737488351232) (hm : msg.length ≤ 140737488351232) (hz : z < 256) (ht : Tab 1 w) :
    Calls Tryd.prog 9 #[sv key, sv msg, .int .u8 z] w (OkEnd true w) := by
  have hT := Lib.hid ht
  have HSan := Lib.hid (fun W hT => sanity_any W hT)
  have K1 := Lib.hid (bs_size key)
  have K2 := Lib.hid (bs_size msg)
  by_cases hbig : 200 < key.length ∨ 400 < msg.length
  · unfold sv
    rcases Decidable.em (200 < key.length) with hA | hA
    · have t1 : (200 : Int) < (bs key).size := by rw [K1.out]; omega
      generalize bs key = S1 at t1 ⊢
      go_enter Tryd.func9, Tryd.ntmps9
      go_wp2_with fail
      refine (HSan.out _ ht).mono ?_
      rintro e w1 ⟨rfl, hb1⟩
      go_wp2_with fail
      go_ret
      exact ⟨rfl, hb1⟩
    · have t1 : ¬ (200 : Int) < (bs key).size := by rw [K1.out]; omega
      have t2 : (400 : Int) < (bs msg).size := by rw [K2.out]; omega
      generalize bs key = S1 at t1 ⊢
      generalize bs msg = S2 at t2 ⊢
      go_enter Tryd.func9, Tryd.ntmps9
      go_wp2_with fail
      refine (HSan.out _ ht).mono ?_
      rintro e w1 ⟨rfl, hb1⟩
      go_wp2_with fail
      go_ret
      exact ⟨rfl, hb1⟩
  · have t1 : ¬ (200 : Int) < (bs key).size := by rw [K1.out]; omega
    have t2 : ¬ (400 : Int) < (bs msg).size := by rw [K2.out]; omega
    have HH := Lib.hid (fun W hT => hmac_any key msg W (by omega) hT)
    have hHl := Sha.hmac_len key msg
    have hH1 : ((Sha.hmac key msg).map bv).length = 32 := by rw [List.length_map, hHl]
    have hHs : Hid ((Tryd.prog.info? 24).map (·.size) = some ((Sha.hmac key msg).map bv).length) := by show _ = _; rw [hH1]; exact size_b32
    have hHo := av_one (Sha.hmac key msg)
    by_cases hlong : 64 < key.length
    · have t3 : (64 : Int) < (bs key).size := by rw [K1.out]; omega
      have hZl := Sha.sum_len key
      have HS := Lib.hid (fun W A c (hr : Rds W W.heap.size A (key.map bv)) (hT : Tab 1 W) => hashSum_any key A c W hr (by omega) hT)
      have HB := Lib.hid (fun W => bytes32_any (Sha.sum key) W hZl)
      have HH2 : Hid (∀ W, Tab 1 W → Calls Tryd.prog 25 #[sv (Sha.sum key), sv msg] W fun e w' => e = .returned (av (Sha.hmac key msg)) ∧ Below W.heap.size W w') := fun W hT => by
        have := hmac_any (Sha.sum key) msg W (by omega) hT
        rw [Sha.hmac_long key msg hlong] at this
        exact this
      generalize Sha.hmac key msg = H at HH HH2 hHl hH1 hHs hHo
      generalize Sha.sum key = Z at HS HB HH2 hZl
      have hZ1 : (Z.map bv).length = 32 := by rw [List.length_map, hZl]
      have hZs : Hid ((Tryd.prog.info? 24).map (·.size) = some (Z.map bv).length) := by show _ = _; rw [hZ1]; exact size_b32
      have hZo := av_one Z
      have hS := Lib.hid (rfl : bs key = bs key)
      unfold sv at HH HB HH2 ⊢
      unfold av at HH HS HB HH2
      have kl := Lib.hid (rfl : (bs key) = bs key)
      obtain ⟨S1, hS1⟩ : ∃ S1, S1 = bs key := ⟨_, rfl⟩
      rw [← hS1] at t1 t3 HH ⊢
      have hS1' := Lib.hid hS1
      generalize bs msg = S2 at t2 HH HH2 ⊢
      generalize bs Z = S3 at HB HH2
      clear hS1 hS kl K1 K2 hbig hk hm hlong
      go_enter Tryd.func9, Tryd.ntmps9
      go_wp2_with fail
      refine (HSan.out _ ht).mono ?_
      rintro e w1 ⟨rfl, hb1⟩
      go_wp2_with fail
      refine (HH.out _ (hT.out.on hb1)).mono ?_
      rintro e w2 ⟨rfl, hb2⟩
      have hB2 : Below w.heap.size w w2 := hb1.trans (hb2.mono hb1.size)
      clear hb1 hb2 ht
      go_wp2_with (first | (refine wpList_row_store rfl 24 _ _ rfl (H.map bv) rfl rfl (Blk.new w2 (bz 32) 24) hHs.out (by rw [hH1]; rfl) hHo ?_; intro w3 hW3 ho3; have hB3 : Below w.heap.size w w3 := (hB2.alloc hB2.size _).trans (ho3.below hB2.size)) | (refine wpList_bytes_of rfl _ rfl key S1 hS1'.out rfl ?_; intro w4 A4 c4 hrd4 _ hA4 hb4 hs4; subst hA4; have hB4 : Below w.heap.size w w4 := hB3.trans (hb4.mono hB3.size); have hW4 := hW3.out.below hb4 hW3.out.lt))
      refine (HS.out _ _ _ hrd4 (hT.out.on hB4)).mono ?_
      rintro e w5 ⟨rfl, hb5⟩
      have hB5 : Below w.heap.size w w5 := hB4.trans (hb5.mono hB4.size)
      have hW5 := Lib.hid (hW4.below hb5 hW4.lt)
      have hne5 : w2.heap.size < w5.heap.size := hW5.out.lt
      clear hrd4 hb4 hs4 hb5 hW4 hW3 ho3
      go_wp2_with (refine wpList_row_store rfl 24 _ _ rfl (Z.map bv) rfl rfl (Blk.new w5 (bz 32) 24) hZs.out (by rw [hZ1]; rfl) hZo ?_; intro w6 hZ6 ho6)
      have hB6 : Below w.heap.size w w6 := (hB5.alloc hB5.size _).trans (ho6.below hB5.size)
      have hW6 := Lib.hid ((hW5.out.alloc (.cells (bz 32).toArray 24)).only ho6 (by omega))
      clear hW5 ho6
      refine wp_region_planL 99 [(true, 0), (true, 1), (true, 2), (true, 3), (true, 5), (false, 4), (false, 6), (true, 7), (true, 8), (true, 9)] (by kernel_rfl) (by decide) (by kernel_rfl) (by kernel_rfl) (by kernel_rfl) (by decide) (by intro c a d v w h; cases d <;> exact h) ?_
      change wpPlanL _ _ _ _ _ _ w6.drew
      iterate 2 (refine wpPlanL_plain rfl (fun K hK => ?_); go_simp; refine hK _ ?_; clear hK K)
      refine wpPlanL_runW rfl (by rfl) _ (fun x => load_run 24 _ rfl w2.heap.size 0 rfl (H.map bv) (.array 32 5) Tryd.underlying24 rfl hHs.out x.world ((hW6.out.below (x.below (Nat.le_refl _)) hW6.out.lt).range 0 _ (take_all0 _))) ?_
      refine wpPlanL_runW rfl (by rfl) _ (fun x => load_run 24 _ rfl w5.heap.size 0 rfl (Z.map bv) (.array 32 5) Tryd.underlying24 rfl hZs.out x.world ((hZ6.out.below (x.below (Nat.le_refl _)) hZ6.out.lt).range 0 _ (take_all0 _))) ?_
      iterate 1 (refine wpPlanL_plain rfl (fun K hK => ?_); go_simp; refine hK _ ?_; clear hK K)
      refine wpPlanL_call rfl (fun K hK => ?_)
      go_wp2_with fail
      refine (HB.out _).mono ?_
      rintro e w7 ⟨rfl, hb7⟩
      go_wp2_with fail
      refine planPostL_normal ⟨.inr hb7, hK _ _ ?_⟩
      clear hK K
      have hb7 := drewBelow hb7
      have hB7 : Below w.heap.size w w7 := hB6.trans (hb7.mono hB6.size)
      refine wpPlanL_call rfl (fun K hK => ?_)
      go_wp2_with fail
      refine (HH2.out _ (hT.out.on hB7)).mono ?_
      rintro e w8 ⟨rfl, hb8⟩
      go_wp2_with fail
      refine planPostL_normal ⟨.inr hb8, hK _ _ ?_⟩
      clear hK K
      have hB8 : Below w.heap.size w w8 := hB7.trans (hb8.mono hB7.size)
      refine wpPlanL_runW rfl (by rfl) _ (fun x => eql_run 24 _ _ _ rfl 32 Tryd.underlying24 (by kernel_rfl) H H hHl hHl rfl rfl true (by simp) x.world) ?_
      iterate 2 (refine wpPlanL_plain rfl (fun K hK => ?_); go_simp; refine hK _ ?_; clear hK K)
      refine wpPlanL_nil ?_
      go_wp2_with fail
      go_ret
      exact ⟨rfl, hB8⟩
    · obtain ⟨n, hn⟩ : ∃ n, n = min z (64 - key.length) := ⟨_, rfl⟩
      have t3 : ¬ (64 : Int) < (bs key).size := by rw [K1.out]; omega
      have HH2 : Hid (∀ W, Tab 1 W → Calls Tryd.prog 25 #[sv (key ++ List.replicate n 0), sv msg] W fun e w' => e = .returned (av (Sha.hmac key msg)) ∧ Below W.heap.size W w') := fun W hT => by
        have := hmac_any (key ++ List.replicate n 0) msg W (by rw [List.length_append, List.length_replicate]; omega) hT
        rw [Sha.hmac_zeros key msg n (by omega)] at this
        exact this
      have hap : bs key ++ bs (List.replicate n 0) = bs (key ++ List.replicate n 0) := bs_append _ _
      have tcat : ¬ 9223372036854775807 < (bs key).size + (bs (List.replicate n 0)).size := by rw [K1.out, bs_size, List.length_replicate]; omega
      have hmk := fun W => run_make_row' (P := Tryd.prog) 22 5 (.int .u8 0) 1 Tryd.underlying22 infoByte rfl .i64 .i64 n (by omega) (by omega) W
      have hmc : Hid (madeCells #[.int .u8 0] n = ((List.replicate n 0).map bv).toArray) := by
        show _ = _
        rw [List.map_replicate]
        exact made_zeros n
      have hcv : Hid (∀ W B A, Rds W B A ((List.replicate n 0).map bv) → (convert 22 9 (.slice A n n)).run Tryd.prog W = .ok (.string (bs (List.replicate n 0))) W) := fun W B A h => by
        have := run_bytes_bs (P := Tryd.prog) W 22 9 5 Tryd.underlying22 Tryd.underlying5 Tryd.underlying9 n h
        rw [List.length_replicate] at this
        exact this
      have ez : IntKind.i64.wrap (z : Int) = z := by rw [IntKind.wrap_i64]; omega
      have es : (bs key).size = key.length := K1.out
      have e64 : IntKind.i64.wrap (64 - ((bs key).size : Int)) = 64 - ((bs key).size : Int) := by rw [IntKind.wrap_i64, es]; omega
      generalize Sha.hmac key msg = H at HH HH2 hHl hH1 hHs hHo
      unfold sv at HH HH2 ⊢
      unfold av at HH HH2
      rcases Nat.lt_or_ge (64 - key.length) z with hmin | hmin
      · have hnn : n = 64 - key.length := by omega
        have m1 : 64 - ((bs key).size : Int) < (z : Int) := by rw [es]; omega
        have m2 : ¬ (z : Int) ≤ 64 - ((bs key).size : Int) := by omega
        have m3 : 64 - ((bs key).size : Int) = n := by rw [es]; omega
        clear hn hnn es K1 K2 hbig hk hm hlong hz
        generalize bs (List.replicate n 0) = SZ at hap hcv tcat
        generalize bs (key ++ List.replicate n 0) = S3 at hap HH2
        generalize bs key = S1 at *
        generalize bs msg = S2 at *
        go_enter Tryd.func9, Tryd.ntmps9
        go_wp2_with fail
        refine (HSan.out _ ht).mono ?_
        rintro e w1 ⟨rfl, hb1⟩
        go_wp2_with fail
        refine (HH.out _ (hT.out.on hb1)).mono ?_
        rintro e w2 ⟨rfl, hb2⟩
        have hB2 : Below w.heap.size w w2 := hb1.trans (hb2.mono hb1.size)
        clear hb1 hb2 ht
        go_wp2_with (refine wpList_row_store rfl 24 _ _ rfl (H.map bv) rfl rfl (Blk.new w2 (bz 32) 24) hHs.out (by rw [hH1]; rfl) hHo ?_; intro w3 hW3 ho3; have hB3 : Below w.heap.size w w3 := (hB2.alloc hB2.size _).trans (ho3.below hB2.size))
        refine wp_region_planL 99 [(true, 0), (true, 1), (true, 2), (true, 3), (true, 4), (true, 8), (false, 5), (true, 6), (true, 7), (false, 9), (true, 10), (true, 11), (true, 12)] (by kernel_rfl) (by decide) (by kernel_rfl) (by kernel_rfl) (by kernel_rfl) (by decide) (by intro c a d v w h; cases d <;> exact h) ?_
        change wpPlanL _ _ _ _ _ _ w3.drew
        iterate 2 (refine wpPlanL_plain rfl (fun K hK => ?_); go_simp; refine hK _ ?_; clear hK K)
        refine wpPlanL_runW rfl (by rfl) _ (fun x => load_run 24 _ rfl w2.heap.size 0 rfl (H.map bv) (.array 32 5) Tryd.underlying24 rfl hHs.out x.world ((hW3.out.below (x.below (Nat.le_refl _)) hW3.out.lt).range 0 _ (take_all0 _))) ?_
        iterate 3 (refine wpPlanL_plain rfl (fun K hK => ?_); go_simp; refine hK _ ?_; clear hK K)
        refine wpPlanL_call rfl (fun K hK => ?_)
        go_wp2_with fail
        have hb4 : Below w3.heap.size w3 (w3.drew.alloc (.cells (madeCells #[.int .u8 0] n) 5)) := ((Below.refl _ _).drew).alloc (Nat.le_refl _) _
        have hrd4 : Rds (w3.drew.alloc (.cells (madeCells #[.int .u8 0] n) 5)) (w3.drew.alloc (.cells (madeCells #[.int .u8 0] n) 5)).heap.size (some ⟨w3.heap.size, 0, none⟩) ((List.replicate n 0).map bv) := by
          rw [hmc.out]
          have h := (Blk.new w3.drew ((List.replicate n 0).map bv) 5).rds 0 n
          rw [List.drop_zero, List.take_of_length_le (by rw [List.length_map, List.length_replicate]; exact Nat.le_refl _)] at h
          exact h
        have hx4 : Ext w3.drew (w3.drew.alloc (.cells (madeCells #[.int .u8 0] n) 5)) := (Below.refl _ _).alloc (Nat.le_refl _) _
        refine planPostL_normal ⟨.inr hx4, hK _ _ ?_⟩
        clear hK K hmk hx4
        change wpPlanL _ _ _ _ _ _ (w3.drew.alloc (.cells (madeCells #[.int .u8 0] n) 5))
        generalize w3.drew.alloc (.cells (madeCells #[.int .u8 0] n) 5) = w4 at hb4 hrd4
        have hB4 : Below w.heap.size w w4 := hB3.trans (hb4.mono hB3.size)
        have hcx := fun x : ExtOf w4 => hcv.out x.world _ _ (hrd4.below x.ext)
        iterate 2 (refine wpPlanL_plain rfl (fun K hK => ?_); go_simp; refine hK _ ?_; clear hK K)
        refine wpPlanL_call rfl (fun K hK => ?_)
        go_wp2_with fail
        refine (HH2.out _ (hT.out.on hB4)).mono ?_
        rintro e w8 ⟨rfl, hb8⟩
        go_wp2_with fail
        refine planPostL_normal ⟨.inr hb8, hK _ _ ?_⟩
        clear hK K
        have hB8 : Below w.heap.size w w8 := hB4.trans (hb8.mono hB4.size)
        refine wpPlanL_runW rfl (by rfl) _ (fun x => eql_run 24 _ _ _ rfl 32 Tryd.underlying24 (by kernel_rfl) H H hHl hHl rfl rfl true (by simp) x.world) ?_
        iterate 2 (refine wpPlanL_plain rfl (fun K hK => ?_); go_simp; refine hK _ ?_; clear hK K)
        refine wpPlanL_nil ?_
        go_wp2_with fail
        go_ret
        exact ⟨rfl, hB8⟩
      · have hnn : n = z := by omega
        have m1 : (z : Int) ≤ 64 - ((bs key).size : Int) := by rw [es]; omega
        have m2 : ¬ 64 - ((bs key).size : Int) < (z : Int) := by omega
        have m3 : (z : Int) = n := by omega
        clear hn hnn es K1 K2 hbig hk hm hlong hz
        generalize bs (List.replicate n 0) = SZ at hap hcv tcat
        generalize bs (key ++ List.replicate n 0) = S3 at hap HH2
        generalize bs key = S1 at *
        generalize bs msg = S2 at *
        go_enter Tryd.func9, Tryd.ntmps9
        go_wp2_with fail
        refine (HSan.out _ ht).mono ?_
        rintro e w1 ⟨rfl, hb1⟩
        go_wp2_with fail
        refine (HH.out _ (hT.out.on hb1)).mono ?_
        rintro e w2 ⟨rfl, hb2⟩
        have hB2 : Below w.heap.size w w2 := hb1.trans (hb2.mono hb1.size)
        clear hb1 hb2 ht
        go_wp2_with (refine wpList_row_store rfl 24 _ _ rfl (H.map bv) rfl rfl (Blk.new w2 (bz 32) 24) hHs.out (by rw [hH1]; rfl) hHo ?_; intro w3 hW3 ho3; have hB3 : Below w.heap.size w w3 := (hB2.alloc hB2.size _).trans (ho3.below hB2.size))
        refine wp_region_planL 99 [(true, 0), (true, 1), (true, 2), (true, 3), (true, 4), (true, 8), (false, 5), (true, 6), (true, 7), (false, 9), (true, 10), (true, 11), (true, 12)] (by kernel_rfl) (by decide) (by kernel_rfl) (by kernel_rfl) (by kernel_rfl) (by decide) (by intro c a d v w h; cases d <;> exact h) ?_
        change wpPlanL _ _ _ _ _ _ w3.drew
        iterate 2 (refine wpPlanL_plain rfl (fun K hK => ?_); go_simp; refine hK _ ?_; clear hK K)
        refine wpPlanL_runW rfl (by rfl) _ (fun x => load_run 24 _ rfl w2.heap.size 0 rfl (H.map bv) (.array 32 5) Tryd.underlying24 rfl hHs.out x.world ((hW3.out.below (x.below (Nat.le_refl _)) hW3.out.lt).range 0 _ (take_all0 _))) ?_
        iterate 3 (refine wpPlanL_plain rfl (fun K hK => ?_); go_simp; refine hK _ ?_; clear hK K)
        refine wpPlanL_call rfl (fun K hK => ?_)
        go_wp2_with fail
        have hb4 : Below w3.heap.size w3 (w3.drew.alloc (.cells (madeCells #[.int .u8 0] n) 5)) := ((Below.refl _ _).drew).alloc (Nat.le_refl _) _
        have hrd4 : Rds (w3.drew.alloc (.cells (madeCells #[.int .u8 0] n) 5)) (w3.drew.alloc (.cells (madeCells #[.int .u8 0] n) 5)).heap.size (some ⟨w3.heap.size, 0, none⟩) ((List.replicate n 0).map bv) := by
          rw [hmc.out]
          have h := (Blk.new w3.drew ((List.replicate n 0).map bv) 5).rds 0 n
          rw [List.drop_zero, List.take_of_length_le (by rw [List.length_map, List.length_replicate]; exact Nat.le_refl _)] at h
          exact h
        have hx4 : Ext w3.drew (w3.drew.alloc (.cells (madeCells #[.int .u8 0] n) 5)) := (Below.refl _ _).alloc (Nat.le_refl _) _
        refine planPostL_normal ⟨.inr hx4, hK _ _ ?_⟩
        clear hK K hmk hx4
        change wpPlanL _ _ _ _ _ _ (w3.drew.alloc (.cells (madeCells #[.int .u8 0] n) 5))
        generalize w3.drew.alloc (.cells (madeCells #[.int .u8 0] n) 5) = w4 at hb4 hrd4
        have hB4 : Below w.heap.size w w4 := hB3.trans (hb4.mono hB3.size)
        have hcx := fun x : ExtOf w4 => hcv.out x.world _ _ (hrd4.below x.ext)
        iterate 2 (refine wpPlanL_plain rfl (fun K hK => ?_); go_simp; refine hK _ ?_; clear hK K)
        refine wpPlanL_call rfl (fun K hK => ?_)
        go_wp2_with fail
        refine (HH2.out _ (hT.out.on hB4)).mono ?_
        rintro e w8 ⟨rfl, hb8⟩
        go_wp2_with fail
        refine planPostL_normal ⟨.inr hb8, hK _ _ ?_⟩
        clear hK K
        have hB8 : Below w.heap.size w w8 := hB4.trans (hb8.mono hB4.size)
        refine wpPlanL_runW rfl (by rfl) _ (fun x => eql_run 24 _ _ _ rfl 32 Tryd.underlying24 (by kernel_rfl) H H hHl hHl rfl rfl true (by simp) x.world) ?_
        iterate 2 (refine wpPlanL_plain rfl (fun K hK => ?_); go_simp; refine hK _ ?_; clear hK K)
        refine wpPlanL_nil ?_
        go_wp2_with fail
        go_ret
        exact ⟨rfl, hB8⟩
end Go.Proofs.YtchdpckbgabhhaaDoor
