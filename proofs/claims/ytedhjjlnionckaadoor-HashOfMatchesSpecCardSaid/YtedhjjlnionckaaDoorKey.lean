/-
  Contracts of stage 2: keys.
-/
import Derived.Test.YtedhjjlnionckaaDoorBld
namespace Go.Proofs.YtedhjjlnionckaaDoor
set_option linter.unusedVariables false
open Go.RowKit

theorem splice_at {α : Type} (L Y : List α) (k : Nat) (h : k ≤ Y.length) : (splice L 0 (Y.take k))[k]? = L[k]? := by
  have h1 : (Y.take k).length = k := by rw [List.length_take]; omega
  unfold splice
  rw [List.take_zero, List.nil_append, List.getElem?_append_right (by omega), h1, Nat.sub_self, Nat.zero_add, List.getElem?_drop, Nat.add_zero]
theorem xor_u8 (b x : UInt8) (X : Int) (hX : X = x.toNat) : bits BinOp.xor IntKind.u8 (b.toNat : Int) X = ((b ^^^ x).toNat : Int) := by
  rw [hX, u8_xor_nat _ _ (UInt8.toNat_lt b) (UInt8.toNat_lt x), UInt8.toNat_xor]

set_option maxRecDepth 100000 in
set_option maxHeartbeats 1000000 in
theorem masked_any (B : List UInt8) (x : UInt8) (X : Int) (hX : X = x.toNat) (w : World) (hB : B.length = 64) : Calls Tryd.prog 103 #[av B, .int .u8 X] w fun e w' => e = .returned (sv (B.map (· ^^^ x))) ∧ Below w.heap.size w w' := by
  obtain ⟨M, hM⟩ : ∃ M, M = B.map (· ^^^ x) := ⟨_, rfl⟩
  have hMl : M.length = 64 := by rw [hM, List.length_map, hB]
  have hMat : Hid (∀ (k : Nat) (b : UInt8), B[k]? = some b → M[k]? = some (b ^^^ x)) := fun k b h => by rw [hM, List.getElem?_map, h]; rfl
  have hX' := Lib.hid hX
  have hBl := Lib.hid hB
  rw [← hM]
  unfold av sv
  clear hM hX hB
  have hB0 := Lib.hid (Blk.new w (B.map bv) 85)
  go_enter Tryd.func103, Tryd.ntmps103
  go_wp2_with fail
  go_loopw [6] (fun i wr => ∃ k : Nat, k ≤ 64 ∧ i = .int .i64 k ∧ Blk wr w.heap.size ((splice B 0 (M.take k)).map bv) 85 ∧ Below w.heap.size w wr) (fun i _ => 64 - (intOf i).toNat)
  case atStart => exact ⟨0, by omega, rfl, by rw [List.take_zero, show splice B 0 [] = B from by unfold splice; simp]; exact hB0.out, (Below.refl _ _).alloc (by simp) _⟩
  case round =>
    clear hB0
    obtain ⟨k, hk, rfl, hW0, hbw⟩ := hrel
    have hW := Lib.hid hW0
    have hsl : ((splice B 0 (M.take k)).map bv).length = 64 := by rw [List.length_map, length_splice _ _ _ (by rw [List.length_take, hMl, hBl.out]; omega), hBl.out]
    by_cases hlt : k < 64
    · obtain ⟨b, hb⟩ : ∃ b, B[k]? = some b := ⟨_, List.getElem?_eq_getElem (by rw [hBl.out]; exact hlt)⟩
      have hcell : wr.cell? ⟨w.heap.size, k, none⟩ = some (.int .u8 (b.toNat : Int)) := hW0.cell (by rw [List.getElem?_map, splice_at _ _ _ (by omega), hb]; rfl)
      have hv := xor_u8 b x X hX'.out
      have hnx : Hid (∀ W, Hid (Blk W w.heap.size (splice ((splice B 0 (M.take k)).map bv) k [.int .u8 ((b ^^^ x).toNat : Int)]) 85) → Hid (Blk W w.heap.size ((splice B 0 (M.take (k + 1))).map bv) 85)) := fun W h => by
        have := h.out
        rw [show [Value.int .u8 ((b ^^^ x).toNat : Int)] = [b ^^^ x].map bv from rfl, ← splice_map] at this
        have e := splice_next B M 0 k _ (hMat.out k b hb) (by rw [hMl, hBl.out]; omega)
        rw [Nat.zero_add] at e
        rw [e] at this
        exact this
      have hfit : k + 1 ≤ ((splice B 0 (M.take k)).map bv).length := by rw [hsl]; exact hlt
      have ik : (k : Int) < 64 := by omega
      clear hW0 hb hsl
      generalize ((b ^^^ x).toNat : Int) = y at hv hnx
      go_wp2_with (refine wpList_blk_store rfl 5 _ _ rfl k (.int .u8 y) rfl rfl hW.out size_u8 hfit (one_int _ _) ?_; intro w3 hW3' ho3; have hW3 := hnx.out w3 hW3')
      go_roundw
      case rel => exact ⟨k + 1, by omega, by go_num, hW3.out, hbw.trans (ho3.below (by omega))⟩
      case measure => simp [intOf]; omega
    · have hkk : M.take k = M := List.take_of_length_le (by omega)
      rw [hkk, splice_all _ _ (by rw [hMl, hBl.out])] at hW0
      have t : ¬ (k : Int) < 64 := by omega
      have hSV : Hid (Value.slice (some ⟨w.heap.size, 0, none⟩) 64 64 = .slice (some (if 64 = 0 then (⟨w.heap.size, 0, none⟩ : Addr) else (⟨w.heap.size, 0, none⟩ : Addr).add 0)) (64 - 0) (64 - 0)) := rfl
      have hrd := hW0.rds 0 64
      rw [List.drop_zero, List.take_of_length_le (by rw [List.length_map, hMl]; exact Nat.le_refl _)] at hrd
      have hc := run_bytes_bs (P := Tryd.prog) wr 22 9 5 Tryd.underlying22 Tryd.underlying5 Tryd.underlying9 64 hrd
      rw [hMl] at hc
      clear hkk hW hW0 hrd hsl
      go_wp2_with (refine wpList_slice_arr rfl 85 _ _ _ rfl ⟨w.heap.size, 0, none⟩ rfl 64 5 Tryd.underlying85 size_u8 0 64 (.inl ⟨rfl, rfl⟩) (.inl ⟨rfl, rfl⟩) (Nat.zero_le _) (Nat.le_refl _) _ hSV.out ?_)
      go_ret
      exact ⟨rfl, hbw⟩

theorem blk_fill (K : List UInt8) (hK : K.length ≤ 64) : splice (bz 64) 0 (K.map bv) = (K ++ List.replicate (64 - K.length) 0).map bv := by
  unfold splice bz
  rw [List.take_zero, List.nil_append, List.drop_replicate, List.length_map, Nat.zero_add, List.map_append, List.map_replicate]
  rfl

section
variable {P : Program} {ops : Array Oper} {rest : List Oper} {op : Oper} {a : Act} {w : World} {Q : Exit → Act → World → Prop}
/-- 'copy(b[o:], s)', s a slice. -/
theorem wpList_blk_copyS (hgd : op.guard = none) (d s : Operand) (dT sT : TypeId) (ho : op.op = .call { callee := .builtin .copy, args := #[d, s], argTypes := #[dT, sT] }) (elem : TypeId) (hu : P.underlying dT = some (.slice elem)) (hsz : (P.info? elem).map (·.size) = some 1)
    {g : Nat} {L : List Value} {t : TypeId} (o dLen dCap : Nat) (ad : Addr) (sLen sCap : Nat) (hd : a.eval d = .slice (some ⟨g, o, none⟩) dLen dCap) (hs : a.eval s = .slice (some ad) sLen sCap) (hb : Blk w g L t) (cs : List Value) (hn : cs.length = Nat.min sLen dLen)
    (hsrc : ∀ j v, cs[j]? = some v → w.cell? (ad.add j) = some v) (hfit : o + cs.length ≤ L.length) (h1 : ∀ v ∈ cs, v.oneCell' = true)
    (h : ∀ w', Hid (Blk w' g (splice L o cs) t) → Only g w w' → wpList P ops Q rest (a.put op.dst (goInt cs.length)) w') : wpList P ops Q (op :: rest) a w := by
  refine wpList_copy_own hgd d s dT sT ho elem hu hsz g o dLen dCap ad sLen sCap hd hs L.toArray t hb cs hn hsrc (by simpa using hfit) h1 ?_
  exact h _ (hb.setRow _) (Only.setRow _ _ _)
end

set_option maxRecDepth 100000 in
set_option maxHeartbeats 1000000 in
theorem keyBlock_any (key : List UInt8) (w : World) (hlen : key.length ≤ 1000000000) (ht : Tab 1 w) : Calls Tryd.prog 102 #[sv key] w fun e w' => e = .returned (av (Sha.block key)) ∧ Below w.heap.size w w' := by
  have hbl := Sha.block_len key
  have hz64 : (bz 64).length = 64 := rfl
  obtain ⟨C, hC⟩ : ∃ C, C = (Sha.block key).map bv := ⟨_, rfl⟩
  have hCl : C.length = 64 := by rw [hC, List.length_map, hbl]
  have hC1 : ∀ u ∈ C, u.oneCell' = true := by rw [hC]; exact av_one _
  have hsz : Hid ((Tryd.prog.info? 85).map (·.size) = some C.length) := by show _ = _; rw [hCl]; exact size_b64
  have hCz : C.length = (bz 64).length := hCl
  have HS := Lib.hid (bs_size key)
  have hB0 := Blk.new w (bz 64) 85
  have hB1 := (Blk.new (w.alloc (.cells (bz 64).toArray 85)) (bz 64) 85).at (g2 := w.heap.size + 1) (by simp)
  have hbel : Below w.heap.size w ((w.alloc (.cells (bz 64).toArray 85)).alloc (.cells (bz 64).toArray 85)) := ((Below.refl _ _).alloc (by simp) _).alloc (by simp) _
  have hB0' := hB0.alloc (.cells (bz 64).toArray 85)
  have hav : av (Sha.block key) = .agg C.toArray := by unfold av; rw [hC]
  rw [hav]
  by_cases hk : 64 < key.length
  · have hZl := Sha.sum_len key
    have HA := Lib.hid (fun v W (h : SVal [] v) (hT : Tab 1 W) => add_v [] key v W h (by simpa using hlen) hT)
    have HM := Lib.hid (fun v W (h : SVal key v) (hT : Tab 1 W) => sum_v key v W h hlen hT)
    have hF : Hid (splice (bz 64) 0 ((Sha.sum key).map bv) = C) := by
      show _ = _
      rw [blk_fill _ (by omega), hC]
      unfold Sha.block
      simp only [if_pos hk]
    have t : 64 < (bs key).size := by rw [HS.out]; exact hk
    have hSV : Hid (Value.slice (some ⟨w.heap.size + 1, 0, none⟩) 64 64 = .slice (some (if 64 = 0 then (⟨w.heap.size + 1, 0, none⟩ : Addr) else (⟨w.heap.size + 1, 0, none⟩ : Addr).add 0)) (64 - 0) (64 - 0)) := rfl
    have hcut := take_all0 C
    have hT0 := ht.on hbel
    unfold sv at HA ⊢
    unfold av at HM
    generalize bs key = S at t HA
    generalize Sha.sum key = Z at HM hF hZl
    have hZ32 : (Z.map bv).length = 32 := by rw [List.length_map, hZl]
    have hszZ : Hid ((Tryd.prog.info? 24).map (·.size) = some (Z.map bv).length) := by show _ = _; rw [hZ32]; exact size_b32
    have hZ1 := av_one Z
    generalize Z.map bv = D at HM hF hZ32 hszZ hZ1
    clear hC hav hbl hk HS hlen
    go_enter Tryd.func102, Tryd.ntmps102
    go_wp2_with fail
    refine (begin_v _).mono ?_
    rintro e w2 ⟨v2, ⟨rfl, hv2⟩, hb2⟩
    have hT2 := hT0.on hb2
    have hR2 := hB0'.below hb2 hB0'.lt
    have hK2 := hB1.below hb2 (by simp)
    have hbw2 : Below w.heap.size w w2 := hbel.trans (hb2.mono (by simp; omega))
    have hs2 : w.heap.size + 1 + 1 ≤ w2.heap.size := by have := hb2.size; simpa using this
    clear hb2 hB0' hB0 hB1 hbel hT0
    go_wp2_with fail
    refine (HA.out _ _ hv2 hT2).mono ?_
    rintro e w3 ⟨v3, ⟨rfl, hv3⟩, hb3⟩
    have hT3 := hT2.on hb3
    go_wp2_with fail
    refine (HM.out _ _ hv3 hT3).mono ?_
    rintro e w4 ⟨rfl, hb4⟩
    have hb24 : Below w2.heap.size w2 w4 := hb3.trans (hb4.mono hb3.size)
    have hR4 := Lib.hid ((hR2.below hb24 hR2.lt).alloc (.cells (bz 32).toArray 24))
    have hK4 := Lib.hid ((hK2.below hb24 hK2.lt).alloc (.cells (bz 32).toArray 24))
    have hbw4 : Below w.heap.size w (w4.alloc (.cells (bz 32).toArray 24)) := (hbw2.trans (hb24.mono hbw2.size)).alloc (by have := hbw2.size; have := hb24.size; omega) _
    have hs4 : w.heap.size + 1 + 1 ≤ w4.heap.size := by have := hb24.size; omega
    have hD4 := Blk.new w4 (bz 32) 24
    clear hR2 hK2 hb24 hb3 hb4 hv2 hv3 hT2 hT3 hbw2 hs2 HA HM
    go_wp2_with (refine wpList_row_store rfl 24 _ _ rfl D rfl rfl hD4 hszZ.out (by rw [hZ32]; rfl) hZ1 ?_; intro w5 hW5 ho5)
    have hR5 := Lib.hid (hR4.out.only ho5 (by omega))
    have hK5 := Lib.hid (hK4.out.only ho5 (by omega))
    have hbw5 : Below w.heap.size w w5 := hbw4.trans (ho5.below (by omega))
    refine wp_region_planL 2 [(true, 0), (true, 1), (false, 2)] (by kernel_rfl) (by decide) (by kernel_rfl) (by kernel_rfl) (by kernel_rfl) (by decide) (by intro c a d v w h; cases d <;> exact h) ?_
    change wpPlanL _ _ _ _ _ _ w5.drew
    iterate 2 (refine wpPlanL_plain rfl (fun K hK => ?_); go_simp; refine hK _ ?_; clear hK K)
    refine wpPlanL_call rfl (fun K hK => ?_)
    refine wpList_blk_copyS rfl _ _ _ _ rfl 5 Tryd.underlying22 size_u8 0 64 64 ⟨w4.heap.size, 0, none⟩ 32 32 rfl rfl hK5.out.drew D (by rw [hZ32]; rfl) (fun j v hv => by rw [Addr.add_mid, Nat.zero_add]; exact hW5.out.drew.cell hv) (by rw [hZ32, hz64]; omega) hZ1 ?_
    intro w6 hW6' ho6
    have hW6 : Hid (Blk w6 (w.heap.size + 1) C 85) := by have := hW6'.out; rw [hF.out] at this; exact this
    refine wpList_end (planPostL_normal ⟨.inl rfl, hK _ _ ?_⟩)
    clear hK K hW6'
    refine wpPlanL_nil ?_
    go_wp2_with (first | (refine wpList_blk_load rfl 85 _ rfl 0 rfl hW6.out C hcut (.array 64 5) Tryd.underlying85 rfl hsz.out ?_) | (refine wpList_row_store rfl 85 _ _ rfl C rfl rfl (hR5.out.drew.only ho6 (by omega)) hsz.out hCz hC1 ?_; intro w7 hW7 ho7))
    exact bodyPost_ret (ret_blk rfl _ w7 (g := w.heap.size) rfl hW7.out (.array 64 5) Tryd.underlying85 rfl hsz.out) rfl ⟨rfl, ((hbw5.drew).trans (ho6.below (by omega))).trans (ho7.below (by omega))⟩
  · have hF : Hid (splice (bz 64) 0 ((key.take key.length).map bv) = C) := by
      show _ = _
      rw [List.take_of_length_le (Nat.le_refl _), blk_fill key (by omega), hC]
      unfold Sha.block
      simp only [if_neg hk]
    have hmin : Hid (key.length = min (bs key).size 64) := by show _ = _; rw [HS.out]; omega
    have t : ¬ 64 < (bs key).size := by rw [HS.out]; exact hk
    have hSV : Hid (Value.slice (some ⟨w.heap.size + 1, 0, none⟩) 64 64 = .slice (some (if 64 = 0 then (⟨w.heap.size + 1, 0, none⟩ : Addr) else (⟨w.heap.size + 1, 0, none⟩ : Addr).add 0)) (64 - 0) (64 - 0)) := rfl
    have F1 : Hid (∀ W, Hid (Blk W (w.heap.size + 1) (splice (bz 64) 0 (((bs key).data.toList.take key.length).map bv)) 85) → Hid (Blk W (w.heap.size + 1) C 85)) := fun W h => by
      have := h.out; rw [bs_toList', hF.out] at this; exact this
    have hcut := take_all0 C
    unfold sv
    generalize bs key = S at t hmin F1
    clear hC hav hbl hk HS hF
    have hB1' := Lib.hid hB1
    have hB0'' := Lib.hid hB0'
    have hbel' := Lib.hid hbel
    go_enter Tryd.func102, Tryd.ntmps102
    go_wp2_with (first | (refine wpList_slice_arr rfl 85 _ _ _ rfl ⟨w.heap.size + 1, 0, none⟩ rfl 64 5 Tryd.underlying85 size_u8 0 64 (.inl ⟨rfl, rfl⟩) (.inl ⟨rfl, rfl⟩) (Nat.zero_le _) (Nat.le_refl _) _ hSV.out ?_) | (refine wpList_blk_copy rfl _ _ _ _ rfl 5 Tryd.underlying22 size_u8 (g := w.heap.size + 1) 0 64 64 S rfl rfl key.length hmin.out hB1'.out (Nat.le_refl _) ?_; intro w3 hW3' ho3; have hW3 := F1.out w3 hW3'; clear hW3') | (refine wpList_blk_load rfl 85 _ rfl 0 rfl hW3.out C hcut (.array 64 5) Tryd.underlying85 rfl hsz.out ?_) | (refine wpList_row_store rfl 85 _ _ rfl C rfl rfl (hB0''.out.only ho3 (by omega)) hsz.out hCz hC1 ?_; intro w4 hW4 ho4))
    exact bodyPost_ret (ret_blk rfl _ w4 (g := w.heap.size) rfl hW4.out (.array 64 5) Tryd.underlying85 rfl hsz.out) rfl ⟨rfl, (hbel'.out.trans (ho3.below (by omega))).trans (ho4.below (by omega))⟩
end Go.Proofs.YtedhjjlnionckaaDoor
