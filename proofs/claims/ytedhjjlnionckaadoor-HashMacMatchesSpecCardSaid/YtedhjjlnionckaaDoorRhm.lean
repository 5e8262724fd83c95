/-
  Contracts of stage 2: the reference's Of and block, for a Sum that keeps its contract. Contracts of stage 2: the reference's Hmac, for a Sum and a block that keep their contracts. Contracts of stage 2: the reference's Mac, for a Sum and a block that keep their contracts. Contracts of stage 2: the reference's Expand, for a Sum and a block that keep their contracts. A row of bytes that a conversion made, whose frozen stretch begins at its capacity, and bytes that are appended to it. Contracts of stage 2: the reference's block of a key, for a Sum that keeps its contract.
-/
import Derived.Test.YtedhjjlnionckaaDoorSht
import Derived.Lib.FrozenHead
namespace Go.Proofs.YtedhjjlnionckaaDoor
set_option linter.unusedVariables false
open Go.RowKit

set_option maxRecDepth 100000 in
set_option maxHeartbeats 1000000 in
theorem refOf_of (HS : RefSum) (tag : Int) (parts : List (List UInt8)) (A : Option Addr) (c : Nat) (w : World) (hr : Rds w w.heap.size A (parts.map sv)) (hl : parts.length ≤ 1000000) (hf : (Sha.message parts).length ≤ 900000) (ht : Tab 0 w) :
    Calls Tryd.prog 19 #[.int .i64 tag, .slice A parts.length c] w fun e w' => e = .returned (av (Sha.hashOf tag parts)) ∧ Below w.heap.size w w' := by
  obtain ⟨W1, hW1⟩ : ∃ W1, W1 = w.alloc (.cells (bz 16).toArray 30) := ⟨_, rfl⟩
  have hB1 : Below w.heap.size w W1 := by rw [hW1]; exact (Below.refl _ _).alloc (Nat.le_refl _) _
  have hR1 : Hid (Blk W1 w.heap.size (bz 16) 30) := by show Blk _ _ _ _; rw [hW1]; exact Blk.new _ _ _
  have hT := Lib.hid (ht.on hB1)
  have HI := Lib.hid (input_any tag parts A c W1 ((hr.below hB1).more hB1.size) hl (by omega))
  have hil : (Sha.input tag parts).length ≤ 1000000 := by simp only [Sha.input, List.length_cons]; omega
  have HC := Lib.hid (fun A c W hr hc hT => short_of HS (Sha.input tag parts) A c W hr hc hil hT)
  have hDl : (Sha.hashOf tag parts).length = 16 := by unfold Sha.hashOf; rw [List.length_take, Sha.sum_len]; rfl
  have hDe : (Sha.sum (Sha.input tag parts)).take 16 = Sha.hashOf tag parts := rfl
  rw [hDe] at HC
  clear hDe
  generalize Sha.hashOf tag parts = D at HC hDl ⊢
  generalize Sha.input tag parts = i1 at HI HC hil
  have hcl : (D.map bv).length = 16 := by rw [List.length_map, hDl]
  have hsz := Lib.hid (size_dig16 _ hcl)
  have hDo := av_one D
  unfold av at HC ⊢
  clear hr hl hf ht HS hil hDl
  go_enter Tryd.func19, Tryd.ntmps19
  go_wp2_with fail
  generalize hg : w.alloc _ = Wg
  have hgW : Wg = W1 := by rw [← hg, hW1]; rfl
  clear hg hW1
  subst hgW
  refine HI.out.mono ?_
  intro e w2 h2
  obtain ⟨A2, c2, rfl, _, _, hn2, hr2, hb2⟩ := NewEnd.slice h2
  clear h2
  have hB2 : Below w.heap.size w w2 := hB1.trans (hb2.mono hB1.size)
  have hR2 := Lib.hid (hR1.out.below hb2 hR1.out.lt)
  have hT2 := hT.out.on hb2
  clear hb2 hB1 hR1 hT
  go_wp2_with fail
  refine (HC.out _ _ _ hr2 hn2 hT2).mono ?_
  rintro e w3 ⟨rfl, hb3⟩
  have hB3 : Below w.heap.size w w3 := hB2.trans (hb3.mono hB2.size)
  have hR3 := hR2.out.below hb3 hR2.out.lt
  clear hb3 hB2 hR2 hr2 hn2 hT2
  go_wp2_with (refine wpList_row_store rfl 30 _ _ rfl (D.map bv) rfl rfl hR3 hsz.out (by rw [hcl]; rfl) hDo ?_; intro w6 hW6 ho6)
  exact bodyPost_ret (ret_blk rfl _ w6 (g := w.heap.size) rfl hW6.out (.array 16 5) arr_dig rfl hsz.out) rfl ⟨rfl, hB3.trans (ho6.below (Nat.le_refl _))⟩
end Go.Proofs.YtedhjjlnionckaaDoor

namespace Go.Proofs.YtedhjjlnionckaaDoor
set_option linter.unusedVariables false
open Go.RowKit

/-- What the reference's block is to do. -/
def RefBlock : Prop := ∀ (key : List UInt8) (w : World), key.length ≤ 900000 → Tab 0 w →
  Calls Tryd.prog 67 #[sv key] w fun e w' => ∃ A c, (e = .returned (.slice A 64 c) ∧ Rds w' w'.heap.size A ((Sha.block key).map bv)) ∧ Below w.heap.size w w'

set_option maxRecDepth 100000 in
set_option maxHeartbeats 1000000 in
theorem refHmac_of (HS : RefSum) (HB : RefBlock) (key msg : List UInt8) (w : World) (hk : key.length ≤ 900000) (hm : msg.length ≤ 900000) (ht : Tab 0 w) :
    Calls Tryd.prog 21 #[sv key, sv msg] w fun e w' => e = .returned (av (Sha.hmac key msg)) ∧ Below w.heap.size w w' := by
  obtain ⟨W1, hW1⟩ : ∃ W1, W1 = w.alloc (.cells (bz 32).toArray 24) := ⟨_, rfl⟩
  have hB1 : Below w.heap.size w W1 := by rw [hW1]; exact (Below.refl _ _).alloc (Nat.le_refl _) _
  have hR1 : Hid (Blk W1 w.heap.size (bz 32) 24) := by show Blk _ _ _ _; rw [hW1]; exact Blk.new _ _ _
  have hT := Lib.hid (ht.on hB1)
  have HBk := Lib.hid (HB key W1 hk hT.out)
  have hbl := Sha.block_len key
  have hH : Sha.hmac key msg = Sha.sum ((Sha.block key).map (· ^^^ 0x5c) ++ Sha.sum ((Sha.block key).map (· ^^^ 0x36) ++ msg)) := rfl
  rw [hH]
  clear hH
  generalize Sha.block key = B at HBk hbl ⊢
  have V1 := Lib.hid (fun A c W hr => with_any B 0x36 54 msg A c W rfl hr (by omega) (by omega))
  have l1 : (B.map (· ^^^ 0x36) ++ msg).length ≤ 1000000 := by rw [List.length_append, List.length_map]; omega
  have S1 := Lib.hid (fun A c W hr hc hT => HS (B.map (· ^^^ 0x36) ++ msg) A c W hr hc l1 hT)
  have hZl := Sha.sum_len (B.map (· ^^^ 0x36) ++ msg)
  generalize Sha.sum (B.map (· ^^^ 0x36) ++ msg) = Z at S1 hZl ⊢
  have X32 := Lib.hid (fun W => bytes32_any Z W hZl)
  have V2 := Lib.hid (fun A c W hr => with_any B 0x5c 92 Z A c W rfl hr (by omega) (by omega))
  have l2 : (B.map (· ^^^ 0x5c) ++ Z).length ≤ 1000000 := by rw [List.length_append, List.length_map]; omega
  have S2 := Lib.hid (fun A c W hr hc hT => HS (B.map (· ^^^ 0x5c) ++ Z) A c W hr hc l2 hT)
  have hYl := Sha.sum_len (B.map (· ^^^ 0x5c) ++ Z)
  generalize Sha.sum (B.map (· ^^^ 0x5c) ++ Z) = Y at S2 hYl ⊢
  generalize B.map (· ^^^ 0x36) ++ msg = i1 at V1 S1 l1
  generalize B.map (· ^^^ 0x5c) ++ Z = i2 at V2 S2 l2
  rw [hbl] at V1 V2
  have hZm : (Z.map bv).length = 32 := by rw [List.length_map, hZl]
  have hZs : Hid ((Tryd.prog.info? 24).map (·.size) = some (Z.map bv).length) := by show _ = _; rw [hZm]; exact size_b32
  have hZo := av_one Z
  have hYm : (Y.map bv).length = 32 := by rw [List.length_map, hYl]
  have hYs : Hid ((Tryd.prog.info? 24).map (·.size) = some (Y.map bv).length) := by show _ = _; rw [hYm]; exact size_b32
  have hYo := av_one Y
  unfold av at S1 S2 X32 ⊢
  unfold sv at HBk V1 V2 X32 ⊢
  generalize bs key = Sk at HBk ⊢
  generalize bs msg = Sm at V1 ⊢
  generalize bs Z = Sz at X32 V2
  clear ht HS HB hk hm hbl l1 l2 hZl hYl
  go_enter Tryd.func21, Tryd.ntmps21
  go_wp2_with fail
  generalize hg : w.alloc _ = Wg
  have hgW : Wg = W1 := by rw [← hg, hW1]; rfl
  clear hg hW1
  subst hgW
  refine HBk.out.mono ?_
  rintro e w2 ⟨A2, c2, ⟨rfl, hr2⟩, hb2⟩
  have hB2 : Below w.heap.size w w2 := hB1.trans (hb2.mono hB1.size)
  have hR2 := Lib.hid (hR1.out.below hb2 hR1.out.lt)
  have hT2 := hT.out.on hb2
  clear hb2 hB1 hR1 hT HBk
  go_wp2_with fail
  refine (V1.out _ _ _ hr2).mono ?_
  intro e w3 h3
  obtain ⟨A3, c3, rfl, _, _, hn3, hr3, hb3⟩ := NewEnd.slice h3
  clear h3
  have hB3 : Below w.heap.size w w3 := hB2.trans (hb3.mono hB2.size)
  have hR3 := Lib.hid (hR2.out.below hb3 hR2.out.lt)
  have hT3 := hT2.on hb3
  have hr2 := (hr2.below hb3).more hb3.size
  clear hb3 hB2 hR2 hT2 V1
  go_wp2_with fail
  refine (S1.out _ _ _ hr3 hn3 hT3).mono ?_
  rintro e w4 ⟨rfl, hb4⟩
  have hB4 : Below w.heap.size w w4 := hB3.trans (hb4.mono hB3.size)
  have hR4 := Lib.hid (hR3.out.below hb4 hR3.out.lt)
  have hT4 := hT3.on hb4
  have hr2 := (hr2.below hb4).more hb4.size
  clear hb4 hB3 hR3 hT3 S1 hr3 hn3
  go_wp2_with (first | (refine wpList_row_store rfl 24 _ _ rfl (Z.map bv) rfl rfl (Blk.new w4 (bz 32) 24) hZs.out (by rw [hZm]; rfl) hZo ?_; intro w5 hZ5 ho5; have hb45 : Below w4.heap.size w4 w5 := ((Below.refl _ _).alloc (Nat.le_refl _) _).trans (ho5.below (Nat.le_refl _))) | (refine wpList_blk_load rfl 24 _ rfl 0 rfl hZ5.out (Z.map bv) (take_all0 _) (.array 32 5) Tryd.underlying24 rfl hZs.out ?_))
  have hB5 : Below w.heap.size w w5 := hB4.trans (hb45.mono hB4.size)
  have hR5 := Lib.hid (hR4.out.below hb45 hR4.out.lt)
  have hT5 := hT4.on hb45
  have hr2 := (hr2.below hb45).more hb45.size
  clear hb45 ho5 hB4 hR4 hT4 hZ5
  refine (X32.out _).mono ?_
  rintro e w6 ⟨rfl, hb6⟩
  have hB6 : Below w.heap.size w w6 := hB5.trans (hb6.mono hB5.size)
  have hR6 := Lib.hid (hR5.out.below hb6 hR5.out.lt)
  have hT6 := hT5.on hb6
  have hr2 := (hr2.below hb6).more hb6.size
  clear hb6 hB5 hR5 hT5
  go_wp2_with fail
  refine (V2.out _ _ _ hr2).mono ?_
  intro e w7 h7
  obtain ⟨A7, c7, rfl, _, _, hn7, hr7, hb7⟩ := NewEnd.slice h7
  clear h7
  have hB7 : Below w.heap.size w w7 := hB6.trans (hb7.mono hB6.size)
  have hR7 := Lib.hid (hR6.out.below hb7 hR6.out.lt)
  have hT7 := hT6.on hb7
  clear hb7 hB6 hR6 hT6 V2 hr2
  go_wp2_with fail
  refine (S2.out _ _ _ hr7 hn7 hT7).mono ?_
  rintro e w8 ⟨rfl, hb8⟩
  have hB8 : Below w.heap.size w w8 := hB7.trans (hb8.mono hB7.size)
  have hR8 := hR7.out.below hb8 hR7.out.lt
  clear hb8 hB7 hR7 hT7 hr7 hn7
  go_wp2_with (refine wpList_row_store rfl 24 _ _ rfl (Y.map bv) rfl rfl hR8 hYs.out (by rw [hYm]; rfl) hYo ?_; intro w9 hW9 ho9)
  exact bodyPost_ret (ret_blk rfl _ w9 (g := w.heap.size) rfl hW9.out (.array 32 5) Tryd.underlying24 rfl hYs.out) rfl ⟨rfl, hB8.trans (ho9.below (Nat.le_refl _))⟩
end Go.Proofs.YtedhjjlnionckaaDoor

namespace Go.Proofs.YtedhjjlnionckaaDoor
set_option linter.unusedVariables false
open Go.RowKit

set_option maxRecDepth 100000 in
set_option maxHeartbeats 1000000 in
theorem refMac_of (HS : RefSum) (HB : RefBlock) (key : List UInt8) (parts : List (List UInt8)) (A : Option Addr) (c : Nat) (w : World) (hr : Rds w w.heap.size A (parts.map sv)) (hk : key.length ≤ 900000) (hl0 : parts.length ≤ 1000000) (hf : (Sha.message parts).length ≤ 900000) (ht : Tab 0 w) :
    Calls Tryd.prog 25 #[sv key, .slice A parts.length c] w fun e w' => e = .returned (av (Sha.mac key parts)) ∧ Below w.heap.size w w' := by
  obtain ⟨W1, hW1⟩ : ∃ W1, W1 = w.alloc (.cells (bz 16).toArray 30) := ⟨_, rfl⟩
  have hB1 : Below w.heap.size w W1 := by rw [hW1]; exact (Below.refl _ _).alloc (Nat.le_refl _) _
  have hR1 : Hid (Blk W1 w.heap.size (bz 16) 30) := by show Blk _ _ _ _; rw [hW1]; exact Blk.new _ _ _
  have hT := Lib.hid (ht.on hB1)
  have HM := Lib.hid (message_any parts A c W1 ((hr.below hB1).more hB1.size) hl0 (by omega))
  have H := Lib.hid (fun W hT => refHmac_of HS HB key (Sha.message parts) W hk hf hT)
  have hZl := Sha.hmac_len key (Sha.message parts)
  have hmac : Sha.mac key parts = (Sha.hmac key (Sha.message parts)).take 16 := rfl
  rw [hmac]
  clear hmac
  generalize Sha.hmac key (Sha.message parts) = Z at H hZl ⊢
  generalize Sha.message parts = M at H HM hf
  unfold sv at H HM ⊢
  generalize bs key = Sk at H ⊢
  generalize bs M = Sm at H HM
  obtain ⟨Y, hY⟩ : ∃ Y, Y = Z.take 16 := ⟨_, rfl⟩
  have hYl : Hid (Y.length = 16) := by show _ = _; rw [hY, List.length_take, hZl]; rfl
  have hat : Hid (∀ k z, k < 16 → Z[k]? = some z → Y[k]? = some z) := fun k z hk hz => by rw [hY, List.getElem?_take_of_lt hk]; exact hz
  have hZm : (Z.map bv).length = 32 := by rw [List.length_map, hZl]
  have hZs : Hid ((Tryd.prog.info? 24).map (·.size) = some (Z.map bv).length) := by show _ = _; rw [hZm]; exact size_b32
  have hZ32 := Lib.hid hZl
  have hZo := av_one Z
  rw [← hY]
  unfold av at H ⊢
  clear hY hr ht hl0 HS HB hZl hk hf
  go_enter Tryd.func25, Tryd.ntmps25
  go_wp2_with fail
  generalize hg : w.alloc _ = Wg
  have hgW : Wg = W1 := by rw [← hg, hW1]; rfl
  clear hg hW1
  subst hgW
  refine HM.out.mono ?_
  rintro e w0 ⟨rfl, hb0⟩
  have hB0 : Below w.heap.size w w0 := hB1.trans (hb0.mono hB1.size)
  have hR0 := Lib.hid (hR1.out.below hb0 hR1.out.lt)
  have hT0 := hT.out.on hb0
  clear hb0 hB1 hR1 hT
  go_wp2_with fail
  refine (H.out _ hT0).mono ?_
  rintro e w2 ⟨rfl, hb2⟩
  have hB2 : Below w.heap.size w w2 := hB0.trans (hb2.mono hB0.size)
  have hR2 := Lib.hid (hR0.out.below hb2 hR0.out.lt)
  have hlt2 : w.heap.size < w2.heap.size := hR2.out.lt
  clear hb2 hB0 hR0 H HM hT0
  go_wp2_with (refine wpList_row_store rfl 24 _ _ rfl (Z.map bv) rfl rfl (Blk.new w2 (bz 32) 24) hZs.out (by rw [hZm]; rfl) hZo ?_; intro w3 hZ3 ho3; have hs3 : w3.heap.size = w2.heap.size + 1 := by rw [ho3.size]; simp)
  have hB3 : Below w.heap.size w w3 := (hB2.alloc hB2.size _).trans (ho3.below hB2.size)
  have hR3 := (hR2.out.alloc (.cells (bz 32).toArray 24)).only ho3 (Nat.ne_of_lt hlt2)
  generalize hg : w3.alloc _ = w4
  have hg4 : w4 = w3.alloc (.cells (bz 16).toArray 30) := hg.symm
  have hB4 : Below w.heap.size w w4 := by rw [hg4]; exact hB3.alloc hB3.size _
  have hR4 : Blk w4 w.heap.size (bz 16) 30 := by rw [hg4]; exact hR3.alloc _
  have hZ4 : Blk w4 w2.heap.size (Z.map bv) 24 := by rw [hg4]; exact hZ3.out.alloc _
  have hD4 : Blk w4 (w2.heap.size + 1) (fill Y 0) 30 := by rw [hg4, fill_zero, hYl.out]; exact (Blk.new w3 (bz 16) _).at hs3.symm
  clear hg hg4 hR3 hZ3 ho3 hs3 hB3 hR2 hB2
  go_loopw [7] (fun i wr => ∃ k : Nat, k ≤ 16 ∧ i = .int .i64 k ∧ Blk wr (w2.heap.size + 1) (fill Y k) 30 ∧ Blk wr w2.heap.size (Z.map bv) 24 ∧ Blk wr w.heap.size (bz 16) 30 ∧ Below w.heap.size w wr) (fun i _ => 16 - (intOf i).toNat)
  case atStart => exact ⟨0, by omega, rfl, hD4, hZ4, hR4, hB4⟩
  case round =>
    clear hD4 hZ4 hR4 hB4
    obtain ⟨k, hk, rfl, hD0, hZ0, hR0, hbw⟩ := hrel
    have hD := Lib.hid hD0
    have hZ := Lib.hid hZ0
    have hR := Lib.hid hR0
    clear hD0 hZ0 hR0
    by_cases hlt : k < 16
    · obtain ⟨z, hz⟩ : ∃ z, Z[k]? = some z := ⟨_, List.getElem?_eq_getElem (by rw [hZ32.out]; omega)⟩
      have hcell : wr.cell? ⟨w2.heap.size, k, none⟩ = some (.int .u8 (z.toNat : Int)) := hZ.out.cell (by rw [List.getElem?_map, hz]; rfl)
      have hnx : Hid (splice (fill Y k) k [.int .u8 (z.toNat : Int)] = fill Y (k + 1)) := fill_next Y k z (hat.out k z hlt hz)
      have hfl : (fill Y k).length = 16 := by rw [fill_len _ _ (by rw [hYl.out]; omega), hYl.out]
      have ik : (k : Int) < 16 := by omega
      have ik2 : (k : Int) < 32 := by omega
      have hk1 : k + 1 ≤ 16 := hlt
      clear hz
      generalize z.toNat = zn at hcell hnx
      go_wp2_with (refine wpList_blk_store rfl 5 _ _ rfl k (.int .u8 (zn : Int)) rfl rfl hD.out size_u8 (by rw [hfl]; exact hk1) (one_int _ _) ?_; intro w5 hW5 ho5)
      go_roundw
      case rel =>
        refine ⟨k + 1, by omega, by go_num, ?_, hZ.out.only ho5 (by omega), hR.out.only ho5 (by omega), hbw.trans (ho5.below (by omega))⟩
        rw [← hnx.out]
        exact hW5.out
      case measure => simp [intOf]; omega
    · have hD2 := hD.out
      have hR2 := hR.out
      rw [fill_all _ _ (by rw [hYl.out]; omega)] at hD2
      have hcl : (Y.map bv).length = 16 := by rw [List.length_map, hYl.out]
      have hsz := Lib.hid (size_dig16 _ hcl)
      have hYo := av_one Y
      have t : ¬ (k : Int) < 16 := by omega
      clear hD hR hlt hZ
      go_wp2_with (first | (refine wpList_blk_load rfl 30 _ rfl 0 rfl hD2 (Y.map bv) (take_all0 _) (.array 16 5) arr_dig rfl hsz.out ?_) | (refine wpList_row_store rfl 30 _ _ rfl (Y.map bv) rfl rfl hR2 hsz.out (by rw [hcl]; rfl) hYo ?_; intro w6 hW6 ho6))
      exact bodyPost_ret (ret_blk rfl _ w6 (g := w.heap.size) rfl hW6.out (.array 16 5) arr_dig rfl hsz.out) rfl ⟨rfl, hbw.trans (ho6.below (Nat.le_refl _))⟩
end Go.Proofs.YtedhjjlnionckaaDoor

namespace Go.Proofs.YtedhjjlnionckaaDoor
set_option linter.unusedVariables false
open Go.RowKit

set_option maxHeartbeats 1000000 in
theorem refExpand_none (seed : List UInt8) (n : Int) (w : World) (h : n < 1 ∨ 1048576 < n) : Calls Tryd.prog 28 #[sv seed, .int .i64 n] w fun e w' => e = .returned (sv []) ∧ w' = w := by
  rcases h with h | h
  · have h2 : n ≤ 0 := by omega
    go_enter Tryd.func28, Tryd.ntmps28
    go_wp2_with fail
    go_ret
    exact ⟨rfl, rfl⟩
  · have h2 : ¬ n < 1 := by omega
    go_enter Tryd.func28, Tryd.ntmps28
    go_wp2_with fail
    go_ret
    exact ⟨rfl, rfl⟩

set_option maxRecDepth 100000 in
set_option maxHeartbeats 1000000 in
theorem refExpand_of (HS : RefSum) (HB : RefBlock) (seed : List UInt8) (n : Nat) (w : World) (h1 : 1 ≤ n) (h2 : n ≤ 1048576) (hlen : seed.length ≤ 900000) (ht : Tab 0 w) :
    Calls Tryd.prog 28 #[sv seed, .int .i64 n] w fun e w' => e = .returned (sv (Sha.expand seed n)) ∧ Below w.heap.size w w' := by
  have HH := Lib.hid (fun (k : Nat) (hk : k ≤ 1048576) W hT => refHmac_of HS HB seed (Wm.enc (k : Int)) W hlen (by have := Wm.enc_len k; omega) hT)
  have HI := Lib.hid (fun (k : Nat) (hk : k ≤ 1048576) W => refInt_any (k : Int) W ⟨by omega, by omega⟩)
  have hT := Lib.hid ht
  have n1 : ¬ (n : Int) < 1 := by omega
  have n2 : ¬ (1048576 : Int) < (n : Int) := by omega
  obtain ⟨E, hE0⟩ : ∃ E, E = Sha.expand seed n := ⟨_, rfl⟩
  have hE := Lib.hid hE0
  rw [← hE0]
  unfold sv at HH ⊢
  obtain ⟨Ss, hSs0⟩ : ∃ Ss, Ss = bs seed := ⟨_, rfl⟩
  rw [← hSs0] at HH ⊢
  clear ht HS HB hlen hE0 hSs0
  go_enter Tryd.func28, Tryd.ntmps28
  go_wp2_with fail
  go_loopw [5, 6] (fun s i wr => ∃ (k : Nat) (S : ByteArray), 32 * k ≤ n + 31 ∧ i = .int .i64 k ∧ s = .string S ∧ S = bs (Sha.stream seed k) ∧ Below w.heap.size w wr) (fun s _ _ => n + 32 - lenOf s)
  case atStart => exact ⟨0, _, by omega, rfl, rfl, rfl, Below.refl _ _⟩
  case round =>
    obtain ⟨k, S, hk, rfl, rfl, hS0, hbw⟩ := hrel
    have hS := Lib.hid hS0
    have hsz : Hid (S.size = 32 * k) := by show _ = _; rw [hS.out, bs_size, Sha.stream_len]
    obtain ⟨z, hz0⟩ : ∃ z, z = S.size := ⟨_, rfl⟩
    clear hS0
    by_cases hlt : 32 * k < n
    · have t : (S.size : Int) < (n : Int) := by rw [hsz.out]; omega
      have I1 := Lib.hid (HI.out k (by omega) wr)
      have hnext : Hid (bs (Sha.stream seed k) ++ bs (Sha.hmac seed (Wm.enc (k : Int))) = bs (Sha.stream seed (k + 1))) := by
        show _ = _
        rw [bs_app]
        rfl
      have tc : ¬ 9223372036854775807 < S.size + (bs (Sha.hmac seed (Wm.enc (k : Int)))).size := by rw [hsz.out, bs_size, Sha.hmac_len]; omega
      have H1 := Lib.hid (HH.out k (by omega))
      have hZl := Sha.hmac_len seed (Wm.enc (k : Int))
      have hX := Lib.hid (fun W => bytes32_any (Sha.hmac seed (Wm.enc (k : Int))) W hZl)
      rw [← hS.out] at hnext
      generalize Sha.hmac seed (Wm.enc (k : Int)) = Z at H1 hZl hX hnext tc
      have hZm : (Z.map bv).length = 32 := by rw [List.length_map, hZl]
      have hZs : Hid ((Tryd.prog.info? 24).map (·.size) = some (Z.map bv).length) := by show _ = _; rw [hZm]; exact size_b32
      have hZo := av_one Z
      unfold av at H1 hX
      unfold sv at hX
      generalize Wm.enc (k : Int) = ek at I1 H1
      generalize bs Z = SZ at hX hnext tc
      clear hZl hz0
      go_wp2_with fail
      refine I1.out.mono ?_
      intro e w2 h2'
      obtain ⟨A2, c2, rfl, _, _, _, hr2, hb2⟩ := NewEnd.slice h2'
      clear h2'
      have hB2 : Below w.heap.size w w2 := hbw.trans (hb2.mono hbw.size)
      have hcv := run_bytes_bs (P := Tryd.prog) w2 22 9 5 Tryd.underlying22 Tryd.underlying5 Tryd.underlying9 c2 hr2
      generalize bs ek = Sk at hcv H1
      clear hb2 I1
      go_wp2_with fail
      refine (H1.out _ (hT.out.on hB2)).mono ?_
      rintro e w4 ⟨rfl, hb4⟩
      have hB4 : Below w.heap.size w w4 := hB2.trans (hb4.mono hB2.size)
      clear hb4 hcv hr2
      go_wp2_with (first | (refine wpList_row_store rfl 24 _ _ rfl (Z.map bv) rfl rfl (Blk.new w4 (bz 32) 24) hZs.out (by rw [hZm]; rfl) hZo ?_; intro w5 hZ5 ho5; have hB5 : Below w.heap.size w w5 := (hB4.alloc hB4.size _).trans (ho5.below hB4.size)) | (refine wpList_blk_load rfl 24 _ rfl 0 rfl hZ5.out (Z.map bv) (take_all0 _) (.array 32 5) Tryd.underlying24 rfl hZs.out ?_))
      refine (hX.out _).mono ?_
      rintro e w6 ⟨rfl, hb6⟩
      have hB6 : Below w.heap.size w w6 := hB5.trans (hb6.mono hB5.size)
      clear hb6 hZ5 ho5
      go_wp2_with fail
      go_roundw
      case rel => exact ⟨k + 1, _, by omega, by go_num, rfl, hnext.out, hB6⟩
      case measure =>
        have e1 : (S ++ SZ).size = 32 * (k + 1) := by rw [hnext.out, bs_size, Sha.stream_len]
        have e2 := hsz.out
        show n + 32 - (S ++ SZ).size < n + 32 - S.size
        omega
    · have t : ¬ (S.size : Int) < (n : Int) := by rw [hsz.out]; omega
      have hcut : Hid (S.extract 0 n = bs E) := by
        show _ = _
        rw [hS.out, hE.out, ← Sha.expand_any seed n k (by omega)]
        unfold bs
        apply ByteArray.ext
        simp
      have b1 : (n : Int) ≤ (S.size : Int) := by rw [hsz.out]; omega
      have hn : n ≤ S.size := by omega
      clear hlt hz0
      go_wp2_with fail
      go_ret
      exact ⟨by rw [← hcut.out]; rfl, hbw⟩
end Go.Proofs.YtedhjjlnionckaaDoor

namespace Go.Proofs.YtedhjjlnionckaaDoor
set_option linter.unusedVariables false
open Go.RowKit

/-- One cell is written, the row's frozen stretch being elsewhere. -/
theorem run_storeCells_oneG (P : Program) (w : World) (g o : Nat) (t : TypeId) (fz : Nat × Nat) (u : Value) (cur : Array Value) (hg : w.heap[g]? = some (.cells cur t fz)) (hfz : o < fz.1 ∨ fz.2 ≤ o) (hi : o < cur.size) (h1 : u.oneCell' = true) :
    (storeCells ⟨g, o, none⟩ [u] 0).run P w = .ok () (w.setRow g (cur.setIfInBounds o u)) := by
  have hcell : w.cell? ⟨g, o, none⟩ = some cur[o] := by simp [World.cell?, hg, hi]
  have hfro : w.frozen? ⟨g, o, none⟩ = false := by
    obtain ⟨lo, hi'⟩ := fz
    simp only [World.frozen?, hg, Bool.and_eq_false_iff, decide_eq_false_iff_not]
    simp only at hfz
    omega
  have hadd : (⟨g, o, none⟩ : Addr).add 0 = ⟨g, o, none⟩ := by simp [Addr.add]
  have hst : (store ((⟨g, o, none⟩ : Addr).add 0) u).run P w = .ok () (w.setRow g (cur.setIfInBounds o u)) := by
    rw [hadd, run_store P w _ u _ h1, hcell]
    simp [hfro, setCell_eq_setRow w g o cur t fz u hg]
  simp only [storeCells, Sem.run_bind, hst, Result.andThen_ok]
  rfl

theorem run_append_roomG {P : Program} (w : World) (t ty e : TypeId) (i : TypeInfo) (ht : P.underlying t = some (.slice e)) (hi : P.info? e = some i) (hs1 : i.size = 1)
    (g sLen sCap : Nat) (cur : Array Value) (fz : Nat × Nat) (hg : w.heap[g]? = some (.cells cur e fz)) (hfz : sLen < fz.1 ∨ fz.2 ≤ sLen) (a : Addr) (c : Nat) (u : Value) (hnews : ∀ j v, [u][j]? = some v → w.cell? (a.add j) = some v) (h1 : u.oneCell' = true)
    (hroom : sLen + 1 ≤ sCap) (hfit : sLen + 1 ≤ cur.size) :
    (Builtin.append_ #[t, t] ty #[.slice (some ⟨g, 0, none⟩) sLen sCap, .slice (some a) 1 c]).run P w =
      .ok (.slice (some ⟨g, 0, none⟩) (sLen + 1) sCap) (w.setRow g (cur.setIfInBounds sLen u)) := by
  have hf := run_firstCells_some (P := P) w i.size 1 a 1 c [u] (by simp [hs1]) hnews
  have hst := run_storeCells_oneG P w g sLen e fz u cur hg hfz hfit h1
  rw [hs1] at hf
  simp [Builtin.append_, run_underlying ht, sizeOf, typeInfo, hi, hs1, Builtin.lenOf, hroom, hf, Addr.add_lit, hst]

/-- The bytes l are a row of the call's own, from block 'base' on; what is frozen of it lies behind its capacity. -/
def OwnG (w : World) (base : Nat) (v : Value) (l : List UInt8) : Prop :=
  ∃ g cap cur fz, v = .slice (some ⟨g, 0, none⟩) l.length cap ∧ base ≤ g ∧ w.heap[g]? = some (.cells cur 5 fz) ∧ (fz.2 = 0 ∨ cap ≤ fz.1) ∧ l.length ≤ cap ∧ cap ≤ maxLen ∧ cur.size = cap ∧ cur.toList.take l.length = l.map bv

theorem OwnG.form {w : World} {base : Nat} {v : Value} {l : List UInt8} (h : OwnG w base v l) : ∃ g c, v = .slice (some ⟨g, 0, none⟩) l.length c ∧ Rds w w.heap.size (some ⟨g, 0, none⟩) (l.map bv) := by
  obtain ⟨g, cap, cur, fz, rfl, _, hg, _, _, _, _, ht⟩ := h
  refine ⟨g, cap, rfl, fun _ => ⟨_, rfl, (Array.getElem?_eq_some_iff.1 hg).1, fun j u hu => ?_⟩⟩
  rw [Addr.add_mid, Nat.zero_add, cell_of_row w g j cur _ fz hg]
  rw [← ht, List.getElem?_take] at hu
  split at hu
  · simpa using hu
  · cases hu

theorem OwnG.below {w w' : World} {base : Nat} {v : Value} {l : List UInt8} (h : OwnG w base v l) (hb : Below w.heap.size w w') : OwnG w' base v l := by
  obtain ⟨g, cap, cur, fz, hv, hbg, hg, hr⟩ := h
  exact ⟨g, cap, cur, fz, hv, hbg, (hb.block g (Array.getElem?_eq_some_iff.1 hg).1).trans hg, hr⟩

theorem run_push_byteG {w : World} (base : Nat) (ty : TypeId) (v : Value) (l : List UInt8) (b : UInt8) (hown : OwnG w base v l) (ad : Addr) (hnews : ∀ j u, [bv b][j]? = some u → w.cell? (ad.add j) = some u) (hlen : l.length ≤ 140737488355300) (hbase : base ≤ w.heap.size) :
    ∃ v' w', (Builtin.append_ #[22, 22] ty #[v, .slice (some ad) 1 1]).run Tryd.prog w = .ok v' w' ∧ OwnG w' base v' (l ++ [b]) ∧ Below base w w' := by
  obtain ⟨i0, hi, hz0, hz1, hz2⟩ := info_parts infoByte
  obtain ⟨g, cap, cur, fz, rfl, hbg, hg, hfz, hnc, hcm, hcs, htake⟩ := id hown
  have hll : (l ++ [b]).length = l.length + 1 := by simp
  by_cases hroom : l.length + 1 ≤ cap
  · have hr := run_append_roomG (P := Tryd.prog) w 22 ty 5 i0 Tryd.underlying22 hi hz1 g l.length cap cur fz hg (by omega) ad 1 (bv b) hnews rfl hroom (by omega)
    refine ⟨_, _, hr, ⟨g, cap, _, fz, by rw [hll], hbg, setRow_heap w g cur _ _ _ hg, hfz, by omega, hcm, by simpa using hcs, ?_⟩, (Only.setRow w g _).below hbg⟩
    rw [hll, Array.toList_setIfInBounds, List.take_add_one, List.take_set_of_le (Nat.le_refl _), htake, List.getElem?_set_self (by simp; omega), List.map_append]
    rfl
  · have holds : ∀ j u, (l.map bv)[j]? = some u → w.cell? ((⟨g, 0, none⟩ : Addr).add j) = some u := by
      intro j u hu
      obtain ⟨g', c', he, hr⟩ := hown.form
      cases he
      obtain ⟨ad', h1, _, h2⟩ := hr.look hu
      cases h1
      exact h2
    have hr := run_append_grow (P := Tryd.prog) w 22 ty 5 i0 (.int .u8 0) Tryd.underlying22 hi hz0 ⟨g, 0, none⟩ l.length cap (l.map bv) (by rw [hz1]; simp) holds ad 1 1 [bv b] (by rw [hz1]; rfl) hnews (by omega) (by omega) (growslice_fits (by omega) (by rw [hz2]; omega))
    have hge := grownCap_ge w (l.length + 1) cap 5
    have hcm2 := grownCap_le_maxLen w (l.length + 1) cap 5 (by unfold maxLen; omega)
    refine ⟨_, _, hr, ⟨w.heap.size, _, _, (0, 0), by rw [hll], hbase, heap_alloc_new w.drew _, .inl rfl, by omega, hcm2, ?_, ?_⟩, ((Below.refl _ _).drew).alloc hbase _⟩
    · have hz1' : (Value.int IntKind.u8 0).cells.size = 1 := rfl
      simp only [Array.size_append, List.size_toArray, size_zeroCells, hz1', List.length_map, List.length_singleton]
      omega
    · simp only [Array.toList_append]
      rw [hll, List.take_append_of_le_length (by simp)]
      simp
      exact List.take_of_length_le (by simp)

/-- 'b = append(b, x)', b such a row: the walk's step. -/
theorem push_byteG {w0 : World} {ops : Array Oper} {rest : List Oper} {o : Oper} {a : Act} {Q : Exit → Act → World → Prop} (hgd : o.guard = none) (s x : Operand)
    (ho : o.op = .call { callee := .builtin .append, args := #[s, x], argTypes := #[22, 22] })
    (base : Nat) (v : Value) (l : List UInt8) (b : UInt8) (u : Value) (hu : u = bv b) (hs : a.eval s = v) (hx : a.eval x = .slice (some ⟨w0.heap.size, 0, none⟩) 1 1)
    (hown : OwnG w0 base v l) (hlen : l.length ≤ 140737488355300) (hbase : base ≤ w0.heap.size)
    (h : ∀ v' w', OwnG w' base v' (l ++ [b]) → Below base w0 w' → wpList Tryd.prog ops Q rest (a.put o.dst v') w') :
    wpList Tryd.prog ops Q (o :: rest) a (w0.alloc (.cells #[u] 5)) := by
  subst hu
  refine wpList_plain hgd fun K hK => ?_
  obtain ⟨v', w', hr, h2, h3⟩ := run_push_byteG (w := w0.alloc (.cells #[bv b] 5)) base o.type v l b (hown.below ((Below.refl _ _).alloc (Nat.le_refl _) _)) ⟨w0.heap.size, 0, none⟩ (cell_one_new _ _ _) hlen (by simp; omega)
  unfold Oper.wp execOp
  simp only [ho, resolve, invoke, builtin, Sem.run_bind, Sem.run_pure, Result.andThen_ok, List.map_toArray, List.map_cons, List.map_nil, hs, hx, hr]
  exact hK _ _ (h v' w' h2 (((Below.refl _ _).alloc hbase _).trans h3))

/-- '[]byte(s)': such a row. -/
theorem wpList_bytes_ofG {ops : Array Oper} {rest : List Oper} {op : Oper} {a : Act} {w : World} {Q : Exit → Act → World → Prop} (hgd : op.guard = none) (x : Operand) (ho : op.op = .convert 9 22 x) (l : List UInt8) (S : ByteArray) (hS : S = bs l) (hx : a.eval x = .string S) (hlen : l.length ≤ 140737488355300)
    (h : ∀ v' w', OwnG w' w.heap.size v' l → Below w.heap.size w w' → wpList Tryd.prog ops Q rest (a.put op.dst v') w') :
    wpList Tryd.prog ops Q (op :: rest) a w := by
  subst hS
  refine wpList_plain hgd fun K hK => ?_
  have hrun := run_bytes_of_string (P := Tryd.prog) w 9 22 5 (bs l) Tryd.underlying9 Tryd.underlying22 Tryd.underlying5
  unfold Oper.wp execOp
  simp only [ho, hx, Sem.run_bind, Sem.run_pure, hrun, Result.andThen_ok]
  have hge := grownCap_ge w (bs l).size 0 5
  have hcm2 := grownCap_le_maxLen w (bs l).size 0 5 (by rw [bs_size]; unfold maxLen; omega)
  have e : (bs l).data.map (fun b => Value.int .u8 b.toNat) = (l.map bv).toArray := by
    unfold bs
    apply Array.ext'
    simp
    exact fun a _ => rfl
  have hsz : (bytesRow (bs l) (grownCap w (bs l).size 0 5)).size = grownCap w (bs l).size 0 5 := by
    unfold bytesRow
    rw [e, bs_size] at *
    simp
    omega
  refine hK _ _ (h _ _ ⟨w.heap.size, _, _, _, by rw [bs_size], Nat.le_refl _, heap_alloc_new w.drew _, .inr (by rw [hsz]; exact Nat.le_refl _), by rw [bs_size] at *; exact hge, hcm2, hsz, ?_⟩ (((Below.refl _ _).drew).alloc (Nat.le_refl _) _))
  unfold bytesRow
  rw [e]
  simp
end Go.Proofs.YtedhjjlnionckaaDoor

namespace Go.Proofs.YtedhjjlnionckaaDoor
set_option linter.unusedVariables false
set_option linter.unusedSimpArgs false
open Go.RowKit

set_option maxRecDepth 100000 in
set_option maxHeartbeats 2000000 in
theorem refBlock_of (HS : RefSum) : RefBlock := by
  intro key w hk ht
  have hT := Lib.hid ht
  have b0 : Hid (Value.int IntKind.u8 0 = bv 0) := rfl
  have K1 := bs_size key
  have HSum := Lib.hid (fun W A c (hr : Rds W W.heap.size (some A) (key.map bv)) (hT : Tab 0 W) => HS key (some A) c W hr (fun h => by cases h) (by omega) hT)
  by_cases hlong : 64 < key.length
  · have t1 : (64 : Int) < (bs key).size := by rw [K1]; omega
    have hZl := Sha.sum_len key
    have hBk : Hid (Sha.block key = Sha.sum key ++ List.replicate 32 0) := by
      show _ = _
      unfold Sha.block
      rw [if_pos hlong]
      simp [Sha.sum_len]
    rw [hBk.out]
    clear hBk
    have hkl : Hid (key.length ≤ 900000) := hk
    obtain ⟨K, hK0⟩ : ∃ K, K = key := ⟨_, rfl⟩
    unfold sv
    obtain ⟨S, hS0⟩ : ∃ S, S = bs key := ⟨_, rfl⟩
    have hS := Lib.hid hS0
    rw [← hS0] at t1 ⊢
    clear hS0 K1 hK0 hlong
    generalize Sha.sum key = Z at HSum hZl ⊢
    have hZm : (Z.map bv).length = 32 := by rw [List.length_map, hZl]
    have hZs : Hid ((Tryd.prog.info? 24).map (·.size) = some (Z.map bv).length) := by show _ = _; rw [hZm]; exact size_b32
    have hZo := av_one Z
    have X32 := Lib.hid (fun W => bytes32_any Z W hZl)
    have hZ32 := Lib.hid hZl
    have HZb : Hid (bs Z = bs Z) := rfl
    unfold sv at X32
    obtain ⟨SZ, hSZ0⟩ : ∃ SZ, SZ = bs Z := ⟨_, rfl⟩
    have hSZ := Lib.hid hSZ0
    rw [← hSZ0] at X32
    unfold av at HSum X32
    clear hSZ0 HZb hZl hk ht HS
    go_enter Tryd.func67, Tryd.ntmps67
    go_wp2_with (first | (refine wpList_bytes_ofG rfl (.tmp 5) rfl key S hS.out rfl (by have := hkl.out; omega) ?_; intro v1 w1 ho1 hb1) | (refine wpList_bytes_of rfl (.tmp 10) rfl key S hS.out rfl ?_; intro w2 A2 c2 hr2 _ hA2 hb2 _; subst hA2; have hB2 : Below w.heap.size w w2 := hb1.trans (hb2.mono hb1.size)))
    refine (HSum.out _ _ _ hr2 (hT.out.on hB2)).mono ?_
    rintro e w3 ⟨rfl, hb3⟩
    have hB3 : Below w.heap.size w w3 := hB2.trans (hb3.mono hB2.size)
    clear ho1 hb1 hb2 hb3 hr2 hB2
    go_wp2_with (first | (refine wpList_row_store rfl 24 _ _ rfl (Z.map bv) rfl rfl (Blk.new w3 (bz 32) 24) hZs.out (by rw [hZm]; rfl) hZo ?_; intro w4 hZ4 ho4; have hb4 : Below w3.heap.size w3 w4 := ((Below.refl _ _).alloc (Nat.le_refl _) _).trans (ho4.below (Nat.le_refl _))) | (refine wpList_blk_load rfl 24 _ rfl 0 rfl hZ4.out (Z.map bv) (take_all0 _) (.array 32 5) Tryd.underlying24 rfl hZs.out ?_))
    have hB4 : Below w.heap.size w w4 := hB3.trans (hb4.mono hB3.size)
    clear hb4 ho4 hZ4
    refine (X32.out _).mono ?_
    rintro e w5 ⟨rfl, hb5⟩
    have hB5 : Below w.heap.size w w5 := hB4.trans (hb5.mono hB4.size)
    clear hb5 hB4 hB3
    go_wp2_with (refine wpList_bytes_ofG rfl _ rfl Z SZ hSZ.out rfl (by rw [hZ32.out]; decide) ?_; intro v6 w6 ho6 hb6)
    have hB6 : Below w.heap.size w w6 := hB5.trans (hb6.mono hB5.size)
    have ho6' : OwnG w6 w.heap.size v6 Z := by
      obtain ⟨g, cap, cur, fz, hv, hbg, hr⟩ := ho6
      exact ⟨g, cap, cur, fz, hv, Nat.le_trans hB5.size hbg, hr⟩
    clear ho6 hb6 hB5
    go_loopw [3] (fun v wr => ∃ (j n c' g : Nat), j ≤ 32 ∧ v = .slice (some ⟨g, 0, none⟩) n c' ∧ n = 32 + j ∧ OwnG wr w.heap.size (.slice (some ⟨g, 0, none⟩) n c') (Z ++ List.replicate j 0) ∧ Below w.heap.size w wr) (fun v _ => 64 - sliceLen v)
    case atStart =>
      obtain ⟨g, c, rfl, _⟩ := ho6'.form
      exact ⟨0, _, c, g, by omega, rfl, by rw [hZ32.out], by simpa using ho6', hB6⟩
    case round =>
      obtain ⟨j, n, c', g, hj, rfl, hn0, ho, hbw⟩ := hrel
      have hnn := Lib.hid hn0
      by_cases hlt : j < 32
      · have tr : (n : Int) < 64 := by omega
        have hle : (Z ++ List.replicate j 0).length ≤ 140737488355300 := by rw [List.length_append, hZ32.out, List.length_replicate]; omega
        clear hn0
        go_wp2_with (at_builtin; go_must (refine push_byteG rfl _ _ rfl w.heap.size (.slice (some ⟨g, 0, none⟩) n c') (Z ++ List.replicate j 0) _ _ b0.out rfl rfl ho hle hbw.size ?_); intro v7 w7 ho7 hb7)
        obtain ⟨g7, c7, rfl, _⟩ := ho7.form
        have hl7 : (Z ++ List.replicate j 0 ++ [0]).length = 32 + (j + 1) := by simp [hZ32.out] <;> omega
        rw [hl7] at ho7 ⊢
        have hap : Hid (Z ++ List.replicate j 0 ++ [0] = Z ++ List.replicate (j + 1) 0) := by
          show _ = _
          rw [List.replicate_succ', List.append_assoc]
        rw [hap.out] at ho7
        go_roundw
        case rel => exact ⟨j + 1, _, c7, g7, by omega, rfl, rfl, ho7, hbw.trans hb7⟩
        case measure => simp [sliceLen]; have := hnn.out; omega
      · have tr : ¬ (n : Int) < 64 := by omega
        have hn64 : Hid (n = 64) := by show _ = _; omega
        obtain rfl : j = 32 := by omega
        obtain ⟨g7, c7, he, hr7⟩ := ho.form
        obtain ⟨rfl, rfl⟩ : g7 = g ∧ c7 = c' := by injection he with h1 h2 h3; injection h1 with h1; injection h1 with h1; exact ⟨h1.symm, h3.symm⟩
        clear hn0 hlt he ho
        have hr7' := Lib.hid hr7
        clear hr7
        go_wp2_with fail
        go_ret
        refine ⟨⟨some ⟨g7, 0, none⟩, ⟨c7, ?_⟩, by have h := hr7'.out; simpa using h⟩, hbw⟩
        show Ending.returned (Value.slice (some ⟨g7, 0, none⟩) n c7) = _
        rw [hn64.out]
  · have t1 : ¬ (64 : Int) < (bs key).size := by rw [K1]; omega
    obtain ⟨m, hm⟩ : ∃ m, m = 64 - key.length := ⟨_, rfl⟩
    have hBk : Hid (Sha.block key = key ++ List.replicate m 0) := by
      show _ = _
      unfold Sha.block
      rw [if_neg hlong, hm]
    rw [hBk.out]
    have hkm : Hid (key.length + m = 64) := by show _ = _; omega
    clear hBk HSum HS hlong hm
    unfold sv
    obtain ⟨S, hS0⟩ : ∃ S, S = bs key := ⟨_, rfl⟩
    have hS := Lib.hid hS0
    rw [← hS0] at t1 ⊢
    clear hS0 K1 hk ht
    go_enter Tryd.func67, Tryd.ntmps67
    go_wp2_with (refine wpList_bytes_ofG rfl _ rfl key S hS.out rfl (by have := hkm.out; omega) ?_; intro v6 w6 ho6' hB6)
    go_loopw [3] (fun v wr => ∃ (j n c' g : Nat), j ≤ m ∧ v = .slice (some ⟨g, 0, none⟩) n c' ∧ n = key.length + j ∧ OwnG wr w.heap.size (.slice (some ⟨g, 0, none⟩) n c') (key ++ List.replicate j 0) ∧ Below w.heap.size w wr) (fun v _ => 64 - sliceLen v)
    case atStart =>
      obtain ⟨g, c, rfl, _⟩ := ho6'.form
      exact ⟨0, _, c, g, by omega, rfl, by simp, by simpa using ho6', hB6⟩
    case round =>
      obtain ⟨j, n, c', g, hj, rfl, hn0, ho, hbw⟩ := hrel
      have hnn := Lib.hid hn0
      by_cases hlt : j < m
      · have tr : (n : Int) < 64 := by have := hkm.out; omega
        have hle : (key ++ List.replicate j 0).length ≤ 140737488355300 := by have := hkm.out; rw [List.length_append, List.length_replicate]; omega
        clear hn0
        go_wp2_with (at_builtin; go_must (refine push_byteG rfl _ _ rfl w.heap.size (.slice (some ⟨g, 0, none⟩) n c') (key ++ List.replicate j 0) _ _ b0.out rfl rfl ho hle hbw.size ?_); intro v7 w7 ho7 hb7)
        obtain ⟨g7, c7, rfl, _⟩ := ho7.form
        have hl7 : (key ++ List.replicate j 0 ++ [0]).length = key.length + (j + 1) := by simp [Nat.add_assoc]
        rw [hl7] at ho7 ⊢
        have hap : Hid (key ++ List.replicate j 0 ++ [0] = key ++ List.replicate (j + 1) 0) := by
          show _ = _
          rw [List.replicate_succ', List.append_assoc]
        rw [hap.out] at ho7
        go_roundw
        case rel => exact ⟨j + 1, _, c7, g7, by omega, rfl, rfl, ho7, hbw.trans hb7⟩
        case measure => simp [sliceLen]; have := hnn.out; have := hkm.out; omega
      · have tr : ¬ (n : Int) < 64 := by have := hkm.out; omega
        have hn64 : Hid (n = 64) := by show _ = _; have := hkm.out; omega
        obtain rfl : j = m := by omega
        obtain ⟨g7, c7, he, hr7⟩ := ho.form
        obtain ⟨rfl, rfl⟩ : g7 = g ∧ c7 = c' := by injection he with h1 h2 h3; injection h1 with h1; injection h1 with h1; exact ⟨h1.symm, h3.symm⟩
        clear hn0 hlt he ho
        have hr7' := Lib.hid hr7
        clear hr7
        go_wp2_with fail
        go_ret
        refine ⟨⟨some ⟨g7, 0, none⟩, ⟨c7, ?_⟩, by have h := hr7'.out; simpa using h⟩, hbw⟩
        show Ending.returned (Value.slice (some ⟨g7, 0, none⟩) n c7) = _
        rw [hn64.out]
end Go.Proofs.YtedhjjlnionckaaDoor
