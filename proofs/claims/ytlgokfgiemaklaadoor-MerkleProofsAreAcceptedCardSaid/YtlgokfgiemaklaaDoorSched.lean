/-
  Contracts of stage 2: the words of a block.
-/
import Derived.Test.YtlgokfgiemaklaaDoorRot
import Derived.Test.YtlgokfgiemaklaaDoorRg
import Derived.Deep.LoopGhost
namespace Go.Proofs.YtlgokfgiemaklaaDoor
open Go.RowKit

def zu (n : Nat) : List Value := List.replicate n (.int .u32 0)
/-- The array of words when k of them are there. -/
def wcells (b : List UInt8) (k : Nat) : List Value := (Sha.words b k).map uv ++ zu (64 - k)

theorem wrap_small {c : Nat} (h : c < 4294967296) : IntKind.u32.wrap (c : Int) = c := by rw [IntKind.wrap_u32]; omega
theorem word_val (c0 c1 c2 c3 : Nat) (h : c0 < 256 ∧ c1 < 256 ∧ c2 < 256 ∧ c3 < 256) :
    bits BinOp.or IntKind.u32 (bits BinOp.or IntKind.u32 (bits BinOp.or IntKind.u32 (IntKind.u32.wrap (IntKind.u32.wrap (c0 : Int) * 16777216)) (IntKind.u32.wrap (IntKind.u32.wrap (c1 : Int) * 65536))) (IntKind.u32.wrap (IntKind.u32.wrap (c2 : Int) * 256))) (IntKind.u32.wrap (c3 : Int)) =
      ((c0 <<< 24 ||| c1 <<< 16 ||| c2 <<< 8 ||| c3 : Nat) : Int) := by
  obtain ⟨h0, h1, h2, h3⟩ := h
  have e0 : IntKind.u32.wrap (IntKind.u32.wrap (c0 : Int) * 16777216) = ((c0 <<< 24 : Nat) : Int) := by rw [wrap_small (by omega), IntKind.wrap_u32, Nat.shiftLeft_eq]; omega
  have e1 : IntKind.u32.wrap (IntKind.u32.wrap (c1 : Int) * 65536) = ((c1 <<< 16 : Nat) : Int) := by rw [wrap_small (by omega), IntKind.wrap_u32, Nat.shiftLeft_eq]; omega
  have e2 : IntKind.u32.wrap (IntKind.u32.wrap (c2 : Int) * 256) = ((c2 <<< 8 : Nat) : Int) := by rw [wrap_small (by omega), IntKind.wrap_u32, Nat.shiftLeft_eq]; omega
  have l0 : c0 <<< 24 < 4294967296 := by rw [Nat.shiftLeft_eq]; omega
  have l1 : c1 <<< 16 < 4294967296 := by rw [Nat.shiftLeft_eq]; omega
  have l2 : c2 <<< 8 < 4294967296 := by rw [Nat.shiftLeft_eq]; omega
  rw [e0, e1, e2, wrap_small (by omega), u32_or_nat _ _ l0 l1, u32_or_nat _ _ (Sha.or_lt l0 l1) l2, u32_or_nat _ _ (Sha.or_lt (Sha.or_lt l0 l1) l2) (by omega)]
theorem next_val (x y u v : Nat) (h : x < 4294967296 ∧ y < 4294967296 ∧ u < 4294967296 ∧ v < 4294967296) :
    IntKind.u32.wrap (IntKind.u32.wrap (IntKind.u32.wrap ((u : Int) + bits BinOp.xor IntKind.u32 (bits BinOp.xor IntKind.u32 (Sha.rotr x 7 : Nat) (Sha.rotr x 18 : Nat)) ((x : Int) / 8)) + v) + bits BinOp.xor IntKind.u32 (bits BinOp.xor IntKind.u32 (Sha.rotr y 17 : Nat) (Sha.rotr y 19 : Nat)) ((y : Int) / 1024)) =
      (((u + (Sha.rotr x 7 ^^^ Sha.rotr x 18 ^^^ x >>> 3) + v + (Sha.rotr y 17 ^^^ Sha.rotr y 19 ^^^ y >>> 10)) % 4294967296 : Nat) : Int) := by
  obtain ⟨hx, hy, hu, hv⟩ := h
  have e0 : ((x : Int) / (8 : Int)) = ((x >>> 3 : Nat) : Int) := by rw [Nat.shiftRight_eq_div_pow]; simp
  have e1 : ((y : Int) / (1024 : Int)) = ((y >>> 10 : Nat) : Int) := by rw [Nat.shiftRight_eq_div_pow]; simp
  rw [e0, e1, Sha.xor_val _ _ (Sha.rotr_lt _ _) (Sha.rotr_lt _ _), Sha.xor_val _ _ (Sha.xor_lt (Sha.rotr_lt _ _) (Sha.rotr_lt _ _)) (Sha.shr_lt hx), Sha.xor_val _ _ (Sha.rotr_lt _ _) (Sha.rotr_lt _ _), Sha.xor_val _ _ (Sha.xor_lt (Sha.rotr_lt _ _) (Sha.rotr_lt _ _)) (Sha.shr_lt hy),
    IntKind.wrap_u32, IntKind.wrap_u32, IntKind.wrap_u32]
  omega
theorem wcells_len (b : List UInt8) (k : Nat) (h : k ≤ 64) : (wcells b k).length = 64 := by
  unfold wcells zu
  rw [List.length_append, List.length_map, Sha.words_len, List.length_replicate]
  omega
theorem wcells_next (b : List UInt8) (k : Nat) (h : k < 64) : splice (wcells b k) k [uv (if k < 16 then Sha.word b k else Sha.next (Sha.words b k) k)] = wcells b (k + 1) := by
  have hl : ((Sha.words b k).map uv).length = k := by rw [List.length_map, Sha.words_len]
  rw [splice_set _ _ _ (by rw [wcells_len _ _ (by omega)]; omega)]
  unfold wcells zu
  rw [List.set_append_right _ _ (by omega), hl, Nat.sub_self, show 64 - k = (64 - (k + 1)) + 1 by omega, List.replicate_succ, List.set_cons_zero, Sha.words, List.map_append]
  simp
theorem size_w64 : (Tryd.prog.info? 126).map (·.size) = some 64 := by kernel_rfl
theorem words_one (l : List Nat) : ∀ u ∈ (Value.agg (l.map uv).toArray).cells.toList, u.oneCell' = true := by
  intro u hu
  simp [Value.cells] at hu
  obtain ⟨n, _, rfl⟩ := hu
  rfl
theorem size_u32 : (Tryd.prog.info? 99).map (·.size) = some 1 := by kernel_rfl

set_option maxRecDepth 100000 in
set_option maxHeartbeats 1000000 in
theorem schedule_any (b : List UInt8) (w : World) (hl : b.length = 64) : Calls Tryd.prog 92 #[.agg (b.map bv).toArray] w fun e w' => e = .returned (.agg ((Sha.words b 64).map uv).toArray) ∧ Below w.heap.size w w' := by
  go_enter Tryd.func92, Tryd.ntmps92
  go_wp2_with fail
  go_loopw [10] (fun i wr => ∃ k : Nat, k ≤ 16 ∧ i = .int .i64 k ∧ Blk wr w.heap.size (b.map bv) 101 ∧ Blk wr (w.heap.size + 1 + 1) (wcells b k) 126 ∧ Blk wr (w.heap.size + 1) (zu 64) 126 ∧ Below w.heap.size w wr) (fun i _ => 16 - (intOf i).toNat)
  case atStart => exact ⟨0, by omega, rfl, ((Blk.new _ _ _).alloc _).alloc _, (Blk.new _ (wcells b 0) _).at (by simp), ((Blk.new _ (zu 64) _).alloc _).at (by simp), (((Below.refl _ _).alloc (by simp) _).alloc (by simp) _).alloc (by simp; omega) _⟩
  case round =>
    obtain ⟨k, hk, rfl, hB0, hW0, hR0, hbw⟩ := hrel
    by_cases hlt : k < 16
    · have hB := Lib.hid hB0
      have hW := Lib.hid hW0
      have hR := Lib.hid hR0
      clear hB0 hW0 hR0
      have hP := fun (j : Nat) (hj : j < 4) => show ∃ p c : Nat, p = 4 * k + j ∧ p < 64 ∧ c < 256 ∧ (b.getD (4 * k + j) 0).toNat = c ∧ ∀ x : ExtOf wr.drew, x.world.cell? ⟨w.heap.size, p, none⟩ = some (.int .u8 c) from
        ⟨_, _, rfl, by omega, UInt8.toNat_lt _, rfl, fun x => by
          refine (hB.out.drew.below x.ext hB.out.lt).cell ?_
          rw [List.getElem?_map, List.getElem?_eq_getElem (by omega), List.getD_eq_getElem?_getD, List.getElem?_eq_getElem (by omega)]
          rfl⟩
      obtain ⟨p0, c0, hp0, hp0', hc0, hv0, hx0⟩ := hP 0 (by omega)
      obtain ⟨p1, c1, hp1, hp1', hc1, hv1, hx1⟩ := hP 1 (by omega)
      obtain ⟨p2, c2, hp2, hp2', hc2, hv2, hx2⟩ := hP 2 (by omega)
      obtain ⟨p3, c3, hp3, hp3', hc3, hv3, hx3⟩ := hP 3 (by omega)
      have e0 : IntKind.i64.wrap (4 * (k : Int)) = p0 := by rw [IntKind.wrap_i64]; omega
      have e1 : IntKind.i64.wrap ((p0 : Int) + 1) = p1 := by rw [IntKind.wrap_i64]; omega
      have e2 : IntKind.i64.wrap ((p0 : Int) + 2) = p2 := by rw [IntKind.wrap_i64]; omega
      have e3 : IntKind.i64.wrap ((p0 : Int) + 3) = p3 := by rw [IntKind.wrap_i64]; omega
      have i0 : (p0 : Int) < 64 := by omega
      have i1 : (p1 : Int) < 64 := by omega
      have i2 : (p2 : Int) < 64 := by omega
      have i3 : (p3 : Int) < 64 := by omega
      have ik : (k : Int) < 64 := by omega
      have hlt4 : k + 1 ≤ 64 := by omega
      have V : Hid (Sha.word b k = (c0 <<< 24 ||| c1 <<< 16 ||| c2 <<< 8 ||| c3)) := by
        show _ = _
        unfold Sha.word
        rw [hv1, hv2, hv3]
        rw [Nat.add_zero] at hv0
        rw [hv0]
      have C := Lib.hid (word_val c0 c1 c2 c3 ⟨hc0, hc1, hc2, hc3⟩)
      clear hP hp0 hp1 hp2 hp3 hp0' hp1' hp2' hp3' hv0 hv1 hv2 hv3 hc0 hc1 hc2 hc3
      go_wp2_with fail
      refine wp_region_planL 31 [(true, 0), (true, 1), (true, 2), (true, 3), (true, 4), (true, 5), (true, 6), (true, 7), (true, 8), (true, 9), (true, 10), (true, 11), (true, 12), (true, 13), (true, 14), (true, 15), (true, 16), (true, 17), (true, 18), (true, 19), (true, 20), (true, 21), (true, 22), (true, 23), (true, 24), (true, 25), (true, 26), (true, 27), (true, 28), (true, 29), (true, 30), (false, 31)] (by kernel_rfl) (by decide) (by kernel_rfl) (by kernel_rfl) (by kernel_rfl) (by decide) (by intro c a d v w h; cases d <;> exact h) ?_
      change wpPlanL _ _ _ _ _ _ wr.drew
      iterate 31 (refine wpPlanL_plain rfl (fun K hK => ?_); go_simp; refine hK _ ?_; clear hK K)
      refine wpPlanL_call rfl (fun K hK => ?_)
      refine wpList_blk_store rfl 99 _ _ rfl k _ rfl rfl hW.out.drew size_u32 (by rw [wcells_len _ _ (by omega)]; exact hlt4) (one_int _ _) ?_
      intro w3 hW3 ho3
      refine wpList_end (planPostL_normal ⟨.inl rfl, hK _ _ ?_⟩)
      clear hK K
      refine wpPlanL_nil ?_
      go_wp2_with fail
      go_roundw
      case rel =>
        refine ⟨k + 1, by omega, by go_num, hB.out.drew.only ho3 (by omega), ?_, hR.out.drew.only ho3 (by omega), (hbw.drew).trans (ho3.below (by omega))⟩
        rw [← wcells_next b k (by omega), if_pos hlt, V.out]
        unfold uv
        rw [← C.out]
        exact hW3.out
      case measure => simp [intOf]; omega
    · rw [show k = 16 by omega] at hW0
      clear hk
      have t : ¬ (k : Int) < 16 := by omega
      go_wp2_with fail
      go_loopw [5] (fun i wr => ∃ k : Nat, 16 ≤ k ∧ k ≤ 64 ∧ i = .int .i64 k ∧ Blk wr (w.heap.size + 1 + 1) (wcells b k) 126 ∧ Blk wr (w.heap.size + 1) (zu 64) 126 ∧ Below w.heap.size w wr) (fun i _ => 64 - (intOf i).toNat)
      case atStart => exact ⟨16, by omega, by omega, rfl, hW0, hR0, hbw⟩
      case round =>
        clear hB0 hW0 hR0 hbw
        clear hlt t
        rename_i wr0 wr
        obtain ⟨k, hk0, hk, rfl, hW0, hR0, hbw⟩ := hrel
        have hW := Lib.hid hW0
        have hR := Lib.hid hR0
        clear hW0 hR0
        by_cases hlt : k < 64
        · have hP := fun (j : Nat) (hj0 : 0 < j) (hj : j ≤ 16) => show ∃ p c : Nat, p + j = k ∧ c < 4294967296 ∧ (Sha.words b k).getD (k - j) 0 = c ∧ ∀ W : World, Below wr.heap.size wr W → W.cell? ⟨w.heap.size + 1 + 1, p, none⟩ = some (.int .u32 c) from
            ⟨k - j, _, by omega, (Sha.small_words b k).at _, rfl, fun W hx => by
              refine (hW.out.below hx hW.out.lt).cell ?_
              unfold wcells
              have hlk : k - j < (Sha.words b k).length := by rw [Sha.words_len]; omega
              rw [List.getElem?_append_left (by rw [List.length_map]; exact hlk), List.getElem?_map, List.getD_eq_getElem?_getD, List.getElem?_eq_getElem hlk]
              rfl⟩
          obtain ⟨p15, x, hp15, hxs, hv15, hx15⟩ := hP 15 (by omega) (by omega)
          obtain ⟨p2, y, hp2, hys, hv2, hx2⟩ := hP 2 (by omega) (by omega)
          obtain ⟨p16, u, hp16, hus, hv16, hx16⟩ := hP 16 (by omega) (by omega)
          obtain ⟨p7, v, hp7, hvs, hv7, hx7⟩ := hP 7 (by omega) (by omega)
          have V : Hid (Sha.next (Sha.words b k) k = (u + (Sha.rotr x 7 ^^^ Sha.rotr x 18 ^^^ x >>> 3) + v + (Sha.rotr y 17 ^^^ Sha.rotr y 19 ^^^ y >>> 10)) % 4294967296) := by
            show _ = _
            unfold Sha.next
            rw [hv15, hv2, hv16, hv7]
          have e15 : IntKind.i64.wrap ((k : Int) - 15) = p15 := by rw [IntKind.wrap_i64]; omega
          have e2 : IntKind.i64.wrap ((k : Int) - 2) = p2 := by rw [IntKind.wrap_i64]; omega
          have e16 : IntKind.i64.wrap ((k : Int) - 16) = p16 := by rw [IntKind.wrap_i64]; omega
          have e7 : IntKind.i64.wrap ((k : Int) - 7) = p7 := by rw [IntKind.wrap_i64]; omega
          have i15 : (p15 : Int) < 64 := by omega
          have i2 : (p2 : Int) < 64 := by omega
          have i16 : (p16 : Int) < 64 := by omega
          have i7 : (p7 : Int) < 64 := by omega
          have ik : (k : Int) < 64 := by omega
          have hlt4 : k + 1 ≤ 64 := by omega
          have R7 := Lib.hid (fun W => rotr_any x 7 W hxs (by decide) (by decide))
          have R18 := Lib.hid (fun W => rotr_any x 18 W hxs (by decide) (by decide))
          have R17 := Lib.hid (fun W => rotr_any y 17 W hys (by decide) (by decide))
          have R19 := Lib.hid (fun W => rotr_any y 19 W hys (by decide) (by decide))
          have B4 := Lib.hid (And.intro hxs (And.intro hys (And.intro hus hvs)))
          have c15 := hx15 _ ((Below.refl wr.heap.size wr).drew)
          have X15 := fun x : ExtOf wr.drew => hx15 x.world (((Below.refl wr.heap.size wr).drew).trans x.ext)
          have X2 := fun x : ExtOf wr.drew => hx2 x.world (((Below.refl wr.heap.size wr).drew).trans x.ext)
          have X16 := fun x : ExtOf wr.drew.drew => hx16 x.world ((((Below.refl wr.heap.size wr).drew).drew).trans x.ext)
          have X7 := fun x : ExtOf wr.drew.drew => hx7 x.world ((((Below.refl wr.heap.size wr).drew).drew).trans x.ext)
          clear hP hp15 hp2 hp16 hp7 hv15 hv2 hv16 hv7 hx15 hx2 hx16 hx7 hxs hys hus hvs c15
          go_wp2_with fail
          refine wp_region_planL 99 [(true, 0), (true, 1), (true, 2), (true, 3), (true, 4), (true, 5), (true, 6), (true, 7), (true, 8), (true, 9)] (by kernel_rfl) (by decide) (by kernel_rfl) (by kernel_rfl) (by kernel_rfl) (by decide) (by intro c a d v w h; cases d <;> exact h) ?_
          change wpPlanL _ _ _ _ _ _ wr.drew
          iterate 10 (refine wpPlanL_plain rfl (fun K hK => ?_); go_simp; refine hK _ ?_; clear hK K)
          refine wpPlanL_nil ?_
          go_wp2_with fail
          refine (R7.out _).mono ?_
          rintro e w' ⟨rfl, rfl⟩
          go_wp2_with fail
          refine (R18.out _).mono ?_
          rintro e w' ⟨rfl, rfl⟩
          go_wp2_with fail
          refine (R17.out _).mono ?_
          rintro e w' ⟨rfl, rfl⟩
          go_wp2_with fail
          refine (R19.out _).mono ?_
          rintro e w' ⟨rfl, rfl⟩
          go_wp2_with fail
          refine wp_region_planL 15 [(true, 0), (true, 1), (true, 2), (true, 3), (true, 4), (true, 5), (true, 6), (true, 7), (true, 8), (true, 9), (true, 10), (true, 11), (true, 12), (true, 13), (true, 14), (false, 15)] (by kernel_rfl) (by decide) (by kernel_rfl) (by kernel_rfl) (by kernel_rfl) (by decide) (by intro c a d v w h; cases d <;> exact h) ?_
          change wpPlanL _ _ _ _ _ _ wr.drew.drew
          iterate 15 (refine wpPlanL_plain rfl (fun K hK => ?_); go_simp; refine hK _ ?_; clear hK K)
          refine wpPlanL_call rfl (fun K hK => ?_)
          refine wpList_blk_store rfl 99 _ _ rfl k _ rfl rfl hW.out.drew.drew size_u32 (by rw [wcells_len _ _ (by omega)]; exact hlt4) (one_int _ _) ?_
          intro w3 hW3 ho3
          refine wpList_end (planPostL_normal ⟨.inl rfl, hK _ _ ?_⟩)
          clear hK K
          refine wpPlanL_nil ?_
          go_wp2_with fail
          go_roundw
          case rel =>
            refine ⟨k + 1, by omega, by omega, by go_num, ?_, hR.out.drew.drew.only ho3 (by omega), (hbw.drew.drew).trans (ho3.below (by omega))⟩
            rw [← wcells_next b k (by omega), if_neg (by omega), V.out]
            unfold uv
            rw [← next_val x y u v B4.out]
            exact hW3.out
          case measure => simp [intOf]; omega
        · obtain rfl : k = 64 := by omega
          have hWl : wcells b 64 = (Sha.words b 64).map uv := by unfold wcells zu; simp
          have hl64 : ((Sha.words b 64).map uv).length = 64 := by rw [List.length_map, Sha.words_len]
          have hW2 := hW.out
          rw [hWl] at hW2
          have hR2 := hR.out
          have hsz : Hid ((Tryd.prog.info? 126).map (·.size) = some ((Sha.words b 64).map uv).length) := by show _ = _; rw [hl64]; exact size_w64
          have t : ¬ ((64 : Nat) : Int) < 64 := by omega
          have hz : (zu 64).length = 64 := rfl
          clear hW hR hWl hk0 hk
          go_wp2_with (first | (refine wpList_blk_load rfl 126 _ rfl 0 rfl hW2 ((Sha.words b 64).map uv) (take_all0 _) (.array 64 99) Tryd.underlying126 rfl hsz.out ?_) | (refine wpList_blk_store rfl 126 _ _ rfl 0 (.agg ((Sha.words b 64).map uv).toArray) rfl rfl hR2 (by simpa [Value.cells] using hsz.out) (by simp [Value.cells, hl64, hz]) (words_one _) ?_; intro w3 hR3 ho3))
          refine bodyPost_ret (ret_blk rfl _ w3 (g := w.heap.size + 1) rfl (hR3.out) (.array 64 99) Tryd.underlying126 rfl ?_) rfl ⟨?_, hbw.trans (ho3.below (by omega))⟩
          · rw [splice_all _ _ (by simp [Value.cells, hl64, hz])]; simpa [Value.cells] using hsz.out
          · rw [splice_all _ _ (by simp [Value.cells, hl64, hz])]; simp [Value.cells]
end Go.Proofs.YtlgokfgiemaklaaDoor
