/-
  Contracts of stage 2: the reference's padding. Contracts of stage 2: the reference's words of a block. Contracts of stage 2: the reference's messages. Contracts of stage 2: a block of the reference, changed, and what follows it.
-/
import Derived.Test.YtlgokfgiemaklaaDoorSan2
import Derived.Test.YtlgokfgiemaklaaDoorFwc
namespace Go.Proofs.YtlgokfgiemaklaaDoor
set_option linter.unusedVariables false
open Go.RowKit

theorem Sha.pad_steps (b : List UInt8) : Sha.pad b = (b ++ [128] ++ List.replicate (Sha.zeros b.length) 0) ++ Sha.be64 (8 * b.length) := by
  unfold Sha.pad
  simp

def sliceLen : Value → Nat
  | .slice _ n _ => n
  | _ => 0

set_option maxRecDepth 100000 in
set_option maxHeartbeats 2000000 in
theorem padded_any (l : List UInt8) (A : Option Addr) (c : Nat) (w : World) (hr : Rds w w.heap.size A (l.map bv)) (hcap : A = none → c = 0) (hl : l.length ≤ 1000000000) :
    Calls Tryd.prog 94 #[.slice A l.length c] w (NewEnd (Sha.pad l) w) := by
  rw [Sha.pad_steps]
  obtain ⟨z, hz⟩ : ∃ z, z = Sha.zeros l.length := ⟨_, rfl⟩
  have hz64 : z < 64 := by rw [hz]; unfold Sha.zeros; omega
  have hzfit : Hid ((l.length + 1 + z) % 64 = 56) := by show _ = _; rw [hz]; exact Sha.zeros_fit _
  have hzmin : Hid (∀ j, j < z → (l.length + 1 + j) % 64 ≠ 56) := fun j h => Sha.zeros_least _ j (by omega)
  rw [← hz]
  obtain ⟨Y, hY⟩ : ∃ Y, Y = Sha.be64 (8 * l.length) := ⟨_, rfl⟩
  have hY8 : Hid (Y.length = 8) := by show _ = _; rw [hY]; rfl
  have hat : Hid (∀ i, i < 8 → Y[i]? = some (UInt8.ofNat (((8 * l.length) >>> (56 - 8 * i)) % 256))) := by
    intro i hi
    rw [hY]
    unfold Sha.be64
    rw [List.getElem?_map, List.getElem?_range hi]
    rfl
  rw [← hY]
  have hR := Lib.hid hr
  clear hY hz hr
  have b128 : Hid (Value.int IntKind.u8 128 = bv 128) := rfl
  have b0 : Hid (Value.int IntKind.u8 0 = bv 0) := rfl
  have hn : Hid ((l ++ [128]).length = l.length + 1) := by show _ = _; simp
  have hown0 : Hid (OwnB (w.alloc (.cells #[] 5)) w.heap.size (.slice (some ⟨w.heap.size, 0, none⟩) 0 0) []) :=
    ⟨by simp, .inr ⟨w.heap.size, 0, #[], rfl, Nat.le_refl _, heap_alloc_new w _, Nat.le_refl 0, by unfold maxLen; omega, rfl, rfl⟩⟩
  obtain ⟨N, hN0⟩ : ∃ N, N = 8 * l.length := ⟨_, rfl⟩
  have hN := Lib.hid hN0
  have el : IntKind.u64.wrap (l.length : Int) = l.length := by rw [IntKind.wrap_u64]; omega
  have eN : IntKind.u64.wrap (8 * (l.length : Int)) = (N : Int) := by rw [IntKind.wrap_u64]; omega
  rw [← hN0] at hat
  clear hN0
  obtain ⟨m, hm0⟩ : ∃ m, m = l.length := ⟨_, rfl⟩
  have hm := Lib.hid hm0
  rw [← hm0] at el eN ⊢
  clear hm0
  have hA0 : Hid (Below w.heap.size w (w.alloc (.cells #[] 5))) := (Below.refl _ _).alloc (Nat.le_refl _) _
  go_enter Tryd.func94, Tryd.ntmps94
  go_wp2_with (at_builtin; first | (refine push_bytes rfl _ _ rfl w.heap.size (.slice (some ⟨w.heap.size, 0, none⟩) 0 0) [] l w.heap.size A m c hm.out hcap rfl rfl (hR.out.below hA0.out) hown0.out (by simp only [List.length_nil]; omega) (by simp) ?_; intro v1 w1 ho1 hb1; have hB1 : Below w.heap.size w w1 := hA0.out.trans hb1) | (refine push_byte rfl _ _ rfl w.heap.size v1 l _ _ b128.out rfl rfl ho1 (by omega) hB1.size ?_; intro v2 w2 ho2 hon2; have hB2 : Below w.heap.size w w2 := hB1.trans (hon2.below ho1 hB1.size)))
  go_loopw [3] (fun v wr => ∃ (j n c' : Nat) (A' : Option Addr), j ≤ z ∧ v = .slice A' n c' ∧ n = l.length + 1 + j ∧ OwnB wr w.heap.size (.slice A' n c') (l ++ [128] ++ List.replicate j 0) ∧ Below w.heap.size w wr) (fun v _ => l.length + 1 + z - sliceLen v)
  case atStart =>
    obtain ⟨A2, c2, rfl, _, _, _, _⟩ := own_form ho2
    exact ⟨0, _, c2, A2, by omega, rfl, by simp, by simpa using ho2, hB2⟩
  case round =>
    obtain ⟨j, n, c', A', hj, rfl, hn0, ho, hbw⟩ := hrel
    have hnn := Lib.hid hn0
    obtain ⟨r, hr0⟩ : ∃ r, r = n % 64 := ⟨_, rfl⟩
    have er : (n : Int).tmod 64 = (r : Int) := by rw [Int.tmod_eq_emod_of_nonneg (by omega), hr0]; omega
    have en : IntKind.i64.wrap (r : Int) = r := by rw [IntKind.wrap_i64]; omega
    by_cases hlt : j < z
    · have tr : ((r : Int) != 56) = true := by
        have := hzmin.out j hlt
        simp only [bne_iff_ne, ne_eq]
        omega
      clear hr0 hn0
      have hle : (l ++ [128] ++ List.replicate j 0).length ≤ 140737488355300 := by simp; omega
      go_wp2_with (at_builtin; go_must (refine push_byte rfl _ _ rfl w.heap.size (.slice A' n c') (l ++ [128] ++ List.replicate j 0) _ _ b0.out rfl rfl ho hle hbw.size ?_); intro v3 w3 ho3 hon3)
      obtain ⟨A3, c3, rfl, _, _, _, _⟩ := own_form ho3
      have hl3 : (l ++ [128] ++ List.replicate j 0 ++ [0]).length = l.length + 1 + (j + 1) := by simp; omega
      rw [hl3] at ho3 hon3 ⊢
      have hap : Hid (l ++ [128] ++ List.replicate j 0 ++ [0] = l ++ [128] ++ List.replicate (j + 1) 0) := by
        show _ = _
        rw [List.replicate_succ', List.append_assoc (l ++ [128])]
      rw [hap.out] at ho3
      go_roundw
      case rel => exact ⟨j + 1, _, c3, A3, by omega, rfl, rfl, ho3, hbw.trans (hon3.below ho hbw.size)⟩
      case measure => simp [sliceLen]; have := hnn.out; omega
    · have tr : ((r : Int) != 56) = false := by
        have h1 := hzfit.out
        have : j = z := by omega
        simp only [bne_eq_false_iff_eq]
        omega
      have hjz : j = z := by omega
      clear hr0 hn0 hlt
      obtain ⟨Pre, hPre⟩ : ∃ Pre, Pre = l ++ [128] ++ List.replicate z 0 := ⟨_, rfl⟩
      have hPl : Pre.length ≤ 1000001000 := by rw [hPre]; simp; omega
      have hfin : Hid (l ++ [128] ++ List.replicate z 0 ++ Y = Pre ++ Y) := by show _ = _; rw [hPre]
      rw [hjz, ← hPre] at ho
      clear hPre
      go_wp2_with fail
      go_loopw [3, 5] (fun v i wr => ∃ k : Nat, k ≤ 8 ∧ i = .int .i64 k ∧ OwnB wr w.heap.size v (Pre ++ Y.take k) ∧ Below w.heap.size w wr) (fun _ i _ => 8 - (intOf i).toNat)
      case atStart => exact ⟨0, by omega, rfl, by simpa using ho, hbw⟩
      case round =>
        clear ho hbw
        obtain ⟨k, hk, rfl, ho, hbw⟩ := hrel
        by_cases hlt : k < 8
        · have e0 : IntKind.i64.wrap (8 * (k : Int)) = 8 * k := by rw [IntKind.wrap_i64]; omega
          have e3 : 56 - 8 * (k : Int) = ((56 - 8 * k : Nat) : Int) := by omega
          have e1 : IntKind.i64.wrap (56 - 8 * (k : Int)) = ((56 - 8 * k : Nat) : Int) := by rw [IntKind.wrap_i64]; omega
          have e2 : ((56 - 8 * k : Nat) : Int) < 64 := by omega
          have ik : (k : Int) < 8 := by omega
          have hE : Hid (Value.int .u8 ((N : Int) / 2 ^ (56 - 8 * k) % 256) = bv (UInt8.ofNat ((N >>> (56 - 8 * k)) % 256))) := by
            show _ = _
            rw [bv_ofNat (Nat.mod_lt _ (by decide)), Nat.shiftRight_eq_div_pow]
            simp
          have hnx : Hid (Pre ++ Y.take k ++ [UInt8.ofNat ((N >>> (56 - 8 * k)) % 256)] = Pre ++ Y.take (k + 1)) := by
            show _ = _
            rw [List.take_add_one, hat.out k hlt, List.append_assoc]
            rfl
          have hle : (Pre ++ Y.take k).length ≤ 140737488355300 := by rw [List.length_append, List.length_take]; omega
          go_wp2_with (at_builtin; go_must (refine push_byte rfl _ _ rfl w.heap.size u3 (Pre ++ Y.take k) _ _ hE.out rfl rfl ho hle hbw.size ?_); intro v4 w4 ho4 hon4)
          rw [hnx.out] at ho4
          go_roundw
          case rel => exact ⟨k + 1, by omega, by go_num, ho4, hbw.trans (hon4.below ho hbw.size)⟩
          case measure => simp [intOf]; omega
        · rw [List.take_of_length_le (by rw [hY8.out]; omega), ← hfin.out] at ho
          go_wp2_with fail
          go_ret
          exact ⟨_, rfl, ho, hbw⟩
end Go.Proofs.YtlgokfgiemaklaaDoor

namespace Go.Proofs.YtlgokfgiemaklaaDoor
set_option linter.unusedVariables false
open Go.RowKit

theorem refRotr_b (x n : Nat) (w : World) (hx : x < 4294967296) (h1 : 1 ≤ n) (h2 : n ≤ 31) : Calls Tryd.prog 96 #[.int .u32 x, .int .i64 n] w fun e w' => e = .returned (.int .u32 (Sha.rotr x n : Nat)) ∧ Below w.heap.size w w' :=
  (refRotr_any x n w hx h1 h2).mono fun e w' h => by
    obtain ⟨h1, k, rfl⟩ := h
    exact ⟨h1, below_drewN (Below.refl _ _) k⟩

set_option maxRecDepth 100000 in
set_option maxHeartbeats 2000000 in
theorem words_any (b : List UInt8) (A : Option Addr) (c : Nat) (w : World) (hr : Rds w w.heap.size A (b.map bv)) (hl : b.length = 64) : Calls Tryd.prog 95 #[.slice A 64 c] w fun e w' => e = .returned (.agg ((Sha.words b 64).map uv).toArray) ∧ Below w.heap.size w w' := by
  obtain ⟨ad, rfl, hab, _⟩ := hr.look (k := 0) (u := bv (b.getD 0 0)) (by rw [List.getElem?_map, List.getElem?_eq_getElem (by omega), List.getD_eq_getElem?_getD, List.getElem?_eq_getElem (by omega)]; rfl)
  have HR := Lib.hid hr
  clear hr
  go_enter Tryd.func95, Tryd.ntmps95
  go_wp2_with fail
  go_loopw [4] (fun i wr => ∃ k : Nat, k ≤ 16 ∧ i = .int .i64 k ∧ Blk wr (w.heap.size + 1) (wcells b k) 126 ∧ Blk wr w.heap.size (zu 64) 126 ∧ Below w.heap.size w wr) (fun i _ => 16 - (intOf i).toNat)
  case atStart => exact ⟨0, by omega, rfl, (Blk.new _ (wcells b 0) _).at (by simp), (Blk.new _ (zu 64) _).alloc _, ((Below.refl _ _).alloc (by simp) _).alloc (by simp) _⟩
  case round =>
    obtain ⟨k, hk, rfl, hW0, hR0, hbw⟩ := hrel
    by_cases hlt : k < 16
    · have hW := Lib.hid hW0
      have hR := Lib.hid hR0
      clear hW0 hR0
      have hP := fun (j : Nat) (hj : j < 4) => show ∃ p c : Nat, p = 4 * k + j ∧ p < 64 ∧ c < 256 ∧ (b.getD (4 * k + j) 0).toNat = c ∧ ∀ x : ExtOf wr.drew, x.world.cell? (ad.add p) = some (.int .u8 c) from
        ⟨_, _, rfl, by omega, UInt8.toNat_lt _, rfl, fun x => by
          obtain ⟨ad', h1, _, h2⟩ := (HR.out.below (hbw.trans ((x.below (Nat.le_refl wr.heap.size)).mono hbw.size))).look (k := 4 * k + j) (u := bv (b.getD (4 * k + j) 0)) (by rw [List.getElem?_map, List.getElem?_eq_getElem (by omega), List.getD_eq_getElem?_getD, List.getElem?_eq_getElem (by omega)]; rfl)
          cases h1
          exact h2⟩
      obtain ⟨p0, c0, hp0, hp0', hc0, hv0, hx0⟩ := hP 0 (by omega)
      obtain ⟨p1, c1, hp1, hp1', hc1, hv1, hx1⟩ := hP 1 (by omega)
      obtain ⟨p2, c2, hp2, hp2', hc2, hv2, hx2⟩ := hP 2 (by omega)
      obtain ⟨p3, c3, hp3, hp3', hc3, hv3, hx3⟩ := hP 3 (by omega)
      have e0 : IntKind.i64.wrap (4 * (k : Int)) = p0 := by rw [IntKind.wrap_i64]; omega
      have e1 : IntKind.i64.wrap ((p0 : Int) + 1) = p1 := by rw [IntKind.wrap_i64]; omega
      have e2 : IntKind.i64.wrap ((p0 : Int) + 2) = p2 := by rw [IntKind.wrap_i64]; omega
      have e3 : IntKind.i64.wrap ((p0 : Int) + 3) = p3 := by rw [IntKind.wrap_i64]; omega
      have i0 : (p0 : Int) < 64 := by omega
      have i1 : (p1 : Int) < 64 := by omega
      have i2 : (p2 : Int) < 64 := by omega
      have i3 : (p3 : Int) < 64 := by omega
      have ik : (k : Int) < 64 := by omega
      have hlt4 : k + 1 ≤ 64 := by omega
      have V : Hid (Sha.word b k = (c0 <<< 24 ||| c1 <<< 16 ||| c2 <<< 8 ||| c3)) := by
        show _ = _
        unfold Sha.word
        rw [hv1, hv2, hv3]
        rw [Nat.add_zero] at hv0
        rw [hv0]
      have C := Lib.hid (word_val c0 c1 c2 c3 ⟨hc0, hc1, hc2, hc3⟩)
      clear hP hp0 hp1 hp2 hp3 hp0' hp1' hp2' hp3' hv0 hv1 hv2 hv3 hc0 hc1 hc2 hc3
      go_wp2_with fail
      refine wp_region_planL 35 [(true, 0), (true, 1), (true, 2), (true, 3), (true, 4), (true, 5), (true, 6), (true, 7), (true, 8), (true, 9), (true, 10), (true, 11), (true, 12), (true, 13), (true, 14), (true, 15), (true, 16), (true, 17), (true, 18), (true, 19), (true, 20), (true, 21), (true, 22), (true, 23), (true, 24), (true, 25), (true, 26), (true, 27), (true, 28), (true, 29), (true, 30), (true, 31), (true, 32), (true, 33), (true, 34), (false, 35)] (by kernel_rfl) (by decide) (by kernel_rfl) (by kernel_rfl) (by kernel_rfl) (by decide) (by intro c a d v w h; cases d <;> exact h) ?_
      change wpPlanL _ _ _ _ _ _ wr.drew
      iterate 35 (refine wpPlanL_plain rfl (fun K hK => ?_); go_simp; refine hK _ ?_; clear hK K)
      refine wpPlanL_call rfl (fun K hK => ?_)
      refine wpList_blk_store rfl 99 _ _ rfl k _ rfl rfl hW.out.drew size_u32 (by rw [wcells_len _ _ (by omega)]; exact hlt4) (one_int _ _) ?_
      intro w3 hW3 ho3
      refine wpList_end (planPostL_normal ⟨.inl rfl, hK _ _ ?_⟩)
      clear hK K
      refine wpPlanL_nil ?_
      go_wp2_with fail
      go_roundw
      case rel =>
        refine ⟨k + 1, by omega, by go_num, ?_, hR.out.drew.only ho3 (by omega), (hbw.drew).trans (ho3.below (by omega))⟩
        rw [← wcells_next b k (by omega), if_pos hlt, V.out]
        unfold uv
        rw [← C.out]
        exact hW3.out
      case measure => simp [intOf]; omega
    · rw [show k = 16 by omega] at hW0
      clear hk
      have t : ¬ (k : Int) < 16 := by omega
      go_wp2_with fail
      go_loopw [5] (fun i wr => ∃ k : Nat, 16 ≤ k ∧ k ≤ 64 ∧ i = .int .i64 k ∧ Blk wr (w.heap.size + 1) (wcells b k) 126 ∧ Blk wr w.heap.size (zu 64) 126 ∧ Below w.heap.size w wr) (fun i _ => 64 - (intOf i).toNat)
      case atStart => exact ⟨16, by omega, by omega, rfl, hW0, hR0, hbw⟩
      case round =>
        clear hW0 hR0 hbw
        clear hlt t
        rename_i wr0 wr
        obtain ⟨k, hk0, hk, rfl, hW0, hR0, hbw⟩ := hrel
        have hW := Lib.hid hW0
        have hR := Lib.hid hR0
        clear hW0 hR0
        by_cases hlt : k < 64
        · have hP := fun (j : Nat) (hj0 : 0 < j) (hj : j ≤ 16) => show ∃ p c : Nat, p + j = k ∧ c < 4294967296 ∧ (Sha.words b k).getD (k - j) 0 = c ∧ ∀ W : World, Below wr.heap.size wr W → W.cell? ⟨w.heap.size + 1, p, none⟩ = some (.int .u32 c) from
            ⟨k - j, _, by omega, (Sha.small_words b k).at _, rfl, fun W hx => by
              refine (hW.out.below hx hW.out.lt).cell ?_
              unfold wcells
              have hlk : k - j < (Sha.words b k).length := by rw [Sha.words_len]; omega
              rw [List.getElem?_append_left (by rw [List.length_map]; exact hlk), List.getElem?_map, List.getD_eq_getElem?_getD, List.getElem?_eq_getElem hlk]
              rfl⟩
          obtain ⟨p15, x, hp15, hxs, hv15, hx15⟩ := hP 15 (by omega) (by omega)
          obtain ⟨p2, y, hp2, hys, hv2, hx2⟩ := hP 2 (by omega) (by omega)
          obtain ⟨p16, u, hp16, hus, hv16, hx16⟩ := hP 16 (by omega) (by omega)
          obtain ⟨p7, v, hp7, hvs, hv7, hx7⟩ := hP 7 (by omega) (by omega)
          have V : Hid (Sha.next (Sha.words b k) k = (u + (Sha.rotr x 7 ^^^ Sha.rotr x 18 ^^^ x >>> 3) + v + (Sha.rotr y 17 ^^^ Sha.rotr y 19 ^^^ y >>> 10)) % 4294967296) := by
            show _ = _
            unfold Sha.next
            rw [hv15, hv2, hv16, hv7]
          have e15 : IntKind.i64.wrap ((k : Int) - 15) = p15 := by rw [IntKind.wrap_i64]; omega
          have e2 : IntKind.i64.wrap ((k : Int) - 2) = p2 := by rw [IntKind.wrap_i64]; omega
          have e16 : IntKind.i64.wrap ((k : Int) - 16) = p16 := by rw [IntKind.wrap_i64]; omega
          have e7 : IntKind.i64.wrap ((k : Int) - 7) = p7 := by rw [IntKind.wrap_i64]; omega
          have i15 : (p15 : Int) < 64 := by omega
          have i2 : (p2 : Int) < 64 := by omega
          have i16 : (p16 : Int) < 64 := by omega
          have i7 : (p7 : Int) < 64 := by omega
          have ik : (k : Int) < 64 := by omega
          have hlt4 : k + 1 ≤ 64 := by omega
          have R7 := Lib.hid (fun W => refRotr_b x 7 W hxs (by decide) (by decide))
          have R18 := Lib.hid (fun W => refRotr_b x 18 W hxs (by decide) (by decide))
          have R17 := Lib.hid (fun W => refRotr_b y 17 W hys (by decide) (by decide))
          have R19 := Lib.hid (fun W => refRotr_b y 19 W hys (by decide) (by decide))
          have B4 := Lib.hid (And.intro hxs (And.intro hys (And.intro hus hvs)))
          clear hP hp15 hp2 hp16 hp7 hv15 hv2 hv16 hv7 hxs hys hus hvs
          have hb0 : Below wr.heap.size wr wr := Below.refl _ _
          have X15 := fun x : ExtOf wr.drew => hx15 x.world ((hb0.drew).trans x.ext)
          go_wp2_with fail
          refine wp_region_planL 99 [(true, 0), (true, 1), (true, 2), (true, 3), (true, 5), (true, 6), (true, 7), (true, 8), (true, 11), (true, 12), (true, 13), (true, 14), (true, 15), (false, 4), (false, 9), (true, 10), (true, 16), (true, 17)] (by kernel_rfl) (by decide) (by kernel_rfl) (by kernel_rfl) (by kernel_rfl) (by decide) (by intro c a d v w h; cases d <;> exact h) ?_
          change wpPlanL _ _ _ _ _ _ wr.drew
          iterate 13 (refine wpPlanL_plain rfl (fun K hK => ?_); go_simp; refine hK _ ?_; clear hK K)
          refine wpPlanL_call rfl (fun K hK => ?_)
          go_wp2_with fail
          refine (R7.out _).mono ?_
          rintro e w5 ⟨rfl, hb5⟩
          go_wp2_with fail
          refine planPostL_normal ⟨.inr hb5, hK _ _ ?_⟩
          clear hK K
          refine wpPlanL_call rfl (fun K hK => ?_)
          go_wp2_with fail
          refine (R18.out _).mono ?_
          rintro e w6 ⟨rfl, hb6⟩
          go_wp2_with fail
          refine planPostL_normal ⟨.inr hb6, hK _ _ ?_⟩
          clear hK K
          iterate 3 (refine wpPlanL_plain rfl (fun K hK => ?_); go_simp; refine hK _ ?_; clear hK K)
          refine wpPlanL_nil ?_
          have hbA : Below wr.heap.size wr w6 := hb0.drew.trans ((hb5.trans (hb6.mono hb5.size)).mono hb0.size)
          clear hb5 hb6
          obtain ⟨wA, hw6⟩ : ∃ x, x = w6 := ⟨_, rfl⟩
          subst hw6
          clear X15
          have X2 := fun x : ExtOf wA.drew => hx2 x.world ((hbA.drew).trans (Below.mono x.ext hbA.size))
          go_wp2_with fail
          refine wp_region_planL 99 [(true, 0), (true, 1), (true, 2), (true, 3), (true, 5), (true, 6), (true, 7), (true, 8), (true, 11), (true, 12), (true, 13), (true, 14), (true, 15), (false, 4), (false, 9), (true, 10), (true, 16), (true, 17)] (by kernel_rfl) (by decide) (by kernel_rfl) (by kernel_rfl) (by kernel_rfl) (by decide) (by intro c a d v w h; cases d <;> exact h) ?_
          change wpPlanL _ _ _ _ _ _ wA.drew
          iterate 13 (refine wpPlanL_plain rfl (fun K hK => ?_); go_simp; refine hK _ ?_; clear hK K)
          refine wpPlanL_call rfl (fun K hK => ?_)
          go_wp2_with fail
          refine (R17.out _).mono ?_
          rintro e w5 ⟨rfl, hb5⟩
          go_wp2_with fail
          refine planPostL_normal ⟨.inr hb5, hK _ _ ?_⟩
          clear hK K
          refine wpPlanL_call rfl (fun K hK => ?_)
          go_wp2_with fail
          refine (R19.out _).mono ?_
          rintro e w6 ⟨rfl, hb6⟩
          go_wp2_with fail
          refine planPostL_normal ⟨.inr hb6, hK _ _ ?_⟩
          clear hK K
          iterate 3 (refine wpPlanL_plain rfl (fun K hK => ?_); go_simp; refine hK _ ?_; clear hK K)
          refine wpPlanL_nil ?_
          have hbB : Below wr.heap.size wr w6 := hbA.drew.trans ((hb5.trans (hb6.mono hb5.size)).mono hbA.size)
          clear hb5 hb6
          obtain ⟨wB, hw6⟩ : ∃ x, x = w6 := ⟨_, rfl⟩
          subst hw6
          clear X2
          have X16 := fun x : ExtOf wB.drew => hx16 x.world ((hbB.drew).trans (Below.mono x.ext hbB.size))
          have X7 := fun x : ExtOf wB.drew => hx7 x.world ((hbB.drew).trans (Below.mono x.ext hbB.size))
          have hWB := Lib.hid (hW.out.below hbB hW.out.lt)
          have hRB := Lib.hid (hR.out.below hbB hR.out.lt)
          clear hx15 hx2 hx16 hx7
          go_wp2_with fail
          refine wp_region_planL 15 [(true, 0), (true, 1), (true, 2), (true, 3), (true, 4), (true, 5), (true, 6), (true, 7), (true, 8), (true, 9), (true, 10), (true, 11), (true, 12), (true, 13), (true, 14), (false, 15)] (by kernel_rfl) (by decide) (by kernel_rfl) (by kernel_rfl) (by kernel_rfl) (by decide) (by intro c a d v w h; cases d <;> exact h) ?_
          change wpPlanL _ _ _ _ _ _ wB.drew
          iterate 15 (refine wpPlanL_plain rfl (fun K hK => ?_); go_simp; refine hK _ ?_; clear hK K)
          refine wpPlanL_call rfl (fun K hK => ?_)
          refine wpList_blk_store rfl 99 _ _ rfl k _ rfl rfl hWB.out.drew size_u32 (by rw [wcells_len _ _ (by omega)]; exact hlt4) (one_int _ _) ?_
          intro w3 hW3 ho3
          refine wpList_end (planPostL_normal ⟨.inl rfl, hK _ _ ?_⟩)
          clear hK K
          refine wpPlanL_nil ?_
          go_wp2_with fail
          go_roundw
          case rel =>
            refine ⟨k + 1, by omega, by omega, by go_num, ?_, hRB.out.drew.only ho3 (by omega), ((hbw.trans (hbB.mono hbw.size)).drew).trans (ho3.below (by omega))⟩
            rw [← wcells_next b k (by omega), if_neg (by omega), V.out]
            unfold uv
            rw [← next_val x y u v B4.out]
            exact hW3.out
          case measure => simp [intOf]; omega
        · obtain rfl : k = 64 := by omega
          have hWl : wcells b 64 = (Sha.words b 64).map uv := by unfold wcells zu; simp
          have hl64 : ((Sha.words b 64).map uv).length = 64 := by rw [List.length_map, Sha.words_len]
          have hW2 := hW.out
          rw [hWl] at hW2
          have hR2 := hR.out
          have hsz : Hid ((Tryd.prog.info? 126).map (·.size) = some ((Sha.words b 64).map uv).length) := by show _ = _; rw [hl64]; exact size_w64
          have t : ¬ ((64 : Nat) : Int) < 64 := by omega
          have hz : (zu 64).length = 64 := rfl
          clear hW hR hWl hk0 hk
          go_wp2_with (first | (refine wpList_blk_load rfl 126 _ rfl 0 rfl hW2 ((Sha.words b 64).map uv) (take_all0 _) (.array 64 99) Tryd.underlying126 rfl hsz.out ?_) | (refine wpList_blk_store rfl 126 _ _ rfl 0 (.agg ((Sha.words b 64).map uv).toArray) rfl rfl hR2 (by simpa [Value.cells] using hsz.out) (by simp [Value.cells, hl64, hz]) (words_one _) ?_; intro w3 hR3 ho3))
          refine bodyPost_ret (ret_blk rfl _ w3 (g := w.heap.size) rfl (hR3.out) (.array 64 99) Tryd.underlying126 rfl ?_) rfl ⟨?_, hbw.trans (ho3.below (by omega))⟩
          · rw [splice_all _ _ (by simp [Value.cells, hl64, hz])]; simpa [Value.cells] using hsz.out
          · rw [splice_all _ _ (by simp [Value.cells, hl64, hz])]; simp [Value.cells]
end Go.Proofs.YtlgokfgiemaklaaDoor

namespace Go.Proofs.YtlgokfgiemaklaaDoor
set_option linter.unusedVariables false
open Go.RowKit
end Go.Proofs.YtlgokfgiemaklaaDoor

namespace Go.Proofs.YtlgokfgiemaklaaDoor
set_option linter.unusedVariables false
open Go.RowKit
end Go.Proofs.YtlgokfgiemaklaaDoor
