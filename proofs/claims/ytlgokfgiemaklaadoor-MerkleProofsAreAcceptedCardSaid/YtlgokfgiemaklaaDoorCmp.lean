/-
  Contracts of stage 2: compress.
-/
import Derived.Test.YtlgokfgiemaklaaDoorSched
namespace Go.Proofs.YtlgokfgiemaklaaDoor
open Go.RowKit

/-- The variable in block g holds the constants of the hash. -/
def Tab (g : Nat) (w : World) : Prop := g < w.heap.size ∧ ∀ j, j < 64 → w.cell? ⟨g, j, none⟩ = some (uv (Sha.table.getD j 0))
theorem Tab.below {g B : Nat} {w w' : World} (h : Tab g w) (hb : Below B w w') (hg : g < B) : Tab g w' :=
  ⟨Nat.lt_of_lt_of_le h.1 hb.size, fun j hj => (hb.cell (p := ⟨g, j, none⟩) hg).trans (h.2 j hj)⟩
theorem Tab.on {g : Nat} {w w' : World} (h : Tab g w) (hb : Below w.heap.size w w') : Tab g w' := h.below hb h.1

theorem notl_val (a : Nat) (ha : a < 4294967296) : bits BinOp.xor IntKind.u32 IntKind.u32.max (a : Int) = (Sha.flip a : Nat) := by
  rw [show IntKind.u32.max = ((4294967295 : Nat) : Int) from rfl, u32_xor_nat _ _ (by decide) ha, Nat.xor_comm]
  rfl
theorem step_one (S1 ch S0 mj h kt wt : Nat) : (((((((h : Int) + S1) % 4294967296 + ch) % 4294967296 + kt) % 4294967296 + wt) % 4294967296 + ((S0 : Int) + mj) % 4294967296) % 4294967296) = (((h + S1 + ch + kt + wt) + (S0 + mj)) % 4294967296 : Nat) := by omega
theorem step_two (S1 ch h kt wt d : Nat) : (((d : Int) + (((((h : Int) + S1) % 4294967296 + ch) % 4294967296 + kt) % 4294967296 + wt) % 4294967296) % 4294967296) = ((d + (h + S1 + ch + kt + wt)) % 4294967296 : Nat) := by omega
theorem sig_val (x y z : Nat) (hx : x < 4294967296) (hy : y < 4294967296) (hz : z < 4294967296) : bits BinOp.xor IntKind.u32 (bits BinOp.xor IntKind.u32 (x : Int) y) z = ((x ^^^ y ^^^ z : Nat) : Int) := by
  rw [Sha.xor_val _ _ hx hy, Sha.xor_val _ _ (Sha.xor_lt hx hy) hz]
theorem ch_val (e f g : Nat) (he : e < 4294967296) (hf : f < 4294967296) (hg : g < 4294967296) : bits BinOp.xor IntKind.u32 (bits BinOp.and IntKind.u32 (e : Int) f) (bits BinOp.and IntKind.u32 (bits BinOp.xor IntKind.u32 IntKind.u32.max (e : Int)) g) = (((e &&& f) ^^^ (Sha.flip e &&& g) : Nat) : Int) := by
  rw [notl_val e he, Sha.and_val _ _ he hf, Sha.and_val _ _ (Sha.flip_lt he) hg, Sha.xor_val _ _ (Sha.and_lt he) (Sha.and_lt (Sha.flip_lt he))]
theorem maj_val (a b c : Nat) (ha : a < 4294967296) (hb : b < 4294967296) (hc : c < 4294967296) : bits BinOp.xor IntKind.u32 (bits BinOp.xor IntKind.u32 (bits BinOp.and IntKind.u32 (a : Int) b) (bits BinOp.and IntKind.u32 (a : Int) c)) (bits BinOp.and IntKind.u32 (b : Int) c) = (((a &&& b) ^^^ (a &&& c) ^^^ (b &&& c) : Nat) : Int) := by
  rw [Sha.and_val _ _ ha hb, Sha.and_val _ _ ha hc, Sha.and_val _ _ hb hc, sig_val _ _ _ (Sha.and_lt ha) (Sha.and_lt ha) (Sha.and_lt hb)]

theorem size_w8 : (Tryd.prog.info? 100).map (·.size) = some 8 := by kernel_rfl
theorem size_b64 : (Tryd.prog.info? 101).map (·.size) = some 64 := by kernel_rfl

set_option maxRecDepth 100000 in
set_option maxHeartbeats 1000000 in
theorem compress_any (s : List Nat) (blk : List UInt8) (w : World) (hs : s.length = 8) (hsm : Sha.Small s) (hl : blk.length = 64) (ht : Tab 2 w) :
    Calls Tryd.prog 80 #[.agg (s.map uv).toArray, .agg (blk.map bv).toArray] w fun e w' => e = .returned (.agg ((Sha.compress s blk).map uv).toArray) ∧ Below w.heap.size w w' := by
  have H := Lib.hid (fun W => schedule_any blk W hl)
  have hb64 : (blk.map bv).length = 64 := by rw [List.length_map, hl]
  have hsz : Hid ((Tryd.prog.info? 101).map (·.size) = some (blk.map bv).length) := by show _ = _; rw [hb64]; exact size_b64
  have hwl : ((Sha.words blk 64).map uv).length = 64 := by rw [List.length_map, Sha.words_len]
  have hsw : Hid ((Tryd.prog.info? 126).map (·.size) = some ((Sha.words blk 64).map uv).length) := by show _ = _; rw [hwl]; exact size_w64
  obtain ⟨X, hX⟩ : ∃ X, X = Sha.words blk 64 := ⟨_, rfl⟩
  have hXs : Hid (Sha.Small X) := by show Sha.Small X; rw [hX]; exact Sha.small_words blk 64
  have hXl : Hid (X.length = 64) := by show _ = _; rw [hX]; exact Sha.words_len blk 64
  have hX' := Lib.hid hX
  have hz : (zu 64).length = 64 := rfl
  go_enter Tryd.func80, Tryd.ntmps80
  have hB1 := (Blk.new (w.alloc (.cells (s.map uv).toArray 100)) (blk.map bv) 101).at (g2 := w.heap.size + 1) (by simp)
  have hB2 := Lib.hid (fun o => hB1.alloc o)
  clear hB1
  go_wp2_with (refine wpList_blk_load rfl 101 _ rfl 0 rfl (hB2.out _) (blk.map bv) (take_all0 _) (.array 64 5) Tryd.underlying101 rfl hsz.out ?_)
  refine (H.out _).mono ?_
  rintro e w1 ⟨rfl, hb1⟩
  rw [← hX] at hwl hsw ⊢
  clear hB2 hsz hb64 H hX
  have hS1 := Lib.hid ((((Blk.new w (s.map uv) 100).alloc _).alloc _).below hb1 (by simp; omega))
  have hR1 := Lib.hid (((Blk.new ((w.alloc (.cells (s.map uv).toArray 100)).alloc (.cells (blk.map bv).toArray 101)) (zu 8) 100).below hb1 (by simp)).at (g2 := w.heap.size + 1 + 1) (by simp))
  have hB1 : Below w.heap.size w w1 := ((((Below.refl _ _).alloc (by simp) _).alloc (by simp) _).alloc (by simp; omega) _).trans (hb1.mono (by simp; omega))
  have hn1 : w.heap.size + 1 + 1 + 1 ≤ w1.heap.size := by have := hb1.size; simpa using this
  clear hb1
  go_wp2_with (refine wpList_blk_store rfl 126 _ _ rfl 0 (.agg (X.map uv).toArray) rfl rfl (Blk.new w1 (zu 64) 126) (by simpa [Value.cells] using hsw.out) (by simp [Value.cells, hz]; simpa using Nat.le_of_eq hwl) (words_one _) ?_; intro w2 hW2 ho2)
  have hW3 : Hid (Blk w2 w1.heap.size (X.map uv) 126) := by
    have := hW2.out
    rw [splice_all _ _ (by simp [Value.cells, hz]; simpa using hwl)] at this
    exact this
  have hS2 := Lib.hid ((hS1.out.alloc _).only ho2 (by omega))
  have hR2 := Lib.hid ((hR1.out.alloc _).only ho2 (by omega))
  have hB2 : Below w.heap.size w w2 := (hB1.alloc (by omega) _).trans (ho2.below (by omega))
  have hlt2 : w1.heap.size < w2.heap.size := hW3.out.lt
  clear hW2 ho2 hS1 hR1 hB1 hwl hsw
  have hT2 : Tab 2 w2 := ht.on hB2
  obtain ⟨a0, a1, a2, a3, a4, a5, a6, a7, hsE⟩ : ∃ a0 a1 a2 a3 a4 a5 a6 a7 : Nat, s = [a0, a1, a2, a3, a4, a5, a6, a7] := by
    match s, hs with
    | [a0, a1, a2, a3, a4, a5, a6, a7], _ => exact ⟨a0, a1, a2, a3, a4, a5, a6, a7, rfl⟩
  have hc := fun (j x : Nat) (h : s[j]? = some x) (y : ExtOf w2.drew) => show y.world.cell? ⟨w.heap.size, j, none⟩ = some (.int .u32 x) from
    (hS2.out.drew.below y.ext hS2.out.lt).cell (by rw [List.getElem?_map, h]; rfl)
  have c0 := hc 0 a0 (by rw [hsE]; rfl)
  have c1 := hc 1 a1 (by rw [hsE]; rfl)
  have c2 := hc 2 a2 (by rw [hsE]; rfl)
  have c3 := hc 3 a3 (by rw [hsE]; rfl)
  have c4 := hc 4 a4 (by rw [hsE]; rfl)
  have c5 := hc 5 a5 (by rw [hsE]; rfl)
  have c6 := hc 6 a6 (by rw [hsE]; rfl)
  have c7 := hc 7 a7 (by rw [hsE]; rfl)
  have hsE' := Lib.hid hsE
  have hsm' := Lib.hid hsm
  have hT := Lib.hid ht
  clear hc hsE ht hs hl hz hsm
  go_wp2_with fail
  refine wp_region_planL 99 [(true, 0), (true, 1), (true, 2), (true, 3), (true, 4), (true, 5), (true, 6), (true, 7), (true, 8), (true, 9), (true, 10), (true, 11), (true, 12), (true, 13), (true, 14), (true, 15), (true, 16), (true, 17), (true, 18), (true, 19), (true, 20), (true, 21), (true, 22), (true, 23)] (by kernel_rfl) (by decide) (by kernel_rfl) (by kernel_rfl) (by kernel_rfl) (by decide) (by intro c a d v w h; cases d <;> exact h) ?_
  change wpPlanL _ _ _ _ _ _ w2.drew
  iterate 24 (refine wpPlanL_plain rfl (fun K hK => ?_); go_simp; refine hK _ ?_; clear hK K)
  refine wpPlanL_nil ?_
  clear c0 c1 c2 c3 c4 c5 c6 c7
  go_wp2_with fail
  go_loopw [6, 7, 8, 9, 10, 11, 12, 13, 37] (fun va vb vc vd ve vf vg vh i wr => ∃ k a b c d e f g h : Nat, k ≤ 64 ∧ i = .int .i64 k ∧ va = .int .u32 a ∧ vb = .int .u32 b ∧ vc = .int .u32 c ∧ vd = .int .u32 d ∧ ve = .int .u32 e ∧ vf = .int .u32 f ∧ vg = .int .u32 g ∧ vh = .int .u32 h ∧
    Sha.steps s (Sha.table.take k) (X.take k) = [a, b, c, d, e, f, g, h] ∧ Blk wr w.heap.size (s.map uv) 100 ∧ Blk wr (w.heap.size + 1 + 1) (zu 8) 100 ∧ Blk wr w1.heap.size (X.map uv) 126 ∧ Below w.heap.size w wr) (fun _ _ _ _ _ _ _ _ i _ => 64 - (intOf i).toNat)
  case atStart => exact ⟨0, a0, a1, a2, a3, a4, a5, a6, a7, by omega, rfl, rfl, rfl, rfl, rfl, rfl, rfl, rfl, rfl, hsE'.out, hS2.out, hR2.out, hW3.out, hB2.drew⟩
  case round =>
    clear hS2 hR2 hW3 hlt2 
    obtain ⟨k, a, b, c, d, e, f, g, z, hk, rfl, rfl, rfl, rfl, rfl, rfl, rfl, rfl, rfl, hst, hS, hR, hW, hB⟩ := hrel
    have hS' := Lib.hid hS
    have hR' := Lib.hid hR
    have hW' := Lib.hid hW
    have hst' := Lib.hid hst
    clear hS hR hW hst
    by_cases hlt : k < 64
    · obtain ⟨kt, hkt⟩ : ∃ kt, Sha.table.getD k 0 = kt := ⟨_, rfl⟩
      obtain ⟨wt, hwt⟩ : ∃ wt, X.getD k 0 = wt := ⟨_, rfl⟩
      have hTw := hT.out.on hB
      have ct := fun (y : ExtOf wr.drew) => show y.world.cell? ⟨2, k, none⟩ = some (.int .u32 kt) from by
        rw [← hkt]
        exact (Tab.on (w' := y.world) (w := wr.drew) hTw y.ext).2 k hlt
      have cw := fun (y : ExtOf wr.drew) => show y.world.cell? ⟨w1.heap.size, k, none⟩ = some (.int .u32 wt) from by
        rw [← hwt]
        refine (hW'.out.drew.below y.ext hW'.out.lt).cell ?_
        rw [List.getElem?_map, List.getD_eq_getElem?_getD, List.getElem?_eq_getElem (by rw [hXl.out]; exact hlt)]
        rfl
      have hstep : Hid (Sha.steps s (Sha.table.take (k + 1)) (X.take (k + 1)) = Sha.step [a, b, c, d, e, f, g, z] kt wt) := by
        show _ = _
        rw [Sha.steps_snoc _ _ _ _ (by rw [Sha.table_len]; exact hlt) (by rw [hXl.out]; exact hlt), hst'.out, hkt, hwt]
      have hsml : Sha.Small [a, b, c, d, e, f, g, z] := by rw [← hst'.out]; exact Sha.small_steps _ _ _ hsm'.out
      have hs8 : a < 4294967296 ∧ b < 4294967296 ∧ c < 4294967296 ∧ d < 4294967296 ∧ e < 4294967296 ∧ f < 4294967296 ∧ g < 4294967296 ∧ z < 4294967296 :=
        ⟨hsml _ (by simp), hsml _ (by simp), hsml _ (by simp), hsml _ (by simp), hsml _ (by simp), hsml _ (by simp), hsml _ (by simp), hsml _ (by simp)⟩
      have hs8' := Lib.hid hs8
      have R6 := Lib.hid (fun W => rotr_any e 6 W hs8.2.2.2.2.1 (by decide) (by decide))
      have R11 := Lib.hid (fun W => rotr_any e 11 W hs8.2.2.2.2.1 (by decide) (by decide))
      have R25 := Lib.hid (fun W => rotr_any e 25 W hs8.2.2.2.2.1 (by decide) (by decide))
      have R2 := Lib.hid (fun W => rotr_any a 2 W hs8.1 (by decide) (by decide))
      have R13 := Lib.hid (fun W => rotr_any a 13 W hs8.1 (by decide) (by decide))
      have R22 := Lib.hid (fun W => rotr_any a 22 W hs8.1 (by decide) (by decide))
      have ik : (k : Int) < 64 := by omega
      clear hkt hwt hTw hsml hs8 hst'
      go_wp2_with fail
      refine wp_region_planL 99 [(true, 0), (true, 1), (true, 3), (true, 6), (true, 10), (true, 11), (true, 12), (true, 13), (true, 14), (true, 15), (true, 16), (true, 17), (true, 19), (true, 20), (true, 21), (true, 23), (true, 24), (true, 25), (false, 2), (false, 4), (true, 5), (false, 7), (true, 8), (true, 9), (true, 18), (true, 22), (true, 26), (true, 27)] (by kernel_rfl) (by decide) (by kernel_rfl) (by kernel_rfl) (by kernel_rfl) (by decide) (by intro c a d v w h; cases d <;> exact h) ?_
      change wpPlanL _ _ _ _ _ _ wr.drew
      iterate 18 (refine wpPlanL_plain rfl (fun K hK => ?_); go_simp; refine hK _ ?_; clear hK K)
      refine wpPlanL_call rfl (fun K hK => ?_)
      go_wp2_with fail
      refine (R6.out _).mono ?_
      rintro e w' ⟨rfl, rfl⟩
      go_wp2_with fail
      refine planPostL_normal ⟨.inr (Ext.refl _), hK _ _ ?_⟩
      clear hK K
      refine wpPlanL_call rfl (fun K hK => ?_)
      go_wp2_with fail
      refine (R11.out _).mono ?_
      rintro e w' ⟨rfl, rfl⟩
      go_wp2_with fail
      refine planPostL_normal ⟨.inr (Ext.refl _), hK _ _ ?_⟩
      clear hK K
      iterate 1 (refine wpPlanL_plain rfl (fun K hK => ?_); go_simp; refine hK _ ?_; clear hK K)
      refine wpPlanL_call rfl (fun K hK => ?_)
      go_wp2_with fail
      refine (R25.out _).mono ?_
      rintro e w' ⟨rfl, rfl⟩
      go_wp2_with fail
      refine planPostL_normal ⟨.inr (Ext.refl _), hK _ _ ?_⟩
      clear hK K
      iterate 6 (refine wpPlanL_plain rfl (fun K hK => ?_); go_simp; refine hK _ ?_; clear hK K)
      refine wpPlanL_nil ?_
      go_wp2_with fail
      refine (R2.out _).mono ?_
      rintro e w' ⟨rfl, rfl⟩
      go_wp2_with fail
      refine (R13.out _).mono ?_
      rintro e w' ⟨rfl, rfl⟩
      go_wp2_with fail
      refine (R22.out _).mono ?_
      rintro e w' ⟨rfl, rfl⟩
      go_wp2_with fail
      go_roundw
      case rel =>
        obtain ⟨ha, hb, hc, hd, he, hf, hg, hh⟩ := hs8'.out
        refine ⟨k + 1, ((z + (Sha.rotr e 6 ^^^ Sha.rotr e 11 ^^^ Sha.rotr e 25) + ((e &&& f) ^^^ (Sha.flip e &&& g)) + kt + wt) + ((Sha.rotr a 2 ^^^ Sha.rotr a 13 ^^^ Sha.rotr a 22) + ((a &&& b) ^^^ (a &&& c) ^^^ (b &&& c)))) % 4294967296, a, b, c,
          (d + (z + (Sha.rotr e 6 ^^^ Sha.rotr e 11 ^^^ Sha.rotr e 25) + ((e &&& f) ^^^ (Sha.flip e &&& g)) + kt + wt)) % 4294967296, e, f, g, by omega, by go_num, ?_, rfl, rfl, rfl, ?_, rfl, rfl, rfl, hstep.out, hS'.out.drew, hR'.out.drew, hW'.out.drew, hB.drew⟩
        · rw [sig_val _ _ _ (Sha.rotr_lt _ _) (Sha.rotr_lt _ _) (Sha.rotr_lt _ _), ch_val e f g he hf hg, sig_val _ _ _ (Sha.rotr_lt _ _) (Sha.rotr_lt _ _) (Sha.rotr_lt _ _), maj_val a b c ha hb hc, step_one]
        · rw [sig_val _ _ _ (Sha.rotr_lt _ _) (Sha.rotr_lt _ _) (Sha.rotr_lt _ _), ch_val e f g he hf hg, step_two]
      case measure => simp [intOf]; omega
    · have hsml : Hid (Sha.Small [a, b, c, d, e, f, g, z]) := by show Sha.Small _; rw [← hst'.out]; exact Sha.small_steps _ _ _ hsm'.out
      have hC : Hid (Sha.compress s blk = List.zipWith (fun p q => (p + q) % 4294967296) s [a, b, c, d, e, f, g, z]) := by
        show _ = _
        rw [Sha.compress_def, ← hX'.out, ← hst'.out, show k = 64 by omega]
      have hl8 : Hid (s.length = 8) := by show _ = _; rw [hsE'.out]; rfl
      have t : ¬ (k : Int) < 64 := by omega
      clear hlt hst' hW' hk
      go_wp2_with fail
      go_loopw [109] (fun i wr => ∃ j : Nat, j ≤ 8 ∧ i = .int .i64 j ∧ Blk wr w.heap.size (((Sha.compress s blk).take j).map uv ++ (s.drop j).map uv) 100 ∧ Blk wr (w.heap.size + 1 + 1) (zu 8) 100 ∧ Below w.heap.size w wr) (fun i _ => 8 - (intOf i).toNat)
      case atStart => exact ⟨0, by omega, rfl, hS'.out, hR'.out, hB⟩
      case round =>
        clear hS' hR' hB t
        obtain ⟨j, hj, rfl, hS, hR, hB⟩ := hrel
        have hS' := Lib.hid hS
        have hR' := Lib.hid hR
        clear hS hR
        by_cases hlt : j < 8
        · obtain ⟨x, hx⟩ : ∃ x, [a, b, c, d, e, f, g, z][j]? = some x := ⟨_, List.getElem?_eq_getElem (by exact hlt)⟩
          obtain ⟨y, hy⟩ : ∃ y, s[j]? = some y := ⟨_, List.getElem?_eq_getElem (by rw [hl8.out]; exact hlt)⟩
          have hxv : Hid ((#[.int .u32 a, .int .u32 b, .int .u32 c, .int .u32 d, .int .u32 e, .int .u32 f, .int .u32 g, .int .u32 z] : Array Value)[j]? = some (.int .u32 x)) := by
            show _ = _
            have : ([a, b, c, d, e, f, g, z].map uv)[j]? = some (uv x) := by rw [List.getElem?_map, hx]; rfl
            simpa [uv] using this
          have hcl : Hid ((((Sha.compress s blk).take j).map uv ++ (s.drop j).map uv).length = 8) := by
            show _ = _
            rw [List.length_append, List.length_map, List.length_map, List.length_take, List.length_drop, Sha.compress_len _ _ hl8.out, hl8.out]
            omega
          have hcell : wr.cell? ⟨w.heap.size, j, none⟩ = some (.int .u32 y) := by
            refine hS'.out.cell ?_
            have h1 : (((Sha.compress s blk).take j).map uv).length = j := by rw [List.length_map, List.length_take, Sha.compress_len _ _ hl8.out]; omega
            rw [List.getElem?_append_right (by omega), h1, Nat.sub_self, List.getElem?_map, List.getElem?_drop, Nat.add_zero, hy]
            rfl
          have hnew : Hid (splice (((Sha.compress s blk).take j).map uv ++ (s.drop j).map uv) j [.int .u32 (((y : Int) + x) % 4294967296)] = ((Sha.compress s blk).take (j + 1)).map uv ++ (s.drop (j + 1)).map uv) := by
            show _ = _
            have hcj : (Sha.compress s blk)[j]? = some ((y + x) % 4294967296) := by rw [hC.out, List.getElem?_zipWith, hy, hx]
            have h1 : (((Sha.compress s blk).take j).map uv).length = j := by rw [List.length_map, List.length_take, Sha.compress_len _ _ hl8.out]; omega
            rw [show ((y : Int) + x) % 4294967296 = (((y + x) % 4294967296 : Nat) : Int) by omega]
            obtain ⟨hjs, hyg⟩ := List.getElem?_eq_some_iff.1 hy
            obtain ⟨hjc, hcg⟩ := List.getElem?_eq_some_iff.1 hcj
            rw [splice_set _ _ _ (by rw [hcl.out]; exact hlt), List.set_append_right _ _ (by omega), h1, Nat.sub_self, List.drop_eq_getElem_cons hjs, List.map_cons, List.set_cons_zero, List.take_succ_eq_append_getElem hjc, hcg, List.map_append, List.append_assoc]
            rfl
          have ij : (j : Int) < 8 := by omega
          have ij1 : j + 1 ≤ 8 := hlt
          clear hx hy
          go_wp2_with (first | (refine wpList_index_arr rfl 100 _ _ rfl _ .i64 j rfl rfl 8 99 Tryd.underlying100 (.int .u32) Tryd.underlying99 rfl size_u32 hlt _ hxv.out ?_) | (refine wpList_blk_store rfl 99 _ _ rfl j (.int .u32 (((y : Int) + x) % 4294967296)) rfl rfl hS'.out size_u32 (by rw [hcl.out]; exact ij1) (one_int _ _) ?_; intro w3 hW3 ho3))
          go_roundw
          case rel =>
            refine ⟨j + 1, by omega, by go_num, ?_, hR'.out.only ho3 (by omega), hB.trans (ho3.below (by omega))⟩
            rw [← hnew.out]
            exact hW3.out
          case measure => simp [intOf]; omega
        · have hCl : (Sha.compress s blk).length = 8 := Sha.compress_len _ _ hl8.out
          have hL : ((Sha.compress s blk).take j).map uv ++ (s.drop j).map uv = (Sha.compress s blk).map uv := by
            rw [List.take_of_length_le (by omega), List.drop_eq_nil_of_le (by rw [hl8.out]; omega)]
            simp
          have hS2 := hS'.out
          rw [hL] at hS2
          have hR2 := hR'.out
          have hcl : ((Sha.compress s blk).map uv).length = 8 := by rw [List.length_map, hCl]
          have hsz : Hid ((Tryd.prog.info? 100).map (·.size) = some ((Sha.compress s blk).map uv).length) := by show _ = _; rw [hcl]; exact size_w8
          have hz : (zu 8).length = 8 := rfl
          have t : ¬ (j : Int) < 8 := by omega
          clear hS' hR' hL hlt hC hCl hsml hsE' hsm'
          go_wp2_with (first | (refine wpList_blk_load rfl 100 _ rfl 0 rfl hS2 ((Sha.compress s blk).map uv) (take_all0 _) (.array 8 99) Tryd.underlying100 rfl hsz.out ?_) | (refine wpList_blk_store rfl 100 _ _ rfl 0 (.agg ((Sha.compress s blk).map uv).toArray) rfl rfl hR2 (by simpa [Value.cells] using hsz.out) (by rw [hz]; simpa [Value.cells] using Nat.le_of_eq hcl) (words_one _) ?_; intro w3 hR3 ho3))
          have hall : splice (zu 8) 0 (Value.agg ((Sha.compress s blk).map uv).toArray).cells.toList = (Sha.compress s blk).map uv := by
            rw [splice_all _ _ (by rw [hz]; simpa [Value.cells] using hcl)]
            rfl
          refine bodyPost_ret (ret_blk rfl _ w3 (g := w.heap.size + 1 + 1) rfl (hR3.out) (.array 8 99) Tryd.underlying100 rfl ?_) rfl ⟨?_, hB.trans (ho3.below (by omega))⟩
          · rw [hall]; exact hsz.out
          · rw [hall]
end Go.Proofs.YtlgokfgiemaklaaDoor
