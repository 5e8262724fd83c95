/-
  Contracts of stage 2: the reference's Sum.
-/
import Derived.Test.YtlgokfgiemaklaaDoorSht
namespace Go.Proofs.YtlgokfgiemaklaaDoor
set_option linter.unusedVariables false
open Go.RowKit

theorem Sha.blocks_next (P : List UInt8) (s : List Nat) (k : Nat) (h : 64 * (k + 1) ≤ P.length) : Sha.blocks (k + 1) s P = Sha.compress (Sha.blocks k s P) ((P.drop (64 * k)).take 64) := by
  have h1 : P.take (64 * (k + 1)) = P.take (64 * k) ++ (P.drop (64 * k)).take 64 := by
    rw [show 64 * (k + 1) = 64 * k + 64 by omega, List.take_add]
  rw [Sha.blocks_cut (k + 1) s P h, h1, Sha.blocks_snoc k s _ _ (by rw [List.length_take]; omega) (by rw [List.length_take, List.length_drop]; omega), ← Sha.blocks_cut k s P (by omega)]

theorem own_only {w w' : World} {base k : Nat} {v : Value} {l : List UInt8} (h : OwnB w base v l) (ho : Only k w w') (hk : k < base) : OwnB w' base v l := by
  refine ⟨h.1, ?_⟩
  rcases h.2 with hn | ⟨g, cap, cur, rfl, hg, hh, rest⟩
  · exact .inl hn
  · refine .inr ⟨g, cap, cur, rfl, hg, ?_, rest⟩
    rw [ho.block g (by omega)]
    exact hh

theorem ch_val2 (e f g : Nat) (he : e < 4294967296) (hf : f < 4294967296) (hg : g < 4294967296) : bits BinOp.xor IntKind.u32 (bits BinOp.and IntKind.u32 (e : Int) f) (bits BinOp.and IntKind.u32 (bits BinOp.xor IntKind.u32 (e : Int) 4294967295) g) = (((e &&& f) ^^^ (Sha.flip e &&& g) : Nat) : Int) := by
  have h1 : bits BinOp.xor IntKind.u32 (e : Int) 4294967295 = (Sha.flip e : Nat) := by
    rw [show (4294967295 : Int) = ((4294967295 : Nat) : Int) from rfl, u32_xor_nat _ _ he (by decide)]
    rfl
  rw [h1, Sha.and_val _ _ he hf, Sha.and_val _ _ (Sha.flip_lt he) hg, Sha.xor_val _ _ (Sha.and_lt he) (Sha.and_lt (Sha.flip_lt he))]
theorem step_one2 (S1 ch S0 mj h kt wt : Nat) : (((h : Int) + S1 + ch + kt + wt + ((S0 : Int) + mj)) % 4294967296) = (((h + S1 + ch + kt + wt) + (S0 + mj)) % 4294967296 : Nat) := by omega
theorem step_two2 (S1 ch h kt wt d : Nat) : (((d : Int) + ((h : Int) + S1 + ch + kt + wt)) % 4294967296) = ((d + (h + S1 + ch + kt + wt)) % 4294967296 : Nat) := by omega
theorem eight_one (k : IntKind) (x0 x1 x2 x3 x4 x5 x6 x7 : Int) : ∀ u ∈ (Value.agg #[.int k x0, .int k x1, .int k x2, .int k x3, .int k x4, .int k x5, .int k x6, .int k x7]).cells.toList, u.oneCell' = true := by
  intro u hu
  have hu' : u ∈ [Value.int k x0, .int k x1, .int k x2, .int k x3, .int k x4, .int k x5, .int k x6, .int k x7] := hu
  simp only [List.mem_cons, List.not_mem_nil, or_false] at hu'
  rcases hu' with rfl | rfl | rfl | rfl | rfl | rfl | rfl | rfl <;> rfl
theorem eight_words (s : List Nat) (h : s.length = 8) : ∃ a0 a1 a2 a3 a4 a5 a6 a7 : Nat, s = [a0, a1, a2, a3, a4, a5, a6, a7] := by
  match s, h with
  | [a0, a1, a2, a3, a4, a5, a6, a7], _ => exact ⟨a0, a1, a2, a3, a4, a5, a6, a7, rfl⟩

set_option maxRecDepth 100000 in
set_option maxHeartbeats 4000000 in
theorem refSum : RefSum := by
  intro l A c w hr hc hl ht
  have hT := Lib.hid ht
  have HP := Lib.hid (fun W (hr : Rds W W.heap.size A (l.map bv)) => padded_any l A c W hr hc (by omega))
  obtain ⟨q, hq⟩ : ∃ q, q = (Sha.pad l).length / 64 := ⟨_, rfl⟩
  have hPl : (Sha.pad l).length = 64 * q := by have := Sha.pad_len l; omega
  have hPb : (Sha.pad l).length ≤ 1000200 := by
    rw [Sha.pad_steps]
    have hz : Sha.zeros l.length < 64 := by unfold Sha.zeros; omega
    have := Sha.be64_len (8 * l.length)
    simp
    omega
  have hS : Sha.sum l = Sha.bytes (Sha.blocks q Sha.start (Sha.pad l)) := by unfold Sha.sum; rw [← hq]
  rw [hS]
  have hR := Lib.hid hr
  obtain ⟨ln, hln⟩ : ∃ ln, ln = l.length := ⟨_, rfl⟩
  rw [← hln] at HP ⊢
  have hPp : 0 < (Sha.pad l).length := by rw [Sha.pad_steps]; simp; omega
  clear hq hS hr hc hl ht hln
  generalize Sha.pad l = P at HP hPl hPb hPp ⊢
  obtain ⟨F, hF0⟩ : ∃ F, F = Sha.blocks q Sha.start P := ⟨_, rfl⟩
  have hF := Lib.hid hF0
  have hF8 : Hid (F.length = 8) := by show _ = _; rw [hF0]; exact Sha.blocks_len _ _ _ rfl
  have hFs : Hid (Sha.Small F) := by show Sha.Small F; rw [hF0]; exact Sha.small_blocks _ _ _ Sha.small_start
  rw [← hF0]
  clear hF0
  obtain ⟨Y, hY⟩ : ∃ Y, Y = Sha.bytes F := ⟨_, rfl⟩
  have hYl : Hid (Y.length = 32) := by show _ = _; rw [hY, Sha.bytes_len, hF8.out]
  have hat : Hid (∀ (j d r x : Nat), j < 32 → d = j / 4 → r = j % 4 → F[d]? = some x → Y[j]? = some (UInt8.ofNat ((x >>> (24 - 8 * r)) % 256))) := by
    intro j d r x hj hd hr hx
    subst hd hr
    rw [hY, Sha.bytes_at F _ (by rw [hF8.out]; omega), List.getD_eq_getElem?_getD, hx]
    rfl
  rw [← hY]
  clear hY
  obtain ⟨n, hn⟩ : ∃ n, n = P.length := ⟨_, rfl⟩
  have hnq : Hid (n = 64 * q) := hn.trans hPl
  have hnP := Lib.hid hn
  rw [← hn] at hPb hPp
  clear hn hPl
  have hz8 : (zu 8).length = 8 := rfl
  obtain ⟨W2, hW2⟩ : ∃ W2, W2 = (w.alloc (.cells (bz 32).toArray 98)).alloc (.cells (Sha.start.map uv).toArray 100) := ⟨_, rfl⟩
  have hB2 : Below w.heap.size w W2 := by rw [hW2]; exact ((Below.refl _ _).alloc (Nat.le_refl _) _).alloc (by simp) _
  have hR2 : Blk W2 w.heap.size (bz 32) 98 := by rw [hW2]; exact (Blk.new _ _ _).alloc _
  have hV2 : Blk W2 (w.heap.size + 1) (Sha.start.map uv) 100 := by rw [hW2]; exact (Blk.new _ _ _).at (by simp)
  have hs2 : W2.heap.size = w.heap.size + 2 := by rw [hW2]; simp
  unfold av
  go_enter Tryd.func83, Tryd.ntmps83
  go_wp2_with fail
  generalize hg : (w.alloc _).alloc _ = Wg
  have hgW : Wg = W2 := by rw [← hg, hW2]; rfl
  clear hg hW2
  subst hgW
  refine (HP.out _ ((hR.out.below hB2).more hB2.size)).mono ?_
  rintro e w3 ⟨v3, rfl, ho3, hb3⟩
  obtain ⟨g, c3, rfl, hg3, hn3⟩ : ∃ g c3, v3 = .slice (some ⟨g, 0, none⟩) n c3 ∧ w.heap.size + 2 ≤ g ∧ n ≤ c3 := by
    rcases ho3.2 with ⟨_, h0⟩ | ⟨g, cap, cur, hv, hb, _, h1, _⟩
    · have := hnP.out; omega
    · exact ⟨g, cap, by rw [hv, hnP.out], by omega, by rw [hnP.out]; exact h1⟩
  have hB3 : Below w.heap.size w w3 := hB2.trans (hb3.mono hB2.size)
  have hR3 := hR2.below hb3 hR2.lt
  have hV3 := hV2.below hb3 hV2.lt
  have ho3' : OwnB w3 (w.heap.size + 2) (.slice (some ⟨g, 0, none⟩) n c3) P := by rw [← hs2]; exact ho3
  clear ho3 hb3 hV2 hR2 hB2 HP
  go_wp2_with fail
  go_loopw [5] (fun i wr => ∃ k p : Nat, k ≤ q ∧ p = 64 * k ∧ i = .int .i64 (p : Int) ∧ OwnB wr (w.heap.size + 2) (.slice (some ⟨g, 0, none⟩) n c3) P ∧ Blk wr (w.heap.size + 1) ((Sha.blocks k Sha.start P).map uv) 100 ∧ Blk wr w.heap.size (bz 32) 98 ∧ Below w.heap.size w wr) (fun i _ => n - (intOf i).toNat)
  case atStart => exact ⟨0, 0, Nat.zero_le _, rfl, rfl, ho3', hV3, hR3, hB3⟩
  case round =>
    clear ho3' hV3 hR3 hB3
    obtain ⟨k, p, hk0, hp0, rfl, ho0, hV0, hR0, hbw⟩ := hrel
    have hk := Lib.hid hk0
    have hp := Lib.hid hp0
    have ho := Lib.hid ho0
    have hV := Lib.hid hV0
    have hR := Lib.hid hR0
    clear ho0 hV0 hR0 hk0 hp0
    by_cases hlt : k < q
    · have hpn : p + 64 ≤ n := by have := hnq.out; have := hp.out; omega
      obtain ⟨wo, hwo⟩ : ∃ wo, wo = wr := ⟨_, rfl⟩
      subst hwo
      obtain ⟨b, hb⟩ : ∃ b, b = (P.drop p).take 64 := ⟨_, rfl⟩
      have hbl : b.length = 64 := by rw [hb, List.length_take, List.length_drop, ← hnP.out]; omega
      obtain ⟨s, hs0⟩ : ∃ s, s = Sha.blocks k Sha.start P := ⟨_, rfl⟩
      have hs8 : Hid (s.length = 8) := by show _ = _; rw [hs0]; exact Sha.blocks_len _ _ _ rfl
      have hsm : Hid (Sha.Small s) := by show Sha.Small s; rw [hs0]; exact Sha.small_blocks _ _ _ Sha.small_start
      have hnext : Hid (Sha.blocks (k + 1) Sha.start P = Sha.compress s b) := by
        show _ = _
        rw [hs0, hb, hp.out]
        exact Sha.blocks_next P _ k (by have := hp.out; have := hnP.out; omega)
      have hV1 : Hid (Blk wo (w.heap.size + 1) (s.map uv) 100) := by show Blk _ _ _ _; rw [hs0]; exact hV.out
      have hrd : Hid (Rds wo wo.heap.size (some ⟨g, p, none⟩) (b.map bv)) := by
        obtain ⟨A', c', he, _, _, _, hrr⟩ := own_form ho.out
        obtain rfl : A' = some ⟨g, 0, none⟩ := by injection he with h1; exact h1.symm
        have h1 := (hrr.drop p).take 64
        rw [Option.map_some, Addr.add_mid, Nat.zero_add, ← List.map_drop, ← List.map_take, ← hb] at h1
        exact h1
      have HW := Lib.hid (words_any b (some ⟨g, p, none⟩) (c3 - p) wo hrd.out hbl)
      obtain ⟨X, hX⟩ : ∃ X, X = Sha.words b 64 := ⟨_, rfl⟩
      have hXl : X.length = 64 := by rw [hX]; exact Sha.words_len b 64
      have hXs : Hid (Sha.Small X) := by show Sha.Small X; rw [hX]; exact Sha.small_words b 64
      have hC : Hid (Sha.compress s b = List.zipWith (fun p q => (p + q) % 4294967296) s (Sha.steps s Sha.table X)) := by
        show _ = _
        rw [Sha.compress_def, hX, List.take_of_length_le (by rw [Sha.table_len]; exact Nat.le_refl _), List.take_of_length_le (by rw [Sha.words_len]; exact Nat.le_refl _)]
      rw [← hX] at HW
      have tr : (p : Int) < (n : Int) := by omega
      have tcap : ¬ c3 = p := by omega
      have hz64 : (zu 64).length = 64 := rfl
      have hXm : (X.map uv).length = 64 := by rw [List.length_map, hXl]
      have hsw : Hid ((Tryd.prog.info? 126).map (·.size) = some (X.map uv).length) := by show _ = _; rw [hXm]; exact size_w64
      have hXl' := Lib.hid hXl
      have hs8m : (s.map uv).length = 8 := by rw [List.length_map, hs8.out]
      have hss : Hid ((Tryd.prog.info? 100).map (·.size) = some (s.map uv).length) := by show _ = _; rw [hs8m]; exact size_w8
      have hpn' := Lib.hid hpn
      have hk1 : Hid (k + 1 ≤ q) := hlt
      clear hb hs0 hX hrd hV hXl hlt
      have t1 : (p : Int) + 64 ≤ c3 := by omega
      go_wp2_with fail
      refine HW.out.mono ?_
      rintro e w5 ⟨rfl, hb5⟩
      have hB5 : Below w.heap.size w w5 := hbw.trans (hb5.mono hbw.size)
      have hO5 := own_below ho.out hb5
      have hV5 := hV1.out.below hb5 hV1.out.lt
      have hR5 := hR.out.below hb5 hR.out.lt
      clear hb5 hbw ho hV1 hR HW tcap t1 tr
      obtain ⟨a0, a1, a2, a3, a4, a5, a6, a7, hsE⟩ := eight_words s hs8.out
      have hsE' := Lib.hid hsE
      have CC : Hid (∀ W6, Only w5.heap.size (w5.alloc (.cells (zu 64).toArray 126)) W6 → W6.cell? ⟨w.heap.size + 1, 0, none⟩ = some (.int .u32 a0) ∧ W6.cell? ⟨w.heap.size + 1, 1, none⟩ = some (.int .u32 a1) ∧ W6.cell? ⟨w.heap.size + 1, 2, none⟩ = some (.int .u32 a2) ∧ W6.cell? ⟨w.heap.size + 1, 3, none⟩ = some (.int .u32 a3) ∧
          W6.cell? ⟨w.heap.size + 1, 4, none⟩ = some (.int .u32 a4) ∧ W6.cell? ⟨w.heap.size + 1, 5, none⟩ = some (.int .u32 a5) ∧ W6.cell? ⟨w.heap.size + 1, 6, none⟩ = some (.int .u32 a6) ∧ W6.cell? ⟨w.heap.size + 1, 7, none⟩ = some (.int .u32 a7)) := fun W6 hoW => by
        have hlt5 := hV5.lt
        have hVW := (hV5.alloc (.cells (zu 64).toArray 126)).only hoW (by omega)
        rw [hsE] at hVW
        exact ⟨hVW.cell rfl, hVW.cell rfl, hVW.cell rfl, hVW.cell rfl, hVW.cell rfl, hVW.cell rfl, hVW.cell rfl, hVW.cell rfl⟩
      clear hsE
      go_wp2_with (refine wpList_blk_store rfl 126 _ _ rfl 0 (.agg (X.map uv).toArray) rfl rfl (Blk.new w5 (zu 64) 126) (by simpa [Value.cells] using hsw.out) (by simp [Value.cells, hz64]; simpa using Nat.le_of_eq hXm) (words_one _) ?_; intro w6 hX6 ho6; obtain ⟨c0, c1, c2, c4, c5, c6, c7, c8⟩ := CC.out _ ho6)
      have hX6' : Blk w6 w5.heap.size (X.map uv) 126 := by
        have := hX6.out
        rw [splice_all _ _ (by simp [Value.cells, hz64]; simpa using hXm)] at this
        exact this
      have hb6 : Below w5.heap.size w5 w6 := ((Below.refl _ _).alloc (Nat.le_refl _) _).trans (ho6.below (Nat.le_refl _))
      have hB6 : Below w.heap.size w w6 := hB5.trans (hb6.mono hB5.size)
      have hO6 := own_below hO5 hb6
      have hV6 := hV5.below hb6 hV5.lt
      have hR6 := hR5.below hb6 hR5.lt
      clear hb6 hB5 hO5 hV5 hR5 hX6 ho6 hsw hXm hz64
      obtain ⟨w7, hW7⟩ : ∃ w7, w7 = w6.alloc (.cells (s.map uv).toArray 100) := ⟨_, rfl⟩
      have hv7' : Blk w7 w6.heap.size (s.map uv) 100 := by rw [hW7]; exact Blk.new _ _ _
      have hb7 : Below w6.heap.size w6 w7 := by rw [hW7]; exact (Below.refl _ _).alloc (Nat.le_refl _) _
      have hW7' := Lib.hid hW7
      clear hW7 CC
      generalize hg7 : w6.alloc _ = Wg
      have hgW : w7 = Wg := by rw [← hg7, hW7'.out, hsE'.out]; rfl
      clear hg7 hW7' c0 c1 c2 c4 c5 c6 c7 c8
      subst hgW
      have hB7 := Lib.hid (hB6.trans (hb7.mono hB6.size))
      have hO7 := Lib.hid (own_below hO6 hb7)
      have hV7 := Lib.hid (hV6.below hb7 hV6.lt)
      have hR7 := Lib.hid (hR6.below hb7 hR6.lt)
      have hX7 := Lib.hid (hX6'.below hb7 hX6'.lt)
      have hgx : Hid (w5.heap.size < w6.heap.size) := hX6'.lt
      have hgs : Hid (w.heap.size + 1 < w6.heap.size) := hV6.lt
      have hgo : Hid (∀ v l, OwnB w6 (w.heap.size + 2) v l → ∀ W, Below w6.heap.size w6 W → OwnB W (w.heap.size + 2) v l) := fun v l h W hb => own_below h hb
      have hO6' := Lib.hid hO6
      have hb7' := Lib.hid hb7
      clear hb7 hB6 hO6 hV6 hR6 hX6'
      go_loopw [8] (fun i wr => ∃ (t a b' c' d e f' g' h : Nat), t ≤ 64 ∧ i = .int .i64 t ∧ Sha.steps s (Sha.table.take t) (X.take t) = [a, b', c', d, e, f', g', h] ∧ Blk wr w6.heap.size ([a, b', c', d, e, f', g', h].map uv) 100 ∧ Below w6.heap.size w7 wr) (fun i _ => 64 - (intOf i).toNat)
      case atStart => exact ⟨0, a0, a1, a2, a3, a4, a5, a6, a7, Nat.zero_le _, rfl, hsE'.out, by rw [← hsE'.out]; exact hv7', Below.refl _ _⟩
      case round =>
        clear hv7'
        obtain ⟨ww, hww⟩ : ∃ ww, ww = wr := ⟨_, rfl⟩
        subst hww
        obtain ⟨t, a, b', c', d, e, f', g', z, ht, rfl, hst0, hv0, hbv⟩ := hrel
        have hst := Lib.hid hst0
        have hv := Lib.hid hv0
        clear hst0 hv0
        by_cases hlt : t < 64
        · obtain ⟨kt, hkt⟩ : ∃ kt, Sha.table.getD t 0 = kt := ⟨_, rfl⟩
          obtain ⟨wt, hwt⟩ : ∃ wt, X.getD t 0 = wt := ⟨_, rfl⟩
          have hgs' := hgs.out
          have hgx' := hgx.out
          have hbW : Below w6.heap.size w6 ww := hb7'.out.trans hbv
          have hBW : Below w.heap.size w ww := hB7.out.trans (hbv.mono (by omega))
          have hTw : Tab 3 ww := hT.out.on hBW
          have hXw : Blk ww w5.heap.size (X.map uv) 126 := hX7.out.below hbv hgx'
          have hstep : Hid (Sha.steps s (Sha.table.take (t + 1)) (X.take (t + 1)) = Sha.step [a, b', c', d, e, f', g', z] kt wt) := by
            show _ = _
            rw [Sha.steps_snoc _ _ _ _ (by rw [Sha.table_len]; exact hlt) (by rw [hXl'.out]; exact hlt), hst.out, hkt, hwt]
          have hsml : Sha.Small [a, b', c', d, e, f', g', z] := by rw [← hst.out]; exact Sha.small_steps _ _ _ hsm.out
          have hs8b : a < 4294967296 ∧ b' < 4294967296 ∧ c' < 4294967296 ∧ d < 4294967296 ∧ e < 4294967296 ∧ f' < 4294967296 ∧ g' < 4294967296 ∧ z < 4294967296 :=
            ⟨hsml _ (by simp), hsml _ (by simp), hsml _ (by simp), hsml _ (by simp), hsml _ (by simp), hsml _ (by simp), hsml _ (by simp), hsml _ (by simp)⟩
          have hs8' := Lib.hid hs8b
          have R6 := Lib.hid (fun W => refRotr_b e 6 W hs8b.2.2.2.2.1 (by decide) (by decide))
          have R11 := Lib.hid (fun W => refRotr_b e 11 W hs8b.2.2.2.2.1 (by decide) (by decide))
          have R25 := Lib.hid (fun W => refRotr_b e 25 W hs8b.2.2.2.2.1 (by decide) (by decide))
          have R2 := Lib.hid (fun W => refRotr_b a 2 W hs8b.1 (by decide) (by decide))
          have R13 := Lib.hid (fun W => refRotr_b a 13 W hs8b.1 (by decide) (by decide))
          have R22 := Lib.hid (fun W => refRotr_b a 22 W hs8b.1 (by decide) (by decide))
          have it : (t : Int) < 64 := by omega
          have CV : Hid (∀ W, Below ww.heap.size ww W → ∀ (j x : Nat), [a, b', c', d, e, f', g', z][j]? = some x → W.cell? ⟨w6.heap.size, j, none⟩ = some (.int .u32 x)) := fun W hb j x h =>
            (hv.out.below hb hv.out.lt).cell (by rw [List.getElem?_map, h]; rfl)
          have ct := fun (y : ExtOf ww.drew) => show y.world.cell? ⟨3, t, none⟩ = some (.int .u32 kt) from by
            rw [← hkt]
            exact (Tab.on (w' := y.world) (w := ww.drew) hTw y.ext).2 t hlt
          have cw := fun (y : ExtOf ww.drew) => show y.world.cell? ⟨w5.heap.size, t, none⟩ = some (.int .u32 wt) from by
            rw [← hwt]
            refine (hXw.drew.below y.ext hXw.lt).cell ?_
            rw [List.getElem?_map, List.getD_eq_getElem?_getD, List.getElem?_eq_getElem (by rw [hXl'.out]; exact hlt)]
            rfl
          have hb0 : Below ww.heap.size ww ww := Below.refl _ _
          have c4 := fun y : ExtOf ww.drew => CV.out y.world (hb0.drew.trans y.ext) 4 e rfl
          have c5 := fun y : ExtOf ww.drew => CV.out y.world (hb0.drew.trans y.ext) 5 f' rfl
          have c6 := fun y : ExtOf ww.drew => CV.out y.world (hb0.drew.trans y.ext) 6 g' rfl
          have c7 := fun y : ExtOf ww.drew => CV.out y.world (hb0.drew.trans y.ext) 7 z rfl
          clear hkt hwt hTw hsml hs8b hXw hgs' hgx' hbW hBW
          have hst' := hst
          clear hst
          go_wp2_with fail
          refine wp_region_planL 99 [(true, 0), (true, 1), (true, 2), (true, 3), (true, 5), (true, 6), (true, 9), (true, 10), (true, 14), (true, 15), (true, 16), (true, 17), (true, 18), (true, 19), (true, 20), (true, 21), (true, 22), (true, 23), (true, 24), (true, 25), (true, 27), (true, 28), (true, 29), (true, 31), (true, 32), (true, 33), (false, 4), (false, 7), (true, 8), (false, 11), (true, 12), (true, 13), (true, 26), (true, 30), (true, 34), (true, 35)] (by kernel_rfl) (by decide) (by kernel_rfl) (by kernel_rfl) (by kernel_rfl) (by decide) (by intro c a d v w h; cases d <;> exact h) ?_
          change wpPlanL _ _ _ _ _ _ ww.drew
          iterate 26 (refine wpPlanL_plain rfl (fun K hK => ?_); go_simp; refine hK _ ?_; clear hK K)
          refine wpPlanL_call rfl (fun K hK => ?_)
          go_wp2_with fail
          refine (R6.out _).mono ?_
          rintro e1 w8 ⟨rfl, hb8⟩
          go_wp2_with fail
          refine planPostL_normal ⟨.inr hb8, hK _ _ ?_⟩
          clear hK K
          refine wpPlanL_call rfl (fun K hK => ?_)
          go_wp2_with fail
          refine (R11.out _).mono ?_
          rintro e1 w9 ⟨rfl, hb9⟩
          go_wp2_with fail
          refine planPostL_normal ⟨.inr hb9, hK _ _ ?_⟩
          clear hK K
          iterate 1 (refine wpPlanL_plain rfl (fun K hK => ?_); go_simp; refine hK _ ?_; clear hK K)
          refine wpPlanL_call rfl (fun K hK => ?_)
          go_wp2_with fail
          refine (R25.out _).mono ?_
          rintro e1 w10 ⟨rfl, hb10⟩
          go_wp2_with fail
          refine planPostL_normal ⟨.inr hb10, hK _ _ ?_⟩
          clear hK K
          iterate 6 (refine wpPlanL_plain rfl (fun K hK => ?_); go_simp; refine hK _ ?_; clear hK K)
          refine wpPlanL_nil ?_
          have hbA : Below ww.heap.size ww w10 := hb0.drew.trans ((hb8.trans ((hb9.trans (hb10.mono hb9.size)).mono hb8.size)).mono hb0.size)
          clear hb8 hb9 hb10
          obtain ⟨wA, hwA⟩ : ∃ x, x = w10 := ⟨_, rfl⟩
          subst hwA
          clear c4 c5 c6 c7 ct cw
          have c0 := fun y : ExtOf wA.drew => CV.out y.world ((hbA.drew).trans (Below.mono y.ext hbA.size)) 0 a rfl
          have c1 := fun y : ExtOf wA.drew => CV.out y.world ((hbA.drew).trans (Below.mono y.ext hbA.size)) 1 b' rfl
          have c2 := fun y : ExtOf wA.drew => CV.out y.world ((hbA.drew).trans (Below.mono y.ext hbA.size)) 2 c' rfl
          go_wp2_with fail
          refine wp_region_planL 99 [(true, 0), (true, 1), (true, 3), (true, 4), (true, 7), (true, 8), (true, 11), (true, 12), (true, 13), (true, 14), (true, 15), (true, 16), (true, 17), (true, 18), (true, 19), (true, 20), (true, 21), (true, 22), (true, 23), (true, 24), (true, 25), (true, 26), (true, 27), (false, 2), (false, 5), (true, 6), (false, 9), (true, 10), (true, 28), (true, 29)] (by kernel_rfl) (by decide) (by kernel_rfl) (by kernel_rfl) (by kernel_rfl) (by decide) (by intro c a d v w h; cases d <;> exact h) ?_
          change wpPlanL _ _ _ _ _ _ wA.drew
          iterate 23 (refine wpPlanL_plain rfl (fun K hK => ?_); go_simp; refine hK _ ?_; clear hK K)
          refine wpPlanL_call rfl (fun K hK => ?_)
          go_wp2_with fail
          refine (R2.out _).mono ?_
          rintro e1 w8 ⟨rfl, hb8⟩
          go_wp2_with fail
          refine planPostL_normal ⟨.inr hb8, hK _ _ ?_⟩
          clear hK K
          refine wpPlanL_call rfl (fun K hK => ?_)
          go_wp2_with fail
          refine (R13.out _).mono ?_
          rintro e1 w9 ⟨rfl, hb9⟩
          go_wp2_with fail
          refine planPostL_normal ⟨.inr hb9, hK _ _ ?_⟩
          clear hK K
          iterate 1 (refine wpPlanL_plain rfl (fun K hK => ?_); go_simp; refine hK _ ?_; clear hK K)
          refine wpPlanL_call rfl (fun K hK => ?_)
          go_wp2_with fail
          refine (R22.out _).mono ?_
          rintro e1 w10 ⟨rfl, hb10⟩
          go_wp2_with fail
          refine planPostL_normal ⟨.inr hb10, hK _ _ ?_⟩
          clear hK K
          iterate 3 (refine wpPlanL_plain rfl (fun K hK => ?_); go_simp; refine hK _ ?_; clear hK K)
          refine wpPlanL_nil ?_
          have hbB : Below ww.heap.size ww w10 := hbA.drew.trans ((hb8.trans ((hb9.trans (hb10.mono hb9.size)).mono hb8.size)).mono hbA.size)
          clear hb8 hb9 hb10 hbA
          obtain ⟨wB, hwB⟩ : ∃ x, x = w10 := ⟨_, rfl⟩
          subst hwB
          clear c0 c1 c2
          have c0 := CV.out wB hbB 0 a rfl
          have c1 := CV.out wB hbB 1 b' rfl
          have c2 := CV.out wB hbB 2 c' rfl
          have c3' := CV.out wB hbB 3 d rfl
          have c4 := CV.out wB hbB 4 e rfl
          have c5 := CV.out wB hbB 5 f' rfl
          have c6 := CV.out wB hbB 6 g' rfl
          have hvB := hv.out.below hbB hv.out.lt
          have hvl : ([a, b', c', d, e, f', g', z].map uv).length = 8 := rfl
          clear CV R6 R11 R25 R2 R13 R22
          go_wp2_with (refine wpList_blk_store rfl 100 _ _ rfl 0 (.agg #[.int .u32 _, .int .u32 _, .int .u32 _, .int .u32 _, .int .u32 _, .int .u32 _, .int .u32 _, .int .u32 _]) rfl rfl hvB size_w8 (Nat.le_of_eq rfl) (eight_one _ _ _ _ _ _ _ _ _) ?_; intro w8 hv8 ho8)
          have hB8 : Hid (Below w6.heap.size w7 w8) := hbv.trans ((hbB.mono (Nat.le_of_lt hv.out.lt)).trans (ho8.below (Nat.le_refl _)))
          clear c0 c1 c2 c3' c4 c5 c6 hbB hvB ho8 hvl
          go_roundw
          case rel =>
            obtain ⟨ha, hb, hc, hd, he, hf, hg, hh⟩ := hs8'.out
            refine ⟨t + 1, ((z + (Sha.rotr e 6 ^^^ Sha.rotr e 11 ^^^ Sha.rotr e 25) + ((e &&& f') ^^^ (Sha.flip e &&& g')) + kt + wt) + ((Sha.rotr a 2 ^^^ Sha.rotr a 13 ^^^ Sha.rotr a 22) + ((a &&& b') ^^^ (a &&& c') ^^^ (b' &&& c')))) % 4294967296, a, b', c',
              (d + (z + (Sha.rotr e 6 ^^^ Sha.rotr e 11 ^^^ Sha.rotr e 25) + ((e &&& f') ^^^ (Sha.flip e &&& g')) + kt + wt)) % 4294967296, e, f', g', by omega, by go_num, hstep.out, ?_, hB8.out⟩
            have h8 := hv8.out
            rw [splice_all _ _ (by rfl), sig_val _ _ _ (Sha.rotr_lt _ _) (Sha.rotr_lt _ _) (Sha.rotr_lt _ _), ch_val2 e f' g' he hf hg, sig_val _ _ _ (Sha.rotr_lt _ _) (Sha.rotr_lt _ _) (Sha.rotr_lt _ _), maj_val a b' c' ha hb hc, step_one2, step_two2] at h8
            exact h8
          case measure => simp [intOf]; omega
        · have hsml : Hid (Sha.Small [a, b', c', d, e, f', g', z]) := by show Sha.Small _; rw [← hst.out]; exact Sha.small_steps _ _ _ hsm.out
          obtain ⟨Cc, hCc⟩ : ∃ Cc, Cc = Sha.compress s b := ⟨_, rfl⟩
          have hCz : Hid (Cc = List.zipWith (fun p q => (p + q) % 4294967296) s [a, b', c', d, e, f', g', z]) := by
            show _ = _
            have h := hst.out
            rw [List.take_of_length_le (by rw [Sha.table_len]; omega), List.take_of_length_le (by rw [hXl'.out]; omega)] at h
            rw [hCc, hC.out, h]
          have hnx := hnext
          rw [← hCc] at hnx
          have hCl : Hid (Cc.length = 8) := by show _ = _; rw [hCz.out, List.length_zipWith, hs8.out]; rfl
          have hgs' := hgs.out
          have hVw := hV7.out.below hbv hgs.out
          have hRw := hR7.out.below hbv (by omega)
          have hOw := hgo.out _ _ hO6'.out ww (hb7'.out.trans hbv)
          have hBw : Below w.heap.size w ww := hB7.out.trans (hbv.mono (by omega))
          have hvw := hv.out
          have t64 : ¬ (t : Int) < 64 := by omega
          clear hCc hst hv hbv hlt ht hgs' hC hnext
          have hnext := hnx
          clear hnx
          go_wp2_with fail
          go_loopw [11] (fun i wr => ∃ j : Nat, j ≤ 8 ∧ i = .int .i64 j ∧ Blk wr (w.heap.size + 1) ((Cc.take j).map uv ++ (s.drop j).map uv) 100 ∧ Blk wr w6.heap.size ([a, b', c', d, e, f', g', z].map uv) 100 ∧ Blk wr w.heap.size (bz 32) 98 ∧ OwnB wr (w.heap.size + 2) (.slice (some ⟨g, 0, none⟩) n c3) P ∧ Below w.heap.size w wr) (fun i _ => 8 - (intOf i).toNat)
          case atStart => exact ⟨0, Nat.zero_le _, rfl, hVw, hvw, hRw, hOw, hBw⟩
          case round =>
            clear hVw hvw hRw hOw hBw t64
            obtain ⟨wi, hwi⟩ : ∃ wi, wi = wr := ⟨_, rfl⟩
            subst hwi
            obtain ⟨j, hj, rfl, hV0, hv0, hR0, hO0, hBi⟩ := hrel
            have hV := Lib.hid hV0
            have hv := Lib.hid hv0
            have hR := Lib.hid hR0
            have hO := Lib.hid hO0
            clear hV0 hv0 hR0 hO0
            by_cases hlt : j < 8
            · obtain ⟨x, hx⟩ : ∃ x, [a, b', c', d, e, f', g', z][j]? = some x := ⟨_, List.getElem?_eq_getElem (by exact hlt)⟩
              obtain ⟨y, hy⟩ : ∃ y, s[j]? = some y := ⟨_, List.getElem?_eq_getElem (by rw [hs8.out]; exact hlt)⟩
              have hl1 : ((Cc.take j).map uv).length = j := by rw [List.length_map, List.length_take, hCl.out]; omega
              have hcl : Hid (((Cc.take j).map uv ++ (s.drop j).map uv).length = 8) := by
                show _ = _
                rw [List.length_append, hl1, List.length_map, List.length_drop, hs8.out]
                omega
              have hcx := fun (q : ExtOf wi.drew) => show q.world.cell? ⟨w6.heap.size, j, none⟩ = some (.int .u32 x) from
                (hv.out.drew.below q.ext hv.out.lt).cell (by rw [List.getElem?_map, hx]; rfl)
              have hcy := fun (q : ExtOf wi.drew) => show q.world.cell? ⟨w.heap.size + 1, j, none⟩ = some (.int .u32 y) from by
                refine (hV.out.drew.below q.ext hV.out.lt).cell ?_
                rw [List.getElem?_append_right (by omega), hl1, Nat.sub_self, List.getElem?_map, List.getElem?_drop, Nat.add_zero, hy]
                rfl
              have hnew : Hid (splice ((Cc.take j).map uv ++ (s.drop j).map uv) j [.int .u32 (((y : Int) + x) % 4294967296)] = (Cc.take (j + 1)).map uv ++ (s.drop (j + 1)).map uv) := by
                show _ = _
                have hcj : Cc[j]? = some ((y + x) % 4294967296) := by rw [hCz.out, List.getElem?_zipWith, hy, hx]
                rw [show ((y : Int) + x) % 4294967296 = (((y + x) % 4294967296 : Nat) : Int) by omega]
                obtain ⟨hjs, hyg⟩ := List.getElem?_eq_some_iff.1 hy
                obtain ⟨hjc, hcg⟩ := List.getElem?_eq_some_iff.1 hcj
                rw [splice_set _ _ _ (by rw [hcl.out]; exact hlt), List.set_append_right _ _ (by omega), hl1, Nat.sub_self, List.drop_eq_getElem_cons hjs, List.map_cons, List.set_cons_zero, List.take_succ_eq_append_getElem hjc, hcg, List.map_append, List.append_assoc]
                rfl
              have ij : (j : Int) < 8 := by omega
              have ij1 : j + 1 ≤ 8 := hlt
              have hgl := hgs.out
              clear hx hy hl1
              go_wp2_with fail
              refine wp_region_planL 9 [(true, 0), (true, 1), (true, 2), (true, 3), (true, 4), (true, 5), (true, 6), (true, 7), (true, 8), (false, 9)] (by kernel_rfl) (by decide) (by kernel_rfl) (by kernel_rfl) (by kernel_rfl) (by decide) (by intro c a d v w h; cases d <;> exact h) ?_
              change wpPlanL _ _ _ _ _ _ wi.drew
              iterate 9 (refine wpPlanL_plain rfl (fun K hK => ?_); go_simp; refine hK _ ?_; clear hK K)
              refine wpPlanL_call rfl (fun K hK => ?_)
              refine wpList_blk_store rfl 99 _ _ rfl j (.int .u32 (((y : Int) + x) % 4294967296)) rfl rfl hV.out.drew size_u32 (by rw [hcl.out]; exact ij1) (one_int _ _) ?_
              intro w9 hW9 ho9
              refine wpList_end (planPostL_normal ⟨.inl rfl, hK _ _ ?_⟩)
              clear hK K
              refine wpPlanL_nil ?_
              go_wp2_with fail
              go_roundw
              case rel =>
                refine ⟨j + 1, by omega, by go_num, ?_, hv.out.drew.only ho9 (by omega), hR.out.drew.only ho9 (by omega), own_only (own_below hO.out ((Below.refl _ _).drew)) ho9 (by omega), hBi.drew.trans (ho9.below (by omega))⟩
                rw [← hnew.out]
                exact hW9.out
              case measure => simp [intOf]; omega
            · have t8 : ¬ (j : Int) < 8 := by omega
              have hL : (Cc.take j).map uv ++ (s.drop j).map uv = Cc.map uv := by
                rw [List.take_of_length_le (by rw [hCl.out]; omega), List.drop_eq_nil_of_le (by rw [hs8.out]; omega)]
                simp
              have hpn2 := hpn'.out
              clear hlt
              go_wp2_with fail
              go_roundw
              case rel =>
                refine ⟨k + 1, p + 64, hk1.out, by rw [hp.out]; omega, by go_num, hO.out, ?_, hR.out, hBi⟩
                rw [hnext.out, ← hL]
                exact hV.out
              case measure => simp [intOf]; omega
    · have hkq : k = q := by have := hk.out; omega
      have tr : ¬ (p : Int) < (n : Int) := by have := hnq.out; have := hp.out; omega
      have hVF : Hid (Blk wr (w.heap.size + 1) (F.map uv) 100) := by
        show Blk _ _ _ _
        rw [hF.out, ← hkq]
        exact hV.out
      clear hlt hkq hV hk hp hnq ho
      have hV := hVF
      clear hVF
      clear hF
      obtain ⟨wo, hwo⟩ : ∃ wo, wo = wr := ⟨_, rfl⟩
      subst hwo
      have hwl := hbw.size
      go_wp2_with fail
      go_loopw [13] (fun i wi => ∃ j : Nat, j ≤ 32 ∧ i = .int .i64 j ∧ Blk wi wo.heap.size (fill Y j) 98 ∧ Blk wi (w.heap.size + 1) (F.map uv) 100 ∧ Blk wi w.heap.size (bz 32) 98 ∧ Below w.heap.size w wi) (fun i _ => 32 - (intOf i).toNat)
      case atStart => exact ⟨0, by omega, rfl, by rw [fill_zero, hYl.out]; exact Blk.new wo (bz 32) _, hV.out.alloc _, hR.out.alloc _, hbw.alloc hbw.size _⟩
      case round =>
        have hgs := hV.out.lt
        have hV1 := hV
        clear hV hR hbw
        obtain ⟨wi, hwi⟩ : ∃ wi, wi = wr := ⟨_, rfl⟩
        subst hwi
        obtain ⟨j, hj, rfl, hD0, hV0, hR0, hbw⟩ := hrel
        have hD := Lib.hid hD0
        have hV := Lib.hid hV0
        have hR := Lib.hid hR0
        clear hD0 hV0 hR0
        by_cases hlt : j < 32
        · obtain ⟨d, hd⟩ : ∃ d, d = j / 4 := ⟨_, rfl⟩
          obtain ⟨r, hr⟩ : ∃ r, r = j % 4 := ⟨_, rfl⟩
          have hd8 : d < 8 := by omega
          obtain ⟨x, hx⟩ : ∃ x, F[d]? = some x := ⟨_, List.getElem?_eq_getElem (by rw [hF8.out]; omega)⟩
          have hxs : x < 4294967296 := hFs.out x (List.mem_of_getElem? hx)
          have hcell : wi.cell? ⟨w.heap.size + 1, d, none⟩ = some (.int .u32 x) := hV.out.cell (by rw [List.getElem?_map, hx]; rfl)
          have hy := hat.out j d r x hlt hd hr hx
          have hnx : Hid (splice (fill Y j) j [.int .u8 ((x : Int) / 2 ^ (24 - 8 * r) % 256)] = fill Y (j + 1)) := by
            show _ = _
            rw [← fill_next Y j _ hy, bv_ofNat (Nat.mod_lt _ (by decide)), Nat.shiftRight_eq_div_pow]
            simp
          have hfl : (fill Y j).length = 32 := by rw [fill_len _ _ (by rw [hYl.out]; omega), hYl.out]
          have q1 : (j : Int).tdiv 4 = d := by rw [Int.tdiv_eq_ediv_of_nonneg (by omega)]; omega
          have q2 : (j : Int).tmod 4 = r := by rw [Int.tmod_eq_emod_of_nonneg (by omega)]; omega
          have q3 : (j : Int) / 4 = d := by omega
          have q4 : (j : Int) % 4 = r := by omega
          have e1 : 24 - 8 * (r : Int) = ((24 - 8 * r : Nat) : Int) := by omega
          have e2 : ((24 - 8 * r : Nat) : Int) < 32 := by omega
          have id : (d : Int) < 8 := by omega
          have ij : (j : Int) < 32 := by omega
          have hj1 : j + 1 ≤ 32 := hlt
          clear hx hy hd hr
          go_wp2_with (refine wpList_blk_store rfl 5 _ _ rfl j (.int .u8 ((x : Int) / 2 ^ (24 - 8 * r) % 256)) rfl rfl hD.out size_u8 (by rw [hfl]; exact hj1) (one_int _ _) ?_; intro w5 hW5 ho5)
          go_roundw
          case rel =>
            refine ⟨j + 1, by omega, by go_num, ?_, hV.out.only ho5 (by omega), hR.out.only ho5 (by omega), hbw.trans (ho5.below (by omega))⟩
            rw [← hnx.out]
            exact hW5.out
          case measure => simp [intOf]; omega
        · have hD2 := hD.out
          have hR2 := hR.out
          rw [fill_all _ _ (by rw [hYl.out]; omega)] at hD2
          have hcl : (Y.map bv).length = 32 := by rw [List.length_map, hYl.out]
          have hsz : Hid ((Tryd.prog.info? 98).map (·.size) = some (Y.map bv).length) := by show _ = _; rw [hcl]; exact size_b32
          have hYo := av_one Y
          have t : ¬ (j : Int) < 32 := by omega
          clear hD hR hlt hV
          go_wp2_with (first | (refine wpList_blk_load rfl 98 _ rfl 0 rfl hD2 (Y.map bv) (take_all0 _) (.array 32 5) Tryd.underlying98 rfl hsz.out ?_) | (refine wpList_row_store rfl 98 _ _ rfl (Y.map bv) rfl rfl hR2 hsz.out (by rw [hcl]; rfl) hYo ?_; intro w6 hW6 ho6))
          exact bodyPost_ret (ret_blk rfl _ w6 (g := w.heap.size) rfl hW6.out (.array 32 5) Tryd.underlying98 rfl hsz.out) rfl ⟨rfl, hbw.trans (ho6.below (Nat.le_refl _))⟩
end Go.Proofs.YtlgokfgiemaklaaDoor
