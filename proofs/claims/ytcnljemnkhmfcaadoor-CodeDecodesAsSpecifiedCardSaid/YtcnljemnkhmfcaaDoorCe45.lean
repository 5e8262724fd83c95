/-
  Contracts of stage 7: encode. Contracts of stage 7: Encode, Rows. Contracts of stage 7: Rows. Contracts of stage 7: the library's functions that solve and Decode call; solve's closure. Contracts of stage 7: solve. (Written by tools/gencen.py.). Contracts of stage 7: Decode.
-/
import Derived.Test.YtcnljemnkhmfcaaDoorCe2
import Derived.Test.YtcnljemnkhmfcaaDoorCe3
import Derived.Test.YtcnljemnkhmfcaaDoorShl
import Derived.Deep.CutRange
namespace Go.Proofs.YtcnljemnkhmfcaaDoor
set_option linter.unusedVariables false
set_option linter.unusedSimpArgs false
open Go.RowKit

/-- What encode ends with: texts that are read. -/
def TextsEnd (w : World) (L : List (List UInt8)) (e : Ending) (w' : World) : Prop := ∃ A c, e = .returned (.slice A L.length c) ∧ L.length ≤ c ∧ (A = none → c = 0) ∧ Rds w' w'.heap.size A (L.map sv) ∧ OwnS w' w.heap.size (.slice A L.length c) L ∧ Below w.heap.size w w'
set_option maxRecDepth 100000 in
set_option maxHeartbeats 16000000 in
theorem encode_any {B D n c G : Nat} {Gs : List (List Int)} {A : Option Addr} (d : List UInt8) (w : World) (hM : CodM w B (D : Int) A n c (G : Int) Gs) (hD : 1 ≤ D) (hD16 : D ≤ 16) (hG : G ≤ 4) (hcnt : D + n + G ≤ 24) (hin : ∀ g ∈ Gs, ∀ v ∈ g, 0 ≤ v ∧ v < (D : Int)) (hd : d.length ≤ 4096) (ht : PTab 0 w) :
    Calls Tryd.prog 35 #[cdv D A n c G, sv d] w (TextsEnd w (encP D Gs (filP D (szP D d.length) d) (szP D d.length) (D + n + G))) := by
  obtain ⟨W1, hW1⟩ : ∃ W1, W1 = w.alloc (.cells #[.int .i64 D, .slice A n c, .int .i64 G] 24) := ⟨_, rfl⟩
  have hB1 : Hid (Below w.heap.size w W1) := by show Below _ _ _; rw [hW1]; exact (Below.refl _ _).alloc (Nat.le_refl _) _
  have hC1 : Hid (Blk W1 w.heap.size [.int .i64 D, .slice A n c, .int .i64 G] 24) := by show Blk _ _ _ _; rw [hW1]; exact Blk.new _ [_, _, _] _
  have M1 := Lib.hid (hM.keep hB1.out)
  have T1 := Lib.hid (ht.on hB1.out)
  have hlen : Hid (n = Gs.length) := hM.len
  obtain ⟨q, hq⟩ : ∃ q, q = d.length := ⟨_, rfl⟩
  obtain ⟨z, hz⟩ : ∃ z, z = szP D d.length := ⟨_, rfl⟩
  obtain ⟨P, hP⟩ : ∃ P, P = filP D z d := ⟨_, rfl⟩
  obtain ⟨cnt, hc⟩ : ∃ k, k = D + n + G := ⟨_, rfl⟩
  have hm := szP_mul (n := d.length) hD
  rw [← hz] at hm
  have hPl : P.length = D * z := by rw [hP]; exact filP_len hm.1
  obtain ⟨T, hT⟩ : ∃ T, T = D * z := ⟨_, rfl⟩
  rw [← hz, ← hP, ← hc]
  rw [← hc] at hcnt
  have hTz : T ≤ 4112 := by rw [hT]; omega
  have eT : (D : Int) * (z : Int) = (T : Int) := by rw [hT, Int.natCast_mul]
  have hqT : q ≤ T := by rw [hT, hq]; exact hm.1
  have CZ := Lib.hid (size_any D q n c (G : Int) A W1 hD hD16 (by omega))
  have hzq : (q + D - 1) / D = z := by rw [hz, hq]; rfl
  rw [hzq] at CZ
  have CN : Hid (∀ W, Calls Tryd.prog 33 #[cdv D A n c G] W fun e w' => e = .returned (.int .i64 (cnt : Int)) ∧ Below W.heap.size W w') := fun W => by rw [hc]; exact count_any D n G c A W hD16 hG (by omega)
  obtain ⟨N, hN⟩ : ∃ N, N = n + G := ⟨_, rfl⟩
  have CP : Hid (∀ W, CodM W B (D : Int) A n c (G : Int) Gs → PTab 0 W → Calls Tryd.prog 34 #[cdv D A n c G] W fun e w' => (∃ x bs, e = .returned (.slice (some ⟨x, 0, none⟩) N N) ∧ Om w' W.heap.size x bs (PM (par D Gs) N) []) ∧ Below W.heap.size W w') := fun W m t => by rw [hN]; exact parities_any D n c G Gs A W m hD16 hG (by omega) hin t
  have hDN : Hid (cnt = D + N) := by show _ = _; rw [hc, hN]; omega
  obtain ⟨S0, hS0⟩ : ∃ S, S = bs d := ⟨_, rfl⟩
  have hS0l : S0.size = q := by rw [hS0, bs_size, hq]
  have hS0d : Hid (S0.data.toList.take q = d.take d.length) := by show _ = _; rw [hS0, hq]; simp [bs]
  have hzH := Lib.hid hz
  have hqH := Lib.hid hq
  have hPH := Lib.hid hP
  have hPlH := Lib.hid hPl
  have hTH := Lib.hid hT
  have hDH := Lib.hid hD
  have hmH := Lib.hid hm
  have hW1H := Lib.hid hW1
  have p0 := hC1.out.cell (j := 0) rfl
  have p1 := hC1.out.cell (j := 1) rfl
  have p2 := hC1.out.cell (j := 2) rfl
  have hz4 : z ≤ 4112 := by
    have : 1 * z ≤ D * z := Nat.mul_le_mul_right z hD
    omega
  have hmin : q = min S0.size T := by omega
  have hminH := Lib.hid hmin
  unfold sv
  rw [← hS0]
  unfold cdv at CZ CN CP ⊢
  subst hW1
  clear hM ht hz hq hP hPl hT hm hc hzq hN hS0 hin hD hd hmin
  go_enter Tryd.func35, Tryd.ntmps35
  go_wp2_with fail
  refine CZ.out.mono ?_
  rintro e w2 ⟨rfl, hb⟩
  have hC2 := Lib.hid (hC1.out.below hb hC1.out.lt)
  have M2 := Lib.hid (M1.out.keep hb)
  have T2 := Lib.hid (T1.out.on hb)
  have hB2 : Hid (Below w.heap.size w w2) := hB1.out.trans (hb.mono hB1.out.size)
  clear hb p0 p1 p2 CZ hC1 M1 T1 hB1
  have p0 := hC2.out.cell (j := 0) rfl
  obtain ⟨W5, hW5⟩ : ∃ W5, W5 = w2.alloc (.cells (madeCells #[.int .u8 0] T) 5) := ⟨_, rfl⟩
  have hb5 : Hid (Below w2.heap.size w2 W5) := by show Below _ _ _; rw [hW5]; exact (Below.refl _ _).alloc (Nat.le_refl _) _
  have hZ5 : Hid (Blk W5 w2.heap.size ((List.replicate T (0 : UInt8)).map bv) 5) := by
    show Blk _ _ _ _
    rw [hW5, made_zeros, zeros_row]
    exact Blk.new _ _ _
  have hmk2 := run_make_row' (P := Tryd.prog) 57 5 (.int .u8 0) 1 Tryd.underlying57 infoByte rfl .i64 .i64 T (by omega) (by omega) w2
  rw [← hW5] at hmk2
  have HS : Hid (∀ W6, Only w2.heap.size W5 W6 → Blk W6 w.heap.size [.int .i64 D, .slice A n c, .int .i64 G] 24) := fun W6 h => (hC2.out.below hb5.out hC2.out.lt).only h (by have := hC2.out.lt; omega)
  clear hW5
  go_wp2_with (refine wpList_blk_copy rfl _ _ _ _ rfl 5 Tryd.underlying57 size_u8 0 T T S0 rfl rfl q hminH.out hZ5.out (by rw [List.length_map, List.length_replicate]; omega) ?_; intro w6 hw6 ho6; have hC6 := HS.out w6 ho6; have p0 := hC6.cell (j := 0) rfl; have p1 := hC6.cell (j := 1) rfl; have p2 := hC6.cell (j := 2) rfl; clear hC6)
  clear hmk2
  have hC6 := Lib.hid (HS.out w6 ho6)
  have hB56 : Hid (Below w2.heap.size w2 w6) := hb5.out.trans (ho6.below (Nat.le_refl _))
  have M6 := Lib.hid (M2.out.keep hB56.out)
  have T6 := Lib.hid (T2.out.on hB56.out)
  have hB6 : Hid (Below w.heap.size w w6) := hB2.out.trans (hB56.out.mono hB2.out.size)
  have hP6 : Hid (Blk w6 w2.heap.size (P.map bv) 5) := by
    have h := hw6.out
    rw [hS0d.out, hTH.out, zeros_append _ _ _ hmH.out.1, ← hPH.out] at h
    exact h
  clear hw6 ho6 HS hZ5 hb5 hB56 M2 T2 hC2
  refine (CN.out w6).mono ?_
  rintro e w7 ⟨rfl, hb⟩
  have hC7 := Lib.hid (hC6.out.below hb hC6.out.lt)
  have M7 := Lib.hid (M6.out.keep hb)
  have T7 := Lib.hid (T6.out.on hb)
  have hB7 : Hid (Below w.heap.size w w7) := hB6.out.trans (hb.mono hB6.out.size)
  have hP7 := Lib.hid (hP6.out.below hb hP6.out.lt)
  clear hb p0 p1 p2 hC6 M6 T6 hB6 hP6
  obtain ⟨i0, hi, hz0, hz1, hz2⟩ := info_parts infoStr7
  obtain ⟨w8, hmk, hom, hgm⟩ := run_make_own (P := Tryd.prog) (w := w7) w7.heap.size 32 9 i0 (.string .empty) 1 Tryd.underlying32 hi hz0 hz1 .i64 .i64 cnt (by rw [hz2]; omega) (by unfold maxLen; omega) (Nat.le_refl _)
  have hb8 : Hid (Below w7.heap.size w7 w8) := (Below.refl _ _).grown hgm (Nat.le_refl _) (by simp)
  have hO8 : Hid (OwnS w8 w7.heap.size (.slice (some ⟨w7.heap.size, 0, none⟩) 0 cnt) (encP D Gs P z 0)) := hom
  have q0 := (hC7.out.below hb8.out hC7.out.lt).cell (j := 0) rfl
  obtain ⟨U, hU⟩ : ∃ U, U = w2.heap.size := ⟨_, rfl⟩
  rw [← hU] at hP7
  rw [← hU]
  have hPlt : Hid (U < w7.heap.size) := hP7.out.lt
  clear hi hz0 hz1 hz2 hom hgm hU
  go_wp2_with fail
  clear hmk q0
  go_loopw [7, 30] (fun v i wr => ∃ k : Nat, k ≤ D ∧ i = .int .i64 k ∧ Hid (OwnS wr w7.heap.size v (encP D Gs P z k)) ∧ Hid (Below w7.heap.size w7 wr)) (fun _ i _ => D - (intOf i).toNat)
  case atStart => exact ⟨0, by omega, rfl, hO8, hb8⟩
  case round =>
    clear hO8 hb8
    obtain ⟨k, hk, rfl, hO, hBr⟩ := hrel
    have hsz := hBr.out.size
    by_cases hlt : k < D
    · have tk : (k : Int) < (D : Int) := by omega
      obtain ⟨kz, hkz⟩ : ∃ m, m = k * z := ⟨_, rfl⟩
      obtain ⟨k2, hk2⟩ : ∃ m, m = kz + z := ⟨_, rfl⟩
      have e1 : (k : Int) * (z : Int) = (kz : Int) := by rw [hkz, Int.natCast_mul]
      have e2 : ((k : Int) + 1) * (z : Int) = (k2 : Int) := by rw [Int.add_mul, Int.one_mul, e1, hk2]; omega
      have hkT : k2 ≤ T := by rw [hk2, hkz, hTH.out, ← Nat.succ_mul]; exact Nat.mul_le_mul_right z hlt
      have f0 : 0 ≤ (kz : Int) := by omega
      have f1 : (kz : Int) ≤ (k2 : Int) := by omega
      have f2 : (k2 : Int) ≤ (T : Int) := by omega
      have f3 : k2 - kz = z := by omega
      have f4 : kz ≤ k2 := by omega
      obtain ⟨A3, ha3⟩ : ∃ X, (if T = kz then some (⟨U, 0, none⟩ : Addr) else some ⟨U, kz, none⟩) = X := ⟨_, rfl⟩
      have hrd : Rds wr wr.heap.size A3 ((pce D Gs P z k).map bv) := by
        rw [← ha3, pce_unit hlt hPlH.out, ← hkz]
        by_cases e : T = kz
        · have : z = 0 := by omega
          rw [this, List.take_zero]
          exact Rds.empty
        · rw [if_neg e, List.map_take, List.map_drop]
          exact (hP7.out.below hBr.out hPlt.out).rds kz z
      obtain ⟨y, hy⟩ : ∃ y, y = pce D Gs P z k := ⟨_, rfl⟩
      have hyl : y.length = z := by rw [hy, pce_len]
      rw [← hy] at hrd
      have hcv := run_bytes_bs (P := Tryd.prog) wr 57 9 5 Tryd.underlying57 Tryd.underlying5 Tryd.underlying9 (T - kz) hrd
      rw [hyl] at hcv
      have hnx : Hid (encP D Gs P z (k + 1) = encP D Gs P z k ++ [y]) := by show _ = _; rw [encP_next, hy]
      have hll : (encP D Gs P z k).length ≤ 1000000 := by rw [encP_len]; omega
      obtain ⟨Y, hY⟩ : ∃ Y, Y = bs y := ⟨_, rfl⟩
      rw [← hY] at hcv
      have hYH : Hid (Value.string Y = sv y) := by show _ = _; rw [hY]; rfl
      generalize encP D Gs P z k = L at hO hll hnx
      clear hkz hk2 hrd hy hyl hY hkT
      go_wp2_with (at_builtin; go_must (refine push_s rfl _ _ rfl w7.heap.size u7 L y _ hYH.out rfl rfl hO.out hll hsz ?_); intro v' w1 ho1 hg1)
      have hb1 := Lib.hid (below_grown hBr.out hO.out hg1.1 hsz)
      have ho1H : Hid (OwnS w1 w7.heap.size v' (encP D Gs P z (k + 1))) := by show OwnS _ _ _ _; rw [hnx.out]; exact ho1
      clear hcv ha3 ho1 hg1
      go_roundw
      case rel => exact ⟨k + 1, by omega, by go_num, ho1H, hb1⟩
      case measure => simp [intOf]; omega
    · have tk : ¬ (k : Int) < (D : Int) := by omega
      obtain rfl : D = k := by omega
      obtain ⟨wR, rfl⟩ : ∃ x, x = wr := ⟨_, rfl⟩
      have hCR := hC7.out.below hBr.out hC7.out.lt
      have p0 := hCR.cell (j := 0) rfl
      have p1 := hCR.cell (j := 1) rfl
      have p2 := hCR.cell (j := 2) rfl
      have CPR := Lib.hid (CP.out wR (M7.out.keep hBr.out) (T7.out.on hBr.out))
      have hszR := Lib.hid hsz
      have hN24 : N ≤ 24 := by have := hDN.out; omega
      clear hCR hlt tk hk hsz
      go_wp2_with fail
      refine CPR.out.mono ?_
      rintro e wP ⟨⟨x, bl, rfl, hOm⟩, hb⟩
      have hOmH := Lib.hid hOm
      have hBP : Hid (Below w7.heap.size w7 wP) := hBr.out.trans (hb.mono hszR.out)
      have hOP := Lib.hid (hO.out.keep hb)
      have hRP := Lib.hid hb.size
      have hap : Hid (∀ b, u7.ownBlock = some b → b < wR.heap.size ∨ wP.heap.size ≤ b) := fun b hb' => .inl (World.ownsRow.lt hO.out b hb').2
      clear hb hOm p0 p1 p2 CPR hO hBr
      go_wp2_with fail
      go_loopw [7, 50] (fun v i wr => ∃ t : Nat, t ≤ N ∧ i = .int .i64 t ∧ Hid (OwnS wr w7.heap.size v (encP D Gs P z (D + t))) ∧ Hid (Below w7.heap.size w7 wr) ∧ Hid (∀ y, wR.heap.size ≤ y → y < wP.heap.size → wr.heap[y]? = wP.heap[y]?) ∧ Hid (∀ b, v.ownBlock = some b → b < wR.heap.size ∨ wP.heap.size ≤ b) ∧ Hid (wP.heap.size ≤ wr.heap.size)) (fun _ i _ => N - (intOf i).toNat)
      case atStart => exact ⟨0, by omega, rfl, hOP, hBP, fun _ _ _ => rfl, hap, Nat.le_refl _⟩
      case round =>
        clear hOP hBP hap
        obtain ⟨t, ht, rfl, hO, hBr, hst, hap, hPr⟩ := hrel
        have hsz := hBr.out.size
        by_cases hlt : t < N
        · have tt : (t : Int) < (N : Int) := by omega
          have hOmr := Lib.hid (hOmH.out.mid hst.out)
          obtain ⟨b, hbk, hbne, hbb, hcr, hrowb⟩ := hOmr.out.at (PM_get (par D Gs) hlt)
          rw [show (par D Gs t).length = D by rw [par_cr, crow_len]] at hcr
          have hrdb : Rds wr wr.heap.size (some ⟨b, 0, none⟩) ((crow D Gs (D + t) D).map bv) := by
            have h := hrowb.rds 0 (par D Gs t).length
            rw [List.drop_zero, List.take_of_length_le (by rw [List.length_map]; exact Nat.le_refl _), par_cr] at h
            exact h
          obtain ⟨A4, c4, rfl, hc4, _, hA4, hr4⟩ := hO.out.slice
          have hr4D : Rds wr wr.heap.size A4 ((encP D Gs P z D).map sv) := by
            have h := hr4.take D
            rw [← List.map_take, encP_take (by omega)] at h
            exact h
          have CB := combine_ok (crow D Gs (D + t) D) (encP D Gs P z D) (some ⟨b, 0, none⟩) A4 D c4 wr (by rw [encP_len]; omega) (fun x hx => by
            obtain ⟨i, _, rfl⟩ := List.mem_map.1 hx
            rw [pce_len]; omega) hrdb hr4D (fit_enc hDH.out) (T7.out.on hBr.out)
          rw [pce_par hDH.out hPlH.out, crow_len, encP_len] at CB
          have hnx : Hid (encP D Gs P z (D + (t + 1)) = encP D Gs P z (D + t) ++ [pce D Gs P z (D + t)]) := encP_next _ _ _ _ _
          have hLl : (encP D Gs P z (D + t)).length = D + t := encP_len _ _ _ _ _
          have hcD : D ≤ c4 := by rw [hLl] at hc4; omega
          have hcDI : (D : Int) ≤ (c4 : Int) := by omega
          have hD0 : 0 ≤ (D : Int) := by omega
          have q0 := ((hC7.out.below hBr.out hC7.out.lt)).cell (j := 0) rfl
          generalize pce D Gs P z (D + t) = y at CB hnx
          obtain ⟨Y, hY⟩ : ∃ Y, Y = bs y := ⟨_, rfl⟩
          unfold sv at CB
          rw [← hY] at CB
          have hYH : Hid (Value.string Y = sv y) := by show _ = _; rw [hY]; rfl
          have hll : (encP D Gs P z (D + t)).length ≤ 1000000 := by rw [hLl]; have := hDN.out; omega
          have CBH := Lib.hid CB
          generalize hLe : encP D Gs P z (D + t) = L at hO hap hll hnx hLl hr4 hc4 ⊢
          obtain ⟨nl, hnl⟩ : ∃ m, m = L.length := ⟨_, rfl⟩
          rw [← hnl] at hO hap hc4
          rw [← hnl]
          have hnlH := Lib.hid hnl
          have hc4I : D ≤ nl := by rw [hnl, hLl]; omega
          clear hOmr hbk hbne hbb hrowb hrdb hr4 hr4D hA4 CB hY hLe hLl hnl hc4
          go_wp2_with fail
          refine CBH.out.mono ?_
          rintro e w9 ⟨rfl, hb9⟩
          have hb9H := Lib.hid hb9
          have hO9 : Hid (OwnS w9 w7.heap.size (.slice A4 nl c4) L) := hO.out.keep hb9
          have hB9 : Hid (Below w7.heap.size w7 w9) := hBr.out.trans (hb9.mono hsz)
          have hll' := hll
          clear hb9 CBH q0 hcr hO
          go_wp2_with (at_builtin; go_must (refine push_s rfl _ _ rfl w7.heap.size (.slice A4 nl c4) L y _ hYH.out rfl rfl hO9.out hll' hB9.out.size ?_); intro v' w1 ho1 hg1)
          have f1 : Hid (OwnS w1 w7.heap.size v' (encP D Gs P z (D + (t + 1)))) := by show OwnS _ _ _ _; rw [hnx.out]; exact ho1
          have f2 := Lib.hid (below_grown hB9.out hO9.out hg1.1 hB9.out.size)
          have f3 : Hid (∀ y, wR.heap.size ≤ y → y < wP.heap.size → w1.heap[y]? = wP.heap[y]?) := fun y h1 h2 => by
            have e1 := hg1.1.block y (by have := hPr.out; have := hb9H.out.size; omega) (fun hh => by
              rcases hap.out y hh.symm with h | h <;> omega)
            exact e1.trans ((hb9H.out.block y (by have := hPr.out; omega)).trans (hst.out y h1 h2))
          have f4 : Hid (∀ b, v'.ownBlock = some b → b < wR.heap.size ∨ wP.heap.size ≤ b) := fun b hb' => by
            rcases hg1.2 with h | ⟨k, h, hk⟩
            · exact hap.out b (h.symm.trans hb')
            · rw [h] at hb'
              obtain rfl := Option.some.inj hb'
              have := hPr.out
              have := hb9H.out.size
              exact .inr (by omega)
          have f5 : Hid (wP.heap.size ≤ w1.heap.size) := Nat.le_trans hPr.out (Nat.le_trans hb9H.out.size hg1.1.size)
          clear ho1 hg1
          go_roundw
          case rel => exact ⟨t + 1, by omega, by go_num, f1, f2, f3, f4, f5⟩
          case measure => simp [intOf]; omega
        · have tt : ¬ (t : Int) < (N : Int) := by omega
          obtain rfl : N = t := by omega
          obtain ⟨A4, c4, rfl, hc4, _, hA4, hr4⟩ := hO.out.slice
          have hend : Hid (TextsEnd w (encP D Gs P z cnt) (.returned (.slice A4 (encP D Gs P z (D + N)).length c4)) wr) := by
            show TextsEnd _ _ _ _
            rw [← hDN.out] at hO hc4 hr4 ⊢
            exact ⟨A4, c4, rfl, hc4, hA4, hr4, hO.out.up hB7.out.size, hB7.out.trans (hBr.out.mono hB7.out.size)⟩
          clear hO hc4 hr4
          go_wp2_with fail
          go_ret
          exact hend.out
end Go.Proofs.YtcnljemnkhmfcaaDoor

namespace Go.Proofs.YtcnljemnkhmfcaaDoor
set_option linter.unusedVariables false
set_option linter.unusedSimpArgs false
open Go.RowKit

/-- The error and the pieces of an encoding. -/
def encE (D G : Int) (Gs : List (List Int)) (d : List UInt8) : Int := if chkE D Gs G = 0 then (if 4096 < d.length then 2 else 0) else chkE D Gs G
def encT (D G : Int) (Gs : List (List Int)) (d : List UInt8) : List (List UInt8) := if encE D G Gs d = 0 then encP D.toNat Gs (filP D.toNat (szP D.toNat d.length) d) (szP D.toNat d.length) (D.toNat + Gs.length + G.toNat) else []
def EncEnd (w : World) (L : List (List UInt8)) (E : Int) (e : Ending) (w' : World) : Prop := ∃ v, e = .returned (.tuple #[v, .int .i64 E]) ∧ OwnS w' w.heap.size v L ∧ Below w.heap.size w w'
theorem ownS_nil (w : World) (base : Nat) : OwnS w base (.slice none 0 0) [] := World.ownsRow_nil w base _ _
set_option maxRecDepth 100000 in
set_option maxHeartbeats 8000000 in
theorem encodeX_any {B : Nat} (D G : Int) (Gs : List (List Int)) (n c : Nat) (A : Option Addr) (d : List UInt8) (w : World) (hM : CodM w B D A n c G Gs) (ht : PTab 0 w) (hd : d.length ≤ 140737488351232) :
    Calls Tryd.prog 12 #[cdv D A n c G, sv d] w (EncEnd w (encT D G Gs d) (encE D G Gs d)) := by
  obtain ⟨W1, hW1⟩ : ∃ W1, W1 = w.alloc (.cells #[.int .i64 D, .slice A n c, .int .i64 G] 24) := ⟨_, rfl⟩
  have hB1 : Hid (Below w.heap.size w W1) := by show Below _ _ _; rw [hW1]; exact (Below.refl _ _).alloc (Nat.le_refl _) _
  have hC1 : Hid (Blk W1 w.heap.size [.int .i64 D, .slice A n c, .int .i64 G] 24) := by show Blk _ _ _ _; rw [hW1]; exact Blk.new _ [_, _, _] _
  have M1 := Lib.hid (hM.keep hB1.out)
  have T1 := Lib.hid (ht.on hB1.out)
  have hlen : Hid (n = Gs.length) := hM.len
  have p0 := hC1.out.cell (j := 0) rfl
  have p1 := hC1.out.cell (j := 1) rfl
  have p2 := hC1.out.cell (j := 2) rfl
  obtain ⟨Ck, hCk⟩ : ∃ x, x = chkE D Gs G := ⟨_, rfl⟩
  have CC := Lib.hid (ccheck_any D G Gs n c A W1 M1.out)
  rw [← hCk] at CC
  obtain ⟨L, hL⟩ : ∃ L, L = encT D G Gs d := ⟨_, rfl⟩
  obtain ⟨E, hE⟩ : ∃ E, E = encE D G Gs d := ⟨_, rfl⟩
  rw [← hL, ← hE]
  unfold encT at hL
  rw [← hE] at hL
  unfold encE at hE
  rw [← hCk] at hE
  have hLH := Lib.hid hL
  have hEH := Lib.hid hE
  have hCkH := Lib.hid hCk
  obtain ⟨q, hq⟩ : ∃ q, q = d.length := ⟨_, rfl⟩
  obtain ⟨S0, hS0⟩ : ∃ S, S = bs d := ⟨_, rfl⟩
  have hS0l : S0.size = q := by rw [hS0, bs_size, hq]
  have hqH := Lib.hid hq
  have hS0H := Lib.hid hS0
  unfold sv
  rw [← hS0]
  unfold cdv at CC ⊢
  subst hW1
  clear hM ht hL hE hCk hq hS0
  by_cases h0 : Ck = 0
  · have t0 : (Ck != 0) = false := by simpa using h0
    have h0H := Lib.hid h0
    by_cases hl : q ≤ 4096
    · have t1 : ¬ (4096 : Int) < (q : Int) := by omega
      have hE0 : Hid (E = 0) := by show _ = _; rw [hEH.out, if_pos h0, if_neg (by rw [← hqH.out]; omega)]
      obtain ⟨b1, b2, b3, b4, b5, b6⟩ := cchk_ok (hCkH.out.symm.trans h0)
      obtain ⟨dd, rfl⟩ : ∃ d : Nat, D = d := ⟨D.toNat, by omega⟩
      obtain ⟨g, rfl⟩ : ∃ g : Nat, G = g := ⟨G.toNat, by omega⟩
      have CE : Hid (∀ W, CodM W B (dd : Int) A n c (g : Int) Gs → PTab 0 W → Calls Tryd.prog 35 #[.agg #[.int .i64 dd, .slice A n c, .int .i64 g], .string S0] W (TextsEnd W L)) := fun W m t => by
        have := encode_any (G := g) d W m (by omega) (by omega) (by omega) (by have := hlen.out; omega) (grpE_rng Gs 0 (by rw [Int.toNat_natCast] at b6; exact b6)) (by have := hqH.out; omega) t
        rw [hLH.out, if_pos hE0.out, Int.toNat_natCast, Int.toNat_natCast, ← hlen.out, hS0H.out]
        exact this
      clear b1 b2 b3 b4 b5 b6 h0
      go_enter Tryd.func12, Tryd.ntmps12
      go_wp2_with fail
      refine CC.out.mono ?_
      rintro e w2 ⟨rfl, hb⟩
      have hC2 := hC1.out.below hb hC1.out.lt
      replace p0 := hC2.cell (j := 0) rfl
      replace p1 := hC2.cell (j := 1) rfl
      replace p2 := hC2.cell (j := 2) rfl
      have CE2 := Lib.hid (CE.out w2 (M1.out.keep hb) (T1.out.on hb))
      have hB2 : Hid (Below w.heap.size w w2) := hB1.out.trans (hb.mono hB1.out.size)
      clear hb hC2
      go_wp2_with fail
      refine CE2.out.mono ?_
      rintro e w3 ⟨A3, c3, rfl, hc3, hA3, hr3, hO3, hb3⟩
      have hend : Hid (EncEnd w L E (.returned (.tuple #[.slice A3 L.length c3, .int .i64 0])) w3) := ⟨_, by rw [hE0.out], hO3.up hB2.out.size, hB2.out.trans (hb3.mono hB2.out.size)⟩
      clear hc3 hA3 hr3 hO3 hb3
      go_wp2_with fail
      go_ret2
      exact hend.out
    · have t1 : (4096 : Int) < (q : Int) := by omega
      have hE0 : Hid (E = 2) := by show _ = _; rw [hEH.out, if_pos h0, if_pos (by rw [← hqH.out]; omega)]
      have hL0 : Hid (L = []) := by show _ = _; rw [hLH.out, if_neg (by rw [hE0.out]; decide)]
      go_enter Tryd.func12, Tryd.ntmps12
      go_wp2_with fail
      refine CC.out.mono ?_
      rintro e w2 ⟨rfl, hb⟩
      have hB2 : Hid (Below w.heap.size w w2) := hB1.out.trans (hb.mono hB1.out.size)
      clear hb
      go_wp2_with fail
      go_ret2
      exact ⟨_, by rw [hE0.out]; rfl, by rw [hL0.out]; exact ownS_nil _ _, hB2.out⟩
  · have t0 : (Ck != 0) = true := by simpa using h0
    have hE0 : Hid (E = Ck) := by show _ = _; rw [hEH.out, if_neg h0]
    have hL0 : Hid (L = []) := by show _ = _; rw [hLH.out, if_neg (by rw [hE0.out]; exact h0)]
    clear h0
    go_enter Tryd.func12, Tryd.ntmps12
    go_wp2_with fail
    refine CC.out.mono ?_
    rintro e w2 ⟨rfl, hb⟩
    have hB2 : Hid (Below w.heap.size w w2) := hB1.out.trans (hb.mono hB1.out.size)
    clear hb
    go_wp2_with fail
    go_ret2
    exact ⟨_, by rw [hE0.out]; rfl, by rw [hL0.out]; exact ownS_nil _ _, hB2.out⟩

/-- 'append(rows, more...)', rows the call's own. -/
theorem push_q7 {w : World} {ops : Array Oper} {rest : List Oper} {o : Oper} {a : Act} {Q : Exit → Act → World → Prop} (hgd : o.guard = none) (sl x : Operand)
    (ho : o.op = .call { callee := .builtin .append, args := #[sl, x], argTypes := #[29, 29] })
    (base : Nat) (v : Value) (k n c : Nat) (us vs : List Value) (ad : Addr) (hs : a.eval sl = v) (hx : a.eval x = .slice (some ad) n c) (hn : vs.length = n)
    (hr : ∀ j u, vs[j]? = some u → w.cell? (ad.add j) = some u) (h1 : ∀ u ∈ vs, u.oneCell' = true) (hown : w.ownsRow base 57 1 v k us) (hlen : k + n ≤ 1000000) (hbase : base ≤ w.heap.size)
    (h : ∀ v' w', w'.ownsRow base 57 1 v' (k + n) (us ++ vs) → Below base w w' → w.grownBy w' v.ownBlock → wpList Tryd.prog ops Q rest (a.put o.dst v') w') :
    wpList Tryd.prog ops Q (o :: rest) a w := by
  subst hn
  obtain ⟨i0, hi, hz0, hz1, hz2⟩ := info_parts infoRow
  refine wpList_append_own_at w hgd sl x 29 ho base 57 i0 _ 1 24 Tryd.underlying29 hi hz0 hz1 hz2 rfl (by decide) v k us hs hown ad vs.length c vs hx (by rw [Nat.mul_one]) hr h1 (by unfold maxLen; omega) (by omega) hbase ?_
  intro v' w' h2 h3 _ h5
  exact h v' w' h2 ((Below.refl _ _).grown h3 hbase fun _ hk => (hown.lt _ hk).1) h3
theorem make_rows7 {D cnt : Nat} (h : D ≤ cnt) (hc : cnt ≤ 1000) (w : World) : (Instr.makeSlice 29 (.int .i64 (D : Int)) (.int .i64 (cnt : Int))).run Tryd.prog w = .ok (.slice (some ⟨w.heap.size, 0, none⟩) D cnt) (w.alloc (.cells (madeCells #[.slice none 0 0] cnt) 57)) := by
  obtain ⟨i0, hi, hz0, hz1, hz2⟩ := info_parts infoRow
  have := run_make (P := Tryd.prog) w 29 57 i0 (.slice none 0 0) Tryd.underlying29 hi hz0 .i64 .i64 (D : Int) (cnt : Int) (by omega) (by omega) (by rw [hz2]; omega) (by omega)
  rw [Int.toNat_natCast, Int.toNat_natCast, hz1, Nat.mul_one] at this
  exact this
theorem PM_next (f : Nat → List UInt8) (k : Nat) : PM f (k + 1) = PM f k ++ [f k] := by unfold PM; rw [List.range_succ, List.map_append]; rfl
theorem unit_row {D k : Nat} {Gs : List (List Int)} (hk : k < D) : (List.replicate D (0 : UInt8)).set k 1 = crow D Gs k D := by
  refine row_ext (n := D) (by rw [List.length_set, List.length_replicate]) (crow_len _ _ _ _) fun t ht => ?_
  rw [crow_at D Gs k ht, List.getD_eq_getElem?_getD, List.getElem?_set]
  unfold cr
  rw [if_pos hk]
  by_cases e : k = t
  · subst e; rw [if_pos rfl, if_pos (by rw [List.length_replicate]; exact ht), if_pos rfl]; rfl
  · rw [if_neg e, if_neg (fun h => e h.symm), List.getElem?_replicate, if_pos ht]; rfl
theorem PM_split {D N : Nat} {Gs : List (List Int)} : PM (fun k => crow D Gs k D) (D + N) = PM (fun k => crow D Gs k D) D ++ PM (par D Gs) N := by
  unfold PM
  rw [List.range_add, List.map_append, List.map_map]
  congr 1
  exact List.map_congr_left fun t _ => (par_cr D Gs t).symm
theorem rvals_app {bs bs' : List Nat} {M M' : List (List UInt8)} (h : bs.length = M.length) : rvals (bs ++ bs') (M ++ M') = rvals bs M ++ rvals bs' M' := by unfold rvals; exact List.zipWith_append h
theorem rvals_one {bs : List Nat} {M : List (List UInt8)} : ∀ u ∈ rvals bs M, u.oneCell' = true := fun u hu => by
  unfold rvals at hu
  obtain ⟨i, hi⟩ := List.getElem?_of_mem hu
  rw [List.getElem?_zipWith] at hi
  cases h1 : bs[i]? with
  | none => rw [h1] at hi; cases hi
  | some b =>
    cases h2 : M[i]? with
    | none => rw [h1, h2] at hi; cases hi
    | some m =>
      rw [h1, h2] at hi
      obtain rfl := Option.some.inj hi
      rfl
theorem mat_rvals {w : World} {A : Option Addr} {bs : List Nat} {M : List (List UInt8)} (hl : bs.length = M.length) (hr : Rds w w.heap.size A (rvals bs M)) (hb : ∀ (i b : Nat) (m : List UInt8), bs[i]? = some b → M[i]? = some m → Blk w b (m.map bv) 5) (hc : ∀ m ∈ M, m.length ≤ maxLen) : Mat w w.heap.size A M := by
  refine ⟨rvals bs M, rvals_len hl, hr, fun i v m hv hm => ?_⟩
  obtain ⟨b, hbi⟩ : ∃ b, bs[i]? = some b := ⟨_, List.getElem?_eq_getElem (by rw [hl]; exact (List.getElem?_eq_some_iff.1 hm).1)⟩
  rw [rvals_get hbi hm] at hv
  obtain rfl := Option.some.inj hv
  refine ⟨some ⟨b, 0, none⟩, m.length, rfl, Nat.le_refl _, hc m (List.mem_of_getElem? hm), (fun hh => by cases hh), ?_⟩
  have := (hb i b m hbi hm).rds 0 m.length
  rw [List.drop_zero, List.take_of_length_le (by rw [List.length_map]; exact Nat.le_refl _)] at this
  exact this
end Go.Proofs.YtcnljemnkhmfcaaDoor

namespace Go.Proofs.YtcnljemnkhmfcaaDoor
set_option linter.unusedVariables false
set_option linter.unusedSimpArgs false
open Go.RowKit

/-- What Rows ends with. -/
def rowsT (D G : Int) (Gs : List (List Int)) : List (List UInt8) := if chkE D Gs G = 0 then PM (fun k => crow D.toNat Gs k D.toNat) (D.toNat + (Gs.length + G.toNat)) else []
def RowsEnd (w : World) (M : List (List UInt8)) (E : Int) (e : Ending) (w' : World) : Prop := ∃ A c, e = .returned (.tuple #[.slice A M.length c, .int .i64 E]) ∧ Mat w' w'.heap.size A M ∧ Below w.heap.size w w'
set_option maxRecDepth 100000 in
set_option maxHeartbeats 16000000 in
theorem rows_any {B : Nat} (D G : Int) (Gs : List (List Int)) (n c : Nat) (A : Option Addr) (w : World) (hM : CodM w B D A n c G Gs) (ht : PTab 0 w) :
    Calls Tryd.prog 11 #[cdv D A n c G] w (RowsEnd w (rowsT D G Gs) (chkE D Gs G)) := by
  have hun : Hid (Tryd.prog.underlying 24 = _) := Tryd.underlying24
  have hszc := Lib.hid size_cod
  obtain ⟨W1, hW1⟩ : ∃ W1, W1 = w.alloc (.cells #[.int .i64 D, .slice A n c, .int .i64 G] 24) := ⟨_, rfl⟩
  have hB1 : Hid (Below w.heap.size w W1) := by show Below _ _ _; rw [hW1]; exact (Below.refl _ _).alloc (Nat.le_refl _) _
  have hC1 : Hid (Blk W1 w.heap.size [.int .i64 D, .slice A n c, .int .i64 G] 24) := by show Blk _ _ _ _; rw [hW1]; exact Blk.new _ [_, _, _] _
  have M1 := Lib.hid (hM.keep hB1.out)
  have T1 := Lib.hid (ht.on hB1.out)
  have hlen : Hid (n = Gs.length) := hM.len
  have p0 := hC1.out.cell (j := 0) rfl
  have p1 := hC1.out.cell (j := 1) rfl
  have p2 := hC1.out.cell (j := 2) rfl
  obtain ⟨Ck, hCk⟩ : ∃ x, x = chkE D Gs G := ⟨_, rfl⟩
  have CC := Lib.hid (ccheck_any D G Gs n c A W1 M1.out)
  obtain ⟨R, hR⟩ : ∃ R, R = rowsT D G Gs := ⟨_, rfl⟩
  rw [← hCk] at CC ⊢
  rw [← hR]
  unfold rowsT at hR
  rw [← hCk] at hR
  have hRH := Lib.hid hR
  have hCkH := Lib.hid hCk
  unfold cdv at CC ⊢
  subst hW1
  clear hM ht hR hCk
  by_cases h0 : Ck = 0
  rotate_left
  · have t0 : (Ck != 0) = true := by simpa using h0
    have hR0 : Hid (R = []) := by show _ = _; rw [hRH.out, if_neg h0]
    clear h0
    go_enter Tryd.func11, Tryd.ntmps11
    go_wp2_with fail
    refine CC.out.mono ?_
    rintro e w2 ⟨rfl, hb⟩
    have hB2 : Hid (Below w.heap.size w w2) := hB1.out.trans (hb.mono hB1.out.size)
    clear hb
    go_wp2_with fail
    go_ret2
    exact ⟨none, 0, by rw [hR0.out]; rfl, by rw [hR0.out]; exact Mat.nil, hB2.out⟩
  · have t0 : (Ck != 0) = false := by simpa using h0
    obtain ⟨b1, b2, b3, b4, b5, b6⟩ := cchk_ok (hCkH.out.symm.trans h0)
    obtain ⟨d, rfl⟩ : ∃ d : Nat, D = d := ⟨D.toNat, by omega⟩
    obtain ⟨g, rfl⟩ : ∃ g : Nat, G = g := ⟨G.toNat, by omega⟩
    obtain ⟨N, hN⟩ : ∃ N, N = n + g := ⟨_, rfl⟩
    obtain ⟨cnt, hcnt⟩ : ∃ k, k = d + n + g := ⟨_, rfl⟩
    have hc24 : cnt ≤ 24 := by have := hlen.out; omega
    have hd16 : d ≤ 16 := by omega
    have hdc : d ≤ cnt := by omega
    have hcN : Hid (cnt = d + N) := by show _ = _; omega
    have hR0 : Hid (R = PM (fun k => crow d Gs k d) (d + N)) := by show _ = _; rw [hRH.out, if_pos h0, Int.toNat_natCast, Int.toNat_natCast, hN, hlen.out]
    have CN : Hid (∀ W, Calls Tryd.prog 33 #[.agg #[.int .i64 d, .slice A n c, .int .i64 g]] W fun e w' => e = .returned (.int .i64 (cnt : Int)) ∧ Below W.heap.size W w') := fun W => by rw [hcnt]; exact count_any d n g c A W (by omega) (by omega) (by omega)
    have CP : Hid (∀ W, CodM W B (d : Int) A n c (g : Int) Gs → PTab 0 W → Calls Tryd.prog 34 #[.agg #[.int .i64 d, .slice A n c, .int .i64 g]] W fun e w' => (∃ x bs, e = .returned (.slice (some ⟨x, 0, none⟩) N N) ∧ Om w' W.heap.size x bs (PM (par d Gs) N) []) ∧ Below W.heap.size W w') := fun W m t => by
      rw [hN]; exact parities_any d n c g Gs A W m (by omega) (by omega) (by have := hlen.out; omega) (grpE_rng Gs 0 (by rw [Int.toNat_natCast] at b6; exact b6)) t
    have h0H := Lib.hid h0
    clear b1 b2 b3 b4 b5 b6 hN hcnt h0
    go_enter Tryd.func11, Tryd.ntmps11
    go_wp2_with fail
    refine CC.out.mono ?_
    rintro e w2 ⟨rfl, hb⟩
    have hC2 := Lib.hid (hC1.out.below hb hC1.out.lt)
    have M2 := Lib.hid (M1.out.keep hb)
    have T2 := Lib.hid (T1.out.on hb)
    have hB2 : Hid (Below w.heap.size w w2) := hB1.out.trans (hb.mono hB1.out.size)
    clear hb p0 p1 p2 CC hC1 M1 T1 hB1
    go_wp2_with fail
    have q0 : ∀ q : ExtOf w2.drew, q.world.cell? ⟨w.heap.size, 0, none⟩ = some (.int .i64 d) := fun q => (hC2.out.drew.below q.ext hC2.out.lt).cell (j := 0) rfl
    refine wp_region_planM [] [(true, 0), (true, 1), (true, 2), (false, 3), (false, 4), (true, 5)] (by decide) (by kernel_rfl) (by kernel_rfl) (by decide) (by intro c a d v w h; cases d <;> exact h) ?_
    change wpPlanM _ _ _ _ _ _ w2.drew
    iterate 2 (refine wpPlanM_plain rfl (fun K hK => ?_); go_simp; refine hK _ ?_; clear hK K)
    refine wpPlanM_runW rfl (by rfl) _ (fun q => load_run 24 _ rfl w.heap.size 0 rfl [.int .i64 d, .slice A n c, .int .i64 g] _ hun.out rfl hszc.out q.world ((Blk.below hC2.out.drew q.ext hC2.out.lt).range 0 _ (take_all0 _))) ?_
    clear q0
    refine wpPlanM_call rfl (fun K hK => ?_)
    go_wp2_with fail
    refine (CN.out w2.drew).mono ?_
    rintro e w3 ⟨rfl, hb⟩
    have hbp := Lib.hid hb
    have hb23 : Hid (Below w2.heap.size w2 w3) := ((Below.refl _ _).drew).trans hb
    clear hb
    go_wp2_with fail
    refine planPostL_normal ⟨.inr hbp.out, hK _ _ ?_⟩
    clear hK K hbp
    have hC3 := Lib.hid (hC2.out.below hb23.out hC2.out.lt)
    have M3 := Lib.hid (M2.out.keep hb23.out)
    have T3 := Lib.hid (T2.out.on hb23.out)
    have hB3 : Hid (Below w.heap.size w w3) := hB2.out.trans (hb23.out.mono hB2.out.size)
    clear hC2 M2 T2 hB2 hb23
    have hmk := make_rows7 hdc (by omega) w3
    obtain ⟨W4, hW4⟩ : ∃ W4, W4 = w3.alloc (.cells (madeCells #[.slice none 0 0] cnt) 57) := ⟨_, rfl⟩
    rw [← hW4] at hmk
    have hb4 : Hid (Below w3.heap.size w3 W4) := by show Below _ _ _; rw [hW4]; exact (Below.refl _ _).alloc (Nat.le_refl _) _
    have hO4 : Hid (Om W4 w3.heap.size w3.heap.size [] (PM (fun k => crow d Gs k d) 0) (List.replicate cnt (.slice none 0 0))) := by
      show Om _ _ _ _ _ _
      refine Om.fresh (Nat.le_refl _) ?_
      rw [hW4, made_nils]
      exact Blk.new _ _ _
    refine wpPlanM_call rfl (fun K hK => ?_)
    go_wp2_with fail
    try rw [← hW4]
    refine planPostL_normal ⟨.inr hb4.out, hK _ _ ?_⟩
    clear hK K hmk hW4
    iterate 1 (refine wpPlanM_plain rfl (fun K hK => ?_); go_simp; refine hK _ ?_; clear hK K)
    refine wpPlanM_nil ?_
    have hlt3 : Hid (w.heap.size < w3.heap.size) := hC3.out.lt
    obtain ⟨gq, hgq⟩ : ∃ x, x = w3.heap.size := ⟨_, rfl⟩
    rw [← hgq] at hO4 hb4 hlt3 ⊢
    have hgqH : Hid (gq = w3.heap.size) := hgq
    clear hgq
    go_wp2_with fail
    go_loopw [19] (fun i wr => ∃ (k : Nat) (bl : List Nat), k ≤ d ∧ i = .int .i64 k ∧ Hid (Below gq w3 wr) ∧ Hid (Om wr gq gq bl (PM (fun k => crow d Gs k d) k) (List.replicate (cnt - k) (.slice none 0 0)))) (fun i _ => d - (intOf i).toNat)
    case atStart => exact ⟨0, [], by omega, rfl, hb4, hO4⟩
    case round =>
      clear hb4 hO4
      obtain ⟨k, bl, hk, rfl, hBr, hO⟩ := hrel
      have hCr := Lib.hid (hC3.out.below hBr.out hlt3.out)
      have p0 := hCr.out.cell (j := 0) rfl
      by_cases hlt : k < d
      · have tk : (k : Int) < (d : Int) := by omega
        obtain ⟨W5, hW5⟩ : ∃ W5, W5 = wr.alloc (.cells (madeCells #[.int .u8 0] d) 5) := ⟨_, rfl⟩
        have hb5 : Hid (Below wr.heap.size wr W5) := by show Below _ _ _; rw [hW5]; exact (Below.refl _ _).alloc (Nat.le_refl _) _
        have hZ5 : Hid (Blk W5 wr.heap.size ((List.replicate d (0 : UInt8)).map bv) 5) := by
          show Blk _ _ _ _
          rw [hW5, made_zeros, zeros_row]
          exact Blk.new _ _ _
        have hmk2 := run_make_row' (P := Tryd.prog) 57 5 (.int .u8 0) 1 Tryd.underlying57 infoByte rfl .i64 .i64 d (by omega) (by omega) wr
        rw [← hW5] at hmk2
        have hO5 := Lib.hid (hO.out.keep hb5.out)
        have hplen : (PM (fun k => crow d Gs k d) k).length = k := PM_len _ _
        have hlen5 : Hid (k + 1 ≤ (rvals bl (PM (fun k => crow d Gs k d) k) ++ List.replicate (cnt - k) (Value.slice none 0 0)).length) := by
          show _ ≤ _
          rw [List.length_append, rvals_len hO.out.len, hplen, List.length_replicate]
          omega
        have hgl : Hid (gq < wr.heap.size) := hO.out.out.lt
        have hbsl : Hid (∀ x ∈ bl, x < wr.heap.size) := fun x hx => by
          obtain ⟨j, hj⟩ := List.getElem?_of_mem hx
          have hjl := (List.getElem?_eq_some_iff.1 hj).1
          exact (hO.out.row j x _ hj (List.getElem?_eq_getElem (by rw [← hO.out.len]; exact hjl))).lt
        have HP : Hid (∀ W6, Only gq W5 W6 → Blk W6 gq (splice (rvals bl (PM (fun k => crow d Gs k d) k) ++ List.replicate (cnt - k) (Value.slice none 0 0)) k (Value.slice (some ⟨wr.heap.size, 0, none⟩) d d).cells.toList) 57 → Om W6 gq gq (bl ++ [wr.heap.size]) (PM (fun k => crow d Gs k d) k ++ [List.replicate d (0 : UInt8)]) (List.replicate (cnt - (k + 1)) (.slice none 0 0)) ∧ W6.cell? ⟨gq, k, none⟩ = some (.slice (some ⟨wr.heap.size, 0, none⟩) d d) ∧ Hid (Blk W6 wr.heap.size ((List.replicate d (0 : UInt8)).map bv) 5)) := fun W6 ho6 hW6 => by
          have hrep : List.replicate (cnt - k) (Value.slice none 0 0) = Value.slice none 0 0 :: List.replicate (cnt - (k + 1)) (.slice none 0 0) := by
            rw [show cnt - k = (cnt - (k + 1)) + 1 by omega, List.replicate_succ]
          have hgne : wr.heap.size ≠ gq := by have := hgl.out; omega
          have hO6 := Om.push (b := wr.heap.size) (m := List.replicate d (0 : UInt8)) (by have := hO5.out; rw [hrep] at this; exact this) ho6 (by
            rw [hrep] at hW6
            rw [hplen, List.length_replicate]
            exact hW6) (hZ5.out.only ho6 hgne) (by have := hgl.out; omega) hgne (fun hh => by have := hbsl.out _ hh; omega) (by rw [List.length_replicate]; unfold maxLen; omega)
          refine ⟨hO6, ?_, hZ5.out.only ho6 hgne⟩
          obtain ⟨b, hb, _, _, hcell, _⟩ := hO6.at (i := k) (m := List.replicate d (0 : UInt8)) (by rw [List.getElem?_append_right (by rw [hplen]; exact Nat.le_refl _), hplen, Nat.sub_self]; rfl)
          have hbl : bl.length = k := by rw [hO.out.len, hplen]
          rw [List.getElem?_append_right (by rw [hbl]; exact Nat.le_refl _), hbl, Nat.sub_self] at hb
          obtain rfl := Option.some.inj hb
          rw [List.length_replicate] at hcell
          exact hcell
        have tkd : k < d := hlt
        clear hW5 hplen
        have hfit : Hid (k + (bv 1).cells.size ≤ ((List.replicate d (0 : UInt8)).map bv).length) := by
          show k + 1 ≤ _
          rw [List.length_map, List.length_replicate]; omega
        go_wp2_with (first
          | (refine wpList_blk_store rfl 57 _ _ rfl k (.slice (some ⟨wr.heap.size, 0, none⟩) d d) rfl rfl hO5.out.out size_row hlen5.out (one_slice _ _ _) ?_; intro W6 hW6 ho6; obtain ⟨hO6, hcl6, hZ6⟩ := HP.out W6 ho6 hW6.out; clear hW6)
          | (refine wpList_blk_store rfl 5 _ _ rfl k (bv 1) rfl rfl hZ6.out size_u8 hfit.out (one_u8b 1) ?_; intro W7 hW7 ho7))
        have hO7 : Hid (Om W7 gq gq (bl ++ [wr.heap.size]) (PM (fun k => crow d Gs k d) (k + 1)) (List.replicate (cnt - (k + 1)) (.slice none 0 0))) := by
          have hpl : (PM (fun k => crow d Gs k d) k).length = k := PM_len _ _
          have hbl : bl.length = k := by rw [hO.out.len, hpl]
          have h7 : Blk W7 wr.heap.size ((crow d Gs k d).map bv) 5 := by
            have h := hW7.out
            have e := set_row (r := List.replicate d (0 : UInt8)) (rest := []) (z := 1) (j := k) (by rw [List.length_replicate]; exact hlt)
            rw [List.append_nil, List.append_nil, unit_row hlt] at e
            rw [e] at h
            exact h
          have h := hO6.setRow (i := k) (b := wr.heap.size) (m := List.replicate d (0 : UInt8)) (by rw [List.getElem?_append_right (by rw [hbl]; exact Nat.le_refl _), hbl, Nat.sub_self]; rfl) (by rw [List.getElem?_append_right (by rw [hpl]; exact Nat.le_refl _), hpl, Nat.sub_self]; rfl) ho7 h7 (by rw [crow_len, List.length_replicate])
          rw [List.set_append_right _ _ (by rw [hpl]; exact Nat.le_refl _), hpl, Nat.sub_self, List.set_cons_zero, ← PM_next] at h
          exact h
        have hB7 : Hid (Below gq w3 W7) := hBr.out.trans ((hb5.out.mono (Nat.le_of_lt hgl.out)).trans ((ho6.below (Nat.le_refl _)).trans (ho7.below (Nat.le_of_lt hgl.out))))
        clear hW7 ho7 ho6 hO6 hcl6 hmk2
        go_roundw
        case rel => exact ⟨k + 1, _, by omega, by go_num, hB7, hO7⟩
        case measure => simp [intOf]; omega
      · have tk : ¬ (k : Int) < (d : Int) := by omega
        obtain rfl : d = k := by omega
        obtain ⟨wR, rfl⟩ : ∃ x, x = wr := ⟨_, rfl⟩
        have p1 := hCr.out.cell (j := 1) rfl
        have p2 := hCr.out.cell (j := 2) rfl
        have hb3R : Hid (Below w3.heap.size w3 wR) := by show Below _ _ _; rw [← hgqH.out]; exact hBr.out
        have CPR := Lib.hid (CP.out wR (M3.out.keep hb3R.out) (T3.out.on hb3R.out))
        clear hlt tk hk
        go_wp2_with fail
        refine CPR.out.mono ?_
        rintro e wP ⟨⟨x, bl2, rfl, hOm⟩, hb⟩
        have hOP := Lib.hid (hO.out.keep hb)
        have hOmH := Lib.hid hOm
        have hBP : Hid (Below gq w3 wP) := hBr.out.trans (hb.mono (Nat.le_of_lt hO.out.out.lt))
        have hgP : Hid (gq < wP.heap.size) := hOP.out.out.lt
        have hgx : Hid (gq < wR.heap.size) := hO.out.out.lt
        have hRP := Lib.hid hb.size
        have hown : Hid (wP.ownsRow gq 57 1 (.slice (some ⟨gq, 0, none⟩) d cnt) d (rvals bl (PM (fun k => crow d Gs k d) d))) := by
          have hl : (rvals bl (PM (fun k => crow d Gs k d) d)).length = d := by rw [rvals_len hOP.out.len, PM_len]
          refine ⟨by rw [hl, Nat.mul_one], .inr ⟨gq, cnt, _, rfl, Nat.le_refl _, hOP.out.out, hdc, by unfold maxLen; omega, ?_, ?_⟩⟩
          · show (List.toArray _).size = _
            rw [List.size_toArray, List.length_append, hl, List.length_replicate]; omega
          · rw [Nat.mul_one, List.take_append_of_le_length (by rw [hl]; exact Nat.le_refl _), List.take_of_length_le (by rw [hl]; exact Nat.le_refl _)]
        have hvs : Hid (∀ j u, (rvals bl2 (PM (par d Gs) N))[j]? = some u → wP.cell? (Addr.add ⟨x, 0, none⟩ j) = some u) := fun j u hu => by
          have h := hOmH.out.out.cell (j := j) (v := u) (by rw [List.append_nil]; exact hu)
          by_cases hj : j = 0
          · subst hj; exact h
          · unfold Addr.add
            rw [if_neg hj, Nat.zero_add]
            exact h
        have hN24 : d + N ≤ 1000000 := by have := hcN.out; omega
        have hvl : Hid ((rvals bl2 (PM (par d Gs) N)).length = N) := by show _ = _; rw [rvals_len hOmH.out.len, PM_len]
        clear hb hOm p0 p1 p2 CPR
        go_wp2_with (at_builtin; go_must (refine push_q7 rfl _ _ rfl gq (.slice (some ⟨gq, 0, none⟩) d cnt) d N N (rvals bl (PM (fun k => crow d Gs k d) d)) (rvals bl2 (PM (par d Gs) N)) ⟨x, 0, none⟩ rfl rfl hvl.out hvs.out rvals_one hown.out hN24 (Nat.le_of_lt hgP.out) ?_); intro v' w9 ho9 hb9 hg9)
        obtain ⟨A9, c9, e9, _, _, _, hr9⟩ := own_form ho9
        have hR9 : Hid (Mat w9 w9.heap.size A9 R) := by
          show Mat _ _ _ _
          rw [hR0.out, PM_split]
          rw [← rvals_app hOP.out.len] at hr9
          refine mat_rvals (by rw [List.length_append, List.length_append, hOP.out.len, hOmH.out.len]) hr9 (fun i b m hbi hm => ?_) (fun m hm => ?_)
          · have hb : Blk wP b (m.map bv) 5 ∧ b ≠ gq := by
              rcases Nat.lt_or_ge i bl.length with hi | hi
              · rw [List.getElem?_append_left hi] at hbi
                rw [List.getElem?_append_left (by rw [← hOP.out.len]; exact hi)] at hm
                exact ⟨hOP.out.row i b m hbi hm, hOP.out.ne b (List.mem_of_getElem? hbi)⟩
              · rw [List.getElem?_append_right hi] at hbi
                rw [List.getElem?_append_right (by rw [← hOP.out.len]; exact hi), ← hOP.out.len] at hm
                exact ⟨hOmH.out.row _ b m hbi hm, by have := hOmH.out.lows b (List.mem_of_getElem? hbi); have := hgx.out; omega⟩
            exact (hg9.block b hb.1.lt (fun hh => hb.2 (Option.some.inj hh))).trans hb.1
          · rcases List.mem_append.1 hm with hm | hm
            · exact hOP.out.caps m hm
            · exact hOmH.out.caps m hm
        have hRl : Hid (R.length = d + N) := by show _ = _; rw [hR0.out, PM_len]
        have hend : Hid (Below w.heap.size w w9) := hB3.out.trans ((hBP.out.trans hb9).mono (Nat.le_of_lt hlt3.out))
        subst e9
        clear ho9 hb9 hg9 hr9
        go_wp2_with fail
        go_ret2
        exact ⟨A9, c9, by rw [hRl.out, h0H.out]; rfl, hR9.out, hend.out⟩
end Go.Proofs.YtcnljemnkhmfcaaDoor

namespace Go.Proofs.YtcnljemnkhmfcaaDoor
set_option linter.unusedVariables false
set_option linter.unusedSimpArgs false
open Go.RowKit

theorem repeat_zeros : ∀ n, Lib.repeatL [(0 : UInt8)] n = List.replicate n 0
  | 0 => rfl
  | n + 1 => by
    show [0] ++ Lib.repeatL [0] n = _
    rw [repeat_zeros n]
    rfl
theorem repeat_any (z : Nat) (w : World) (hz : z ≤ 1000000) : Calls Tryd.prog 63 #[.string ⟨#[0]⟩, .int .i64 z] w fun e w' => e = .returned (sv (List.replicate z 0)) ∧ Below w.heap.size w w' := by
  refine (Tryd.strings_Repeat ⟨#[0]⟩ z w (by omega) (by show 1 * z ≤ _; omega)).mono ?_
  rintro e w' ⟨rfl, hb⟩
  refine ⟨?_, hb⟩
  rw [show (ByteArray.mk #[(0 : UInt8)]).data.toList = [0] from rfl, repeat_zeros]
  rfl
set_option maxRecDepth 100000 in
set_option maxHeartbeats 1000000 in
theorem sclone_any (S : ByteArray) (w : World) (hS : S.size ≤ 140737488355328) : Calls Tryd.prog 44 #[.string S] w fun e w' => e = .returned (.string S) ∧ Below w.heap.size w w' := by
  have C := Lib.hid (Tryd.stringslite_Clone S w (by omega))
  go_enter Tryd.func44, Tryd.ntmps44
  go_wp2_with fail
  refine C.out.mono ?_
  rintro e w' ⟨rfl, hb⟩
  have hbH := Lib.hid hb
  clear hb
  go_wp2_with fail
  go_ret
  exact ⟨rfl, hbH.out⟩
theorem join_flat : ∀ L : List (List UInt8), Lib.join L [] = L.flatten := by
  intro L
  induction L with
  | nil => rfl
  | cons x L ih =>
    cases L with
    | nil => simp [Lib.join]
    | cons y L =>
      have : Lib.join (x :: y :: L) [] = x ++ [] ++ Lib.join (y :: L) [] := by simp [Lib.join]
      rw [this, ih, List.append_nil]
      simp
set_option maxRecDepth 100000 in
/-- 'append(l, x...)', texts. -/
theorem push_ss {w : World} {ops : Array Oper} {rest : List Oper} {o : Oper} {a : Act} {Q : Exit → Act → World → Prop} (hgd : o.guard = none) (sl x : Operand)
    (ho : o.op = .call { callee := .builtin .append, args := #[sl, x], argTypes := #[32, 32] })
    (base : Nat) (v : Value) (M L : List (List UInt8)) (ad : Addr) (n c B : Nat) (hs : a.eval sl = v) (hx : a.eval x = .slice (some ad) n c) (hn : n = L.length)
    (hr : Rds w B (some ad) (L.map sv)) (hown : OwnS w base v M) (hlen : M.length + n ≤ 1000000) (hbase : base ≤ w.heap.size)
    (h : ∀ v' w', OwnS w' base v' (M ++ L) → Below base w w' → wpList Tryd.prog ops Q rest (a.put o.dst v') w') :
    wpList Tryd.prog ops Q (o :: rest) a w := by
  subst hn
  obtain ⟨i0, hi, hz0, hz1, hz2⟩ := info_parts infoStr7
  refine wpList_append_own_at w hgd sl x 32 ho base 9 i0 _ 1 16 Tryd.underlying32 hi hz0 hz1 hz2 rfl (by decide) v M.length _ hs hown ad L.length c (L.map sv) hx (by rw [List.length_map]; omega) (fun j u hu => ?_)
    (by intro u hu; obtain ⟨b, _, rfl⟩ := List.mem_map.1 hu; rfl) (by unfold maxLen; omega) (by omega) hbase ?_
  · obtain ⟨ad', he, _, hc⟩ := hr.look hu
    injection he with he
    subst he
    exact hc
  · intro v' w' h2 h3 _ h5
    refine h v' w' ?_ ((Below.refl _ _).grown h3 hbase fun _ hk => (hown.lt _ hk).1)
    unfold OwnS
    rw [List.length_append, List.map_append]
    exact h2
theorem ownS_made (w : World) (base : Nat) (hb : base ≤ w.heap.size) : OwnS (w.alloc (.cells #[] 9)) base (.slice (some ⟨w.heap.size, 0, none⟩) 0 0) [] :=
  ⟨rfl, .inr ⟨w.heap.size, 0, #[], rfl, hb, heap_alloc_new w _, Nat.le_refl _, Nat.zero_le _, rfl, rfl⟩⟩
set_option maxRecDepth 100000 in
set_option maxHeartbeats 1000000 in
theorem clone7_any (L : List (List UInt8)) (ad : Addr) (n c B : Nat) (w : World) (hr : Rds w B (some ad) (L.map sv)) (hn : n = L.length) (hl : n ≤ 100000) (hB : B ≤ w.heap.size) :
    Calls Tryd.prog 62 #[.slice (some ad) n c] w fun e w' => ∃ v', e = .returned v' ∧ OwnS w' w.heap.size v' L ∧ Below w.heap.size w w' := by
  have hb1 : Hid (Below w.heap.size w (w.alloc (.cells #[] 9))) := (Below.refl _ _).alloc (Nat.le_refl _) _
  have hO1 := Lib.hid (ownS_made w w.heap.size (Nat.le_refl _))
  have hrH : Hid (Rds (w.alloc (.cells #[] 9)) B (some ad) (L.map sv)) := hr.alloc hB _
  have hnH := Lib.hid hn
  have hcmp := Lib.run_eql_slice_nil (P := Tryd.prog) w _ _ (some ad) n c 0 0 Tryd.underlying32
  clear hr hn
  go_enter Tryd.func62, Tryd.ntmps62
  go_wp2_with (at_builtin; go_must (refine push_ss rfl _ _ rfl w.heap.size _ [] L ad n c B rfl rfl hnH.out hrH.out hO1.out (by simp; omega) hb1.out.size ?_); intro v2 w2 ho2 hb2)
  have hO2 : Hid (OwnS w2 w.heap.size v2 L) := ho2
  have hB2 := Lib.hid (hb1.out.trans hb2)
  go_wp2_with fail
  go_ret
  exact ⟨_, rfl, hO2.out, hB2.out⟩
set_option maxRecDepth 100000 in
theorem hcf_solve1 (args : Array Value) (W : World) : (callFunc 65 args).run Tryd.prog W = .ok (.enter 65 args) W := by
  first
    | rfl
    | (with_unfolding_all rfl)
    | kernel_rfl
set_option maxRecDepth 100000 in
set_option maxHeartbeats 8000000 in
theorem solve1_any {B D N n c s z k cnt pc dc gr gd gp gc : Nat} {G : Int} {A MA DA PA : Option Addr} {Gs : List (List Int)} {ps : List (List UInt8)} (w : World) (hD : 1 ≤ D) (hD16 : D ≤ 16) (hk : k < N) (hN : N ≤ 28) (hb : s.testBit (D + k) = true) (hz : ∀ k, k < D + N → s.testBit k = true → (ps.getD k []).length = z) (hz5 : z ≤ 5000)
    (hcnt : cnt = D + N) (hpl : ps.length = cnt) (hM : Mat w B MA (PM (par D Gs) N)) (hd : Rds w B DA ((dat0 D s z ps).map sv)) (hp : Rds w B PA (ps.map sv)) (hB : B ≤ w.heap.size) (b1 : Blk w gr [.slice MA N N] 29) (b2 : Blk w gd [.slice DA D dc] 32) (b3 : Blk w gp [.slice PA cnt pc] 32) (b4 : Blk w gc [.int .i64 D, .slice A n c, .int .i64 G] 24) (ht : PTab 0 w) :
    Calls Tryd.prog 65 #[.int .i64 k, .pointer (some ⟨gr, 0, none⟩), .pointer (some ⟨gd, 0, none⟩), .pointer (some ⟨gp, 0, none⟩), .pointer (some ⟨gc, 0, none⟩)] w fun e w' => e = .returned (sv (sum7 D Gs s z ps k)) ∧ Below w.heap.size w w' := by
  have hzD : ∀ k, k < D → s.testBit k = true → (ps.getD k []).length = z := fun k h1 h2 => hz k (by omega) h2
  obtain ⟨ad, vr, hA, hab, hcr, ra, rc, rfl, hrl, hrc, hra, hrr⟩ := hM.at (PM_get (par D Gs) hk)
  subst hA
  have hlp : (par D Gs k).length = D := by rw [par_cr, crow_len]
  rw [hlp] at hcr
  have CB : Hid (∀ W, Below w.heap.size w W → Calls Tryd.prog 57 #[.slice ra D rc, .slice DA D dc] W fun e w' => e = .returned (.tuple #[sv (Gf.comb (par D Gs k) (dat0 D s z ps)), .int .i64 0]) ∧ Below W.heap.size W w') := fun W hW => by
    have := combine_ok (par D Gs k) (dat0 D s z ps) ra DA rc dc W (by rw [dat0_len]; omega) (fun x hx => by rw [dat0_all hzD x hx]; omega) ((hrr.below (hW.mono hB)).more (Nat.le_trans hB hW.size)) ((hd.below (hW.mono hB)).more (Nat.le_trans hB hW.size)) (fit_dat hD hzD) (ht.on hW)
    rw [hlp, dat0_len] at this
    exact this
  obtain ⟨K1, hK1⟩ : ∃ K, K = Gf.comb (par D Gs k) (dat0 D s z ps) := ⟨_, rfl⟩
  have hK1l : K1.length ≤ 140737488355328 := by
    rw [hK1]
    have : (Gf.comb (par D Gs k) (dat0 D s z ps)).length = ((dat0 D s z ps).headD []).length := by unfold Gf.comb Gf.combN; simp
    rw [this, List.headD_eq_head?_getD, List.head?_eq_getElem?, dat0_get (by omega)]
    show (if s.testBit 0 = true then _ else _ : List UInt8).length ≤ _
    have := dat0_all hzD _ (List.mem_of_getElem? (dat0_get (show 0 < D by omega)))
    rw [this]; omega
  obtain ⟨p, hpk⟩ : ∃ p, p = ps.getD (D + k) [] := ⟨_, rfl⟩
  have hpl2 : p.length = z := by rw [hpk]; exact hz (D + k) (by omega) hb
  have hpat : ps[D + k]? = some p := by rw [hpk, List.getD_eq_getElem?_getD, List.getElem?_eq_getElem (by omega)]; rfl
  have SM : Hid (∀ W, Calls Tryd.prog 30 #[sv p, sv K1] W fun e w' => e = .returned (sv (sum7 D Gs s z ps k)) ∧ Below W.heap.size W w') := fun W => by
    unfold sum7
    rw [← hK1, ← hpk]
    exact sum_any p K1 W (by omega) hK1l
  rw [← hK1] at CB
  obtain ⟨pa, hpa, _, hcp⟩ := hp.look (k := D + k) (u := sv p) (by rw [List.getElem?_map, hpat]; rfl)
  subst hpa
  obtain ⟨SP, hSP⟩ : ∃ S, S = bs p := ⟨_, rfl⟩
  obtain ⟨SK, hSK⟩ : ∃ S, S = bs K1 := ⟨_, rfl⟩
  obtain ⟨F, hF⟩ : ∃ F, F = sum7 D Gs s z ps k := ⟨_, rfl⟩
  unfold sv at SM CB hcp ⊢
  rw [← hSP] at SM hcp
  rw [← hSK] at SM CB
  rw [← hF] at SM ⊢
  have b1H := Lib.hid b1
  have b2H := Lib.hid b2
  have b3H := Lib.hid b3
  have b4H := Lib.hid b4
  have hcpH : Hid (∀ W, Below w.heap.size w W → W.cell? (pa.add (D + k)) = some (.string SP)) := fun W hW => (hW.cell (World.block_lt_of_cell? w _ hcp)).trans hcp
  have hcrH : Hid (∀ W, Below w.heap.size w W → W.cell? (ad.add k) = some (.slice ra D rc)) := fun W hW => (hW.cell (World.block_lt_of_cell? w _ hcr)).trans hcr
  have tk : (k : Int) < (N : Int) := by omega
  have tk0 : 0 ≤ (k : Int) := by omega
  have eDk : (D : Int) + (k : Int) = ((D + k : Nat) : Int) := by omega
  obtain ⟨q, hq⟩ : ∃ q, q = D + k := ⟨_, rfl⟩
  rw [← hq] at eDk hcpH
  have tq : (q : Int) < (cnt : Int) := by omega
  have tq0 : 0 ≤ (q : Int) := by omega
  clear hb hz hzD hcnt hpl hM hd hp b1 b2 b3 b4 ht hab hcr hrl hrc hra hrr hlp hK1 hK1l hpk hpl2 hpat hcp hSP hSK hF hq
  go_enter Tryd.func65, Tryd.ntmps65
  go_wp2_with fail
  have hd0 : Below w.heap.size w w.drew := (Below.refl _ _).drew
  have q1 : ∀ x : ExtOf w.drew, x.world.cell? ⟨gr, 0, none⟩ = some (.slice (some ad) N N) := fun x => (b1H.out.drew.below x.ext b1H.out.lt).cell (j := 0) rfl
  have q2 : ∀ x : ExtOf w.drew, x.world.cell? ⟨gd, 0, none⟩ = some (.slice DA D dc) := fun x => (b2H.out.drew.below x.ext b2H.out.lt).cell (j := 0) rfl
  have q3 : ∀ x : ExtOf w.drew, x.world.cell? (ad.add k) = some (.slice ra D rc) := fun x => hcrH.out _ (hd0.trans x.ext)
  refine wp_region_planM [] [(true, 0), (true, 1), (true, 2), (true, 3), (true, 4), (false, 5), (true, 6), (true, 7), (true, 8), (true, 9), (true, 10)] (by decide) (by kernel_rfl) (by kernel_rfl) (by decide) (by intro c a d v w h; cases d <;> exact h) ?_
  change wpPlanM _ _ _ _ _ _ w.drew
  iterate 5 (refine wpPlanM_plain rfl (fun K hK => ?_); go_simp; refine hK _ ?_; clear hK K)
  clear q1 q2 q3
  refine wpPlanM_call rfl (fun K hK => ?_)
  go_wp2_with fail
  refine (CB.out w.drew hd0).mono ?_
  rintro e w2 ⟨rfl, hb⟩
  have hbp := Lib.hid hb
  have hB2 : Hid (Below w.heap.size w w2) := hd0.trans hb
  clear hb
  go_wp2_with fail
  refine planPostL_normal ⟨.inr hbp.out, hK _ _ ?_⟩
  clear hK K hbp
  iterate 5 (refine wpPlanM_plain rfl (fun K hK => ?_); go_simp; refine hK _ ?_; clear hK K)
  refine wpPlanM_nil ?_
  have p3 : w2.cell? ⟨gp, 0, none⟩ = some (.slice (some pa) cnt pc) := (b3H.out.below hB2.out b3H.out.lt).cell (j := 0) rfl
  have p4 : w2.cell? ⟨gc, 0, none⟩ = some (.int .i64 D) := (b4H.out.below hB2.out b4H.out.lt).cell (j := 0) rfl
  have p5 := hcpH.out w2 hB2.out
  go_wp2_with fail
  refine (SM.out w2).mono ?_
  rintro e w3 ⟨rfl, hb⟩
  have hB3 : Hid (Below w.heap.size w w3) := hB2.out.trans (hb.mono hB2.out.size)
  clear hb
  go_wp2_with fail
  go_ret
  exact ⟨rfl, hB3.out⟩
end Go.Proofs.YtcnljemnkhmfcaaDoor

namespace Go.Proofs.YtcnljemnkhmfcaaDoor
set_option linter.unusedVariables false
set_option linter.unusedSimpArgs false
open Go.RowKit

theorem Om.only7 {w w' : World} {base g k : Nat} {bs : List Nat} {M : List (List UInt8)} {rest : List Value} (h : Om w base g bs M rest) (ho : Only k w w') (h1 : g ≠ k) (h2 : ∀ b ∈ bs, b ≠ k) : Om w' base g bs M rest :=
  ⟨h.len, h.out.only ho h1, fun i b m hb hm => (h.row i b m hb hm).only ho (h2 b (List.mem_of_getElem? hb)), h.low, h.lows, h.ne, h.nodup, h.caps⟩
theorem OwnP.only7 {w w' : World} {base k : Nat} {v : Value} {l : List Nat} (h : OwnP w base v l) (ho : Only k w w') (hk : ∀ b, v.ownBlock = some b → b ≠ k) : OwnP w' base v l := h.kept fun b hb _ => ho.block b (hk b hb)
theorem OwnP.keep7 {w w' : World} {base : Nat} {v : Value} {l : List Nat} (h : OwnP w base v l) (hb : Below w.heap.size w w') : OwnP w' base v l := h.kept fun b _ hlt => hb.block b hlt
theorem OwnP.blk7 {w : World} {base b : Nat} {v : Value} {l : List Nat} (h : OwnP w base v l) (hb : v.ownBlock = some b) : base ≤ b ∧ b < w.heap.size := World.ownsRow.lt h b hb
/-- What stands behind solve's first region. -/
def SolR (W1 : World) (D N s : Nat) (Gs : List (List Int)) (v10 v11 : Value) (W : World) : Prop :=
  ∃ gR x bl, v10 = .pointer (some ⟨gR, 0, none⟩) ∧ W1.heap.size ≤ gR ∧ Blk W gR [.slice (some ⟨x, 0, none⟩) N N] 29 ∧ Om W W1.heap.size x bl (PM (par D Gs) N) [] ∧ OwnP W W1.heap.size v11 (misL s D) ∧ Below W1.heap.size W1 W
theorem Om.up7 {w : World} {base base' g : Nat} {bs : List Nat} {M : List (List UInt8)} {rest : List Value} (h : Om w base g bs M rest) (hb : base' ≤ base) : Om w base' g bs M rest :=
  ⟨h.len, h.out, h.row, Nat.le_trans hb h.low, fun b hb' => Nat.le_trans hb (h.lows b hb'), h.ne, h.nodup, h.caps⟩
theorem OwnP.up7 {w : World} {base base' : Nat} {v : Value} {l : List Nat} (h : OwnP w base v l) (hb : base' ≤ base) : OwnP w base' v l := by
  refine ⟨h.1, ?_⟩
  rcases h.2 with hn | ⟨g, cap, cur, hv, hg, rest⟩
  · exact .inl hn
  · exact .inr ⟨g, cap, cur, hv, Nat.le_trans hb hg, rest⟩
theorem size_rows7 : (Tryd.prog.info? 29).map (·.size) = some 1 := by kernel_rfl
theorem size_texts7 : (Tryd.prog.info? 32).map (·.size) = some 1 := by kernel_rfl
theorem ownS_blk {w : World} {base : Nat} {v : Value} {l : List (List UInt8)} (h : OwnS w base v l) (h0 : 0 < l.length) : ∃ g c rest, v = .slice (some ⟨g, 0, none⟩) l.length c ∧ base ≤ g ∧ Blk w g (l.map sv ++ rest) 9 ∧ l.length ≤ c := by
  rcases h.2 with ⟨_, hn⟩ | ⟨g, cap, cur, hv, hg, hh, h1, h2, h3, h4⟩
  · omega
  · refine ⟨g, cap, cur.toList.drop (l.length * 1), hv, hg, ?_, h1⟩
    rw [← h4, List.take_append_drop]
    exact hh
/-- The data pieces, where the first j lost ones have been set. -/
def datJ (D s : Nat) (ps : List (List UInt8)) (f : Nat → List UInt8) (ol : List (List UInt8)) (j : Nat) : List (List UInt8) := (List.range D).map fun i => if s.testBit i then ps.getD i [] else if (misL s i).length < j then f (misL s i).length else ol.getD i []
theorem datJ_len (D s : Nat) (ps : List (List UInt8)) (f : Nat → List UInt8) (ol : List (List UInt8)) (j : Nat) : (datJ D s ps f ol j).length = D := by unfold datJ; simp
theorem datJ_zero {D s : Nat} {ps ol : List (List UInt8)} (f : Nat → List UInt8) (h : ∀ i, i < D → s.testBit i = true → ol.getD i [] = ps.getD i []) (hl : ol.length = D) : datJ D s ps f ol 0 = ol := by
  apply List.ext_getElem?
  intro t
  by_cases ht : t < D
  · unfold datJ
    rw [List.getElem?_map, List.getElem?_range ht]
    show some (if s.testBit t = true then _ else _) = _
    have e : ol[t]? = some (ol.getD t []) := by rw [List.getD_eq_getElem?_getD, List.getElem?_eq_getElem (by omega)]; rfl
    rw [e]
    by_cases hb : s.testBit t = true
    · rw [if_pos hb, h t ht hb]
    · rw [if_neg hb, if_neg (by omega)]
  · rw [List.getElem?_eq_none (by rw [datJ_len]; omega), List.getElem?_eq_none (by omega)]
theorem datJ_next {D s j i : Nat} {ps ol : List (List UInt8)} {f : Nat → List UInt8} (hi : (misL s D)[j]? = some i) : (datJ D s ps f ol j).set i (f j) = datJ D s ps f ol (j + 1) := by
  obtain ⟨h1, h2, h3⟩ := mis_at hi
  apply List.ext_getElem?
  intro t
  rw [List.getElem?_set]
  by_cases ht : t < D
  · by_cases e : i = t
    · subst e
      rw [if_pos rfl, if_pos (by rw [datJ_len]; exact ht)]
      unfold datJ
      rw [List.getElem?_map, List.getElem?_range ht]
      show _ = some (if s.testBit i = true then _ else _)
      rw [if_neg (by rw [h2]; decide), h3, if_pos (by omega)]
    · rw [if_neg e]
      unfold datJ
      rw [List.getElem?_map, List.getElem?_map, List.getElem?_range ht]
      show some (if s.testBit t = true then _ else _) = some (if s.testBit t = true then _ else _)
      cases hb : s.testBit t with
      | true => rfl
      | false =>
        have hm := mis_of ht hb
        have hne : (misL s t).length ≠ j := fun hh => by
          rw [hh, hi] at hm
          exact e (Option.some.inj hm)
        simp only [Bool.false_eq_true, if_false]
        by_cases hlt : (misL s t).length < j
        · rw [if_pos hlt, if_pos (by omega)]
        · rw [if_neg hlt, if_neg (by omega)]
  · rw [if_neg (by omega), List.getElem?_eq_none (by rw [datJ_len]; omega), List.getElem?_eq_none (by rw [datJ_len]; omega)]
theorem datJ_all (D s : Nat) (ps ol : List (List UInt8)) (f : Nat → List UInt8) : datJ D s ps f ol (misL s D).length = (List.range D).map fun i => if s.testBit i then ps.getD i [] else f (misL s i).length := by
  unfold datJ
  refine List.map_congr_left fun i hi => ?_
  have hi' := List.mem_range.1 hi
  cases hb : s.testBit i with
  | true => rfl
  | false =>
    have := (List.getElem?_eq_some_iff.1 (mis_of hi' hb)).1
    simp only [Bool.false_eq_true, if_false]
    rw [if_pos this]
theorem set_rowS {r : List (List UInt8)} {rest : List Value} {j : Nat} {y : List UInt8} (hj : j < r.length) : splice (r.map sv ++ rest) j (Value.string (bs y)).cells.toList = (r.set j y).map sv ++ rest := by
  show splice _ j [sv y] = _
  rw [splice_set _ _ _ (by simp; omega), List.set_append_left _ _ (by rw [List.length_map]; exact hj), List.map_set]
theorem sum7_len {D N s z k : Nat} {Gs : List (List Int)} {ps : List (List UInt8)} (hD : 1 ≤ D) (hz : ∀ k, k < D + N → s.testBit k = true → (ps.getD k []).length = z) (hk : k < N) (hb : s.testBit (D + k) = true) : (sum7 D Gs s z ps k).length = z := by
  unfold sum7
  rw [Gf.vsum_len, hz (D + k) (by omega) hb]
  have : (Gf.comb (par D Gs k) (dat0 D s z ps)).length = z := by
    unfold Gf.comb Gf.combN
    rw [List.length_map, List.length_range, List.headD_eq_head?_getD, List.head?_eq_getElem?, dat0_get (by omega)]
    exact dat0_all (fun k h1 h2 => hz k (by omega) h2) _ (List.mem_of_getElem? (dat0_get (show 0 < D by omega)))
  rw [this]
  exact Nat.max_self z
theorem sol_len {D s z : Nat} {ps R : List (List UInt8)} (hz : ∀ k, k < D → s.testBit k = true → (ps.getD k []).length = z) (hR : ∀ j, j < (misL s D).length → (R.getD j []).length = z) : (solD D s z ps R).flatten.length = D * z := by
  have hsd : ∀ x ∈ solD D s z ps R, x.length = z := fun x hx => by
    obtain ⟨i, hi, rfl⟩ := List.mem_map.1 hx
    have hi' := List.mem_range.1 hi
    cases hb : s.testBit i with
    | true => exact hz i hi' hb
    | false => exact hR _ (List.getElem?_eq_some_iff.1 (mis_of hi' hb)).1
  have h := (flat_get hsd).1
  rw [show (solD D s z ps R).length = D by unfold solD; simp] at h
  exact h
theorem resF_lens {wd z : Nat} {st : Nat → List UInt8} (h1 : Stc st wd (wd + z)) (hf : ∀ k, k < wd → st k ≠ []) : ∀ j, j < wd → ((resF wd st wd).getD j []).length = z := fun j hj => by
  unfold resF
  rw [List.getD_eq_getElem?_getD, List.getElem?_map, List.getElem?_range hj]
  show (if wd - wd ≤ j then _ else _ : List UInt8).length = _
  rw [if_pos (by omega), List.length_drop, lowD_len (fun k hk => (h1.len k hk).resolve_left (hf k hk)) wd (Nat.le_refl _) j hj]
  omega
/-- What solve ends with. -/
def SolEnd7 (w : World) (D N s z : Nat) (Gs : List (List Int)) (ps : List (List UInt8)) (e : Ending) (w' : World) : Prop :=
  ∃ (F : List UInt8) (ok : Bool), e = .returned (.tuple #[sv F, .bool ok]) ∧ (ok = true ↔ Full7 (pcL D Gs s (D + N)) D) ∧ (ok = true → F.length = D * z ∧ ∀ P, P.length = D * z → HasP D Gs s (D + N) z ps P → F = P) ∧ Below w.heap.size w w'
set_option maxRecDepth 100000 in
set_option maxHeartbeats 16000000 in
theorem solve_any {B D n c G nn s pc : Nat} {Gs : List (List Int)} {A PA : Option Addr} {ps : List (List UInt8)} (w : World) (hM : CodM w B (D : Int) A n c (G : Int) Gs) (hD : 1 ≤ D) (hD16 : D ≤ 16) (hG : G ≤ 4) (hcnt : D + n + G ≤ 24) (hin : ∀ g ∈ Gs, ∀ v ∈ g, 0 ≤ v ∧ v < (D : Int)) (hs : s ≤ 1073741824) (hnn : nn ≤ 4096)
    (hp : Rds w w.heap.size PA (ps.map sv)) (hpl : ps.length = D + n + G) (hpc : ps.length ≤ pc) (hfit : ∀ t, t < ps.length → s.testBit t = true → (ps.getD t []).length = szP D nn) (ht : PTab 0 w) :
    Calls Tryd.prog 43 #[cdv D A n c G, .int .i64 nn, .int .i64 s, .slice PA ps.length pc] w (SolEnd7 w D (n + G) s (szP D nn) Gs ps) := by
  have hun : Hid (Tryd.prog.underlying 24 = _) := Tryd.underlying24
  have hszc := Lib.hid size_cod
  obtain ⟨z, hz⟩ : ∃ z, z = szP D nn := ⟨_, rfl⟩
  rw [← hz] at hfit ⊢
  have hm := szP_mul (n := nn) hD
  rw [← hz] at hm
  have hz4 : z ≤ 4096 := by
    rcases Nat.lt_or_ge 4096 z with h | h
    · have h1 : D * 4097 ≤ D * z := Nat.mul_le_mul_left D h
      omega
    · exact h
  obtain ⟨N, hN⟩ : ∃ N, N = n + G := ⟨_, rfl⟩
  obtain ⟨cnt, hc⟩ : ∃ k, k = ps.length := ⟨_, rfl⟩
  have hcN : cnt = D + N := by rw [hc, hN]; omega
  obtain ⟨pa, hpa, _, _⟩ := hp.look (k := 0) (u := sv (ps.getD 0 [])) (by rw [List.getElem?_map, List.getElem?_eq_getElem (by omega), List.getD_eq_getElem?_getD, List.getElem?_eq_getElem (by omega)]; rfl)
  subst hpa
  obtain ⟨W1, hW1⟩ : ∃ W1, W1 = (w.alloc (.cells #[.int .i64 D, .slice A n c, .int .i64 G] 24)).alloc (.cells #[.slice (some pa) cnt pc] 32) := ⟨_, rfl⟩
  have hB1 : Hid (Below w.heap.size w W1) := by show Below _ _ _; rw [hW1]; exact ((Below.refl _ _).alloc (Nat.le_refl _) _).alloc (by simp) _
  have hC1 : Hid (Blk W1 w.heap.size [.int .i64 D, .slice A n c, .int .i64 G] 24) := by show Blk _ _ _ _; rw [hW1]; exact (Blk.new _ [_, _, _] _).alloc _
  have hP1 : Hid (Blk W1 (w.heap.size + 1) [.slice (some pa) cnt pc] 32) := by show Blk _ _ _ _; rw [hW1]; exact (Blk.new _ [_] _).at (by simp)
  have M1 := Lib.hid (hM.keep hB1.out)
  have T1 := Lib.hid (ht.on hB1.out)
  have hpH := Lib.hid (hp.below hB1.out)
  have hlen : Hid (n = Gs.length) := hM.len
  have hpl7 : Hid (ps.length = D + N) := by show _ = _; rw [← hcN, hc]
  have hfitH := Lib.hid hfit
  have hzH := Lib.hid hz
  have hmH := Lib.hid hm
  have hDH := Lib.hid hD
  have hW' := Lib.hid hW1
  have hcH := Lib.hid hc
  have CP : Hid (∀ W, CodM W B (D : Int) A n c (G : Int) Gs → PTab 0 W → Calls Tryd.prog 34 #[.agg #[.int .i64 D, .slice A n c, .int .i64 G]] W fun e w' => (∃ x bs, e = .returned (.slice (some ⟨x, 0, none⟩) N N) ∧ Om w' W.heap.size x bs (PM (par D Gs) N) []) ∧ Below W.heap.size W w') := fun W m t => by rw [hN]; exact parities_any D n c G Gs A W m hD16 hG (by omega) hin t
  have CM : Hid (∀ W, Calls Tryd.prog 61 #[.agg #[.int .i64 D, .slice A n c, .int .i64 G], .int .i64 s] W fun e w' => ∃ v, e = .returned v ∧ OwnP w' W.heap.size v (misL s D) ∧ Below W.heap.size W w') := fun W => missing_any D n c s G A W hD16
  have CZ : Hid (∀ W, Calls Tryd.prog 40 #[.agg #[.int .i64 D, .slice A n c, .int .i64 G], .int .i64 nn] W fun e w' => e = .returned (.int .i64 (z : Int)) ∧ Below W.heap.size W w') := fun W => by rw [hz]; exact size_any D nn n c G A W hD hD16 hnn
  have hDcnt : D ≤ cnt := by omega
  have hNle : N ≤ 28 := by omega
  have hDpc : D ≤ pc := by omega
  rw [← hN, ← hc]
  have hcNH := Lib.hid hcN
  unfold cdv
  clear hM hp hpl hpc hfit ht hz hm hN hcN hin hD hW1 hc
  go_enter Tryd.func43, Tryd.ntmps43
  go_wp2_with fail
  generalize hg : (w.alloc _).alloc _ = Wg
  have hgW : W1 = Wg := by rw [← hg, hW'.out]
  clear hg hW'
  subst hgW
  go_cut [10, 11] from 18 to 22 (fun v10 v11 W => Hid (SolR W1 D N s Gs v10 v11 W))
  case first J KK hJ hKK =>
    refine wp_region_planH (fun W => Below W1.heap.size W1 W) [0, 2, 3] 5 (by kernel_rfl) (by kernel_rfl) (by kernel_rfl) (by kernel_rfl) (by intro c a d v w h; cases d <;> exact h) ((Below.refl _ _).drew) ?_
    change wpPlanH _ _ _ _ _ _ _ _ _ W1.drew
    iterate 2 (refine wpPlanH_runW rfl (by rfl) _ (fun q => load_run 24 _ rfl w.heap.size 0 rfl [.int .i64 D, .slice A n c, .int .i64 G] _ hun.out rfl hszc.out q.world ((Blk.below hC1.out q.meets hC1.out.lt).range 0 _ (take_all0 _))) ?_)
    refine wpPlanH_plain rfl (fun K hK => ?_); go_simp; refine ⟨_, fun _ => rfl, hK _ ?_⟩; clear hK K
    have hb : Below W1.heap.size W1 W1.drew := (Below.refl _ _).drew
    have M := Lib.hid (M1.out.keep hb)
    have T := Lib.hid (T1.out.on hb)
    have E := Lib.hid hb
    generalize W1.drew = w2 at hb M T E ⊢
    clear hb
    refine wpAnyH_each (rs := [1, 5]) (by kernel_rfl) (by decide) (fun K hK i hi => ?_)
    simp only [List.mem_cons, List.not_mem_nil, or_false] at hi
    rcases hi with rfl | rfl
    · skip
      refine wpOp_listed rfl ?_
      go_wp2_with fail
      refine (CP.out w2 M.out T.out).mono ?_
      rintro e w2x ⟨⟨x, bl, rfl, hOm⟩, hb⟩
      have OMn := Lib.hid (hOm.up7 E.out.size)
      replace M := Lib.hid (M.out.keep hb)
      replace T := Lib.hid (T.out.on hb)
      replace E : Hid (Below W1.heap.size W1 w2x) := E.out.trans (hb.mono E.out.size)
      have OM := OMn; clear OMn
      clear hOm
      go_wp2_with fail
      refine postH_normal (hK _ _ _ E.out ?_)
      clear hK K hb
      refine wpAnyH_each (rs := [4, 5]) (by kernel_rfl) (by decide) (fun K hK i hi => ?_)
      simp only [List.mem_cons, List.not_mem_nil, or_false] at hi
      rcases hi with rfl | rfl
      · skip
        refine wpOp_listed rfl ?_
        go_wp2_with fail
        refine (CM.out w2x).mono ?_
        rintro e w2xx ⟨v, rfl, hOw, hb⟩
        have OPn := Lib.hid (hOw.up7 E.out.size)
        replace M := Lib.hid (M.out.keep hb)
        replace T := Lib.hid (T.out.on hb)
        replace E : Hid (Below W1.heap.size W1 w2xx) := E.out.trans (hb.mono E.out.size)
        replace OM := Lib.hid (OM.out.keep hb)
        have OP := OPn; clear OPn
        clear hOw
        go_wp2_with fail
        refine postH_normal (hK _ _ _ E.out ?_)
        clear hK K hb
        refine wpAnyH_each (rs := [5]) (by kernel_rfl) (by decide) (fun K hK i hi => ?_)
        obtain rfl := List.mem_singleton.1 hi
        refine wpOp_listed rfl ?_
        go_wp2_with fail
        obtain ⟨gR, hgR⟩ : ∃ x, x = w2xx.heap.size := ⟨_, rfl⟩
        have hb : Below w2xx.heap.size w2xx (w2xx.alloc (.cells #[.slice none 0 0] 29)) := (Below.refl _ _).alloc (Nat.le_refl _) _
        have BXn : Hid (Blk (w2xx.alloc (.cells #[.slice none 0 0] 29)) gR [.slice none 0 0] 29) := by show Blk _ _ _ _; rw [hgR]; exact Blk.new _ [_] _
        have hgl : Hid (W1.heap.size ≤ gR) := by show _ ≤ _; rw [hgR]; exact E.out.size
        have NE : Hid (x ≠ gR ∧ ∀ b ∈ bl, b ≠ gR) := ⟨by have := OM.out.out.lt; omega, fun b hb' => by obtain ⟨j, hj⟩ := List.getElem?_of_mem hb'; have hjl := (List.getElem?_eq_some_iff.1 hj).1; have := (OM.out.row j b _ hj (List.getElem?_eq_getElem (by rw [← OM.out.len]; exact hjl))).lt; omega⟩
        have NP : Hid (∀ b, v.ownBlock = some b → b ≠ gR) := fun b hb' => by have := (OP.out.blk7 hb').2; omega
        replace M := Lib.hid (M.out.keep hb)
        replace T := Lib.hid (T.out.on hb)
        replace E : Hid (Below W1.heap.size W1 (w2xx.alloc (.cells #[.slice none 0 0] 29))) := E.out.trans (hb.mono E.out.size)
        replace OM := Lib.hid (OM.out.keep hb)
        replace OP := Lib.hid (OP.out.keep7 hb)
        have BX := BXn; clear BXn
        rw [← hgR]
        refine postH_normal (hK _ _ _ E.out ?_)
        clear hK K hb hgR
        generalize w2xx.alloc _ = w2xxx at M T E BX OM OP ⊢
        refine wpAnyH_each (rs := [6]) (by kernel_rfl) (by decide) (fun K hK i hi => ?_)
        obtain rfl := List.mem_singleton.1 hi
        refine wpOp_listed rfl ?_
        refine wpList_blk_store rfl 29 _ _ rfl 0 (.slice (some ⟨x, 0, none⟩) N N) rfl rfl BX.out size_rows7 (Nat.le_refl 1) (one_slice _ _ _) ?_
        intro w2xxxx hw6 ho6
        have BXn : Hid (Blk w2xxxx gR [.slice (some ⟨x, 0, none⟩) N N] 29) := hw6.out
        have hb : Below W1.heap.size w2xxx w2xxxx := ho6.below hgl.out
        replace E : Hid (Below W1.heap.size W1 w2xxxx) := E.out.trans hb
        replace OM := Lib.hid (OM.out.only7 ho6 NE.out.1 NE.out.2)
        replace OP := Lib.hid (OP.out.only7 ho6 NP.out)
        clear BX; have BX := BXn; clear BXn
        refine wpList_end (postH_normal (hK _ _ _ E.out ?_))
        clear hK K hb hw6 ho6 M T
        refine wpAnyH_each (rs := [7]) (by kernel_rfl) (by decide) (fun K hK i hi => ?_)
        obtain rfl := List.mem_singleton.1 hi
        refine wpOp_listed rfl ?_
        go_wp2_with fail
        refine postH_normal (hK _ _ _ E.out ?_)
        clear hK K
        refine wpAnyH_done (by kernel_rfl) ?_ _
        try go_wp2_with fail
        go_meet
        exact ⟨gR, x, bl, by first | rfl | (go_simp; done), hgl.out, BX.out, OM.out, by first | exact OP.out | (go_simp; exact OP.out), E.out⟩
      · skip
        refine wpOp_listed rfl ?_
        go_wp2_with fail
        obtain ⟨gR, hgR⟩ : ∃ x, x = w2x.heap.size := ⟨_, rfl⟩
        have hb : Below w2x.heap.size w2x (w2x.alloc (.cells #[.slice none 0 0] 29)) := (Below.refl _ _).alloc (Nat.le_refl _) _
        have BXn : Hid (Blk (w2x.alloc (.cells #[.slice none 0 0] 29)) gR [.slice none 0 0] 29) := by show Blk _ _ _ _; rw [hgR]; exact Blk.new _ [_] _
        have hgl : Hid (W1.heap.size ≤ gR) := by show _ ≤ _; rw [hgR]; exact E.out.size
        have NE : Hid (x ≠ gR ∧ ∀ b ∈ bl, b ≠ gR) := ⟨by have := OM.out.out.lt; omega, fun b hb' => by obtain ⟨j, hj⟩ := List.getElem?_of_mem hb'; have hjl := (List.getElem?_eq_some_iff.1 hj).1; have := (OM.out.row j b _ hj (List.getElem?_eq_getElem (by rw [← OM.out.len]; exact hjl))).lt; omega⟩
        replace M := Lib.hid (M.out.keep hb)
        replace T := Lib.hid (T.out.on hb)
        replace E : Hid (Below W1.heap.size W1 (w2x.alloc (.cells #[.slice none 0 0] 29))) := E.out.trans (hb.mono E.out.size)
        replace OM := Lib.hid (OM.out.keep hb)
        have BX := BXn; clear BXn
        rw [← hgR]
        refine postH_normal (hK _ _ _ E.out ?_)
        clear hK K hb hgR
        generalize w2x.alloc _ = w2xx at M T E BX OM ⊢
        refine wpAnyH_each (rs := [4]) (by kernel_rfl) (by decide) (fun K hK i hi => ?_)
        obtain rfl := List.mem_singleton.1 hi
        refine wpOp_listed rfl ?_
        go_wp2_with fail
        refine (CM.out w2xx).mono ?_
        rintro e w2xxx ⟨v, rfl, hOw, hb⟩
        have NP : Hid (∀ b, v.ownBlock = some b → b ≠ gR) := fun b hb' => by have := (hOw.blk7 hb').1; have := BX.out.lt; omega
        have OPn := Lib.hid (hOw.up7 E.out.size)
        replace M := Lib.hid (M.out.keep hb)
        replace T := Lib.hid (T.out.on hb)
        replace E : Hid (Below W1.heap.size W1 w2xxx) := E.out.trans (hb.mono E.out.size)
        replace OM := Lib.hid (OM.out.keep hb)
        replace BX := Lib.hid (BX.out.below hb BX.out.lt)
        have OP := OPn; clear OPn
        clear hOw
        go_wp2_with fail
        refine postH_normal (hK _ _ _ E.out ?_)
        clear hK K hb
        refine wpAnyH_each (rs := [6]) (by kernel_rfl) (by decide) (fun K hK i hi => ?_)
        obtain rfl := List.mem_singleton.1 hi
        refine wpOp_listed rfl ?_
        refine wpList_blk_store rfl 29 _ _ rfl 0 (.slice (some ⟨x, 0, none⟩) N N) rfl rfl BX.out size_rows7 (Nat.le_refl 1) (one_slice _ _ _) ?_
        intro w2xxxx hw6 ho6
        have BXn : Hid (Blk w2xxxx gR [.slice (some ⟨x, 0, none⟩) N N] 29) := hw6.out
        have hb : Below W1.heap.size w2xxx w2xxxx := ho6.below hgl.out
        replace E : Hid (Below W1.heap.size W1 w2xxxx) := E.out.trans hb
        replace OM := Lib.hid (OM.out.only7 ho6 NE.out.1 NE.out.2)
        replace OP := Lib.hid (OP.out.only7 ho6 NP.out)
        clear BX; have BX := BXn; clear BXn
        refine wpList_end (postH_normal (hK _ _ _ E.out ?_))
        clear hK K hb hw6 ho6 M T
        refine wpAnyH_each (rs := [7]) (by kernel_rfl) (by decide) (fun K hK i hi => ?_)
        obtain rfl := List.mem_singleton.1 hi
        refine wpOp_listed rfl ?_
        go_wp2_with fail
        refine postH_normal (hK _ _ _ E.out ?_)
        clear hK K
        refine wpAnyH_done (by kernel_rfl) ?_ _
        try go_wp2_with fail
        go_meet
        exact ⟨gR, x, bl, by first | rfl | (go_simp; done), hgl.out, BX.out, OM.out, by first | exact OP.out | (go_simp; exact OP.out), E.out⟩
    · skip
      refine wpOp_listed rfl ?_
      go_wp2_with fail
      obtain ⟨gR, hgR⟩ : ∃ x, x = w2.heap.size := ⟨_, rfl⟩
      have hb : Below w2.heap.size w2 (w2.alloc (.cells #[.slice none 0 0] 29)) := (Below.refl _ _).alloc (Nat.le_refl _) _
      have BXn : Hid (Blk (w2.alloc (.cells #[.slice none 0 0] 29)) gR [.slice none 0 0] 29) := by show Blk _ _ _ _; rw [hgR]; exact Blk.new _ [_] _
      have hgl : Hid (W1.heap.size ≤ gR) := by show _ ≤ _; rw [hgR]; exact E.out.size
      replace M := Lib.hid (M.out.keep hb)
      replace T := Lib.hid (T.out.on hb)
      replace E : Hid (Below W1.heap.size W1 (w2.alloc (.cells #[.slice none 0 0] 29))) := E.out.trans (hb.mono E.out.size)
      have BX := BXn; clear BXn
      rw [← hgR]
      refine postH_normal (hK _ _ _ E.out ?_)
      clear hK K hb hgR
      generalize w2.alloc _ = w2x at M T E BX ⊢
      refine wpAnyH_each (rs := [1]) (by kernel_rfl) (by decide) (fun K hK i hi => ?_)
      obtain rfl := List.mem_singleton.1 hi
      refine wpOp_listed rfl ?_
      go_wp2_with fail
      refine (CP.out w2x M.out T.out).mono ?_
      rintro e w2xx ⟨⟨x, bl, rfl, hOm⟩, hb⟩
      have NE : Hid (x ≠ gR ∧ ∀ b ∈ bl, b ≠ gR) := ⟨by have := hOm.low; have := BX.out.lt; omega, fun b hb' => by have := hOm.lows b hb'; have := BX.out.lt; omega⟩
      have OMn := Lib.hid (hOm.up7 E.out.size)
      replace M := Lib.hid (M.out.keep hb)
      replace T := Lib.hid (T.out.on hb)
      replace E : Hid (Below W1.heap.size W1 w2xx) := E.out.trans (hb.mono E.out.size)
      replace BX := Lib.hid (BX.out.below hb BX.out.lt)
      have OM := OMn; clear OMn
      clear hOm
      go_wp2_with fail
      refine postH_normal (hK _ _ _ E.out ?_)
      clear hK K hb
      refine wpAnyH_each (rs := [4]) (by kernel_rfl) (by decide) (fun K hK i hi => ?_)
      obtain rfl := List.mem_singleton.1 hi
      refine wpOp_listed rfl ?_
      go_wp2_with fail
      refine (CM.out w2xx).mono ?_
      rintro e w2xxx ⟨v, rfl, hOw, hb⟩
      have NP : Hid (∀ b, v.ownBlock = some b → b ≠ gR) := fun b hb' => by have := (hOw.blk7 hb').1; have := BX.out.lt; omega
      have OPn := Lib.hid (hOw.up7 E.out.size)
      replace M := Lib.hid (M.out.keep hb)
      replace T := Lib.hid (T.out.on hb)
      replace E : Hid (Below W1.heap.size W1 w2xxx) := E.out.trans (hb.mono E.out.size)
      replace OM := Lib.hid (OM.out.keep hb)
      replace BX := Lib.hid (BX.out.below hb BX.out.lt)
      have OP := OPn; clear OPn
      clear hOw
      go_wp2_with fail
      refine postH_normal (hK _ _ _ E.out ?_)
      clear hK K hb
      refine wpAnyH_each (rs := [6]) (by kernel_rfl) (by decide) (fun K hK i hi => ?_)
      obtain rfl := List.mem_singleton.1 hi
      refine wpOp_listed rfl ?_
      refine wpList_blk_store rfl 29 _ _ rfl 0 (.slice (some ⟨x, 0, none⟩) N N) rfl rfl BX.out size_rows7 (Nat.le_refl 1) (one_slice _ _ _) ?_
      intro w2xxxx hw6 ho6
      have BXn : Hid (Blk w2xxxx gR [.slice (some ⟨x, 0, none⟩) N N] 29) := hw6.out
      have hb : Below W1.heap.size w2xxx w2xxxx := ho6.below hgl.out
      replace E : Hid (Below W1.heap.size W1 w2xxxx) := E.out.trans hb
      replace OM := Lib.hid (OM.out.only7 ho6 NE.out.1 NE.out.2)
      replace OP := Lib.hid (OP.out.only7 ho6 NP.out)
      clear BX; have BX := BXn; clear BXn
      refine wpList_end (postH_normal (hK _ _ _ E.out ?_))
      clear hK K hb hw6 ho6 M T
      refine wpAnyH_each (rs := [7]) (by kernel_rfl) (by decide) (fun K hK i hi => ?_)
      obtain rfl := List.mem_singleton.1 hi
      refine wpOp_listed rfl ?_
      go_wp2_with fail
      refine postH_normal (hK _ _ _ E.out ?_)
      clear hK K
      refine wpAnyH_done (by kernel_rfl) ?_ _
      try go_wp2_with fail
      go_meet
      exact ⟨gR, x, bl, by first | rfl | (go_simp; done), hgl.out, BX.out, OM.out, by first | exact OP.out | (go_simp; exact OP.out), E.out⟩
  case rest =>
    obtain ⟨gR, x, bl, rfl, hgl0, BX0, OM0, OP0, E0⟩ := hcut.out
    obtain ⟨LA, lc, e11, _, _, _, LR0⟩ := own_form OP0
    subst e11
    have hgl := Lib.hid hgl0
    have BX := Lib.hid BX0
    have OM := Lib.hid OM0
    have LR := Lib.hid LR0
    have E := Lib.hid E0
    have hWc := Lib.hid E0.size
    have C0 := Lib.hid (hC1.out.below E0 hC1.out.lt)
    have P0 := Lib.hid (hP1.out.below E0 hP1.out.lt)
    have M := Lib.hid (M1.out.keep E0)
    have T := Lib.hid (T1.out.on E0)
    have hpc0 := Lib.hid (hpH.out.below (E0.mono hB1.out.size))
    clear hgl0 BX0 OM0 OP0 E0 LR0 hcut
    obtain ⟨wd, hwd⟩ : ∃ m, m = (misL s D).length := ⟨_, rfl⟩
    have hwdH := Lib.hid hwd
    rw [← hwd]
    have hwdD : wd ≤ D := by rw [hwd]; exact misL_len s D
    clear hwd
    have p1 : wc.cell? ⟨w.heap.size + 1, 0, none⟩ = some (.slice (some pa) cnt pc) := P0.out.cell (j := 0) rfl
    have p0 : wc.cell? ⟨w.heap.size, 0, none⟩ = some (.int .i64 D) := C0.out.cell (j := 0) rfl
    have CL := Lib.hid (clone7_any (ps.take D) pa D pc w.heap.size wc (by have h := hpc0.out.take D; rw [← List.map_take] at h; exact h) (by rw [List.length_take]; have := hpl7.out; omega) (by omega) (Nat.le_trans hB1.out.size hWc.out))
    have tD0 : 0 ≤ (D : Int) := by omega
    have tDpc : (D : Int) ≤ (pc : Int) := by omega
    have hnil := Lib.hid (rfl : (none : Option Nat) = none)
    go_wp2_with fail
    refine CL.out.mono ?_
    rintro e w3 ⟨v3, rfl, hO3, hb3⟩
    obtain ⟨gd, dc, rest, e3, hgd, BD, hdc⟩ := ownS_blk hO3 (by rw [List.length_take]; have := hpl7.out; have := hDH.out; omega)
    subst e3
    have hb3H := Lib.hid hb3
    have BDH := Lib.hid BD
    have hgdH := Lib.hid hgd
    have hlt7 : (ps.take D).length = D := by rw [List.length_take]; have := hpl7.out; omega
    rw [hlt7] at hdc
    rw [hlt7]
    clear hO3 hb3 BD hgd p0 p1 CL
    go_wp2_with fail
    obtain ⟨gD, hgD⟩ : ∃ x, x = w3.heap.size := ⟨_, rfl⟩
    have XD4 : Hid (Blk (w3.alloc (.cells #[.slice (some ⟨gd, 0, none⟩) D dc] 32)) gD [.slice (some ⟨gd, 0, none⟩) D dc] 32) := by show Blk _ _ _ _; rw [hgD]; exact Blk.new _ [_] _
    have hgdD : Hid (gd < gD) := by show _ < _; rw [hgD]; exact BDH.out.lt
    have BD4 : Hid (Blk (w3.alloc (.cells #[.slice (some ⟨gd, 0, none⟩) D dc] 32)) gd ((datJ D s ps (fun _ => List.replicate z 0) (ps.take D) 0).map sv ++ rest) 9) := by
      show Blk _ _ _ _
      rw [datJ_zero _ (fun i hi _ => by rw [List.getD_eq_getElem?_getD, List.getElem?_take, if_pos hi, ← List.getD_eq_getElem?_getD]) (by rw [List.length_take]; have := hpl7.out; omega)]
      exact BDH.out.alloc _
    have E4 : Hid (Below wc.heap.size wc (w3.alloc (.cells #[.slice (some ⟨gd, 0, none⟩) D dc] 32))) := hb3H.out.alloc hb3H.out.size _
    rw [← hgD]
    generalize w3.alloc _ = w4 at XD4 BD4 E4 ⊢
    clear hgD BDH hb3H hlt7
    go_loopw [30] (fun i wr => ∃ j : Nat, j ≤ wd ∧ i = .int .i64 j ∧ Hid (Below wc.heap.size wc wr) ∧ Hid (Blk wr gD [.slice (some ⟨gd, 0, none⟩) D dc] 32) ∧ Hid (Blk wr gd ((datJ D s ps (fun _ => List.replicate z 0) (ps.take D) j).map sv ++ rest) 9)) (fun i _ => wd - (intOf i).toNat)
    case atStart => exact ⟨0, by omega, rfl, E4, XD4, BD4⟩
    case round =>
      clear E4 XD4 BD4
      obtain ⟨j, hj, rfl, Er, XD, BD⟩ := hrel
      have Cr := Lib.hid (C0.out.below Er.out C0.out.lt)
      by_cases hlt : j < wd
      · have tj : (j : Int) < (wd : Int) := by omega
        obtain ⟨i, hi⟩ : ∃ i, (misL s D)[j]? = some i := ⟨_, List.getElem?_eq_getElem (by have := hwdH.out; omega)⟩
        obtain ⟨al, hal, _, hcl⟩ := (LR.out.below Er.out).look (k := j) (u := pv i) (by rw [List.getElem?_map, hi]; rfl)
        subst hal
        have hiD := (mis_at hi).1
        have tiD : (i : Int) < (D : Int) := by omega
        have ti0 : 0 ≤ (i : Int) := by omega
        have hnx := Lib.hid (datJ_next (ps := ps) (ol := ps.take D) (f := fun _ => List.replicate z 0) hi)
        have hfit6 : Hid (∀ S8 : ByteArray, i + (Value.string S8).cells.size ≤ ((datJ D s ps (fun _ => List.replicate z 0) (ps.take D) j).map sv ++ rest).length) := fun S8 => by
          show i + 1 ≤ _
          rw [List.length_append, List.length_map, datJ_len]; omega
        have hi2 : Hid (i < (datJ D s ps (fun _ => List.replicate z 0) (ps.take D) j).length) := by show _ < _; rw [datJ_len]; exact hiD
        unfold pv at hcl
        clear hi hiD
        go_wp2_with fail
        have q1 : ∀ q : ExtOf wr.drew, q.world.cell? ⟨gD, 0, none⟩ = some (.slice (some ⟨gd, 0, none⟩) D dc) := fun q => (XD.out.drew.below q.ext XD.out.lt).cell (j := 0) rfl
        refine wp_region_planM [7] [(true, 0), (true, 1), (true, 2), (true, 3), (false, 4), (false, 5), (true, 6), (false, 7)] (by decide) (by kernel_rfl) (by kernel_rfl) (by decide) (by intro c a d v w h; cases d <;> exact h) ?_
        change wpPlanM _ _ _ _ _ _ wr.drew
        iterate 2 (refine wpPlanM_plain rfl (fun K hK => ?_); go_simp; refine hK _ ?_; clear hK K)
        refine wpPlanM_runW rfl (by rfl) _ (fun q => load_run 24 _ rfl w.heap.size 0 rfl [.int .i64 D, .slice A n c, .int .i64 G] _ hun.out rfl hszc.out q.world ((Blk.below Cr.out.drew q.ext Cr.out.lt).range 0 _ (take_all0 _))) ?_
        iterate 1 (refine wpPlanM_plain rfl (fun K hK => ?_); go_simp; refine hK _ ?_; clear hK K)
        clear q1 hcl
        refine wpPlanM_call rfl (fun K hK => ?_)
        go_wp2_with fail
        refine (CZ.out wr.drew).mono ?_
        rintro e w5 ⟨rfl, hb⟩
        have hbp := Lib.hid hb
        have hb5 : Hid (Below wr.heap.size wr w5) := ((Below.refl _ _).drew).trans hb
        clear hb
        go_wp2_with fail
        refine planPostL_normal ⟨.inr hbp.out, hK _ _ ?_⟩
        clear hK K hbp
        refine wpPlanM_call rfl (fun K hK => ?_)
        go_wp2_with fail
        refine (repeat_any z w5 (by omega)).mono ?_
        rintro e w6 ⟨rfl, hb⟩
        have hbp := Lib.hid hb
        have hb6 : Hid (Below wr.heap.size wr w6) := hb5.out.trans (hb.mono hb5.out.size)
        clear hb
        go_wp2_with fail
        refine planPostL_normal ⟨.inr hbp.out, hK _ _ ?_⟩
        clear hK K hbp hb5
        iterate 1 (refine wpPlanM_plain rfl (fun K hK => ?_); go_simp; refine hK _ ?_; clear hK K)
        have BD6 := Lib.hid (BD.out.below hb6.out BD.out.lt)
        have XD6 := Lib.hid (XD.out.below hb6.out XD.out.lt)
        have E6 : Hid (Below wc.heap.size wc w6) := Er.out.trans (hb6.out.mono Er.out.size)
        refine wpPlanM_call rfl (fun K hK => ?_)
        refine wpList_blk_store rfl 9 _ _ rfl i (.string (bs (List.replicate z 0))) rfl rfl BD6.out size_str (hfit6.out _) (one_str _) ?_
        intro w7 hw7 ho7
        refine wpList_end (planPostL_normal ⟨.inl (by simp), hK _ _ ?_⟩)
        clear hK K
        refine wpPlanM_nil ?_
        have f1 : Hid (Below wc.heap.size wc w7) := E6.out.trans (ho7.below hgdH.out)
        have f2 : Hid (Blk w7 gD [.slice (some ⟨gd, 0, none⟩) D dc] 32) := XD6.out.only ho7 (by have := hgdD.out; omega)
        have f3 : Hid (Blk w7 gd ((datJ D s ps (fun _ => List.replicate z 0) (ps.take D) (j + 1)).map sv ++ rest) 9) := by
          have h := hw7.out
          rw [set_rowS hi2.out, hnx.out] at h
          exact h
        clear hw7 ho7 BD6 XD6 E6 hb6 XD BD Er
        go_wp2_with fail
        go_roundw
        case rel => exact ⟨j + 1, by omega, by go_num, f1, f2, f3⟩
        case measure => simp [intOf]; omega
      · have tj : ¬ (j : Int) < (wd : Int) := by omega
        obtain rfl : wd = j := by omega
        obtain ⟨wS, rfl⟩ : ∃ x, x = wr := ⟨_, rfl⟩
        have BDf : Hid (Blk wS gd ((dat0 D s z ps).map sv ++ rest) 9) := by
          have h := BD.out
          rw [hwdH.out, datJ_all] at h
          exact h
        obtain ⟨s2, hs2⟩ : ∃ s2, s2 = s / 2 ^ D := ⟨_, rfl⟩
        have e2 := shr_int s D
        rw [← hs2] at e2
        have hs2H := Lib.hid hs2
        have td0 : ¬ (D : Int) < 0 := by omega
        have td64 : min D 64 = D := by omega
        have hmf : ∀ (fn : Fn) (first cap : Array Value) (w : World), (Instr.makeFunc fn first cap).run Tryd.prog w = .ok (.func fn first cap) w := fun _ _ _ _ => rfl
        have hcfE := hcf_eqs
        obtain ⟨W9, hW9⟩ : ∃ W9, W9 = wS.alloc (.cells #[Value.int .i64 wd, .int .i64 0, .slice none 0 0, .slice none 0 0, .slice none 0 0, .slice none 0 0, .slice none 0 0, .slice none 0 0, .slice none 0 0, .slice none 0 0, .slice none 0 0, .slice none 0 0, .slice none 0 0, .slice none 0 0, .slice none 0 0, .slice none 0 0, .slice none 0 0, .slice none 0 0] 94) := ⟨_, rfl⟩
        have hb9 : Hid (Below wS.heap.size wS W9) := by show Below _ _ _; rw [hW9]; exact (Below.refl _ _).alloc (Nat.le_refl _) _
        have hS9 : Hid (StM W9 wS.heap.size wd noS (fun _ => 0) (fun _ => 0) (fun _ => [])) := noS_mem (by rw [hW9]; exact Blk.new _ (_ :: _) _)
        obtain ⟨gs, hgs⟩ : ∃ g, g = wS.heap.size := ⟨_, rfl⟩
        have hgsw : Hid (gs = wS.heap.size) := hgs
        have hgcs : Hid (wc.heap.size ≤ gs) := by show _ ≤ _; rw [hgs]; exact Er.out.size
        have hgDs : Hid (gD < gs) := by show _ < _; rw [hgs]; exact XD.out.lt
        rw [← hgs] at hb9 hS9
        have E9 : Hid (Below wc.heap.size wc W9) := Er.out.trans (hb9.out.mono hgcs.out)
        have XD9 : Hid (Blk W9 gD [.slice (some ⟨gd, 0, none⟩) D dc] 32) := XD.out.below hb9.out hgDs.out
        have BD9 : Hid (Blk W9 gd ((dat0 D s z ps).map sv ++ rest) 9) := BDf.out.below hb9.out (by have := hgdD.out; have := hgDs.out; omega)
        have hzz : Hid (∀ k, k < D + N → s.testBit k = true → (ps.getD k []).length = z) := fun k h1 h2 => hfitH.out k (by rw [hpl7.out]; exact h1) h2
        -- what holds behind W9, whatever the stairs hold
        have HB : Hid (∀ W, Below gs W9 W → Below wc.heap.size wc W ∧ Blk W gD [.slice (some ⟨gd, 0, none⟩) D dc] 32 ∧ Blk W gd ((dat0 D s z ps).map sv ++ rest) 9) := fun W hW => ⟨E9.out.trans (hW.mono hgcs.out), XD9.out.below hW hgDs.out, BD9.out.below hW (by have := hgdD.out; have := hgDs.out; omega)⟩
        have HS : Hid (∀ k, k < N → s2.testBit k = true → ∀ W, Below gs W9 W → Calls Tryd.prog 65 (Value.int .i64 k :: [.pointer (some ⟨gR, 0, none⟩), .pointer (some ⟨gD, 0, none⟩), .pointer (some ⟨w.heap.size + 1, 0, none⟩), .pointer (some ⟨w.heap.size, 0, none⟩)]).toArray W fun e W' => e = .returned (sv (sum7 D Gs s z ps k)) ∧ Below W.heap.size W W') := fun k hk hb W hW => by
          obtain ⟨h1, h2, h3⟩ := HB.out W hW
          rw [hs2H.out, Nat.testBit_div_two_pow, Nat.add_comm] at hb
          have hd := h3.rds 0 D
          rw [List.drop_zero, List.take_append_of_le_length (by rw [List.length_map, dat0_len]; exact Nat.le_refl _), List.take_of_length_le (by rw [List.length_map, dat0_len]; exact Nat.le_refl _)] at hd
          exact solve1_any (B := W.heap.size) (c := c) (n := n) (A := A) (G := (G : Int)) (pc := pc) (cnt := cnt) W hDH.out hD16 hk hNle hb hzz.out (by omega) hcNH.out (by rw [hpl7.out, hcNH.out]) ((OM.out.mat.below h1).more h1.size) hd ((hpc0.out.below (h1.mono (Nat.le_trans hB1.out.size hWc.out))).more (Nat.le_trans (Nat.le_trans hB1.out.size hWc.out) h1.size)) (Nat.le_refl _)
            (BX.out.below h1 BX.out.lt) h2 (P0.out.below h1 P0.out.lt) (C0.out.below h1 C0.out.lt) (T.out.on h1)
        have CE : Hid (∀ W, Calls Tryd.prog 64 #[.slice (some ⟨x, 0, none⟩) N N, .int .i64 s2, .slice LA wd lc, .func (.func 65) #[] #[.pointer (some ⟨gR, 0, none⟩), .pointer (some ⟨gD, 0, none⟩), .pointer (some ⟨w.heap.size + 1, 0, none⟩), .pointer (some ⟨w.heap.size, 0, none⟩)]] W fun e w' =>
          e = .returned (.func (.func 91) #[] #[.pointer (some ⟨W.heap.size, 0, none⟩), .pointer (some ⟨W.heap.size + 1, 0, none⟩), .pointer (some ⟨W.heap.size + 1 + 1, 0, none⟩), .pointer (some ⟨W.heap.size + 1 + 1 + 1, 0, none⟩)]) ∧ w' = eqW W (.slice (some ⟨x, 0, none⟩) N N) (.int .i64 s2) (.slice LA wd lc) (.func (.func 65) #[] #[.pointer (some ⟨gR, 0, none⟩), .pointer (some ⟨gD, 0, none⟩), .pointer (some ⟨w.heap.size + 1, 0, none⟩), .pointer (some ⟨w.heap.size, 0, none⟩)])) := fun W => equations_any _ _ _ _ _ _ _ _ _ W
        have hlD : Hid (∀ i ∈ misL s D, i < D) := fun i hi => by
          unfold misL at hi
          exact List.mem_range.1 (List.mem_filter.1 hi).1
        have CF : Hid (∀ W a1 a2 a3 a4, Below W9.heap.size W9 W → gs < a1 → gs < a2 → gs < a3 → gs < a4 → Blk W a1 [.slice (some ⟨x, 0, none⟩) N N] 29 → Blk W a2 [.int .i64 s2] 3 → Blk W a3 [.slice LA wd lc] 60 → Blk W a4 [.func (.func 65) #[] #[.pointer (some ⟨gR, 0, none⟩), .pointer (some ⟨gD, 0, none⟩), .pointer (some ⟨w.heap.size + 1, 0, none⟩), .pointer (some ⟨w.heap.size, 0, none⟩)]] 98 →
            Calls Tryd.prog 91 #[.func (.func 66) #[.pointer (some ⟨gs, 0, none⟩)] #[], .pointer (some ⟨a1, 0, none⟩), .pointer (some ⟨a2, 0, none⟩), .pointer (some ⟨a3, 0, none⟩), .pointer (some ⟨a4, 0, none⟩)] W
              (EqsEnd W gs wd (runS wd noS (eqL (PM (par D Gs) N) (misL s D) (sum7 D Gs s z ps) s2 N 0)))) := fun W a1 a2 a3 a4 hW n1 n2 n3 n4 h1 h2 h3 h4 => by
          have hgl9 : gs < W9.heap.size := hS9.out.out.lt
          have hWg : Below gs W9 W := hW.mono (Nat.le_of_lt hgl9)
          have hWc2 := (HB.out W hWg).1
          exact eqs_any (B := wc.heap.size) (D := D) (ex := z) (cap := [.pointer (some ⟨gR, 0, none⟩), .pointer (some ⟨gD, 0, none⟩), .pointer (some ⟨w.heap.size + 1, 0, none⟩), .pointer (some ⟨w.heap.size, 0, none⟩)]) (sum7 D Gs s z ps) W (OM.out.mat.below hWc2) (PM_len _ _) par_rows (LR.out.below hWc2) hwdH.out.symm hlD.out hgcs.out (hS9.out.keep hW) h1 h2 h3 h4
            (by omega) hcf_solve1 (fun k hk hb W' hW' => HS.out k hk hb W' (hWg.trans (hW'.below (fun y hy => by simp at hy; omega) (Nat.le_of_lt (Nat.lt_of_lt_of_le hgl9 hW.size))))) (fun k hk hb => sum7_len hDH.out hzz.out hk (by rw [hs2H.out, Nat.testBit_div_two_pow, Nat.add_comm] at hb; exact hb)) hNle hD16 (by omega) (by omega) (T.out.on hWc2) (Nat.lt_of_lt_of_le T.out.1 hgcs.out)
        have p0 : W9.cell? ⟨w.heap.size, 0, none⟩ = some (.int .i64 D) := (C0.out.below E9.out C0.out.lt).cell (j := 0) rfl
        clear hs2 XD BD BDf hlt tj hj Cr
        rw [hW9] at p0
        go_wp2_with fail
        rw [← hW9, ← hgs]
        clear hW9 hgs
        have q1 : ∀ q : ExtOf W9.drew, q.world.cell? ⟨gR, 0, none⟩ = some (.slice (some ⟨x, 0, none⟩) N N) := fun q => ((BX.out.below E9.out BX.out.lt).drew.below q.ext (Nat.lt_of_lt_of_le BX.out.lt E9.out.size)).cell (j := 0) rfl
        have q0 : ∀ q : ExtOf W9.drew, q.world.cell? ⟨w.heap.size, 0, none⟩ = some (.int .i64 D) := fun q => ((C0.out.below E9.out C0.out.lt).drew.below q.ext (Nat.lt_of_lt_of_le C0.out.lt E9.out.size)).cell (j := 0) rfl
        refine wp_region_planM [10] [(true, 0), (true, 1), (true, 2), (true, 3), (true, 4), (true, 5), (true, 6), (true, 8), (true, 9), (false, 7), (false, 10)] (by decide) (by kernel_rfl) (by kernel_rfl) (by decide) (by intro c a d v w h; cases d <;> exact h) ?_
        change wpPlanM _ _ _ _ _ _ W9.drew
        iterate 9 (refine wpPlanM_plain rfl (fun K hK => ?_); go_simp; first | refine hK _ ?_ | refine ⟨_, fun _ => rfl, hK _ ?_⟩; clear hK K)
        clear q1 q0 p0
        have hd9 : Below W9.heap.size W9 W9.drew := (Below.refl _ _).drew
        have hd9H := Lib.hid hd9
        generalize W9.drew = wa at hd9 ⊢
        have hda : Hid (Below W9.heap.size W9 wa) := hd9
        clear hd9
        refine wpPlanM_call rfl (fun K hK => ?_)
        go_wp2_with fail
        refine (CE.out wa).mono ?_
        rintro e w10 ⟨rfl, rfl⟩
        go_wp2_with fail
        refine planPostL_normal ⟨.inr (eqW_below _ _ _ _ _), hK _ _ ?_⟩
        clear hK K
        refine wpPlanM_call rfl (fun K hK => ?_)
        go_wp2_with fail
        have hga : gs < wa.heap.size := Nat.lt_of_lt_of_le hS9.out.out.lt hda.out.size
        refine (CF.out _ _ _ _ _ (hda.out.trans ((eqW_below _ _ _ _ _).mono hda.out.size)) hga (by omega) (by omega) (by omega) (eqW_1 _ _ _ _ _) (eqW_2 _ _ _ _ _) (eqW_3 _ _ _ _ _) (eqW_4 _ _ _ _ _)).mono ?_
        rintro e w11 ⟨rfl, ⟨sb, sc, sr, hSM⟩, hC11⟩
        have hSMH := Lib.hid hSM
        have hb11 : Hid (Below gs W9 w11) := (hda.out.trans ((eqW_below _ _ _ _ _).mono hda.out.size)).mono (Nat.le_of_lt hS9.out.out.lt) |>.trans (hC11.below (fun y hy => by simp at hy; omega) (Nat.le_trans (Nat.le_of_lt hga) (eqW_below _ _ _ _ _).size))
        clear hSM hC11 hga
        go_wp2_with fail
        refine planPostL_normal ⟨.inl (by simp), hK _ _ ?_⟩
        clear hK K
        refine wpPlanM_nil ?_
        obtain ⟨S', hS'⟩ : ∃ S', S' = runS wd noS (eqL (PM (par D Gs) N) (misL s D) (sum7 D Gs s z ps) s2 N 0) := ⟨_, rfl⟩
        rw [← hS'] at hSMH
        have hSol : Hid (Stc S'.st wd (wd + z) ∧ S'.ht = hts S'.st wd ∧ (S'.ht = wd ↔ Full7 (pcL D Gs s (D + N)) D) ∧ (S'.ht = wd → ∀ P, P.length = D * z → HasP D Gs s (D + N) z ps P → (solD D s z ps (resF wd S'.st wd)).flatten = P)) := by
          have hrl : ∀ r ∈ eqL (PM (par D Gs) N) (misL s D) (sum7 D Gs s z ps) s2 N 0, r.length = wd + z := fun r hr => by
            obtain ⟨t, _, h2, h3, rfl⟩ := eqL_mem.1 hr
            show List.length (_ ++ _) = _
            rw [List.length_append, List.length_map, hwdH.out, sum7_len hDH.out hzz.out h2 (by rw [hs2H.out, Nat.testBit_div_two_pow, Nat.add_comm] at h3; exact h3)]
          obtain ⟨h1, h2, h3, _⟩ := run_full (wd := wd) (len := wd + z) (Nat.le_add_right _ _) hrl
          have h4 : Full7 (eqL (PM (par D Gs) N) (misL s D) (sum7 D Gs s z ps) s2 N 0) wd ↔ Full7 (pcL D Gs s (D + N)) D := by
            rw [hs2H.out, hwdH.out]; exact lost_full
          refine ⟨by rw [hS']; exact h1, by rw [hS']; exact h2, by rw [hS', h3]; exact h4, fun hf P hPl hP => ?_⟩
          have h5 := solve_is (P := P) hDH.out hzz.out hP hPl (by rw [hS', hs2H.out, hwdH.out] at hf; exact hf) (fun k h1 h2 => sum7_len hDH.out hzz.out h1 h2)
          rw [hS', hs2H.out, hwdH.out]
          exact h5
        have q0 : w11.cell? ⟨gs, 0, none⟩ = some (.int .i64 wd) := hSMH.out.out.cell (j := 0) rfl
        have q1 : w11.cell? ⟨gs, 1, none⟩ = some (.int .i64 (S'.ht : Int)) := hSMH.out.out.cell (j := 1) rfl
        have CU := Lib.hid (full_any gs wd _ w11 q0 q1)
        clear q0 q1 hS' CE CF HS
        by_cases hfl : S'.ht = wd
        rotate_left
        · have tf : ((S'.ht : Int) == (wd : Int)) = false := by rw [beq_eq_false_iff_ne]; omega
          rw [tf] at CU
          have hflH := Lib.hid hfl
          clear hfl tf
          go_wp2_with fail
          refine CU.out.mono ?_
          rintro e w12 ⟨rfl, hb⟩
          have hEnd : Hid (Below w.heap.size w w12) := hB1.out.trans ((E.out.trans (((HB.out w11 hb11.out).1.trans (hb.mono (HB.out w11 hb11.out).1.size)).mono hWc.out)).mono hB1.out.size)
          clear hb
          go_wp2_with fail
          go_ret2
          exact ⟨[], false, rfl, ⟨fun h => absurd h (by decide), fun h => absurd (hSol.out.2.2.1.2 h) hflH.out⟩, fun h => absurd h (by decide), hEnd.out⟩
        · have tf : ((S'.ht : Int) == (wd : Int)) = true := by rw [beq_iff_eq]; omega
          rw [tf] at CU
          have hflH := Lib.hid hfl
          have hne : Hid (∀ k, k < wd → S'.st k ≠ []) := hts_all (by rw [← hSol.out.2.1]; exact hfl)
          have hRl : Hid (∀ j, j < wd → ((resF wd S'.st wd).getD j []).length = z) := resF_lens hSol.out.1 hne.out
          clear hfl tf
          go_wp2_with fail
          refine CU.out.mono ?_
          rintro e w12 ⟨rfl, hb⟩
          have hb12 : Hid (Below gs W9 w12) := hb11.out.trans (hb.mono (Nat.le_of_lt hSMH.out.out.lt))
          have CR := Lib.hid (results_any w12 (hSMH.out.keep hb) hSol.out.1 hne.out (Nat.le_add_right _ _) (by omega) (by omega) (T.out.on (HB.out w12 hb12.out).1) (Nat.lt_of_lt_of_le T.out.1 hgcs.out))
          clear hb CU hb11
          go_wp2_with fail
          refine CR.out.mono ?_
          rintro e w13 ⟨c13, rfl, BR, hb13⟩
          have hb13H : Hid (Below gs W9 w13) := hb12.out.trans hb13
          obtain ⟨R, hR⟩ : ∃ R, R = resF wd S'.st wd := ⟨_, rfl⟩
          have hRlen : Hid (R.length = wd) := by show _ = _; rw [hR, resF_len]
          rw [← hR] at BR hRl
          have hRH := Lib.hid hR
          obtain ⟨ga, hga⟩ : ∃ g, g = w12.heap.size := ⟨_, rfl⟩
          rw [← hga] at BR
          rw [← hga]
          have BRH := Lib.hid BR
          have hgsa : Hid (gs < ga) := by show _ < _; rw [hga]; exact Nat.lt_of_lt_of_le hS9.out.out.lt (hb12.out.size)
          obtain ⟨E13, XD13, BD13⟩ := HB.out w13 hb13H.out
          have E13H := Lib.hid E13
          have XD13H := Lib.hid XD13
          have BD13H : Hid (Blk w13 gd ((datJ D s ps (fun t => R.getD t []) (dat0 D s z ps) 0).map sv ++ rest) 9) := by
            show Blk _ _ _ _
            rw [datJ_zero _ (fun i hi hb => by rw [List.getD_eq_getElem?_getD, dat0_get hi, if_pos hb]; rfl) (dat0_len _ _ _ _)]
            exact BD13
          clear BR hb13 hga E13 XD13 BD13 CR hR hb12
          go_wp2_with fail
          go_loopw [63] (fun i wr => ∃ j : Nat, j ≤ wd ∧ i = .int .i64 j ∧ Hid (Below wc.heap.size wc wr) ∧ Hid (Blk wr gD [.slice (some ⟨gd, 0, none⟩) D dc] 32) ∧ Hid (Blk wr gd ((datJ D s ps (fun t => R.getD t []) (dat0 D s z ps) j).map sv ++ rest) 9) ∧ Hid (Blk wr ga (R.map sv) 9)) (fun i _ => wd - (intOf i).toNat)
          case atStart => exact ⟨0, by omega, rfl, E13H, XD13H, BD13H, BRH⟩
          case round =>
            clear E13H XD13H BD13H BRH
            obtain ⟨j, hj, rfl, Er, XD, BD, BR⟩ := hrel
            by_cases hlt : j < wd
            · have tj : (j : Int) < (wd : Int) := by omega
              have tj0 : 0 ≤ (j : Int) := by omega
              obtain ⟨i, hi⟩ : ∃ i, (misL s D)[j]? = some i := ⟨_, List.getElem?_eq_getElem (by have := hwdH.out; omega)⟩
              obtain ⟨al, hal, _, hcl⟩ := (LR.out.below Er.out).look (k := j) (u := pv i) (by rw [List.getElem?_map, hi]; rfl)
              subst hal
              have hiD := (mis_at hi).1
              have tiD : (i : Int) < (D : Int) := by omega
              have ti0 : 0 ≤ (i : Int) := by omega
              have hnx := Lib.hid (datJ_next (ps := ps) (ol := dat0 D s z ps) (f := fun t => R.getD t []) hi)
              obtain ⟨y, hy⟩ : ∃ y, y = R.getD j [] := ⟨_, rfl⟩
              have pR : wr.cell? ⟨ga, j, none⟩ = some (.string (bs y)) := by
                rw [hy]
                refine BR.out.cell (v := sv (R.getD j [])) ?_
                rw [List.getElem?_map, List.getD_eq_getElem?_getD, List.getElem?_eq_getElem (by rw [hRlen.out]; exact hlt)]
                rfl
              have hfit6 : Hid (∀ S8 : ByteArray, i + (Value.string S8).cells.size ≤ ((datJ D s ps (fun t => R.getD t []) (dat0 D s z ps) j).map sv ++ rest).length) := fun S8 => by
                show i + 1 ≤ _
                rw [List.length_append, List.length_map, datJ_len]; omega
              have hset : Hid (splice ((datJ D s ps (fun t => R.getD t []) (dat0 D s z ps) j).map sv ++ rest) i (Value.string (bs y)).cells.toList = (datJ D s ps (fun t => R.getD t []) (dat0 D s z ps) (j + 1)).map sv ++ rest) := by
                show _ = _
                rw [set_rowS (by rw [datJ_len]; exact hiD), ← hnx.out, hy]
              unfold pv at hcl
              have hclH := Lib.hid hcl
              generalize bs y = Y at pR hset
              clear hi hiD hy hnx hcl
              go_wp2_with fail
              have q1 : ∀ q : ExtOf wr.drew, q.world.cell? ⟨gD, 0, none⟩ = some (.slice (some ⟨gd, 0, none⟩) D dc) := fun q => (XD.out.drew.below q.ext XD.out.lt).cell (j := 0) rfl
              have q2 : ∀ q : ExtOf wr.drew, q.world.cell? (al.add j) = some (.int .i64 i) := fun q => (((Below.refl wr.heap.size wr).drew.trans q.ext).cell (World.block_lt_of_cell? wr _ hclH.out)).trans hclH.out
              refine wp_region_planM [7] [(true, 0), (true, 1), (true, 2), (true, 3), (true, 4), (true, 5), (true, 6), (false, 7)] (by decide) (by kernel_rfl) (by kernel_rfl) (by decide) (by intro c a d v w h; cases d <;> exact h) ?_
              change wpPlanM _ _ _ _ _ _ wr.drew
              iterate 7 (refine wpPlanM_plain rfl (fun K hK => ?_); go_simp; refine hK _ ?_; clear hK K)
              clear q1 q2
              refine wpPlanM_call rfl (fun K hK => ?_)
              refine wpList_blk_store rfl 9 _ _ rfl i (.string Y) rfl rfl BD.out.drew size_str (hfit6.out _) (one_str _) ?_
              intro w7 hw7 ho7
              refine wpList_end (planPostL_normal ⟨.inl (by simp), hK _ _ ?_⟩)
              clear hK K
              refine wpPlanM_nil ?_
              have f1 : Hid (Below wc.heap.size wc w7) := Er.out.drew.trans (ho7.below hgdH.out)
              have f2 : Hid (Blk w7 gD [.slice (some ⟨gd, 0, none⟩) D dc] 32) := XD.out.drew.only ho7 (by have := hgdD.out; omega)
              have f3 : Hid (Blk w7 gd ((datJ D s ps (fun t => R.getD t []) (dat0 D s z ps) (j + 1)).map sv ++ rest) 9) := by
                have h := hw7.out
                rw [hset.out] at h
                exact h
              have f4 : Hid (Blk w7 ga (R.map sv) 9) := BR.out.drew.only ho7 (by have := hgdD.out; have := hgDs.out; have := hgsa.out; omega)
              clear hw7 ho7 XD BD Er BR pR
              go_wp2_with fail
              go_roundw
              case rel => exact ⟨j + 1, by omega, by go_num, f1, f2, f3, f4⟩
              case measure => simp [intOf]; omega
            · have tj : ¬ (j : Int) < (wd : Int) := by omega
              obtain rfl : wd = j := by omega
              obtain ⟨wZ, rfl⟩ : ∃ x, x = wr := ⟨_, rfl⟩
              have hsolD : Hid (datJ D s ps (fun t => R.getD t []) (dat0 D s z ps) wd = solD D s z ps R) := by show _ = _; rw [hwdH.out, datJ_all]; rfl
              have pD : wZ.cell? ⟨gD, 0, none⟩ = some (.slice (some ⟨gd, 0, none⟩) D dc) := XD.out.cell (j := 0) rfl
              have hDl : (solD D s z ps R).length = D := by unfold solD; simp
              obtain ⟨F, hF⟩ : ∃ F, F = (solD D s z ps R).flatten := ⟨_, rfl⟩
              have hFl : Hid (F.length = D * z) := by show _ = _; rw [hF]; exact sol_len (fun k h1 h2 => hzz.out k (by omega) h2) (by rw [← hwdH.out]; exact hRl.out)
              have CJ := Tryd.strings_Join gd 0 dc ((solD D s z ps R).map bs) ⟨#[]⟩ wZ (fun j x hx => by
                rw [Nat.zero_add]
                refine BD.out.cell (v := .string x) ?_
                rw [hsolD.out]
                have hj := (List.getElem?_eq_some_iff.1 hx).1
                rw [List.getElem?_append_left (by rw [List.length_map] at hj ⊢; exact hj), List.getElem?_map]
                rw [List.getElem?_map] at hx
                cases he : (solD D s z ps R)[j]? with
                | none => rw [he] at hx; cases hx
                | some y => rw [he] at hx; obtain rfl := Option.some.inj hx; rfl) BD.out.lt (by rw [List.length_map, hDl]; omega) (by rw [List.length_map, hDl]; omega) (by
                rw [List.map_map, show (ByteArray.mk #[]).data.toList = [] from rfl, join_flat]
                have : (solD D s z ps R).map ((fun x : ByteArray => x.data.toList) ∘ bs) = solD D s z ps R := by
                  rw [show ((fun x : ByteArray => x.data.toList) ∘ bs) = id from funext fun l => by simp [bs]]
                  exact List.map_id _
                rw [this, ← hF, hFl.out]
                have := hmH.out.2
                omega)
              have hjf : Hid (Value.string ⟨(Lib.join (((solD D s z ps R).map bs).map (·.data.toList)) (ByteArray.mk #[]).data.toList).toArray⟩ = sv F) := by
                show _ = _
                rw [List.map_map, show (ByteArray.mk #[]).data.toList = [] from rfl, join_flat]
                have : (solD D s z ps R).map ((fun x : ByteArray => x.data.toList) ∘ bs) = solD D s z ps R := by
                  rw [show ((fun x : ByteArray => x.data.toList) ∘ bs) = id from funext fun l => by simp [bs]]
                  exact List.map_id _
                rw [this, ← hF]
                rfl
              rw [hjf.out, List.length_map, hDl] at CJ
              have CJH := Lib.hid CJ
              have hFH := Lib.hid hF
              clear CJ hDl hF XD BD BR hlt tj hj
              go_wp2_with fail
              refine CJH.out.mono ?_
              rintro e w15 ⟨rfl, hb⟩
              have hEnd : Hid (Below w.heap.size w w15) := hB1.out.trans ((E.out.trans ((Er.out.trans (hb.mono Er.out.size)).mono hWc.out)).mono hB1.out.size)
              clear hb
              go_wp2_with fail
              go_ret2
              exact ⟨F, true, rfl, ⟨fun _ => hSol.out.2.2.1.1 hflH.out, fun _ => rfl⟩, fun _ => ⟨hFl.out, fun P h1 h2 => by rw [hFH.out, hRH.out]; exact hSol.out.2.2.2 hflH.out P h1 h2⟩, hEnd.out⟩
end Go.Proofs.YtcnljemnkhmfcaaDoor

namespace Go.Proofs.YtcnljemnkhmfcaaDoor
set_option linter.unusedVariables false
set_option linter.unusedSimpArgs false
open Go.RowKit

/-- Arguments of Decode that are right. -/
def DecA (d cnt : Nat) (nn s : Int) (ps : List (List UInt8)) : Prop := 0 ≤ nn ∧ nn ≤ 4096 ∧ 0 ≤ s ∧ s < 2 ^ cnt ∧ FitP cnt (szP d nn.toNat) s.toNat ps
/-- What Decode answers. -/
def DecR (D G : Int) (Gs : List (List Int)) (nn s : Int) (ps : List (List UInt8)) (x : List UInt8) (E : Int) : Prop :=
  (chkE D Gs G ≠ 0 ∧ E = chkE D Gs G ∧ x = []) ∨
  (chkE D Gs G = 0 ∧ ¬ DecA D.toNat (D.toNat + Gs.length + G.toNat) nn s ps ∧ E = 1 ∧ x = []) ∨
  (chkE D Gs G = 0 ∧ DecA D.toNat (D.toNat + Gs.length + G.toNat) nn s ps ∧ ¬ Full7 (pcL D.toNat Gs s.toNat (D.toNat + (Gs.length + G.toNat))) D.toNat ∧ E = 17 ∧ x = []) ∨
  (chkE D Gs G = 0 ∧ DecA D.toNat (D.toNat + Gs.length + G.toNat) nn s ps ∧ Full7 (pcL D.toNat Gs s.toNat (D.toNat + (Gs.length + G.toNat))) D.toNat ∧
    ((E = 0 ∧ x.length = nn.toNat ∧ HasP D.toNat Gs s.toNat (D.toNat + (Gs.length + G.toNat)) (szP D.toNat nn.toNat) ps (filP D.toNat (szP D.toNat nn.toNat) x)) ∨
     (E = 14 ∧ x = [] ∧ ∀ y : List UInt8, y.length = nn.toNat → ¬ HasP D.toNat Gs s.toNat (D.toNat + (Gs.length + G.toNat)) (szP D.toNat nn.toNat) ps (filP D.toNat (szP D.toNat nn.toNat) y))))
def DecEnd7 (D G : Int) (Gs : List (List Int)) (nn s : Int) (ps : List (List UInt8)) (w : World) (e : Ending) (w' : World) : Prop := ∃ x E, e = .returned (.tuple #[sv x, .int .i64 E]) ∧ DecR D G Gs nn s ps x E ∧ Below w.heap.size w w'
theorem fil_take {D z : Nat} {x : List UInt8} {n : Nat} (hx : x.length = n) (h : n ≤ D * z) : (filP D z x).take n = x := by
  unfold filP
  rw [List.take_append_of_le_length (by omega), List.take_of_length_le (by omega)]
theorem bs_extract (F : List UInt8) (m : Nat) : (bs F).extract 0 m = bs (F.take m) := by
  unfold bs
  apply ByteArray.ext
  simp [ByteArray.data_extract]
set_option maxRecDepth 100000 in
set_option maxHeartbeats 16000000 in
theorem decode_any {B pc : Nat} (D G nn s : Int) (Gs : List (List Int)) (n c : Nat) (A PA : Option Addr) (ps : List (List UInt8)) (w : World) (hM : CodM w B D A n c G Gs) (ht : PTab 0 w) (hp : Rds w w.heap.size PA (ps.map sv)) (hpl : ps.length ≤ 1000000) (hpc : ps.length ≤ pc) :
    Calls Tryd.prog 22 #[cdv D A n c G, .int .i64 nn, .int .i64 s, .slice PA ps.length pc] w (DecEnd7 D G Gs nn s ps w) := by
  obtain ⟨W1, hW1⟩ : ∃ W1, W1 = w.alloc (.cells #[.int .i64 D, .slice A n c, .int .i64 G] 24) := ⟨_, rfl⟩
  have hB1 : Hid (Below w.heap.size w W1) := by show Below _ _ _; rw [hW1]; exact (Below.refl _ _).alloc (Nat.le_refl _) _
  have hC1 : Hid (Blk W1 w.heap.size [.int .i64 D, .slice A n c, .int .i64 G] 24) := by show Blk _ _ _ _; rw [hW1]; exact Blk.new _ [_, _, _] _
  have M1 := Lib.hid (hM.keep hB1.out)
  have T1 := Lib.hid (ht.on hB1.out)
  have hpH : Hid (∀ W, Below w.heap.size w W → Rds W W.heap.size PA (ps.map sv)) := fun W h => (hp.below h).more h.size
  have hlen : Hid (n = Gs.length) := hM.len
  have p0 := hC1.out.cell (j := 0) rfl
  have p1 := hC1.out.cell (j := 1) rfl
  have p2 := hC1.out.cell (j := 2) rfl
  obtain ⟨Ck, hCk⟩ : ∃ x, x = chkE D Gs G := ⟨_, rfl⟩
  have CC := Lib.hid (ccheck_any D G Gs n c A W1 M1.out)
  rw [← hCk] at CC
  obtain ⟨q, hq⟩ : ∃ q, q = ps.length := ⟨_, rfl⟩
  have hqH := Lib.hid hq
  have hCkH := Lib.hid hCk
  have hplH := Lib.hid hpl
  have hpcH := Lib.hid hpc
  rw [← hq]
  unfold cdv at CC ⊢
  subst hW1
  clear hM ht hp hpl hpc hCk hq
  by_cases h0 : Ck = 0
  rotate_left
  · have t0 : (Ck != 0) = true := by simpa using h0
    have hans : Hid (DecR D G Gs nn s ps [] Ck) := .inl ⟨by rw [← hCkH.out]; exact h0, hCkH.out, rfl⟩
    clear h0
    go_enter Tryd.func22, Tryd.ntmps22
    go_wp2_with fail
    refine CC.out.mono ?_
    rintro e w2 ⟨rfl, hb⟩
    have hB2 : Hid (Below w.heap.size w w2) := hB1.out.trans (hb.mono hB1.out.size)
    clear hb
    go_wp2_with fail
    go_ret2
    exact ⟨[], Ck, rfl, hans.out, hB2.out⟩
  have t0 : (Ck != 0) = false := by simpa using h0
  have h0H : Hid (chkE D Gs G = 0) := hCkH.out.symm.trans h0
  obtain ⟨b1, b2, b3, b4, b5, b6⟩ := cchk_ok h0H.out
  obtain ⟨d, rfl⟩ : ∃ d : Nat, D = d := ⟨D.toNat, by omega⟩
  obtain ⟨g, rfl⟩ : ∃ g : Nat, G = g := ⟨G.toNat, by omega⟩
  have b6H := Lib.hid b6
  have hd1 : 1 ≤ d := by omega
  have hd : d ≤ 16 := by omega
  have hg4 : g ≤ 4 := by omega
  have hn24 : d + n + g ≤ 24 := by have := hlen.out; omega
  clear b1 b2 b3 b4 b5 b6 h0
  have hargN : Hid (¬ DecA d (d + n + g) nn s ps → DecR (d : Int) (g : Int) Gs nn s ps [] 1) := fun h => .inr (.inl ⟨h0H.out, by rw [Int.toNat_natCast, Int.toNat_natCast, ← hlen.out]; exact h, rfl, rfl⟩)
  by_cases hn0 : nn < 0
  · have hans := Lib.hid (hargN.out fun h => by have := h.1; omega)
    go_enter Tryd.func22, Tryd.ntmps22
    go_wp2_with fail
    refine CC.out.mono ?_
    rintro e w2 ⟨rfl, hb⟩
    have hB2 : Hid (Below w.heap.size w w2) := hB1.out.trans (hb.mono hB1.out.size)
    clear hb
    go_wp2_with fail
    go_ret2
    exact ⟨[], 1, rfl, hans.out, hB2.out⟩
  by_cases hn4 : 4096 < nn
  · have hans := Lib.hid (hargN.out fun h => by have := h.2.1; omega)
    go_enter Tryd.func22, Tryd.ntmps22
    go_wp2_with fail
    refine CC.out.mono ?_
    rintro e w2 ⟨rfl, hb⟩
    have hB2 : Hid (Below w.heap.size w w2) := hB1.out.trans (hb.mono hB1.out.size)
    clear hb
    go_wp2_with fail
    go_ret2
    exact ⟨[], 1, rfl, hans.out, hB2.out⟩
  obtain ⟨m, rfl⟩ : ∃ m : Nat, nn = m := ⟨nn.toNat, by omega⟩
  have hm4 : m ≤ 4096 := by omega
  obtain ⟨bs1, hbs⟩ : ∃ b, b = (s / 2 ^ (d + n + g) == 0) := ⟨_, rfl⟩
  have CS : Hid (∀ W, Calls Tryd.prog 41 #[.agg #[.int .i64 d, .slice A n c, .int .i64 g], .int .i64 s] W fun e w' => e = .returned (.bool bs1) ∧ Below W.heap.size W w') := fun W => by rw [hbs]; exact isSet_any d n g c s A W hd hg4 (by omega)
  have hbsH := Lib.hid hbs
  clear hbs
  cases bs1 with
  | false =>
    have hans := Lib.hid (hargN.out fun h => by
      have := isSet_of.2 ⟨h.2.2.1, h.2.2.2.1⟩
      rw [← hbsH.out] at this
      cases this)
    go_enter Tryd.func22, Tryd.ntmps22
    go_wp2_with fail
    refine CC.out.mono ?_
    rintro e w2 ⟨rfl, hb⟩
    have hB2 : Hid (Below w.heap.size w w2) := hB1.out.trans (hb.mono hB1.out.size)
    have hC2 := hC1.out.below hb hC1.out.lt
    replace p0 := hC2.cell (j := 0) rfl
    replace p1 := hC2.cell (j := 1) rfl
    replace p2 := hC2.cell (j := 2) rfl
    clear hb hC2
    go_wp2_with fail
    refine (CS.out w2).mono ?_
    rintro e w3 ⟨rfl, hb⟩
    have hB3 : Hid (Below w.heap.size w w3) := hB2.out.trans (hb.mono hB2.out.size)
    clear hb
    go_wp2_with fail
    go_ret2
    exact ⟨[], 1, rfl, hans.out, hB3.out⟩
  | true =>
    obtain ⟨hs0, hs1⟩ := isSet_of.1 hbsH.out.symm
    obtain ⟨z, rfl⟩ : ∃ z : Nat, s = z := ⟨s.toNat, by omega⟩
    have hs1H := Lib.hid hs1
    have hz : z ≤ 1073741824 := by have := two24 hn24; omega
    obtain ⟨sz, hsz⟩ : ∃ k, k = szP d m := ⟨_, rfl⟩
    have hszH := Lib.hid hsz
    have hsz4 : sz ≤ 4112 := by
      have h1 := (szP_mul (n := m) hd1).2
      rw [← hsz] at h1
      have : 1 * sz ≤ d * sz := Nat.mul_le_mul_right sz hd1
      omega
    have hDA : Hid (FitP (d + n + g) sz z ps → DecA d (d + n + g) (m : Int) (z : Int) ps) := fun h => ⟨by omega, by omega, by omega, hs1, by rw [Int.toNat_natCast, Int.toNat_natCast, ← hsz]; exact h⟩
    have hDN : Hid (¬ FitP (d + n + g) sz z ps → DecR (d : Int) (g : Int) Gs (m : Int) (z : Int) ps [] 1) := fun h => hargN.out fun hh => h (by have := hh.2.2.2.2; rw [Int.toNat_natCast, Int.toNat_natCast, ← hsz] at this; exact this)
    have CT : Hid (∀ W, Below w.heap.size w W → Calls Tryd.prog 42 #[.agg #[.int .i64 d, .slice A n c, .int .i64 g], .int .i64 m, .int .i64 z, .slice PA q pc] W (SayEnd W (FitP (d + n + g) sz z ps))) := fun W hW => by
      rw [hsz, hqH.out]
      exact fit_any d n g c m z A ps PA pc W hd1 hd hg4 (by omega) hm4 (hpH.out W hW) hplH.out
    go_enter Tryd.func22, Tryd.ntmps22
    go_wp2_with fail
    refine CC.out.mono ?_
    rintro e w2 ⟨rfl, hb⟩
    have hB2 : Hid (Below w.heap.size w w2) := hB1.out.trans (hb.mono hB1.out.size)
    have hC2 := Lib.hid (hC1.out.below hb hC1.out.lt)
    have M2 := Lib.hid (M1.out.keep hb)
    have T2 := Lib.hid (T1.out.on hb)
    clear hb p0 p1 p2 hB1 hC1 M1 T1 CC
    have p0 := hC2.out.cell (j := 0) rfl
    have p1 := hC2.out.cell (j := 1) rfl
    have p2 := hC2.out.cell (j := 2) rfl
    go_wp2_with fail
    refine (CS.out w2).mono ?_
    rintro e w3 ⟨rfl, hb⟩
    have hB3 : Hid (Below w.heap.size w w3) := hB2.out.trans (hb.mono hB2.out.size)
    have hC3 := Lib.hid (hC2.out.below hb hC2.out.lt)
    have M3 := Lib.hid (M2.out.keep hb)
    have T3 := Lib.hid (T2.out.on hb)
    clear hb p0 p1 p2 hB2 hC2 M2 T2
    have p0 := hC3.out.cell (j := 0) rfl
    have p1 := hC3.out.cell (j := 1) rfl
    have p2 := hC3.out.cell (j := 2) rfl
    go_wp2_with fail
    refine (CT.out w3 hB3.out).mono ?_
    rintro e w4 ⟨⟨b, rfl, hbi⟩, hb⟩
    have hB4 : Hid (Below w.heap.size w w4) := hB3.out.trans (hb.mono hB3.out.size)
    have hC4 := Lib.hid (hC3.out.below hb hC3.out.lt)
    have M4 := Lib.hid (M3.out.keep hb)
    have T4 := Lib.hid (T3.out.on hb)
    clear hb p0 p1 p2 hB3 hC3 M3 T3
    cases b with
    | false =>
      have hans := Lib.hid (hDN.out fun h => absurd (hbi.2 h) (by decide))
      clear hbi
      go_wp2_with fail
      go_ret2
      exact ⟨[], 1, rfl, hans.out, hB4.out⟩
    | true =>
      have hF := hbi.1 rfl
      have hDAH := Lib.hid (hDA.out hF)
      obtain ⟨N, hN⟩ : ∃ N, N = n + g := ⟨_, rfl⟩
      have hNl : Hid (N = Gs.length + g) := by show _ = _; rw [hN, hlen.out]
      have hpl7 : Hid (q = d + N) := by show _ = _; rw [hqH.out, hF.1, hN]; omega
      have hin : Hid (∀ g' ∈ Gs, ∀ v ∈ g', 0 ≤ v ∧ v < (d : Int)) := grpE_rng Gs 0 (by have := b6H.out; rw [Int.toNat_natCast] at this; exact this)
      have SV := Lib.hid (solve_any (B := B) (nn := m) (pc := pc) w4 M4.out hd1 hd hg4 hn24 hin.out hz hm4 (hpH.out w4 hB4.out) (by rw [hF.1]) hpcH.out (by rw [← hsz]; exact hF.2) T4.out)
      rw [← hqH.out, ← hsz] at SV
      unfold cdv at SV
      have hFitH := Lib.hid hF
      have p0 := hC4.out.cell (j := 0) rfl
      have p1 := hC4.out.cell (j := 1) rfl
      have p2 := hC4.out.cell (j := 2) rfl
      clear hbi hF hsz
      go_wp2_with fail
      refine SV.out.mono ?_
      rintro e w5 ⟨F, ok, rfl, hok, hfin, hb⟩
      have hB5 : Hid (Below w.heap.size w w5) := hB4.out.trans (hb.mono hB4.out.size)
      have hC5 := Lib.hid (hC4.out.below hb hC4.out.lt)
      have M5 := Lib.hid (M4.out.keep hb)
      have T5 := Lib.hid (T4.out.on hb)
      clear hb p0 p1 p2 hB4 hC4 M4 T4 SV
      rw [← hN] at hok hfin
      cases ok with
      | false =>
        have hans : Hid (DecR (d : Int) (g : Int) Gs (m : Int) (z : Int) ps [] 17) := .inr (.inr (.inl ⟨h0H.out, by rw [Int.toNat_natCast, Int.toNat_natCast, ← hlen.out]; exact hDAH.out, by
          rw [Int.toNat_natCast, Int.toNat_natCast, Int.toNat_natCast, ← hNl.out]
          exact fun h => absurd (hok.2 h) (by decide), rfl, rfl⟩))
        clear hok hfin
        go_wp2_with fail
        go_ret2
        exact ⟨[], 17, rfl, hans.out, hB5.out⟩
      | true =>
        have hfull := Lib.hid (hok.1 rfl)
        obtain ⟨hFl0, hFP0⟩ := hfin rfl
        have hFl := Lib.hid hFl0
        have hFP := Lib.hid hFP0
        have hmm := (szP_mul (n := m) hd1).1
        rw [← hszH.out, ← hFl0] at hmm
        obtain ⟨SF, hSF⟩ : ∃ S, S = bs F := ⟨_, rfl⟩
        have hSFs : SF.size = F.length := by rw [hSF, bs_size]
        have tm : (m : Int) ≤ (SF.size : Int) := by omega
        have tm0 : 0 ≤ (m : Int) := by omega
        have hSFH := Lib.hid hSF
        unfold sv
        rw [← hSF]
        clear hok hfin hFl0 hFP0 hSF hmm
        obtain ⟨y, hy⟩ : ∃ y, y = F.take m := ⟨_, rfl⟩
        have hyl : y.length = m := by rw [hy, List.length_take]; omega
        obtain ⟨Y, hY⟩ : ∃ Y, Y = bs y := ⟨_, rfl⟩
        have hext : SF.extract 0 m = Y := by rw [hSFH.out, hY, hy]; exact bs_extract F m
        have hYs : Y.size = m := by rw [hY, bs_size, hyl]
        have CLO := Lib.hid (sclone_any Y w5 (by omega))
        have hyH := Lib.hid hy
        have hylH := Lib.hid hyl
        have hYH := Lib.hid hY
        clear hy hyl hY
        go_wp2_with fail
        try rw [hext]
        refine CLO.out.mono ?_
        rintro e w6 ⟨rfl, hb⟩
        have hB6 : Hid (Below w.heap.size w w6) := hB5.out.trans (hb.mono hB5.out.size)
        have hC6 := Lib.hid (hC5.out.below hb hC5.out.lt)
        have M6 := Lib.hid (M5.out.keep hb)
        have T6 := Lib.hid (T5.out.on hb)
        clear hb hB5 hC5 M5 T5 CLO hext
        have p0 := hC6.out.cell (j := 0) rfl
        have p1 := hC6.out.cell (j := 1) rfl
        have p2 := hC6.out.cell (j := 2) rfl
        have EN : Hid (Calls Tryd.prog 35 #[.agg #[.int .i64 d, .slice A n c, .int .i64 g], .string Y] w6 (TextsEnd w6 (encP d Gs (filP d sz y) sz q))) := by
          have := encode_any (G := g) y w6 M6.out hd1 hd hg4 hn24 hin.out (by rw [hylH.out]; exact hm4) T6.out
          rw [hylH.out, ← hszH.out, show d + n + g = q by rw [hpl7.out, hN]; omega] at this
          show Calls _ _ _ _ _
          rw [hYH.out]
          exact this
        have hq24 : q ≤ 24 := by rw [hpl7.out, hN]; omega
        go_wp2_with fail
        refine EN.out.mono ?_
        rintro e w7 ⟨A7, c7, rfl, hc7, hA7, hr7, _, hb7⟩
        rw [encP_len] at hc7 ⊢
        have hr7H := Lib.hid hr7
        have hB7 : Hid (Below w.heap.size w w7) := hB6.out.trans (hb7.mono hB6.out.size)
        clear p0 p1 p2 hc7 hA7 hr7 hb7 EN
        go_wp2_with fail
        go_loopw [59] (fun i wr => ∃ k : Nat, k ≤ q ∧ i = .int .i64 k ∧ Hid (Below w7.heap.size w7 wr) ∧ Hid (∀ t, t < k → z.testBit t = true → pce d Gs (filP d sz y) sz t = ps.getD t [])) (fun i _ => q - (intOf i).toNat)
        case atStart => exact ⟨0, by omega, rfl, Below.refl _ _, fun t ht => by omega⟩
        case round =>
          obtain ⟨k, hk, rfl, hBr, hI⟩ := hrel
          by_cases hlt : k < q
          · have tk : (k : Int) < (q : Int) := by omega
            have tk0 : 0 ≤ (k : Int) := by omega
            obtain ⟨a7, ha7, _, hc7⟩ := (hr7H.out.below hBr.out).look (k := k) (u := sv (pce d Gs (filP d sz y) sz k)) (by rw [List.getElem?_map, encP_get hlt]; rfl)
            subst ha7
            obtain ⟨p, hpk⟩ : ∃ p, ps[k]? = some p := ⟨_, List.getElem?_eq_getElem (by have := hqH.out; omega)⟩
            have hpd : ps.getD k [] = p := by rw [List.getD_eq_getElem?_getD, hpk]; rfl
            have hBw : Hid (Below w.heap.size w wr) := hB7.out.trans (hBr.out.mono hB7.out.size)
            obtain ⟨ap, hap, _, hcp⟩ := (hpH.out wr hBw.out).look (k := k) (u := sv p) (by rw [List.getElem?_map, hpk]; rfl)
            subst hap
            have hpdH := Lib.hid hpd
            have s1 := bs_toList (pce d Gs (filP d sz y) sz k)
            have s2 := bs_toList p
            obtain ⟨x, hx⟩ : ∃ x, x = pce d Gs (filP d sz y) sz k := ⟨_, rfl⟩
            rw [← hx] at hc7 s1
            have hxH := Lib.hid hx
            unfold sv at hc7 hcp
            generalize bs x = X at hc7 s1
            generalize bs p = Q at hcp s2
            have S1 := Lib.hid s1
            have S2 := Lib.hid s2
            have hh := has_any z k wr (by omega)
            clear s1 s2 hx hpd hpk
            cases hb : z.testBit k with
            | false =>
              rw [hb] at hh
              have hhH := Lib.hid hh
              have hn : Hid (∀ t, t < k + 1 → z.testBit t = true → pce d Gs (filP d sz y) sz t = ps.getD t []) := fun t ht h2 => by
                by_cases e : t = k
                · subst e; rw [hb] at h2; cases h2
                · exact hI.out t (by omega) h2
              clear hb hh
              go_wp2_with fail
              refine hhH.out.mono ?_
              rintro e w8 ⟨rfl, rfl⟩
              go_wp2_with fail
              go_roundw
              case rel => exact ⟨k + 1, by omega, by go_num, hBr, hn⟩
              case measure => simp [intOf]; omega
            | true =>
              rw [hb] at hh
              have hhH := Lib.hid hh
              have hbH := Lib.hid hb
              clear hb hh
              by_cases hxy : x = p
              · have t1 : (X.toList == Q.toList) = true := by rw [S1.out, S2.out]; simp [hxy]
                have hn : Hid (∀ t, t < k + 1 → z.testBit t = true → pce d Gs (filP d sz y) sz t = ps.getD t []) := fun t ht h2 => by
                  by_cases e : t = k
                  · subst e; rw [← hxH.out, hpdH.out]; exact hxy
                  · exact hI.out t (by omega) h2
                clear hxy
                go_wp2_with fail
                refine hhH.out.mono ?_
                rintro e w8 ⟨rfl, rfl⟩
                go_wp2_with fail
                go_roundw
                case rel => exact ⟨k + 1, by omega, by go_num, hBr, hn⟩
                case measure => simp [intOf]; omega
              · have t1 : (X.toList == Q.toList) = false := by rw [S1.out, S2.out]; simp [hxy]
                have hans : Hid (DecR (d : Int) (g : Int) Gs (m : Int) (z : Int) ps [] 14) := by
                  refine .inr (.inr (.inr ⟨h0H.out, by rw [Int.toNat_natCast, Int.toNat_natCast, ← hlen.out]; exact hDAH.out, by rw [Int.toNat_natCast, Int.toNat_natCast, Int.toNat_natCast, ← hNl.out]; exact hfull.out, .inr ⟨rfl, rfl, fun v hv hP => ?_⟩⟩))
                  rw [Int.toNat_natCast, Int.toNat_natCast, Int.toNat_natCast, Int.toNat_natCast, ← hNl.out, ← hszH.out] at hP
                  rw [Int.toNat_natCast] at hv
                  have hmd : m ≤ d * sz := by rw [hszH.out]; exact (szP_mul hd1).1
                  have hFv := hFP.out (filP d sz v) (filP_len (by omega)) hP
                  have hyv : y = v := by rw [hyH.out, hFv]; exact fil_take hv hmd
                  exact hxy (by rw [hxH.out, hyv, hP k (by rw [← hpl7.out]; exact hlt) hbH.out, hpdH.out])
                clear hxy
                go_wp2_with fail
                refine hhH.out.mono ?_
                rintro e w8 ⟨rfl, rfl⟩
                go_wp2_with fail
                go_ret2
                exact ⟨[], 14, rfl, hans.out, hBw.out⟩
          · have tk : ¬ (k : Int) < (q : Int) := by omega
            have hans : Hid (DecR (d : Int) (g : Int) Gs (m : Int) (z : Int) ps y 0) := by
              refine .inr (.inr (.inr ⟨h0H.out, by rw [Int.toNat_natCast, Int.toNat_natCast, ← hlen.out]; exact hDAH.out, by rw [Int.toNat_natCast, Int.toNat_natCast, Int.toNat_natCast, ← hNl.out]; exact hfull.out, .inl ⟨rfl, hylH.out, fun t ht hb => ?_⟩⟩))
              rw [Int.toNat_natCast, Int.toNat_natCast, ← hszH.out]
              rw [Int.toNat_natCast, Int.toNat_natCast, ← hNl.out, ← hpl7.out] at ht
              rw [Int.toNat_natCast] at hb
              exact hI.out t (by omega) hb
            have hBw : Hid (Below w.heap.size w wr) := hB7.out.trans (hBr.out.mono hB7.out.size)
            have hYs2 : Hid (Value.string Y = sv y) := by show _ = _; rw [hYH.out]; rfl
            go_wp2_with fail
            go_ret2
            exact ⟨y, 0, by rw [← hYs2.out]; rfl, hans.out, hBw.out⟩
end Go.Proofs.YtcnljemnkhmfcaaDoor
