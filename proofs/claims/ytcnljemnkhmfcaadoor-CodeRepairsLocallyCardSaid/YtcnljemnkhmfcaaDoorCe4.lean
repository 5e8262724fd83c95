/-
  Contracts of stage 7: encode. Contracts of stage 7: Encode, Rows. Contracts of stage 7: Rows.
-/
import Derived.Test.YtcnljemnkhmfcaaDoorCe2
import Derived.Test.YtcnljemnkhmfcaaDoorCe3
namespace Go.Proofs.YtcnljemnkhmfcaaDoor
set_option linter.unusedVariables false
set_option linter.unusedSimpArgs false
open Go.RowKit

/-- What encode ends with: texts that are read. -/
def TextsEnd (w : World) (L : List (List UInt8)) (e : Ending) (w' : World) : Prop := ∃ A c, e = .returned (.slice A L.length c) ∧ L.length ≤ c ∧ (A = none → c = 0) ∧ Rds w' w'.heap.size A (L.map sv) ∧ OwnS w' w.heap.size (.slice A L.length c) L ∧ Below w.heap.size w w'
set_option maxRecDepth 100000 in
set_option maxHeartbeats 16000000 in
theorem encode_any {B D n c G : Nat} {Gs : List (List Int)} {A : Option Addr} (d : List UInt8) (w : World) (hM : CodM w B (D : Int) A n c (G : Int) Gs) (hD : 1 ≤ D) (hD16 : D ≤ 16) (hG : G ≤ 4) (hcnt : D + n + G ≤ 24) (hin : ∀ g ∈ Gs, ∀ v ∈ g, 0 ≤ v ∧ v < (D : Int)) (hd : d.length ≤ 4096) (ht : PTab 0 w) :
    Calls Tryd.prog 35 #[cdv D A n c G, sv d] w (TextsEnd w (encP D Gs (filP D (szP D d.length) d) (szP D d.length) (D + n + G))) := by
  obtain ⟨W1, hW1⟩ : ∃ W1, W1 = w.alloc (.cells #[.int .i64 D, .slice A n c, .int .i64 G] 24) := ⟨_, rfl⟩
  have hB1 : Hid (Below w.heap.size w W1) := by show Below _ _ _; rw [hW1]; exact (Below.refl _ _).alloc (Nat.le_refl _) _
  have hC1 : Hid (Blk W1 w.heap.size [.int .i64 D, .slice A n c, .int .i64 G] 24) := by show Blk _ _ _ _; rw [hW1]; exact Blk.new _ [_, _, _] _
  have M1 := Lib.hid (hM.keep hB1.out)
  have T1 := Lib.hid (ht.on hB1.out)
  have hlen : Hid (n = Gs.length) := hM.len
  obtain ⟨q, hq⟩ : ∃ q, q = d.length := ⟨_, rfl⟩
  obtain ⟨z, hz⟩ : ∃ z, z = szP D d.length := ⟨_, rfl⟩
  obtain ⟨P, hP⟩ : ∃ P, P = filP D z d := ⟨_, rfl⟩
  obtain ⟨cnt, hc⟩ : ∃ k, k = D + n + G := ⟨_, rfl⟩
  have hm := szP_mul (n := d.length) hD
  rw [← hz] at hm
  have hPl : P.length = D * z := by rw [hP]; exact filP_len hm.1
  obtain ⟨T, hT⟩ : ∃ T, T = D * z := ⟨_, rfl⟩
  rw [← hz, ← hP, ← hc]
  rw [← hc] at hcnt
  have hTz : T ≤ 4112 := by rw [hT]; omega
  have eT : (D : Int) * (z : Int) = (T : Int) := by rw [hT, Int.natCast_mul]
  have hqT : q ≤ T := by rw [hT, hq]; exact hm.1
  have CZ := Lib.hid (size_any D q n c (G : Int) A W1 hD hD16 (by omega))
  have hzq : (q + D - 1) / D = z := by rw [hz, hq]; rfl
  rw [hzq] at CZ
  have CN : Hid (∀ W, Calls Tryd.prog 33 #[cdv D A n c G] W fun e w' => e = .returned (.int .i64 (cnt : Int)) ∧ Below W.heap.size W w') := fun W => by rw [hc]; exact count_any D n G c A W hD16 hG (by omega)
  obtain ⟨N, hN⟩ : ∃ N, N = n + G := ⟨_, rfl⟩
  have CP : Hid (∀ W, CodM W B (D : Int) A n c (G : Int) Gs → PTab 0 W → Calls Tryd.prog 34 #[cdv D A n c G] W fun e w' => (∃ x bs, e = .returned (.slice (some ⟨x, 0, none⟩) N N) ∧ Om w' W.heap.size x bs (PM (par D Gs) N) []) ∧ Below W.heap.size W w') := fun W m t => by rw [hN]; exact parities_any D n c G Gs A W m hD16 hG (by omega) hin t
  have hDN : Hid (cnt = D + N) := by show _ = _; rw [hc, hN]; omega
  obtain ⟨S0, hS0⟩ : ∃ S, S = bs d := ⟨_, rfl⟩
  have hS0l : S0.size = q := by rw [hS0, bs_size, hq]
  have hS0d : Hid (S0.data.toList.take q = d.take d.length) := by show _ = _; rw [hS0, hq]; simp [bs]
  have hzH := Lib.hid hz
  have hqH := Lib.hid hq
  have hPH := Lib.hid hP
  have hPlH := Lib.hid hPl
  have hTH := Lib.hid hT
  have hDH := Lib.hid hD
  have hmH := Lib.hid hm
  have hW1H := Lib.hid hW1
  have p0 := hC1.out.cell (j := 0) rfl
  have p1 := hC1.out.cell (j := 1) rfl
  have p2 := hC1.out.cell (j := 2) rfl
  have hz4 : z ≤ 4112 := by
    have : 1 * z ≤ D * z := Nat.mul_le_mul_right z hD
    omega
  have hmin : q = min S0.size T := by omega
  have hminH := Lib.hid hmin
  unfold sv
  rw [← hS0]
  unfold cdv at CZ CN CP ⊢
  subst hW1
  clear hM ht hz hq hP hPl hT hm hc hzq hN hS0 hin hD hd hmin
  go_enter Tryd.func35, Tryd.ntmps35
  go_wp2_with fail
  refine CZ.out.mono ?_
  rintro e w2 ⟨rfl, hb⟩
  have hC2 := Lib.hid (hC1.out.below hb hC1.out.lt)
  have M2 := Lib.hid (M1.out.keep hb)
  have T2 := Lib.hid (T1.out.on hb)
  have hB2 : Hid (Below w.heap.size w w2) := hB1.out.trans (hb.mono hB1.out.size)
  clear hb p0 p1 p2 CZ hC1 M1 T1 hB1
  have p0 := hC2.out.cell (j := 0) rfl
  obtain ⟨W5, hW5⟩ : ∃ W5, W5 = w2.alloc (.cells (madeCells #[.int .u8 0] T) 5) := ⟨_, rfl⟩
  have hb5 : Hid (Below w2.heap.size w2 W5) := by show Below _ _ _; rw [hW5]; exact (Below.refl _ _).alloc (Nat.le_refl _) _
  have hZ5 : Hid (Blk W5 w2.heap.size ((List.replicate T (0 : UInt8)).map bv) 5) := by
    show Blk _ _ _ _
    rw [hW5, made_zeros, zeros_row]
    exact Blk.new _ _ _
  have hmk2 := run_make_row' (P := Tryd.prog) 57 5 (.int .u8 0) 1 Tryd.underlying57 infoByte rfl .i64 .i64 T (by omega) (by omega) w2
  rw [← hW5] at hmk2
  have HS : Hid (∀ W6, Only w2.heap.size W5 W6 → Blk W6 w.heap.size [.int .i64 D, .slice A n c, .int .i64 G] 24) := fun W6 h => (hC2.out.below hb5.out hC2.out.lt).only h (by have := hC2.out.lt; omega)
  clear hW5
  go_wp2_with (refine wpList_blk_copy rfl _ _ _ _ rfl 5 Tryd.underlying57 size_u8 0 T T S0 rfl rfl q hminH.out hZ5.out (by rw [List.length_map, List.length_replicate]; omega) ?_; intro w6 hw6 ho6; have hC6 := HS.out w6 ho6; have p0 := hC6.cell (j := 0) rfl; have p1 := hC6.cell (j := 1) rfl; have p2 := hC6.cell (j := 2) rfl; clear hC6)
  clear hmk2
  have hC6 := Lib.hid (HS.out w6 ho6)
  have hB56 : Hid (Below w2.heap.size w2 w6) := hb5.out.trans (ho6.below (Nat.le_refl _))
  have M6 := Lib.hid (M2.out.keep hB56.out)
  have T6 := Lib.hid (T2.out.on hB56.out)
  have hB6 : Hid (Below w.heap.size w w6) := hB2.out.trans (hB56.out.mono hB2.out.size)
  have hP6 : Hid (Blk w6 w2.heap.size (P.map bv) 5) := by
    have h := hw6.out
    rw [hS0d.out, hTH.out, zeros_append _ _ _ hmH.out.1, ← hPH.out] at h
    exact h
  clear hw6 ho6 HS hZ5 hb5 hB56 M2 T2 hC2
  refine (CN.out w6).mono ?_
  rintro e w7 ⟨rfl, hb⟩
  have hC7 := Lib.hid (hC6.out.below hb hC6.out.lt)
  have M7 := Lib.hid (M6.out.keep hb)
  have T7 := Lib.hid (T6.out.on hb)
  have hB7 : Hid (Below w.heap.size w w7) := hB6.out.trans (hb.mono hB6.out.size)
  have hP7 := Lib.hid (hP6.out.below hb hP6.out.lt)
  clear hb p0 p1 p2 hC6 M6 T6 hB6 hP6
  obtain ⟨i0, hi, hz0, hz1, hz2⟩ := info_parts infoStr7
  obtain ⟨w8, hmk, hom, hgm⟩ := run_make_own (P := Tryd.prog) (w := w7) w7.heap.size 32 9 i0 (.string .empty) 1 Tryd.underlying32 hi hz0 hz1 .i64 .i64 cnt (by rw [hz2]; omega) (by unfold maxLen; omega) (Nat.le_refl _)
  have hb8 : Hid (Below w7.heap.size w7 w8) := (Below.refl _ _).grown hgm (Nat.le_refl _) (by simp)
  have hO8 : Hid (OwnS w8 w7.heap.size (.slice (some ⟨w7.heap.size, 0, none⟩) 0 cnt) (encP D Gs P z 0)) := hom
  have q0 := (hC7.out.below hb8.out hC7.out.lt).cell (j := 0) rfl
  obtain ⟨U, hU⟩ : ∃ U, U = w2.heap.size := ⟨_, rfl⟩
  rw [← hU] at hP7
  rw [← hU]
  have hPlt : Hid (U < w7.heap.size) := hP7.out.lt
  clear hi hz0 hz1 hz2 hom hgm hU
  go_wp2_with fail
  clear hmk q0
  go_loopw [7, 30] (fun v i wr => ∃ k : Nat, k ≤ D ∧ i = .int .i64 k ∧ Hid (OwnS wr w7.heap.size v (encP D Gs P z k)) ∧ Hid (Below w7.heap.size w7 wr)) (fun _ i _ => D - (intOf i).toNat)
  case atStart => exact ⟨0, by omega, rfl, hO8, hb8⟩
  case round =>
    clear hO8 hb8
    obtain ⟨k, hk, rfl, hO, hBr⟩ := hrel
    have hsz := hBr.out.size
    by_cases hlt : k < D
    · have tk : (k : Int) < (D : Int) := by omega
      obtain ⟨kz, hkz⟩ : ∃ m, m = k * z := ⟨_, rfl⟩
      obtain ⟨k2, hk2⟩ : ∃ m, m = kz + z := ⟨_, rfl⟩
      have e1 : (k : Int) * (z : Int) = (kz : Int) := by rw [hkz, Int.natCast_mul]
      have e2 : ((k : Int) + 1) * (z : Int) = (k2 : Int) := by rw [Int.add_mul, Int.one_mul, e1, hk2]; omega
      have hkT : k2 ≤ T := by rw [hk2, hkz, hTH.out, ← Nat.succ_mul]; exact Nat.mul_le_mul_right z hlt
      have f0 : 0 ≤ (kz : Int) := by omega
      have f1 : (kz : Int) ≤ (k2 : Int) := by omega
      have f2 : (k2 : Int) ≤ (T : Int) := by omega
      have f3 : k2 - kz = z := by omega
      have f4 : kz ≤ k2 := by omega
      obtain ⟨A3, ha3⟩ : ∃ X, (if T = kz then some (⟨U, 0, none⟩ : Addr) else some ⟨U, kz, none⟩) = X := ⟨_, rfl⟩
      have hrd : Rds wr wr.heap.size A3 ((pce D Gs P z k).map bv) := by
        rw [← ha3, pce_unit hlt hPlH.out, ← hkz]
        by_cases e : T = kz
        · have : z = 0 := by omega
          rw [this, List.take_zero]
          exact Rds.empty
        · rw [if_neg e, List.map_take, List.map_drop]
          exact (hP7.out.below hBr.out hPlt.out).rds kz z
      obtain ⟨y, hy⟩ : ∃ y, y = pce D Gs P z k := ⟨_, rfl⟩
      have hyl : y.length = z := by rw [hy, pce_len]
      rw [← hy] at hrd
      have hcv := run_bytes_bs (P := Tryd.prog) wr 57 9 5 Tryd.underlying57 Tryd.underlying5 Tryd.underlying9 (T - kz) hrd
      rw [hyl] at hcv
      have hnx : Hid (encP D Gs P z (k + 1) = encP D Gs P z k ++ [y]) := by show _ = _; rw [encP_next, hy]
      have hll : (encP D Gs P z k).length ≤ 1000000 := by rw [encP_len]; omega
      obtain ⟨Y, hY⟩ : ∃ Y, Y = bs y := ⟨_, rfl⟩
      rw [← hY] at hcv
      have hYH : Hid (Value.string Y = sv y) := by show _ = _; rw [hY]; rfl
      generalize encP D Gs P z k = L at hO hll hnx
      clear hkz hk2 hrd hy hyl hY hkT
      go_wp2_with (at_builtin; go_must (refine push_s rfl _ _ rfl w7.heap.size u7 L y _ hYH.out rfl rfl hO.out hll hsz ?_); intro v' w1 ho1 hg1)
      have hb1 := Lib.hid (below_grown hBr.out hO.out hg1.1 hsz)
      have ho1H : Hid (OwnS w1 w7.heap.size v' (encP D Gs P z (k + 1))) := by show OwnS _ _ _ _; rw [hnx.out]; exact ho1
      clear hcv ha3 ho1 hg1
      go_roundw
      case rel => exact ⟨k + 1, by omega, by go_num, ho1H, hb1⟩
      case measure => simp [intOf]; omega
    · have tk : ¬ (k : Int) < (D : Int) := by omega
      obtain rfl : D = k := by omega
      obtain ⟨wR, rfl⟩ : ∃ x, x = wr := ⟨_, rfl⟩
      have hCR := hC7.out.below hBr.out hC7.out.lt
      have p0 := hCR.cell (j := 0) rfl
      have p1 := hCR.cell (j := 1) rfl
      have p2 := hCR.cell (j := 2) rfl
      have CPR := Lib.hid (CP.out wR (M7.out.keep hBr.out) (T7.out.on hBr.out))
      have hszR := Lib.hid hsz
      have hN24 : N ≤ 24 := by have := hDN.out; omega
      clear hCR hlt tk hk hsz
      go_wp2_with fail
      refine CPR.out.mono ?_
      rintro e wP ⟨⟨x, bl, rfl, hOm⟩, hb⟩
      have hOmH := Lib.hid hOm
      have hBP : Hid (Below w7.heap.size w7 wP) := hBr.out.trans (hb.mono hszR.out)
      have hOP := Lib.hid (hO.out.keep hb)
      have hRP := Lib.hid hb.size
      have hap : Hid (∀ b, u7.ownBlock = some b → b < wR.heap.size ∨ wP.heap.size ≤ b) := fun b hb' => .inl (World.ownsRow.lt hO.out b hb').2
      clear hb hOm p0 p1 p2 CPR hO hBr
      go_wp2_with fail
      go_loopw [7, 50] (fun v i wr => ∃ t : Nat, t ≤ N ∧ i = .int .i64 t ∧ Hid (OwnS wr w7.heap.size v (encP D Gs P z (D + t))) ∧ Hid (Below w7.heap.size w7 wr) ∧ Hid (∀ y, wR.heap.size ≤ y → y < wP.heap.size → wr.heap[y]? = wP.heap[y]?) ∧ Hid (∀ b, v.ownBlock = some b → b < wR.heap.size ∨ wP.heap.size ≤ b) ∧ Hid (wP.heap.size ≤ wr.heap.size)) (fun _ i _ => N - (intOf i).toNat)
      case atStart => exact ⟨0, by omega, rfl, hOP, hBP, fun _ _ _ => rfl, hap, Nat.le_refl _⟩
      case round =>
        clear hOP hBP hap
        obtain ⟨t, ht, rfl, hO, hBr, hst, hap, hPr⟩ := hrel
        have hsz := hBr.out.size
        by_cases hlt : t < N
        · have tt : (t : Int) < (N : Int) := by omega
          have hOmr := Lib.hid (hOmH.out.mid hst.out)
          obtain ⟨b, hbk, hbne, hbb, hcr, hrowb⟩ := hOmr.out.at (PM_get (par D Gs) hlt)
          rw [show (par D Gs t).length = D by rw [par_cr, crow_len]] at hcr
          have hrdb : Rds wr wr.heap.size (some ⟨b, 0, none⟩) ((crow D Gs (D + t) D).map bv) := by
            have h := hrowb.rds 0 (par D Gs t).length
            rw [List.drop_zero, List.take_of_length_le (by rw [List.length_map]; exact Nat.le_refl _), par_cr] at h
            exact h
          obtain ⟨A4, c4, rfl, hc4, _, hA4, hr4⟩ := hO.out.slice
          have hr4D : Rds wr wr.heap.size A4 ((encP D Gs P z D).map sv) := by
            have h := hr4.take D
            rw [← List.map_take, encP_take (by omega)] at h
            exact h
          have CB := combine_ok (crow D Gs (D + t) D) (encP D Gs P z D) (some ⟨b, 0, none⟩) A4 D c4 wr (by rw [encP_len]; omega) (fun x hx => by
            obtain ⟨i, _, rfl⟩ := List.mem_map.1 hx
            rw [pce_len]; omega) hrdb hr4D (fit_enc hDH.out) (T7.out.on hBr.out)
          rw [pce_par hDH.out hPlH.out, crow_len, encP_len] at CB
          have hnx : Hid (encP D Gs P z (D + (t + 1)) = encP D Gs P z (D + t) ++ [pce D Gs P z (D + t)]) := encP_next _ _ _ _ _
          have hLl : (encP D Gs P z (D + t)).length = D + t := encP_len _ _ _ _ _
          have hcD : D ≤ c4 := by rw [hLl] at hc4; omega
          have hcDI : (D : Int) ≤ (c4 : Int) := by omega
          have hD0 : 0 ≤ (D : Int) := by omega
          have q0 := ((hC7.out.below hBr.out hC7.out.lt)).cell (j := 0) rfl
          generalize pce D Gs P z (D + t) = y at CB hnx
          obtain ⟨Y, hY⟩ : ∃ Y, Y = bs y := ⟨_, rfl⟩
          unfold sv at CB
          rw [← hY] at CB
          have hYH : Hid (Value.string Y = sv y) := by show _ = _; rw [hY]; rfl
          have hll : (encP D Gs P z (D + t)).length ≤ 1000000 := by rw [hLl]; have := hDN.out; omega
          have CBH := Lib.hid CB
          generalize hLe : encP D Gs P z (D + t) = L at hO hap hll hnx hLl hr4 hc4 ⊢
          obtain ⟨nl, hnl⟩ : ∃ m, m = L.length := ⟨_, rfl⟩
          rw [← hnl] at hO hap hc4
          rw [← hnl]
          have hnlH := Lib.hid hnl
          have hc4I : D ≤ nl := by rw [hnl, hLl]; omega
          clear hOmr hbk hbne hbb hrowb hrdb hr4 hr4D hA4 CB hY hLe hLl hnl hc4
          go_wp2_with fail
          refine CBH.out.mono ?_
          rintro e w9 ⟨rfl, hb9⟩
          have hb9H := Lib.hid hb9
          have hO9 : Hid (OwnS w9 w7.heap.size (.slice A4 nl c4) L) := hO.out.keep hb9
          have hB9 : Hid (Below w7.heap.size w7 w9) := hBr.out.trans (hb9.mono hsz)
          have hll' := hll
          clear hb9 CBH q0 hcr hO
          go_wp2_with (at_builtin; go_must (refine push_s rfl _ _ rfl w7.heap.size (.slice A4 nl c4) L y _ hYH.out rfl rfl hO9.out hll' hB9.out.size ?_); intro v' w1 ho1 hg1)
          have f1 : Hid (OwnS w1 w7.heap.size v' (encP D Gs P z (D + (t + 1)))) := by show OwnS _ _ _ _; rw [hnx.out]; exact ho1
          have f2 := Lib.hid (below_grown hB9.out hO9.out hg1.1 hB9.out.size)
          have f3 : Hid (∀ y, wR.heap.size ≤ y → y < wP.heap.size → w1.heap[y]? = wP.heap[y]?) := fun y h1 h2 => by
            have e1 := hg1.1.block y (by have := hPr.out; have := hb9H.out.size; omega) (fun hh => by
              rcases hap.out y hh.symm with h | h <;> omega)
            exact e1.trans ((hb9H.out.block y (by have := hPr.out; omega)).trans (hst.out y h1 h2))
          have f4 : Hid (∀ b, v'.ownBlock = some b → b < wR.heap.size ∨ wP.heap.size ≤ b) := fun b hb' => by
            rcases hg1.2 with h | ⟨k, h, hk⟩
            · exact hap.out b (h.symm.trans hb')
            · rw [h] at hb'
              obtain rfl := Option.some.inj hb'
              have := hPr.out
              have := hb9H.out.size
              exact .inr (by omega)
          have f5 : Hid (wP.heap.size ≤ w1.heap.size) := Nat.le_trans hPr.out (Nat.le_trans hb9H.out.size hg1.1.size)
          clear ho1 hg1
          go_roundw
          case rel => exact ⟨t + 1, by omega, by go_num, f1, f2, f3, f4, f5⟩
          case measure => simp [intOf]; omega
        · have tt : ¬ (t : Int) < (N : Int) := by omega
          obtain rfl : N = t := by omega
          obtain ⟨A4, c4, rfl, hc4, _, hA4, hr4⟩ := hO.out.slice
          have hend : Hid (TextsEnd w (encP D Gs P z cnt) (.returned (.slice A4 (encP D Gs P z (D + N)).length c4)) wr) := by
            show TextsEnd _ _ _ _
            rw [← hDN.out] at hO hc4 hr4 ⊢
            exact ⟨A4, c4, rfl, hc4, hA4, hr4, hO.out.up hB7.out.size, hB7.out.trans (hBr.out.mono hB7.out.size)⟩
          clear hO hc4 hr4
          go_wp2_with fail
          go_ret
          exact hend.out
end Go.Proofs.YtcnljemnkhmfcaaDoor

namespace Go.Proofs.YtcnljemnkhmfcaaDoor
set_option linter.unusedVariables false
set_option linter.unusedSimpArgs false
open Go.RowKit

/-- The error and the pieces of an encoding. -/
def encE (D G : Int) (Gs : List (List Int)) (d : List UInt8) : Int := if chkE D Gs G = 0 then (if 4096 < d.length then 2 else 0) else chkE D Gs G
def encT (D G : Int) (Gs : List (List Int)) (d : List UInt8) : List (List UInt8) := if encE D G Gs d = 0 then encP D.toNat Gs (filP D.toNat (szP D.toNat d.length) d) (szP D.toNat d.length) (D.toNat + Gs.length + G.toNat) else []
def EncEnd (w : World) (L : List (List UInt8)) (E : Int) (e : Ending) (w' : World) : Prop := ∃ v, e = .returned (.tuple #[v, .int .i64 E]) ∧ OwnS w' w.heap.size v L ∧ Below w.heap.size w w'
theorem ownS_nil (w : World) (base : Nat) : OwnS w base (.slice none 0 0) [] := World.ownsRow_nil w base _ _
set_option maxRecDepth 100000 in
set_option maxHeartbeats 8000000 in
theorem encodeX_any {B : Nat} (D G : Int) (Gs : List (List Int)) (n c : Nat) (A : Option Addr) (d : List UInt8) (w : World) (hM : CodM w B D A n c G Gs) (ht : PTab 0 w) (hd : d.length ≤ 140737488351232) :
    Calls Tryd.prog 12 #[cdv D A n c G, sv d] w (EncEnd w (encT D G Gs d) (encE D G Gs d)) := by
  obtain ⟨W1, hW1⟩ : ∃ W1, W1 = w.alloc (.cells #[.int .i64 D, .slice A n c, .int .i64 G] 24) := ⟨_, rfl⟩
  have hB1 : Hid (Below w.heap.size w W1) := by show Below _ _ _; rw [hW1]; exact (Below.refl _ _).alloc (Nat.le_refl _) _
  have hC1 : Hid (Blk W1 w.heap.size [.int .i64 D, .slice A n c, .int .i64 G] 24) := by show Blk _ _ _ _; rw [hW1]; exact Blk.new _ [_, _, _] _
  have M1 := Lib.hid (hM.keep hB1.out)
  have T1 := Lib.hid (ht.on hB1.out)
  have hlen : Hid (n = Gs.length) := hM.len
  have p0 := hC1.out.cell (j := 0) rfl
  have p1 := hC1.out.cell (j := 1) rfl
  have p2 := hC1.out.cell (j := 2) rfl
  obtain ⟨Ck, hCk⟩ : ∃ x, x = chkE D Gs G := ⟨_, rfl⟩
  have CC := Lib.hid (ccheck_any D G Gs n c A W1 M1.out)
  rw [← hCk] at CC
  obtain ⟨L, hL⟩ : ∃ L, L = encT D G Gs d := ⟨_, rfl⟩
  obtain ⟨E, hE⟩ : ∃ E, E = encE D G Gs d := ⟨_, rfl⟩
  rw [← hL, ← hE]
  unfold encT at hL
  rw [← hE] at hL
  unfold encE at hE
  rw [← hCk] at hE
  have hLH := Lib.hid hL
  have hEH := Lib.hid hE
  have hCkH := Lib.hid hCk
  obtain ⟨q, hq⟩ : ∃ q, q = d.length := ⟨_, rfl⟩
  obtain ⟨S0, hS0⟩ : ∃ S, S = bs d := ⟨_, rfl⟩
  have hS0l : S0.size = q := by rw [hS0, bs_size, hq]
  have hqH := Lib.hid hq
  have hS0H := Lib.hid hS0
  unfold sv
  rw [← hS0]
  unfold cdv at CC ⊢
  subst hW1
  clear hM ht hL hE hCk hq hS0
  by_cases h0 : Ck = 0
  · have t0 : (Ck != 0) = false := by simpa using h0
    have h0H := Lib.hid h0
    by_cases hl : q ≤ 4096
    · have t1 : ¬ (4096 : Int) < (q : Int) := by omega
      have hE0 : Hid (E = 0) := by show _ = _; rw [hEH.out, if_pos h0, if_neg (by rw [← hqH.out]; omega)]
      obtain ⟨b1, b2, b3, b4, b5, b6⟩ := cchk_ok (hCkH.out.symm.trans h0)
      obtain ⟨dd, rfl⟩ : ∃ d : Nat, D = d := ⟨D.toNat, by omega⟩
      obtain ⟨g, rfl⟩ : ∃ g : Nat, G = g := ⟨G.toNat, by omega⟩
      have CE : Hid (∀ W, CodM W B (dd : Int) A n c (g : Int) Gs → PTab 0 W → Calls Tryd.prog 35 #[.agg #[.int .i64 dd, .slice A n c, .int .i64 g], .string S0] W (TextsEnd W L)) := fun W m t => by
        have := encode_any (G := g) d W m (by omega) (by omega) (by omega) (by have := hlen.out; omega) (grpE_rng Gs 0 (by rw [Int.toNat_natCast] at b6; exact b6)) (by have := hqH.out; omega) t
        rw [hLH.out, if_pos hE0.out, Int.toNat_natCast, Int.toNat_natCast, ← hlen.out, hS0H.out]
        exact this
      clear b1 b2 b3 b4 b5 b6 h0
      go_enter Tryd.func12, Tryd.ntmps12
      go_wp2_with fail
      refine CC.out.mono ?_
      rintro e w2 ⟨rfl, hb⟩
      have hC2 := hC1.out.below hb hC1.out.lt
      replace p0 := hC2.cell (j := 0) rfl
      replace p1 := hC2.cell (j := 1) rfl
      replace p2 := hC2.cell (j := 2) rfl
      have CE2 := Lib.hid (CE.out w2 (M1.out.keep hb) (T1.out.on hb))
      have hB2 : Hid (Below w.heap.size w w2) := hB1.out.trans (hb.mono hB1.out.size)
      clear hb hC2
      go_wp2_with fail
      refine CE2.out.mono ?_
      rintro e w3 ⟨A3, c3, rfl, hc3, hA3, hr3, hO3, hb3⟩
      have hend : Hid (EncEnd w L E (.returned (.tuple #[.slice A3 L.length c3, .int .i64 0])) w3) := ⟨_, by rw [hE0.out], hO3.up hB2.out.size, hB2.out.trans (hb3.mono hB2.out.size)⟩
      clear hc3 hA3 hr3 hO3 hb3
      go_wp2_with fail
      go_ret2
      exact hend.out
    · have t1 : (4096 : Int) < (q : Int) := by omega
      have hE0 : Hid (E = 2) := by show _ = _; rw [hEH.out, if_pos h0, if_pos (by rw [← hqH.out]; omega)]
      have hL0 : Hid (L = []) := by show _ = _; rw [hLH.out, if_neg (by rw [hE0.out]; decide)]
      go_enter Tryd.func12, Tryd.ntmps12
      go_wp2_with fail
      refine CC.out.mono ?_
      rintro e w2 ⟨rfl, hb⟩
      have hB2 : Hid (Below w.heap.size w w2) := hB1.out.trans (hb.mono hB1.out.size)
      clear hb
      go_wp2_with fail
      go_ret2
      exact ⟨_, by rw [hE0.out]; rfl, by rw [hL0.out]; exact ownS_nil _ _, hB2.out⟩
  · have t0 : (Ck != 0) = true := by simpa using h0
    have hE0 : Hid (E = Ck) := by show _ = _; rw [hEH.out, if_neg h0]
    have hL0 : Hid (L = []) := by show _ = _; rw [hLH.out, if_neg (by rw [hE0.out]; exact h0)]
    clear h0
    go_enter Tryd.func12, Tryd.ntmps12
    go_wp2_with fail
    refine CC.out.mono ?_
    rintro e w2 ⟨rfl, hb⟩
    have hB2 : Hid (Below w.heap.size w w2) := hB1.out.trans (hb.mono hB1.out.size)
    clear hb
    go_wp2_with fail
    go_ret2
    exact ⟨_, by rw [hE0.out]; rfl, by rw [hL0.out]; exact ownS_nil _ _, hB2.out⟩

/-- 'append(rows, more...)', rows the call's own. -/
theorem push_q7 {w : World} {ops : Array Oper} {rest : List Oper} {o : Oper} {a : Act} {Q : Exit → Act → World → Prop} (hgd : o.guard = none) (sl x : Operand)
    (ho : o.op = .call { callee := .builtin .append, args := #[sl, x], argTypes := #[29, 29] })
    (base : Nat) (v : Value) (k n c : Nat) (us vs : List Value) (ad : Addr) (hs : a.eval sl = v) (hx : a.eval x = .slice (some ad) n c) (hn : vs.length = n)
    (hr : ∀ j u, vs[j]? = some u → w.cell? (ad.add j) = some u) (h1 : ∀ u ∈ vs, u.oneCell' = true) (hown : w.ownsRow base 57 1 v k us) (hlen : k + n ≤ 1000000) (hbase : base ≤ w.heap.size)
    (h : ∀ v' w', w'.ownsRow base 57 1 v' (k + n) (us ++ vs) → Below base w w' → w.grownBy w' v.ownBlock → wpList Tryd.prog ops Q rest (a.put o.dst v') w') :
    wpList Tryd.prog ops Q (o :: rest) a w := by
  subst hn
  obtain ⟨i0, hi, hz0, hz1, hz2⟩ := info_parts infoRow
  refine wpList_append_own_at w hgd sl x 29 ho base 57 i0 _ 1 24 Tryd.underlying29 hi hz0 hz1 hz2 rfl (by decide) v k us hs hown ad vs.length c vs hx (by rw [Nat.mul_one]) hr h1 (by unfold maxLen; omega) (by omega) hbase ?_
  intro v' w' h2 h3 _ h5
  exact h v' w' h2 ((Below.refl _ _).grown h3 hbase fun _ hk => (hown.lt _ hk).1) h3
theorem make_rows7 {D cnt : Nat} (h : D ≤ cnt) (hc : cnt ≤ 1000) (w : World) : (Instr.makeSlice 29 (.int .i64 (D : Int)) (.int .i64 (cnt : Int))).run Tryd.prog w = .ok (.slice (some ⟨w.heap.size, 0, none⟩) D cnt) (w.alloc (.cells (madeCells #[.slice none 0 0] cnt) 57)) := by
  obtain ⟨i0, hi, hz0, hz1, hz2⟩ := info_parts infoRow
  have := run_make (P := Tryd.prog) w 29 57 i0 (.slice none 0 0) Tryd.underlying29 hi hz0 .i64 .i64 (D : Int) (cnt : Int) (by omega) (by omega) (by rw [hz2]; omega) (by omega)
  rw [Int.toNat_natCast, Int.toNat_natCast, hz1, Nat.mul_one] at this
  exact this
theorem PM_next (f : Nat → List UInt8) (k : Nat) : PM f (k + 1) = PM f k ++ [f k] := by unfold PM; rw [List.range_succ, List.map_append]; rfl
theorem unit_row {D k : Nat} {Gs : List (List Int)} (hk : k < D) : (List.replicate D (0 : UInt8)).set k 1 = crow D Gs k D := by
  refine row_ext (n := D) (by rw [List.length_set, List.length_replicate]) (crow_len _ _ _ _) fun t ht => ?_
  rw [crow_at D Gs k ht, List.getD_eq_getElem?_getD, List.getElem?_set]
  unfold cr
  rw [if_pos hk]
  by_cases e : k = t
  · subst e; rw [if_pos rfl, if_pos (by rw [List.length_replicate]; exact ht), if_pos rfl]; rfl
  · rw [if_neg e, if_neg (fun h => e h.symm), List.getElem?_replicate, if_pos ht]; rfl
theorem PM_split {D N : Nat} {Gs : List (List Int)} : PM (fun k => crow D Gs k D) (D + N) = PM (fun k => crow D Gs k D) D ++ PM (par D Gs) N := by
  unfold PM
  rw [List.range_add, List.map_append, List.map_map]
  congr 1
  exact List.map_congr_left fun t _ => (par_cr D Gs t).symm
theorem rvals_app {bs bs' : List Nat} {M M' : List (List UInt8)} (h : bs.length = M.length) : rvals (bs ++ bs') (M ++ M') = rvals bs M ++ rvals bs' M' := by unfold rvals; exact List.zipWith_append h
theorem rvals_one {bs : List Nat} {M : List (List UInt8)} : ∀ u ∈ rvals bs M, u.oneCell' = true := fun u hu => by
  unfold rvals at hu
  obtain ⟨i, hi⟩ := List.getElem?_of_mem hu
  rw [List.getElem?_zipWith] at hi
  cases h1 : bs[i]? with
  | none => rw [h1] at hi; cases hi
  | some b =>
    cases h2 : M[i]? with
    | none => rw [h1, h2] at hi; cases hi
    | some m =>
      rw [h1, h2] at hi
      obtain rfl := Option.some.inj hi
      rfl
theorem mat_rvals {w : World} {A : Option Addr} {bs : List Nat} {M : List (List UInt8)} (hl : bs.length = M.length) (hr : Rds w w.heap.size A (rvals bs M)) (hb : ∀ (i b : Nat) (m : List UInt8), bs[i]? = some b → M[i]? = some m → Blk w b (m.map bv) 5) (hc : ∀ m ∈ M, m.length ≤ maxLen) : Mat w w.heap.size A M := by
  refine ⟨rvals bs M, rvals_len hl, hr, fun i v m hv hm => ?_⟩
  obtain ⟨b, hbi⟩ : ∃ b, bs[i]? = some b := ⟨_, List.getElem?_eq_getElem (by rw [hl]; exact (List.getElem?_eq_some_iff.1 hm).1)⟩
  rw [rvals_get hbi hm] at hv
  obtain rfl := Option.some.inj hv
  refine ⟨some ⟨b, 0, none⟩, m.length, rfl, Nat.le_refl _, hc m (List.mem_of_getElem? hm), (fun hh => by cases hh), ?_⟩
  have := (hb i b m hbi hm).rds 0 m.length
  rw [List.drop_zero, List.take_of_length_le (by rw [List.length_map]; exact Nat.le_refl _)] at this
  exact this
end Go.Proofs.YtcnljemnkhmfcaaDoor

namespace Go.Proofs.YtcnljemnkhmfcaaDoor
set_option linter.unusedVariables false
set_option linter.unusedSimpArgs false
open Go.RowKit

/-- What Rows ends with. -/
def rowsT (D G : Int) (Gs : List (List Int)) : List (List UInt8) := if chkE D Gs G = 0 then PM (fun k => crow D.toNat Gs k D.toNat) (D.toNat + (Gs.length + G.toNat)) else []
def RowsEnd (w : World) (M : List (List UInt8)) (E : Int) (e : Ending) (w' : World) : Prop := ∃ A c, e = .returned (.tuple #[.slice A M.length c, .int .i64 E]) ∧ Mat w' w'.heap.size A M ∧ Below w.heap.size w w'
set_option maxRecDepth 100000 in
set_option maxHeartbeats 16000000 in
theorem rows_any {B : Nat} (D G : Int) (Gs : List (List Int)) (n c : Nat) (A : Option Addr) (w : World) (hM : CodM w B D A n c G Gs) (ht : PTab 0 w) :
    Calls Tryd.prog 11 #[cdv D A n c G] w (RowsEnd w (rowsT D G Gs) (chkE D Gs G)) := by
  have hun : Hid (Tryd.prog.underlying 24 = _) := Tryd.underlying24
  have hszc := Lib.hid size_cod
  obtain ⟨W1, hW1⟩ : ∃ W1, W1 = w.alloc (.cells #[.int .i64 D, .slice A n c, .int .i64 G] 24) := ⟨_, rfl⟩
  have hB1 : Hid (Below w.heap.size w W1) := by show Below _ _ _; rw [hW1]; exact (Below.refl _ _).alloc (Nat.le_refl _) _
  have hC1 : Hid (Blk W1 w.heap.size [.int .i64 D, .slice A n c, .int .i64 G] 24) := by show Blk _ _ _ _; rw [hW1]; exact Blk.new _ [_, _, _] _
  have M1 := Lib.hid (hM.keep hB1.out)
  have T1 := Lib.hid (ht.on hB1.out)
  have hlen : Hid (n = Gs.length) := hM.len
  have p0 := hC1.out.cell (j := 0) rfl
  have p1 := hC1.out.cell (j := 1) rfl
  have p2 := hC1.out.cell (j := 2) rfl
  obtain ⟨Ck, hCk⟩ : ∃ x, x = chkE D Gs G := ⟨_, rfl⟩
  have CC := Lib.hid (ccheck_any D G Gs n c A W1 M1.out)
  obtain ⟨R, hR⟩ : ∃ R, R = rowsT D G Gs := ⟨_, rfl⟩
  rw [← hCk] at CC ⊢
  rw [← hR]
  unfold rowsT at hR
  rw [← hCk] at hR
  have hRH := Lib.hid hR
  have hCkH := Lib.hid hCk
  unfold cdv at CC ⊢
  subst hW1
  clear hM ht hR hCk
  by_cases h0 : Ck = 0
  rotate_left
  · have t0 : (Ck != 0) = true := by simpa using h0
    have hR0 : Hid (R = []) := by show _ = _; rw [hRH.out, if_neg h0]
    clear h0
    go_enter Tryd.func11, Tryd.ntmps11
    go_wp2_with fail
    refine CC.out.mono ?_
    rintro e w2 ⟨rfl, hb⟩
    have hB2 : Hid (Below w.heap.size w w2) := hB1.out.trans (hb.mono hB1.out.size)
    clear hb
    go_wp2_with fail
    go_ret2
    exact ⟨none, 0, by rw [hR0.out]; rfl, by rw [hR0.out]; exact Mat.nil, hB2.out⟩
  · have t0 : (Ck != 0) = false := by simpa using h0
    obtain ⟨b1, b2, b3, b4, b5, b6⟩ := cchk_ok (hCkH.out.symm.trans h0)
    obtain ⟨d, rfl⟩ : ∃ d : Nat, D = d := ⟨D.toNat, by omega⟩
    obtain ⟨g, rfl⟩ : ∃ g : Nat, G = g := ⟨G.toNat, by omega⟩
    obtain ⟨N, hN⟩ : ∃ N, N = n + g := ⟨_, rfl⟩
    obtain ⟨cnt, hcnt⟩ : ∃ k, k = d + n + g := ⟨_, rfl⟩
    have hc24 : cnt ≤ 24 := by have := hlen.out; omega
    have hd16 : d ≤ 16 := by omega
    have hdc : d ≤ cnt := by omega
    have hcN : Hid (cnt = d + N) := by show _ = _; omega
    have hR0 : Hid (R = PM (fun k => crow d Gs k d) (d + N)) := by show _ = _; rw [hRH.out, if_pos h0, Int.toNat_natCast, Int.toNat_natCast, hN, hlen.out]
    have CN : Hid (∀ W, Calls Tryd.prog 33 #[.agg #[.int .i64 d, .slice A n c, .int .i64 g]] W fun e w' => e = .returned (.int .i64 (cnt : Int)) ∧ Below W.heap.size W w') := fun W => by rw [hcnt]; exact count_any d n g c A W (by omega) (by omega) (by omega)
    have CP : Hid (∀ W, CodM W B (d : Int) A n c (g : Int) Gs → PTab 0 W → Calls Tryd.prog 34 #[.agg #[.int .i64 d, .slice A n c, .int .i64 g]] W fun e w' => (∃ x bs, e = .returned (.slice (some ⟨x, 0, none⟩) N N) ∧ Om w' W.heap.size x bs (PM (par d Gs) N) []) ∧ Below W.heap.size W w') := fun W m t => by
      rw [hN]; exact parities_any d n c g Gs A W m (by omega) (by omega) (by have := hlen.out; omega) (grpE_rng Gs 0 (by rw [Int.toNat_natCast] at b6; exact b6)) t
    have h0H := Lib.hid h0
    clear b1 b2 b3 b4 b5 b6 hN hcnt h0
    go_enter Tryd.func11, Tryd.ntmps11
    go_wp2_with fail
    refine CC.out.mono ?_
    rintro e w2 ⟨rfl, hb⟩
    have hC2 := Lib.hid (hC1.out.below hb hC1.out.lt)
    have M2 := Lib.hid (M1.out.keep hb)
    have T2 := Lib.hid (T1.out.on hb)
    have hB2 : Hid (Below w.heap.size w w2) := hB1.out.trans (hb.mono hB1.out.size)
    clear hb p0 p1 p2 CC hC1 M1 T1 hB1
    go_wp2_with fail
    have q0 : ∀ q : ExtOf w2.drew, q.world.cell? ⟨w.heap.size, 0, none⟩ = some (.int .i64 d) := fun q => (hC2.out.drew.below q.ext hC2.out.lt).cell (j := 0) rfl
    refine wp_region_planM [] [(true, 0), (true, 1), (true, 2), (false, 3), (false, 4), (true, 5)] (by decide) (by kernel_rfl) (by kernel_rfl) (by decide) (by intro c a d v w h; cases d <;> exact h) ?_
    change wpPlanM _ _ _ _ _ _ w2.drew
    iterate 2 (refine wpPlanM_plain rfl (fun K hK => ?_); go_simp; refine hK _ ?_; clear hK K)
    refine wpPlanM_runW rfl (by rfl) _ (fun q => load_run 24 _ rfl w.heap.size 0 rfl [.int .i64 d, .slice A n c, .int .i64 g] _ hun.out rfl hszc.out q.world ((Blk.below hC2.out.drew q.ext hC2.out.lt).range 0 _ (take_all0 _))) ?_
    clear q0
    refine wpPlanM_call rfl (fun K hK => ?_)
    go_wp2_with fail
    refine (CN.out w2.drew).mono ?_
    rintro e w3 ⟨rfl, hb⟩
    have hbp := Lib.hid hb
    have hb23 : Hid (Below w2.heap.size w2 w3) := ((Below.refl _ _).drew).trans hb
    clear hb
    go_wp2_with fail
    refine planPostL_normal ⟨.inr hbp.out, hK _ _ ?_⟩
    clear hK K hbp
    have hC3 := Lib.hid (hC2.out.below hb23.out hC2.out.lt)
    have M3 := Lib.hid (M2.out.keep hb23.out)
    have T3 := Lib.hid (T2.out.on hb23.out)
    have hB3 : Hid (Below w.heap.size w w3) := hB2.out.trans (hb23.out.mono hB2.out.size)
    clear hC2 M2 T2 hB2 hb23
    have hmk := make_rows7 hdc (by omega) w3
    obtain ⟨W4, hW4⟩ : ∃ W4, W4 = w3.alloc (.cells (madeCells #[.slice none 0 0] cnt) 57) := ⟨_, rfl⟩
    rw [← hW4] at hmk
    have hb4 : Hid (Below w3.heap.size w3 W4) := by show Below _ _ _; rw [hW4]; exact (Below.refl _ _).alloc (Nat.le_refl _) _
    have hO4 : Hid (Om W4 w3.heap.size w3.heap.size [] (PM (fun k => crow d Gs k d) 0) (List.replicate cnt (.slice none 0 0))) := by
      show Om _ _ _ _ _ _
      refine Om.fresh (Nat.le_refl _) ?_
      rw [hW4, made_nils]
      exact Blk.new _ _ _
    refine wpPlanM_call rfl (fun K hK => ?_)
    go_wp2_with fail
    try rw [← hW4]
    refine planPostL_normal ⟨.inr hb4.out, hK _ _ ?_⟩
    clear hK K hmk hW4
    iterate 1 (refine wpPlanM_plain rfl (fun K hK => ?_); go_simp; refine hK _ ?_; clear hK K)
    refine wpPlanM_nil ?_
    have hlt3 : Hid (w.heap.size < w3.heap.size) := hC3.out.lt
    obtain ⟨gq, hgq⟩ : ∃ x, x = w3.heap.size := ⟨_, rfl⟩
    rw [← hgq] at hO4 hb4 hlt3 ⊢
    have hgqH : Hid (gq = w3.heap.size) := hgq
    clear hgq
    go_wp2_with fail
    go_loopw [19] (fun i wr => ∃ (k : Nat) (bl : List Nat), k ≤ d ∧ i = .int .i64 k ∧ Hid (Below gq w3 wr) ∧ Hid (Om wr gq gq bl (PM (fun k => crow d Gs k d) k) (List.replicate (cnt - k) (.slice none 0 0)))) (fun i _ => d - (intOf i).toNat)
    case atStart => exact ⟨0, [], by omega, rfl, hb4, hO4⟩
    case round =>
      clear hb4 hO4
      obtain ⟨k, bl, hk, rfl, hBr, hO⟩ := hrel
      have hCr := Lib.hid (hC3.out.below hBr.out hlt3.out)
      have p0 := hCr.out.cell (j := 0) rfl
      by_cases hlt : k < d
      · have tk : (k : Int) < (d : Int) := by omega
        obtain ⟨W5, hW5⟩ : ∃ W5, W5 = wr.alloc (.cells (madeCells #[.int .u8 0] d) 5) := ⟨_, rfl⟩
        have hb5 : Hid (Below wr.heap.size wr W5) := by show Below _ _ _; rw [hW5]; exact (Below.refl _ _).alloc (Nat.le_refl _) _
        have hZ5 : Hid (Blk W5 wr.heap.size ((List.replicate d (0 : UInt8)).map bv) 5) := by
          show Blk _ _ _ _
          rw [hW5, made_zeros, zeros_row]
          exact Blk.new _ _ _
        have hmk2 := run_make_row' (P := Tryd.prog) 57 5 (.int .u8 0) 1 Tryd.underlying57 infoByte rfl .i64 .i64 d (by omega) (by omega) wr
        rw [← hW5] at hmk2
        have hO5 := Lib.hid (hO.out.keep hb5.out)
        have hplen : (PM (fun k => crow d Gs k d) k).length = k := PM_len _ _
        have hlen5 : Hid (k + 1 ≤ (rvals bl (PM (fun k => crow d Gs k d) k) ++ List.replicate (cnt - k) (Value.slice none 0 0)).length) := by
          show _ ≤ _
          rw [List.length_append, rvals_len hO.out.len, hplen, List.length_replicate]
          omega
        have hgl : Hid (gq < wr.heap.size) := hO.out.out.lt
        have hbsl : Hid (∀ x ∈ bl, x < wr.heap.size) := fun x hx => by
          obtain ⟨j, hj⟩ := List.getElem?_of_mem hx
          have hjl := (List.getElem?_eq_some_iff.1 hj).1
          exact (hO.out.row j x _ hj (List.getElem?_eq_getElem (by rw [← hO.out.len]; exact hjl))).lt
        have HP : Hid (∀ W6, Only gq W5 W6 → Blk W6 gq (splice (rvals bl (PM (fun k => crow d Gs k d) k) ++ List.replicate (cnt - k) (Value.slice none 0 0)) k (Value.slice (some ⟨wr.heap.size, 0, none⟩) d d).cells.toList) 57 → Om W6 gq gq (bl ++ [wr.heap.size]) (PM (fun k => crow d Gs k d) k ++ [List.replicate d (0 : UInt8)]) (List.replicate (cnt - (k + 1)) (.slice none 0 0)) ∧ W6.cell? ⟨gq, k, none⟩ = some (.slice (some ⟨wr.heap.size, 0, none⟩) d d) ∧ Hid (Blk W6 wr.heap.size ((List.replicate d (0 : UInt8)).map bv) 5)) := fun W6 ho6 hW6 => by
          have hrep : List.replicate (cnt - k) (Value.slice none 0 0) = Value.slice none 0 0 :: List.replicate (cnt - (k + 1)) (.slice none 0 0) := by
            rw [show cnt - k = (cnt - (k + 1)) + 1 by omega, List.replicate_succ]
          have hgne : wr.heap.size ≠ gq := by have := hgl.out; omega
          have hO6 := Om.push (b := wr.heap.size) (m := List.replicate d (0 : UInt8)) (by have := hO5.out; rw [hrep] at this; exact this) ho6 (by
            rw [hrep] at hW6
            rw [hplen, List.length_replicate]
            exact hW6) (hZ5.out.only ho6 hgne) (by have := hgl.out; omega) hgne (fun hh => by have := hbsl.out _ hh; omega) (by rw [List.length_replicate]; unfold maxLen; omega)
          refine ⟨hO6, ?_, hZ5.out.only ho6 hgne⟩
          obtain ⟨b, hb, _, _, hcell, _⟩ := hO6.at (i := k) (m := List.replicate d (0 : UInt8)) (by rw [List.getElem?_append_right (by rw [hplen]; exact Nat.le_refl _), hplen, Nat.sub_self]; rfl)
          have hbl : bl.length = k := by rw [hO.out.len, hplen]
          rw [List.getElem?_append_right (by rw [hbl]; exact Nat.le_refl _), hbl, Nat.sub_self] at hb
          obtain rfl := Option.some.inj hb
          rw [List.length_replicate] at hcell
          exact hcell
        have tkd : k < d := hlt
        clear hW5 hplen
        have hfit : Hid (k + (bv 1).cells.size ≤ ((List.replicate d (0 : UInt8)).map bv).length) := by
          show k + 1 ≤ _
          rw [List.length_map, List.length_replicate]; omega
        go_wp2_with (first
          | (refine wpList_blk_store rfl 57 _ _ rfl k (.slice (some ⟨wr.heap.size, 0, none⟩) d d) rfl rfl hO5.out.out size_row hlen5.out (one_slice _ _ _) ?_; intro W6 hW6 ho6; obtain ⟨hO6, hcl6, hZ6⟩ := HP.out W6 ho6 hW6.out; clear hW6)
          | (refine wpList_blk_store rfl 5 _ _ rfl k (bv 1) rfl rfl hZ6.out size_u8 hfit.out (one_u8b 1) ?_; intro W7 hW7 ho7))
        have hO7 : Hid (Om W7 gq gq (bl ++ [wr.heap.size]) (PM (fun k => crow d Gs k d) (k + 1)) (List.replicate (cnt - (k + 1)) (.slice none 0 0))) := by
          have hpl : (PM (fun k => crow d Gs k d) k).length = k := PM_len _ _
          have hbl : bl.length = k := by rw [hO.out.len, hpl]
          have h7 : Blk W7 wr.heap.size ((crow d Gs k d).map bv) 5 := by
            have h := hW7.out
            have e := set_row (r := List.replicate d (0 : UInt8)) (rest := []) (z := 1) (j := k) (by rw [List.length_replicate]; exact hlt)
            rw [List.append_nil, List.append_nil, unit_row hlt] at e
            rw [e] at h
            exact h
          have h := hO6.setRow (i := k) (b := wr.heap.size) (m := List.replicate d (0 : UInt8)) (by rw [List.getElem?_append_right (by rw [hbl]; exact Nat.le_refl _), hbl, Nat.sub_self]; rfl) (by rw [List.getElem?_append_right (by rw [hpl]; exact Nat.le_refl _), hpl, Nat.sub_self]; rfl) ho7 h7 (by rw [crow_len, List.length_replicate])
          rw [List.set_append_right _ _ (by rw [hpl]; exact Nat.le_refl _), hpl, Nat.sub_self, List.set_cons_zero, ← PM_next] at h
          exact h
        have hB7 : Hid (Below gq w3 W7) := hBr.out.trans ((hb5.out.mono (Nat.le_of_lt hgl.out)).trans ((ho6.below (Nat.le_refl _)).trans (ho7.below (Nat.le_of_lt hgl.out))))
        clear hW7 ho7 ho6 hO6 hcl6 hmk2
        go_roundw
        case rel => exact ⟨k + 1, _, by omega, by go_num, hB7, hO7⟩
        case measure => simp [intOf]; omega
      · have tk : ¬ (k : Int) < (d : Int) := by omega
        obtain rfl : d = k := by omega
        obtain ⟨wR, rfl⟩ : ∃ x, x = wr := ⟨_, rfl⟩
        have p1 := hCr.out.cell (j := 1) rfl
        have p2 := hCr.out.cell (j := 2) rfl
        have hb3R : Hid (Below w3.heap.size w3 wR) := by show Below _ _ _; rw [← hgqH.out]; exact hBr.out
        have CPR := Lib.hid (CP.out wR (M3.out.keep hb3R.out) (T3.out.on hb3R.out))
        clear hlt tk hk
        go_wp2_with fail
        refine CPR.out.mono ?_
        rintro e wP ⟨⟨x, bl2, rfl, hOm⟩, hb⟩
        have hOP := Lib.hid (hO.out.keep hb)
        have hOmH := Lib.hid hOm
        have hBP : Hid (Below gq w3 wP) := hBr.out.trans (hb.mono (Nat.le_of_lt hO.out.out.lt))
        have hgP : Hid (gq < wP.heap.size) := hOP.out.out.lt
        have hgx : Hid (gq < wR.heap.size) := hO.out.out.lt
        have hRP := Lib.hid hb.size
        have hown : Hid (wP.ownsRow gq 57 1 (.slice (some ⟨gq, 0, none⟩) d cnt) d (rvals bl (PM (fun k => crow d Gs k d) d))) := by
          have hl : (rvals bl (PM (fun k => crow d Gs k d) d)).length = d := by rw [rvals_len hOP.out.len, PM_len]
          refine ⟨by rw [hl, Nat.mul_one], .inr ⟨gq, cnt, _, rfl, Nat.le_refl _, hOP.out.out, hdc, by unfold maxLen; omega, ?_, ?_⟩⟩
          · show (List.toArray _).size = _
            rw [List.size_toArray, List.length_append, hl, List.length_replicate]; omega
          · rw [Nat.mul_one, List.take_append_of_le_length (by rw [hl]; exact Nat.le_refl _), List.take_of_length_le (by rw [hl]; exact Nat.le_refl _)]
        have hvs : Hid (∀ j u, (rvals bl2 (PM (par d Gs) N))[j]? = some u → wP.cell? (Addr.add ⟨x, 0, none⟩ j) = some u) := fun j u hu => by
          have h := hOmH.out.out.cell (j := j) (v := u) (by rw [List.append_nil]; exact hu)
          by_cases hj : j = 0
          · subst hj; exact h
          · unfold Addr.add
            rw [if_neg hj, Nat.zero_add]
            exact h
        have hN24 : d + N ≤ 1000000 := by have := hcN.out; omega
        have hvl : Hid ((rvals bl2 (PM (par d Gs) N)).length = N) := by show _ = _; rw [rvals_len hOmH.out.len, PM_len]
        clear hb hOm p0 p1 p2 CPR
        go_wp2_with (at_builtin; go_must (refine push_q7 rfl _ _ rfl gq (.slice (some ⟨gq, 0, none⟩) d cnt) d N N (rvals bl (PM (fun k => crow d Gs k d) d)) (rvals bl2 (PM (par d Gs) N)) ⟨x, 0, none⟩ rfl rfl hvl.out hvs.out rvals_one hown.out hN24 (Nat.le_of_lt hgP.out) ?_); intro v' w9 ho9 hb9 hg9)
        obtain ⟨A9, c9, e9, _, _, _, hr9⟩ := own_form ho9
        have hR9 : Hid (Mat w9 w9.heap.size A9 R) := by
          show Mat _ _ _ _
          rw [hR0.out, PM_split]
          rw [← rvals_app hOP.out.len] at hr9
          refine mat_rvals (by rw [List.length_append, List.length_append, hOP.out.len, hOmH.out.len]) hr9 (fun i b m hbi hm => ?_) (fun m hm => ?_)
          · have hb : Blk wP b (m.map bv) 5 ∧ b ≠ gq := by
              rcases Nat.lt_or_ge i bl.length with hi | hi
              · rw [List.getElem?_append_left hi] at hbi
                rw [List.getElem?_append_left (by rw [← hOP.out.len]; exact hi)] at hm
                exact ⟨hOP.out.row i b m hbi hm, hOP.out.ne b (List.mem_of_getElem? hbi)⟩
              · rw [List.getElem?_append_right hi] at hbi
                rw [List.getElem?_append_right (by rw [← hOP.out.len]; exact hi), ← hOP.out.len] at hm
                exact ⟨hOmH.out.row _ b m hbi hm, by have := hOmH.out.lows b (List.mem_of_getElem? hbi); have := hgx.out; omega⟩
            exact (hg9.block b hb.1.lt (fun hh => hb.2 (Option.some.inj hh))).trans hb.1
          · rcases List.mem_append.1 hm with hm | hm
            · exact hOP.out.caps m hm
            · exact hOmH.out.caps m hm
        have hRl : Hid (R.length = d + N) := by show _ = _; rw [hR0.out, PM_len]
        have hend : Hid (Below w.heap.size w w9) := hB3.out.trans ((hBP.out.trans hb9).mono (Nat.le_of_lt hlt3.out))
        subst e9
        clear ho9 hb9 hg9 hr9
        go_wp2_with fail
        go_ret2
        exact ⟨A9, c9, by rw [hRl.out, h0H.out]; rfl, hR9.out, hend.out⟩
end Go.Proofs.YtcnljemnkhmfcaaDoor
