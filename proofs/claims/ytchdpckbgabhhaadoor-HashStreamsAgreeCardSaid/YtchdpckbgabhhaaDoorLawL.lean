/-
  The law on streams: its walk.
-/
import Derived.Test.YtchdpckbgabhhaaDoorFew
import Derived.Test.YtchdpckbgabhhaaDoorOpn
namespace Go.Proofs.YtchdpckbgabhhaaDoor
set_option linter.unusedVariables false
open Go.RowKit

/-- '[]byte(s)': a new row, by an operation that is carried out. -/
theorem wpList_bytes_ofW {ops : Array Oper} {rest : List Oper} {op : Oper} {a : Act} {w : World} {Q : Exit → Act → World → Prop} (hw : Region.wanted op (yielded ops a.tmps) = true) (x : Operand) (ho : op.op = .convert 9 22 x) (l : List UInt8) (S : ByteArray) (hS : S = bs l) (hx : a.eval x = .string S)
    (h : ∀ w' A c, Rds w' w'.heap.size (some A) (l.map bv) → Below w.heap.size w w' → wpList Tryd.prog ops Q rest (a.put op.dst (.slice (some A) l.length c)) w') :
    wpList Tryd.prog ops Q (op :: rest) a w := by
  subst hS
  refine wpList_wanted hw ?_
  have hrun := run_bytes_of_string (P := Tryd.prog) w 9 22 5 (bs l) Tryd.underlying9 Tryd.underlying22 Tryd.underlying5
  unfold Oper.wp execOp
  simp only [ho, hx, Sem.run_bind, Sem.run_pure, hrun, Result.andThen_ok]
  rw [bs_size]
  refine h _ _ _ (fun _ => ⟨_, rfl, by simp, fun j u hu => ?_⟩) (((Below.refl _ _).drew).alloc (Nat.le_refl _) _)
  rw [Addr.add_mid, Nat.zero_add]
  show (w.drew.alloc _).cell? ⟨w.drew.heap.size, j, none⟩ = _
  rw [cell_of_row _ _ j _ 5 _ (heap_alloc_new w.drew _)]
  have hj : j < (l.map bv).length := (List.getElem?_eq_some_iff.1 hu).1
  rw [List.length_map] at hj
  have e : (bs l).data.map (fun b => Value.int .u8 b.toNat) = (l.map bv).toArray := by
    unfold bs
    apply Array.ext'
    simp
    exact fun a _ => rfl
  unfold bytesRow
  rw [e, Array.getElem?_append_left (by simpa using hj)]
  simpa using hu
theorem flat_few : ∀ (ys : List (List UInt8)), (∀ y ∈ ys, y.length ≤ 400) → ys.flatten.length ≤ 400 * ys.length
  | [], _ => by simp
  | y :: ys, h => by
    have i1 := flat_few ys fun z hz => h z (List.mem_cons_of_mem _ hz)
    have i2 := h y (List.mem_cons_self ..)
    rw [List.flatten_cons, List.length_append, List.length_cons]
    omega
theorem flat_next {xs : List (List UInt8)} {k : Nat} {x : List UInt8} (h : xs[k]? = some x) : (xs.take (k + 1)).flatten = (xs.take k).flatten ++ x := by
  rw [List.take_add_one, h, List.flatten_append]
  simp

set_option maxRecDepth 100000 in
set_option maxHeartbeats 4000000 in
theorem walk_streams (A1 : Option Addr) (c1 : Nat) (la : List (List UInt8)) (ex : List UInt8) (k : Nat) (w : World) (H1 : SlS w A1 la.length c1 la) (hex : ex.length ≤ 140737488351232) (hk : k < 256) (ht : Tab 1 w) :
    Calls Tryd.prog 4 #[.slice A1 la.length c1, sv ex, .int .u8 k] w (OkEnd true w) := by
  have hT := Lib.hid ht
  have HSan := Lib.hid (fun W hT => sanity_any W hT)
  have hl1 := H1.reach
  have hcap := H1.cap
  have hr1 := Lib.hid H1.rds
  clear H1
  have K1 := Lib.hid (bs_size ex)
  have F1 := Lib.hid (fun W (hb : Below w.heap.size w W) => few02_any la A1 c1 W (hr1.out.below hb) hl1)
  by_cases hf1 : FewS la
  · rw [decide_eq_true hf1] at F1
    by_cases hbig : 400 < ex.length
    · have t1 : (400 : Int) < (bs ex).size := by rw [K1.out]; omega
      unfold sv
      generalize bs ex = X at t1 ⊢
      clear hf1 hbig
      go_enter Tryd.func4, Tryd.ntmps4
      go_wp2_with fail
      refine (HSan.out _ ht).mono ?_
      rintro e w1 ⟨rfl, hb1⟩
      go_wp2_with fail
      refine (F1.out _ hb1).mono ?_
      rintro e w2 ⟨rfl, rfl⟩
      go_wp2_with fail
      go_ret
      exact ⟨rfl, hb1⟩
    · have t1 : ¬ (400 : Int) < (bs ex).size := by rw [K1.out]; omega
      obtain ⟨m, hm0⟩ : ∃ m, m = k % (la.length + 1) := ⟨_, rfl⟩
      have hml : m ≤ la.length := by rw [hm0]; have := Nat.mod_lt k (show 0 < la.length + 1 by omega); omega
      have ek : IntKind.i64.wrap (k : Int) = k := by rw [IntKind.wrap_i64]; omega
      have el : IntKind.i64.wrap ((la.length : Int) + 1) = (la.length : Int) + 1 := by rw [IntKind.wrap_i64]; omega
      have er : (k : Int).tmod ((la.length : Int) + 1) = m := by
        rw [Int.tmod_eq_emod_of_nonneg (by omega), hm0]
        push_cast
        rfl
      have em : IntKind.i64.wrap (m : Int) = m := by rw [IntKind.wrap_i64]; omega
      have hne : ¬ (la.length : Int) + 1 = 0 := by omega
      have hflat : Hid (∀ j, (la.take j).flatten.length ≤ 4800) := fun j => by
        have h1 := flat_few (la.take j) fun y hy => hf1.2 y (List.mem_of_mem_take hy)
        have h2 := hf1.1
        rw [List.length_take] at h1
        omega
      have hfl0 : la.flatten.length ≤ 4800 := by have h1 := flat_few la hf1.2; have h2 := hf1.1; omega
      have HA := Lib.hid (fun j x (hx : la[j]? = some x) v W (h : SVal (la.take j).flatten v) (hT : Tab 1 W) => add_v (la.take j).flatten x v W h (by have := hflat.out j; have := hf1.2 x (List.mem_of_getElem? hx); omega) hT)
      have J1 := Lib.hid (fun W (hb : Below w.heap.size w W) => joined_any la A1 c1 W (hr1.out.below hb) hf1)
      have hfm : FewS (la.take m) := ⟨by rw [List.length_take]; have := hf1.1; omega, fun x hx => hf1.2 x (List.mem_of_mem_take hx)⟩
      have hlm : (la.take m).length = m := by rw [List.length_take]; omega
      have J2 := Lib.hid (fun W (hb : Below w.heap.size w W) => joined_any (la.take m) A1 c1 W (by rw [List.map_take]; exact (hr1.out.below hb).take m) hfm)
      rw [hlm] at J2
      have hflm := hflat.out m
      have HX := Lib.hid (fun v W (h : SVal (la.take m).flatten v) (hT : Tab 1 W) => add_v (la.take m).flatten ex v W h (by omega) hT)
      have T1 := Lib.hid (fun v W (h : SVal la.flatten v) (hT : Tab 1 W) => sum_v la.flatten v W h (by omega) hT)
      have T2 := Lib.hid (fun v W (h : SVal (la.take m).flatten v) (hT : Tab 1 W) => sum_v (la.take m).flatten v W h (by omega) hT)
      have T3 := Lib.hid (fun v W (h : SVal ((la.take m).flatten ++ ex) v) (hT : Tab 1 W) => sum_v ((la.take m).flatten ++ ex) v W h (by rw [List.length_append]; omega) hT)
      have U1 := Lib.hid (fun W A c (hr : Rds W W.heap.size A (la.flatten.map bv)) (hT : Tab 1 W) => hashSum_any la.flatten A c W hr (by omega) hT)
      have U2 := Lib.hid (fun W A c (hr : Rds W W.heap.size A ((la.take m).flatten.map bv)) (hT : Tab 1 W) => hashSum_any (la.take m).flatten A c W hr (by omega) hT)
      have U3 := Lib.hid (fun W A c (hr : Rds W W.heap.size A (((la.take m).flatten ++ ex).map bv)) (hT : Tab 1 W) => hashSum_any ((la.take m).flatten ++ ex) A c W hr (by rw [List.length_append]; omega) hT)
      have z1 := Sha.sum_len la.flatten
      have z2 := Sha.sum_len (la.take m).flatten
      have z3 := Sha.sum_len ((la.take m).flatten ++ ex)
      have hcat : Hid (bs (la.take m).flatten ++ bs ex = bs ((la.take m).flatten ++ ex)) := bs_app _ _
      have tcat : ¬ 9223372036854775807 < (bs (la.take m).flatten).size + (bs ex).size := by rw [bs_size, bs_size]; omega
      have hz : Hid (∀ W : World, Blk (W.alloc (.cells Tryd.zeroCells34 34)) W.heap.size (scells (List.replicate 8 0) (List.replicate 64 0) 0) 34) := fun W => by rw [zero_str]; exact Blk.new _ _ _
      have hzl := zero_len
      generalize Sha.sum la.flatten = Z1 at T1 U1 z1
      generalize Sha.sum (la.take m).flatten = Z2 at T2 U2 z2
      generalize Sha.sum ((la.take m).flatten ++ ex) = Z3 at T3 U3 z3
      unfold sv at HX J1 J2 ⊢
      unfold av at T1 T2 T3 U1 U2 U3
      generalize hP1 : la.flatten = P1 at J1 T1 U1
      generalize hP2 : (la.take m).flatten = P2 at J2 HX T2 T3 U2 U3 hcat tcat
      generalize hP3 : P2 ++ ex = P3 at HX T3 U3 hcat
      have HP1 := Lib.hid hP1
      have HP2 := Lib.hid hP2
      clear hP1 hP2 hP3
      obtain ⟨X1, hX1'⟩ : ∃ X1, X1 = bs P1 := ⟨_, rfl⟩
      have hX1 := Lib.hid hX1'
      rw [← hX1'] at J1
      obtain ⟨X2, hX2'⟩ : ∃ X2, X2 = bs P2 := ⟨_, rfl⟩
      have hX2 := Lib.hid hX2'
      rw [← hX2'] at J2 hcat tcat
      generalize bs ex = Xe at *
      clear hX1' hX2' hm0 hfl0 hflm hfm hlm hex hk hbig
      have HF1 := Lib.hid hf1
      clear hf1
      go_enter Tryd.func4, Tryd.ntmps4
      go_wp2_with fail
      refine (HSan.out _ ht).mono ?_
      rintro e w1 ⟨rfl, hb1⟩
      clear ht
      go_wp2_with fail
      refine (F1.out _ hb1).mono ?_
      rintro e w2 ⟨rfl, rfl⟩
      go_wp2_with fail
      refine (begin_v _).mono ?_
      rintro e w2 ⟨v2, ⟨rfl, hv2⟩, hb2⟩
      have hB2 : Below w.heap.size w w2 := hb1.trans (hb2.mono hb1.size)
      clear hb1 hb2
      obtain ⟨L0, rfl, hL0, hL01⟩ := hv2.cells
      have hv2 := Lib.hid hv2
      have hs0 : Hid ((Tryd.prog.info? 34).map (·.size) = some L0.length) := by show _ = _; rw [hL0]; exact size_str
      go_wp2_with (refine wpList_row_store rfl 34 _ _ rfl L0 rfl rfl (hz.out w2) hs0.out (by rw [hL0, hzl]) hL01 ?_; intro w3 hG3 ho3)
      have hB3 : Below w.heap.size w w3 := (hB2.alloc hB2.size _).trans (ho3.below hB2.size)
      clear ho3
      go_loopw [10] (fun i wr => ∃ (j : Nat) (L : List Value), j ≤ m ∧ i = .int .i64 j ∧ SVal (la.take j).flatten (.agg L.toArray) ∧ L.length = 73 ∧ (∀ u ∈ L, u.oneCell' = true) ∧ Blk wr w2.heap.size L 34 ∧ Below w.heap.size w wr) (fun i _ => m - (intOf i).toNat)
      case atStart => exact ⟨0, L0, by omega, rfl, by simpa using hv2.out, hL0, hL01, hG3.out, hB3⟩
      case round =>
        clear hv2 hL0 hL01 hs0 hG3 hB3
        obtain ⟨j, L, hj, rfl, hv0, hL, hL1, hG0, hbw⟩ := hrel
        have hG := Lib.hid hG0
        have hv := Lib.hid hv0
        have hTw := hT.out.on hbw
        clear hG0 hv0
        have hsz : Hid ((Tryd.prog.info? 34).map (·.size) = some L.length) := by show _ = _; rw [hL]; exact size_str
        by_cases hlt : j < m
        · obtain ⟨x, hx⟩ : ∃ x, la[j]? = some x := ⟨_, List.getElem?_eq_getElem (by omega)⟩
          have hjl : j < la.length := by omega
          obtain ⟨ad, rfl, hab, hcell⟩ := (hr1.out.below hbw).look (k := j) (u := sv x) (by rw [List.getElem?_map, hx]; rfl)
          have HAj := Lib.hid (HA.out j x hx)
          have hn := Lib.hid (flat_next hx)
          have hL1' := Lib.hid hL1
          clear hx hL1
          unfold sv at hcell HAj
          generalize bs x = S at hcell HAj
          go_wp2_with fail
          have hcx := fun x : ExtOf wr.drew => (show x.world.cell? (ad.add j) = some (.string S) from ((x.below (Nat.le_refl wr.heap.size)).cell (p := ad.add j) (by rw [add_block]; have := hbw.size; omega)).trans hcell)
          refine wp_region_planL 6 [(true, 0), (true, 1), (true, 2), (true, 3), (true, 4), (false, 5), (false, 6)] (by kernel_rfl) (by decide) (by kernel_rfl) (by kernel_rfl) (by kernel_rfl) (by decide) (by intro c a d v w h; cases d <;> exact h) ?_
          change wpPlanL _ _ _ _ _ _ wr.drew
          refine wpPlanL_load rfl rfl 34 _ rfl w2.heap.size 0 rfl L _ Tryd.underlying34 rfl hsz.out (fun x => ((hG.out.below (x.below (Nat.le_refl _)) hG.out.lt).range 0 L (take_all0 L))) ?_
          iterate 4 (refine wpPlanL_plain rfl (fun K hK => ?_); go_simp; refine hK _ ?_; clear hK K)
          refine wpPlanL_call rfl (fun K hK => ?_)
          go_wp2_with fail
          refine (HAj.out _ _ hv.out hTw.drew).mono ?_
          rintro e w5 ⟨v5, ⟨rfl, hv5⟩, hb5⟩
          go_wp2_with fail
          refine planPostL_normal ⟨.inr hb5, hK _ _ ?_⟩
          clear hK K hcx
          have hb5 := drewBelow hb5
          obtain ⟨L5, rfl, hL5, hL51⟩ := hv5.cells
          have hG5 := hG.out.below hb5 hG.out.lt
          have hB5 : Below w.heap.size w w5 := hbw.trans (hb5.mono hbw.size)
          refine wpPlanL_call rfl (fun K hK => ?_)
          refine wpList_row_store rfl 34 _ _ rfl L5 rfl rfl hG5 (by rw [hL5]; exact size_str) (by rw [hL5, hL]) hL51 ?_
          intro w6 hG6 ho6
          refine wpList_end (planPostL_normal ⟨.inl rfl, hK _ _ ?_⟩)
          clear hK K
          refine wpPlanL_nil ?_
          have hv5' := Lib.hid hv5
          have hL51' := Lib.hid hL51
          clear hv5 hL51
          go_wp2_with fail
          go_roundw
          case rel => exact ⟨j + 1, L5, by omega, by go_num, by rw [hn.out]; exact hv5'.out, hL5, hL51'.out, hG6.out, hB5.trans (ho6.below hB2.size)⟩
          case measure => simp [intOf]; omega
        · have hjm : j = m := by omega
          have tj : ¬ (j : Int) < (m : Int) := by omega
          have hvm : Hid (SVal P2 (.agg L.toArray)) := by show SVal _ _; rw [← HP2.out, ← hjm]; exact hv.out
          clear hv hlt hj
          go_wp2_with (first | (refine wpList_blk_load rfl 34 _ rfl 0 rfl hG.out L (take_all0 _) _ Tryd.underlying34 rfl hsz.out ?_) | (refine wpList_row_store rfl 34 _ _ rfl L rfl rfl (hz.out wr) hsz.out (by rw [hL, hzl]) hL1 ?_; intro w4 hH4 ho4))
          have hB4 : Below w.heap.size w w4 := (hbw.alloc hbw.size _).trans (ho4.below hbw.size)
          have hlt24 : w2.heap.size < wr.heap.size := hG.out.lt
          have hG4 : Hid (Blk w4 w2.heap.size L 34) := (hG.out.alloc (.cells Tryd.zeroCells34 34)).only ho4 (Nat.ne_of_lt hG.out.lt)
          clear ho4 hG hTw
          have hL1' := Lib.hid hL1
          clear hL1
          obtain ⟨wo, hwo⟩ : ∃ wo, wo = wr := ⟨_, rfl⟩
          subst hwo
          go_loopw [12] (fun i wi => ∃ (j : Nat) (N : List Value), m ≤ j ∧ j ≤ la.length ∧ i = .int .i64 j ∧ SVal (la.take j).flatten (.agg N.toArray) ∧ N.length = 73 ∧ (∀ u ∈ N, u.oneCell' = true) ∧ Blk wi w2.heap.size N 34 ∧ Blk wi wo.heap.size L 34 ∧ Below w.heap.size w wi) (fun i _ => la.length - (intOf i).toNat)
          case atStart => exact ⟨m, L, Nat.le_refl _, hml, rfl, by rw [HP2.out]; exact hvm.out, hL, hL1'.out, hG4.out, hH4.out, hB4⟩
          case round =>
            clear hG4 hH4 hB4
            obtain ⟨i, N, hmi, hil, rfl, hv0, hN, hN1, hG0, hH0, hbi⟩ := hrel
            have hG := Lib.hid hG0
            have hH := Lib.hid hH0
            have hv := Lib.hid hv0
            have hTi := hT.out.on hbi
            clear hG0 hH0 hv0
            have hsn : Hid ((Tryd.prog.info? 34).map (·.size) = some N.length) := by show _ = _; rw [hN]; exact size_str
            by_cases hlt : i < la.length
            · obtain ⟨x, hx⟩ : ∃ x, la[i]? = some x := ⟨_, List.getElem?_eq_getElem hlt⟩
              obtain ⟨ad, rfl, hab, hcell⟩ := (hr1.out.below hbi).look (k := i) (u := sv x) (by rw [List.getElem?_map, hx]; rfl)
              have HAj := Lib.hid (HA.out i x hx)
              have hn := Lib.hid (flat_next hx)
              have hN1' := Lib.hid hN1
              clear hx hN1
              unfold sv at hcell HAj
              generalize bs x = S at hcell HAj
              go_wp2_with fail
              have hcx := fun x : ExtOf wr.drew => (show x.world.cell? (ad.add i) = some (.string S) from ((x.below (Nat.le_refl wr.heap.size)).cell (p := ad.add i) (by rw [add_block]; have := hbi.size; omega)).trans hcell)
              refine wp_region_planL 6 [(true, 0), (true, 1), (true, 2), (true, 3), (true, 4), (false, 5), (false, 6)] (by kernel_rfl) (by decide) (by kernel_rfl) (by kernel_rfl) (by kernel_rfl) (by decide) (by intro c a d v w h; cases d <;> exact h) ?_
              change wpPlanL _ _ _ _ _ _ wr.drew
              refine wpPlanL_load rfl rfl 34 _ rfl w2.heap.size 0 rfl N _ Tryd.underlying34 rfl hsn.out (fun x => ((hG.out.below (x.below (Nat.le_refl _)) hG.out.lt).range 0 N (take_all0 N))) ?_
              iterate 4 (refine wpPlanL_plain rfl (fun K hK => ?_); go_simp; refine hK _ ?_; clear hK K)
              refine wpPlanL_call rfl (fun K hK => ?_)
              go_wp2_with fail
              refine (HAj.out _ _ hv.out hTi.drew).mono ?_
              rintro e w5 ⟨v5, ⟨rfl, hv5⟩, hb5⟩
              go_wp2_with fail
              refine planPostL_normal ⟨.inr hb5, hK _ _ ?_⟩
              clear hK K hcx
              have hb5 := drewBelow hb5
              obtain ⟨L5, rfl, hL5, hL51⟩ := hv5.cells
              have hG5 := hG.out.below hb5 hG.out.lt
              have hH5 := hH.out.below hb5 hH.out.lt
              have hB5 : Below w.heap.size w w5 := hbi.trans (hb5.mono hbi.size)
              refine wpPlanL_call rfl (fun K hK => ?_)
              refine wpList_row_store rfl 34 _ _ rfl L5 rfl rfl hG5 (by rw [hL5]; exact size_str) (by rw [hL5, hN]) hL51 ?_
              intro w6 hG6 ho6
              refine wpList_end (planPostL_normal ⟨.inl rfl, hK _ _ ?_⟩)
              clear hK K
              refine wpPlanL_nil ?_
              have hv5' := Lib.hid hv5
              have hL51' := Lib.hid hL51
              clear hv5 hL51
              have hH6 := Lib.hid (hH5.only ho6 (Nat.ne_of_gt hlt24))
              go_wp2_with fail
              go_roundw
              case rel => exact ⟨i + 1, L5, by omega, by omega, by go_num, by rw [hn.out]; exact hv5'.out, hL5, hL51'.out, hG6.out, hH6.out, hB5.trans (ho6.below hB2.size)⟩
              case measure => simp [intOf]; omega
            · have hie : i = la.length := by omega
              have ti : ¬ (i : Int) < (la.length : Int) := by omega
              have hvn : Hid (SVal P1 (.agg N.toArray)) := by
                show SVal _ _
                have := hv.out
                rw [List.take_of_length_le (by omega), HP1.out] at this
                exact this
              have hlti : wo.heap.size < wr.heap.size := hH.out.lt
              clear hv hlt hil hmi
              go_wp2_with (refine wpList_blk_load rfl 34 _ rfl 0 rfl hH.out L (take_all0 _) _ Tryd.underlying34 rfl hsz.out ?_)
              refine (HX.out _ _ hvm.out hTi).mono ?_
              rintro e w5 ⟨v5, ⟨rfl, hv5⟩, hb5⟩
              have hB5 : Below w.heap.size w w5 := hbi.trans (hb5.mono hbi.size)
              have hG5 := hG.out.below hb5 hG.out.lt
              have hH5 := hH.out.below hb5 hH.out.lt
              obtain ⟨L5, rfl, hL5, hL51⟩ := hv5.cells
              have hv5 := Lib.hid hv5
              have hs5 : Hid ((Tryd.prog.info? 34).map (·.size) = some L5.length) := by show _ = _; rw [hL5]; exact size_str
              have hlt5 : wr.heap.size ≤ w5.heap.size := hb5.size
              clear hb5 hG hH hTi
              go_wp2_with (refine wpList_row_store rfl 34 _ _ rfl L5 rfl rfl (hz.out w5) hs5.out (by rw [hL5, hzl]) hL51 ?_; intro w6 hI6 ho6; have hB6 : Below w.heap.size w w6 := (hB5.alloc hB5.size _).trans (ho6.below hB5.size); have hG6 : Hid (Blk w6 w2.heap.size N 34) := (hG5.alloc (.cells Tryd.zeroCells34 34)).only ho6 (Nat.ne_of_lt hG5.lt); have hH6 : Hid (Blk w6 wo.heap.size L 34) := (hH5.alloc (.cells Tryd.zeroCells34 34)).only ho6 (Nat.ne_of_lt hH5.lt))
              clear hG5 hH5 ho6
              refine (J1.out _ hB6).mono ?_
              rintro e w7 ⟨rfl, rfl⟩
              go_wp2_with fail
              refine (J2.out _ hB6).mono ?_
              rintro e w7 ⟨rfl, rfl⟩
              go_wp2_with (refine wpList_blk_loadW (by rfl) 34 _ rfl 0 rfl hG6.out N (take_all0 _) _ Tryd.underlying34 rfl hsn.out ?_)
              refine (T1.out _ _ hvn.out (hT.out.on hB6)).mono ?_
              rintro e w7 ⟨rfl, hb7⟩
              have hB7 : Below w.heap.size w w7 := hB6.trans (hb7.mono hB6.size)
              have hH7 := Lib.hid (hH6.out.below hb7 hH6.out.lt)
              have hI7 := Lib.hid (hI6.out.below hb7 hI6.out.lt)
              clear hb7 hG6 hH6 hI6
              go_wp2_with (refine wpList_bytes_ofW (by rfl) _ rfl P1 X1 hX1.out rfl ?_; intro w8 A8 c8 hr8 hb8; have hB8 : Below w.heap.size w w8 := hB7.trans (hb8.mono hB7.size); have hH8 := Lib.hid (hH7.out.below hb8 hH7.out.lt); have hI8 := Lib.hid (hI7.out.below hb8 hI7.out.lt))
              refine (U1.out _ _ _ hr8 (hT.out.on hB8)).mono ?_
              rintro e w9 ⟨rfl, hb9⟩
              have hB9 : Below w.heap.size w w9 := hB8.trans (hb9.mono hB8.size)
              have hH9 := Lib.hid (hH8.out.below hb9 hH8.out.lt)
              have hI9 := Lib.hid (hI8.out.below hb9 hI8.out.lt)
              clear hb8 hb9 hr8 hH8 hI8 hH7 hI7
              go_wp2_with (first | (refine wpList_eql_bytes (by rfl) 24 _ _ _ rfl 32 Tryd.underlying24 (by kernel_rfl) Z1 Z1 z1 z1 rfl rfl true (by simp) ?_) | (refine wpList_blk_loadW (by rfl) 34 _ rfl 0 rfl hH9.out L (take_all0 _) _ Tryd.underlying34 rfl hsz.out ?_))
              refine (T2.out _ _ hvm.out (hT.out.on hB9)).mono ?_
              rintro e w10 ⟨rfl, hb10⟩
              have hB10 : Below w.heap.size w w10 := hB9.trans (hb10.mono hB9.size)
              have hI10 := Lib.hid (hI9.out.below hb10 hI9.out.lt)
              clear hb10 hH9 hI9
              go_wp2_with (refine wpList_bytes_ofW (by rfl) _ rfl P2 X2 hX2.out rfl ?_; intro w11 A11 c11 hr11 hb11; have hB11 : Below w.heap.size w w11 := hB10.trans (hb11.mono hB10.size); have hI11 := Lib.hid (hI10.out.below hb11 hI10.out.lt))
              refine (U2.out _ _ _ hr11 (hT.out.on hB11)).mono ?_
              rintro e w12 ⟨rfl, hb12⟩
              have hB12 : Below w.heap.size w w12 := hB11.trans (hb12.mono hB11.size)
              have hI12 := Lib.hid (hI11.out.below hb12 hI11.out.lt)
              clear hb11 hb12 hr11 hI10 hI11
              go_wp2_with (first | (refine wpList_eql_bytes (by rfl) 24 _ _ _ rfl 32 Tryd.underlying24 (by kernel_rfl) Z2 Z2 z2 z2 rfl rfl true (by simp) ?_) | (refine wpList_blk_loadW (by rfl) 34 _ rfl 0 rfl hI12.out L5 (take_all0 _) _ Tryd.underlying34 rfl hs5.out ?_))
              refine (T3.out _ _ hv5.out (hT.out.on hB12)).mono ?_
              rintro e w13 ⟨rfl, hb13⟩
              have hB13 : Below w.heap.size w w13 := hB12.trans (hb13.mono hB12.size)
              clear hb13 hI12
              go_wp2_with (refine wpList_bytes_ofW (by rfl) _ rfl P3 (X2 ++ Xe) hcat.out rfl ?_; intro w14 A14 c14 hr14 hb14; have hB14 : Below w.heap.size w w14 := hB13.trans (hb14.mono hB13.size))
              refine (U3.out _ _ _ hr14 (hT.out.on hB14)).mono ?_
              rintro e w15 ⟨rfl, hb15⟩
              have hB15 : Below w.heap.size w w15 := hB14.trans (hb15.mono hB14.size)
              clear hb14 hb15 hr14
              go_wp2_with (refine wpList_eql_bytes (by rfl) 24 _ _ _ rfl 32 Tryd.underlying24 (by kernel_rfl) Z3 Z3 z3 z3 rfl rfl true (by simp) ?_)
              go_ret
              exact ⟨rfl, hB15⟩
  · rw [decide_eq_false hf1] at F1
    unfold sv
    generalize bs ex = X
    clear hf1
    go_enter Tryd.func4, Tryd.ntmps4
    go_wp2_with fail
    refine (HSan.out _ ht).mono ?_
    rintro e w1 ⟨rfl, hb1⟩
    go_wp2_with fail
    refine (F1.out _ hb1).mono ?_
    rintro e w2 ⟨rfl, rfl⟩
    go_wp2_with fail
    go_ret
    exact ⟨rfl, hb1⟩
end Go.Proofs.YtchdpckbgabhhaaDoor
