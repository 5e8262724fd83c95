/-
  Contracts of stage 6: candidate.
-/
import Derived.WalkMore
import Derived.Test.YtbilfhipmebmlaaDoorQfh
namespace Go.Proofs.YtbilfhipmebmlaaDoor
set_option linter.unusedVariables false
set_option linter.unusedSimpArgs false
open Go.RowKit

/-- What candidate ends with. -/
def CandEnd (w : World) (xs ys : List UInt8) (n most : Nat) (e : Ending) (w' : World) : Prop :=
  ∃ v R T, e = .returned v ∧ OwnB w' w.heap.size v (dq R T) ∧ Below w.heap.size w w' ∧ (∀ i, i < n → ev R (co xs i) = Gf.mul (ev T (co xs i)) (co ys i)) ∧ dg R ≤ most ∧ dg T + most ≤ n + 1 ∧ 0 < dg T ∧ (dq R T).length ≤ 100000

/-- What lies in memory. -/
structure SrW (w W : World) (ga gb : Nat) (ra ta rb tb : List UInt8) (v1 v2 v3 v4 : Value) : Prop where
  a : Blk W ga [v1, v2] 131
  b : Blk W gb [v3, v4] 131
  r1 : RowF W ga gb v1 ra
  r2 : RowF W ga gb v2 ta
  r3 : RowF W ga gb v3 rb
  r4 : RowF W ga gb v4 tb
  low : Below w.heap.size w W
def meas (ga gb : Nat) (W : World) : Nat := 2 * (lenC (W.cell? ⟨ga, 0, none⟩) + lenC (W.cell? ⟨gb, 0, none⟩)) + (if lenC (W.cell? ⟨ga, 0, none⟩) < lenC (W.cell? ⟨gb, 0, none⟩) then 1 else 0)
theorem meas_of {w W : World} {ga gb : Nat} {ra ta rb tb : List UInt8} {v2 v4 : Value} {A A' : Option Addr} {n n' c c' : Nat} (h : SrW w W ga gb ra ta rb tb (.slice A n c) v2 (.slice A' n' c') v4) : meas ga gb W = 2 * (n + n') + (if n < n' then 1 else 0) := by
  unfold meas
  rw [h.a.cell (j := 0) rfl, h.b.cell (j := 0) rfl]
  rfl
theorem row_nilF (W : World) (ga gb : Nat) : RowF W ga gb (.slice none 0 0) [] := .inl ⟨none, 0, rfl, Nat.le_refl _, Nat.zero_le _, fun _ => rfl, Rds.empty⟩

set_option maxRecDepth 100000 in
set_option maxHeartbeats 16000000 in
theorem candidate_any {B : Nat} (xs ys wh all : List UInt8) (n most nw na : Nat) (A A' : Option Addr) (c c' : Nat) (w : World) (h : Rds w B A (wh.map bv)) (h' : Rds w B A' (all.map bv)) (hB : B ≤ w.heap.size) (hnw : nw = wh.length) (hna : na = all.length) (hcw : nw ≤ c) (hcm : c ≤ maxLen) (hAn : A = none → c = 0) (hcw' : na ≤ c') (hcm' : c' ≤ maxLen) (hAn' : A' = none → c' = 0)
    (hI : SrI xs ys n most wh [] all [1]) (hl : n ≤ 1000) (hm1 : 1 ≤ most) (hm2 : most ≤ n) (ht : PTab 0 w) :
    Calls Tryd.prog 72 #[.slice A nw c, .slice A' na c', .int .i64 most] w (CandEnd w xs ys n most) := by
  have hI' := Lib.hid hI
  have ht' := Lib.hid ht
  have hra : Hid (RowAt w w.heap.size (.slice A nw c) wh) := ⟨A, c, by rw [hnw], by omega, hcm, hAn, h.more hB⟩
  have hrb : Hid (RowAt w w.heap.size (.slice A' na c') all) := ⟨A', c', by rw [hna], by omega, hcm', hAn', h'.more hB⟩
  have hnw' := Lib.hid hnw
  have hna' := Lib.hid hna
  clear hI ht h h' hB hnw hna hcw hcm hAn hcw' hcm' hAn'
  go_enter Tryd.func72, Tryd.ntmps72
  go_wp2_with fail
  go_step3
  go_wp2_with fail
  obtain ⟨W0, hW0⟩ : ∃ W0, W0 = (((w.alloc (.cells #[.int .u8 1] 5)).alloc (.cells #[.slice A nw c, .slice none 0 0] 131)).alloc (.cells #[.slice A' na c', .slice (some ⟨w.heap.size, 0, none⟩) 1 1] 131)) := ⟨_, rfl⟩
  have hS0 : Hid (SrW w W0 (w.heap.size + 1) (w.heap.size + 1 + 1) wh [] all [1] (.slice A nw c) (.slice none 0 0) (.slice A' na c') (.slice (some ⟨w.heap.size, 0, none⟩) 1 1)) := by
    have b1 : Below w.heap.size w W0 := by rw [hW0]; exact (((Below.refl _ w).alloc (Nat.le_refl _) _).alloc (by simp) _).alloc (by simp; omega) _
    have k1 : Blk W0 (w.heap.size + 1) [.slice A nw c, .slice none 0 0] 131 := by
      have := Blk.new (w.alloc (.cells #[.int .u8 1] 5)) [.slice A nw c, .slice none 0 0] 131
      rw [World.size_alloc] at this
      rw [hW0]
      exact this.alloc _
    have k2 : Blk W0 (w.heap.size + 1 + 1) [.slice A' na c', .slice (some ⟨w.heap.size, 0, none⟩) 1 1] 131 := by
      have := Blk.new ((w.alloc (.cells #[.int .u8 1] 5)).alloc (.cells #[.slice A nw c, .slice none 0 0] 131)) [.slice A' na c', .slice (some ⟨w.heap.size, 0, none⟩) 1 1] 131
      rw [World.size_alloc, World.size_alloc] at this
      rw [hW0]
      exact this
    have k3 : Blk W0 w.heap.size [bv 1] 5 := by
      rw [hW0]
      exact ((Blk.new w [bv 1] 5).alloc _).alloc _
    refine ⟨k1, k2, .inl ((hra.out.below b1).more (Nat.le_succ _)), row_nilF _ _ _, .inl ((hrb.out.below b1).more (Nat.le_succ _)), .inl ⟨some ⟨w.heap.size, 0, none⟩, 1, rfl, Nat.le_refl _, by unfold maxLen; omega, (fun h => by cases h), fun hn => ?_⟩, b1⟩
    obtain ⟨ad, e, _, hc⟩ := (k3.rds 0 1) hn
    cases e
    exact ⟨_, rfl, Nat.lt_succ_self _, hc⟩
  have hga : Hid (w.heap.size + 1 + 1 < W0.heap.size) := hS0.out.b.lt
  rw [← hW0]
  obtain ⟨ga, hga0⟩ : ∃ g, g = w.heap.size + 1 := ⟨_, rfl⟩
  obtain ⟨gb, hgb0⟩ : ∃ g, g = ga + 1 := ⟨_, rfl⟩
  rw [← hga0] at hS0 hga ⊢
  rw [← hgb0] at hS0 hga ⊢
  have hgl : Hid (w.heap.size < ga ∧ ga < gb) := by show _ ∧ _; omega
  clear hga0 hgb0 hW0 hra hrb hga
  go_step3
  go_wp2_with fail
  go_loopw [] (fun wr => ∃ (ra ta rb tb : List UInt8) (v1 v2 v3 v4 : Value), Hid (SrI xs ys n most ra ta rb tb) ∧ Hid (SrW w wr ga gb ra ta rb tb v1 v2 v3 v4)) (fun wr => meas ga gb wr)
  case atStart => exact ⟨wh, [], all, [1], _, _, _, _, hI', hS0⟩
  case round =>
    clear hI' hS0 hnw' hna'
    obtain ⟨ra, ta, rb, tb, v1, v2, v3, v4, hI, hS⟩ := hrel
    have hgW : Hid (ga ≤ wr.heap.size) := by have := hS.out.a.lt; show _ ≤ _; omega
    have hgWr : Hid (gb + 1 ≤ wr.heap.size) := hS.out.b.lt
    obtain ⟨A1, c1, rfl, h11, h12, h13, h14⟩ := hS.out.r1.row hgW.out
    obtain ⟨A2, c2, rfl, h21, h22, h23, h24⟩ := hS.out.r2.row hgW.out
    obtain ⟨A3, c3, rfl, h31, h32, h33, h34⟩ := hS.out.r3.row hgW.out
    obtain ⟨A4, c4, rfl, h41, h42, h43, h44⟩ := hS.out.r4.row hgW.out
    have H1 := Lib.hid (And.intro h12 (And.intro h13 h14))
    have H2 := Lib.hid (And.intro h22 (And.intro h23 h24))
    have H3 := Lib.hid (And.intro h32 (And.intro h33 h34))
    have H4 := Lib.hid (And.intro h42 (And.intro h43 h44))
    have hme := Lib.hid (meas_of hS.out)
    have p1 := hS.out.a.cell (j := 0) rfl
    have p2 := hS.out.a.cell (j := 1) rfl
    have p3 := hS.out.b.cell (j := 0) rfl
    have p4 := hS.out.b.cell (j := 1) rfl
    have hla := hI.out.la
    have hlb := hI.out.lb
    have hphl : Hid (ta.length ≤ n + 2 ∧ tb.length ≤ n + 2) := by
      show _ ∧ _
      rcases hI.out.ph with ⟨q1, q2, q3⟩ | ⟨q1, q2, q3⟩ <;> omega
    clear h12 h13 h14 h22 h23 h24 h32 h33 h34 h42 h43 h44
    obtain ⟨l1, hl1⟩ : ∃ l, l = ra.length := ⟨_, rfl⟩
    obtain ⟨l2, hl2⟩ : ∃ l, l = ta.length := ⟨_, rfl⟩
    obtain ⟨l3, hl3⟩ : ∃ l, l = rb.length := ⟨_, rfl⟩
    obtain ⟨l4, hl4⟩ : ∃ l, l = tb.length := ⟨_, rfl⟩
    have hL1 := Lib.hid hl1
    have hL2 := Lib.hid hl2
    have hL3 := Lib.hid hl3
    have hL4 := Lib.hid hl4
    rw [← hl1] at p1 hla h11 hme hS
    rw [← hl2] at p2 h21 hphl hS
    rw [← hl3] at p3 hlb h31 hme hS
    rw [← hl4] at p4 h41 hphl hS
    clear hl1 hl2 hl3 hl4
    obtain ⟨z, hz⟩ : ∃ z, z = (l1 : Int) - (l3 : Int) := ⟨_, rfl⟩
    have hzw : IntKind.i64.wrap ((l1 : Int) - (l3 : Int)) = z := by rw [IntKind.wrap_i64]; omega
    have hz' := Lib.hid hz
    clear hz
    by_cases hst : l3 ≤ most
    · have t : (l3 : Int) ≤ (most : Int) := by omega
      have hstop := Lib.hid (hI.out.stop (by rw [← hL3.out]; exact hst))
      have DV : Hid (Calls Tryd.prog 67 #[.slice A3 l3 c3, .slice A4 l4 c4] wr fun e w' => ∃ vq vr, e = .returned (.tuple #[vq, vr]) ∧ OwnB w' wr.heap.size vq (dq rb tb) ∧ OwnB w' wr.heap.size vr (dr rb tb) ∧ Below wr.heap.size wr w') := by
        have := divide_any (B := wr.heap.size) rb tb A3 A4 c3 c4 wr H3.out.2.2 H4.out.2.2 (Nat.le_refl _) (by rw [← hL3.out]; omega) (by rw [← hL4.out]; have := hphl.out; omega) (by rw [← hL3.out]; exact h31) H3.out.1 H3.out.2.1 (by rw [← hL4.out]; exact h41) hstop.out.2.2 (ht'.out.below hS.out.low ht'.out.1)
        rw [← hL3.out, ← hL4.out] at this
        exact this
      have hql := dq_len rb tb
      have hqe : Hid ((dq rb tb).length ≤ 100000 ∧ ∀ i, i < n → ev rb (co xs i) = Gf.mul (ev tb (co xs i)) (co ys i)) := ⟨by rw [← hL3.out] at hql; omega, hI.out.eb⟩
      have hlw := Lib.hid hS.out.low
      clear hql hme H1 H2 H3 H4 hS hI hst
      go_wp2_with fail
      refine DV.out.mono ?_
      rintro e w5 ⟨vq, vr, rfl, ho5, _, hb5⟩
      have hfin := Lib.hid (And.intro (ownB_low ho5 hlw.out.size) (hlw.out.trans (hb5.mono hlw.out.size)))
      clear ho5 hb5 DV
      go_wp2_with fail
      rw [Exit.noGoto_ret]
      go_ret
      exact ⟨_, rb, tb, by first | rfl | (go_simp; done) | (go_simp; rfl), hfin.out.1, hfin.out.2, hqe.out.2, hstop.out.1, hstop.out.2.1, hstop.out.2.2, hqe.out.1⟩
    · have t : ¬ (l3 : Int) ≤ (most : Int) := by omega
      by_cases hk : l1 < l3
      · have tz : z < 0 := by have := hz'.out; omega
        obtain ⟨dd, hdu, hdr⟩ := row_rem
        have hgne : Hid (gb ≠ ga) := by have := hgl.out; show _ ≠ _; omega
        have hdu' := Lib.hid hdu
        have hkk := Lib.hid hk
        have hSb : Hid (Blk wr gb [.slice A3 l3 c3, .slice A4 l4 c4] 131) := hS.out.b
        have hSa : Hid (Blk wr ga [.slice A1 l1 c1, .slice A2 l2 c2] 131) := hS.out.a
        clear hdu hst hk H1 H2 H3 H4 hphl
        go_wp2_with (first | (refine wpList_blk_load rfl 131 _ rfl 0 rfl hSb.out [.slice A3 l3 c3, .slice A4 l4 c4] rfl dd hdu'.out hdr size_rem ?_) | (refine wpList_blk_load rfl 131 _ rfl 0 rfl hSa.out [.slice A1 l1 c1, .slice A2 l2 c2] rfl dd hdu'.out hdr size_rem ?_) | (refine wpList_row_store rfl 131 _ _ rfl [.slice A3 l3 c3, .slice A4 l4 c4] rfl rfl hSa.out size_rem rfl (rem_one _ _ _ _ _ _) ?_; intro w4 hw4 ho4) | (refine wpList_row_store rfl 131 _ _ rfl [.slice A1 l1 c1, .slice A2 l2 c2] rfl rfl (hSb.out.only ho4 hgne.out) size_rem rfl (rem_one _ _ _ _ _ _) ?_; intro w5 hw5 ho5))
        have hS5 : Hid (SrW w w5 ga gb rb tb ra ta (.slice A3 l3 c3) (.slice A4 l4 c4) (.slice A1 l1 c1) (.slice A2 l2 c2)) := by
          have hga := hgl.out
          refine ⟨hw4.out.only ho5 (fun e => hgne.out e.symm), hw5.out, ?_, ?_, ?_, ?_, ?_⟩
          · exact (hS.out.r3.only ho4 (Nat.le_refl _) (by omega)).only ho5 (by omega) (Nat.lt_succ_self _)
          · exact (hS.out.r4.only ho4 (Nat.le_refl _) (by omega)).only ho5 (by omega) (Nat.lt_succ_self _)
          · exact (hS.out.r1.only ho4 (Nat.le_refl _) (by omega)).only ho5 (by omega) (Nat.lt_succ_self _)
          · exact (hS.out.r2.only ho4 (Nat.le_refl _) (by omega)).only ho5 (by omega) (Nat.lt_succ_self _)
          · exact (hS.out.low.trans (ho4.below (by omega))).trans (ho5.below (by omega))
        clear hw4 ho4 hw5 ho5
        go_roundw
        case rel => exact ⟨_, _, _, _, hI.out.swap, _, _, _, _, hS5⟩
        case measure =>
          rw [meas_of hS5.out, hme.out]
          have := hkk.out
          rw [if_pos this, if_neg (by omega)]
          omega
      · have hm3 : most < l3 := by omega
        obtain ⟨k, hkz⟩ : ∃ k, k = l1 - l3 := ⟨_, rfl⟩
        have ez : z = (k : Int) := by have := hz'.out; omega
        subst ez
        have tz : ¬ (k : Int) < 0 := by omega
        have hk3 : Hid (k = ra.length - rb.length) := by show _ = _; rw [← hL1.out, ← hL3.out]; exact hkz
        have hkl : k ≤ 1001 := by omega
        have htop : Hid (co rb (rb.length - 1) ≠ 0) := by
          rw [← trim_dg hI.out.t3]
          exact dg_top rb (by rw [trim_dg hI.out.t3, ← hL3.out]; omega)
        have hstep := Lib.hid (hI.out.step (by rw [← hL3.out]; exact hm3) (by rw [← hL1.out, ← hL3.out]; omega) hm1)
        rw [← hk3.out] at hstep
        have LA1 : Hid (∀ W, Below wr.heap.size wr W → Calls Tryd.prog 103 #[.slice A1 l1 c1] W fun e w' => e = .returned (bv (co ra (ra.length - 1))) ∧ w' = W) := fun W hW => by
          have := last_any (B := wr.heap.size) ra A1 c1 W (H1.out.2.2.below hW) (by rw [← hL1.out]; omega) (by rw [← hL1.out]; omega)
          rw [← hL1.out] at this ⊢
          exact this
        have LA3 : Hid (∀ W, Below wr.heap.size wr W → Calls Tryd.prog 103 #[.slice A3 l3 c3] W fun e w' => e = .returned (bv (co rb (rb.length - 1))) ∧ w' = W) := fun W hW => by
          have := last_any (B := wr.heap.size) rb A3 c3 W (H3.out.2.2.below hW) (by rw [← hL3.out]; omega) (by rw [← hL3.out]; omega)
          rw [← hL3.out] at this ⊢
          exact this
        obtain ⟨q, hq⟩ : ∃ q, q = Gf.mul (co ra (ra.length - 1)) (Gf.inv (co rb (rb.length - 1))) := ⟨_, rfl⟩
        have QU : Hid (∀ W, Below wr.heap.size wr W → Calls Tryd.prog 102 #[bv (co ra (ra.length - 1)), bv (co rb (rb.length - 1))] W fun e w' => e = .returned (bv q) ∧ ∃ n, w' = W.drewN n) := fun W hW => by
          rw [hq]
          exact quotient_any _ _ W htop.out (ht'.out.below (hS.out.low.trans (hW.mono hS.out.low.size)) ht'.out.1)
        rw [← hq] at hstep
        have MK := Lib.hid (fun W => run_make_row' (P := Tryd.prog) 22 5 (.int .u8 0) 1 Tryd.underlying22 infoByte rfl .i64 .i64 k (by omega) (by omega) W)
        clear hst hk hkz hq hz' htop hk3
        have LA1' := LA1.out
        have LA3' := LA3.out
        have QU' := QU.out
        clear LA1 LA3 QU
        generalize co ra (ra.length - 1) = x1 at *
        generalize co rb (rb.length - 1) = x3 at *
        have LA1 := Lib.hid LA1'
        have LA3 := Lib.hid LA3'
        have QU := Lib.hid QU'
        clear LA1' LA3' QU'
        go_wp2_with fail
        have hne : Nonempty (SOf fun W : World => Below wr.heap.size wr W) := ⟨⟨wr, Below.refl _ _⟩⟩
        go_cut [10] from 25 to 35 (fun v W => Below wr.heap.size wr W ∧ OwnB W wr.heap.size v (mono k q))
        case first J KK hJ hKK =>
          have q1 : ∀ x : SOf (fun W : World => Below wr.heap.size wr W), x.world.cell? ⟨ga, 0, none⟩ = some (.slice A1 l1 c1) := fun x => ((show Below wr.heap.size wr x.world from x.meets).cell (p := ⟨ga, 0, none⟩) hS.out.a.lt).trans p1
          have q3 : ∀ x : SOf (fun W : World => Below wr.heap.size wr W), x.world.cell? ⟨gb, 0, none⟩ = some (.slice A3 l3 c3) := fun x => ((show Below wr.heap.size wr x.world from x.meets).cell (p := ⟨gb, 0, none⟩) hS.out.b.lt).trans p3
          refine wp_region_planH (fun W => Below wr.heap.size wr W) [0, 2, 3, 5, 6] 7 (by kernel_rfl) (by kernel_rfl) (by kernel_rfl) (by kernel_rfl) (by intro c a d v w h; cases d <;> exact h) ((Below.refl _ _).drew) ?_
          change wpPlanH _ _ _ _ _ _ _ _ _ wr.drew
          iterate 5 (refine wpPlanH_plain rfl (fun K hK => ?_); go_simp; refine hK _ ?_; clear hK K)
          clear q1 q3 hne
          have hB0 : Below wr.heap.size wr wr.drew := (Below.refl _ _).drew
          generalize wr.drew = W0 at hB0 ⊢
          refine wpAnyH_machine (js := [1, 4, 7, 8, 9, 10, 11]) [some 26, some 29, some 32, some 33, some 34, some 35, some 10] (by kernel_rfl) (by kernel_rfl) (by kernel_rfl) (fun c vals W => Below wr.heap.size wr W ∧ (c 1 = true → c 10 = false → OwnB W wr.heap.size (vals 1) (List.replicate k 0)) ∧ (c 4 = true → vals 4 = bv x1) ∧ (c 7 = true → vals 7 = bv x3) ∧ (c 8 = true → vals 8 = bv q) ∧ (c 9 = true → ∃ g, vals 9 = .slice (some ⟨g, 0, none⟩) 1 1 ∧ (c 10 = false → Blk W g [bv q] 5)) ∧ (c 10 = true → c 1 = true ∧ c 9 = true ∧ OwnB W wr.heap.size (vals 10) (mono k q)) ∧ (c 11 = true → c 10 = true ∧ vals 11 = vals 10)) (fun _ _ _ h => h.1) 7 (by decide) ⟨hB0, (fun h => by cases h), (fun h => by cases h), (fun h => by cases h), (fun h => by cases h), (fun h => by cases h), (fun h => by cases h), (fun h => by cases h)⟩ ?_ ?_
          · intro i hi c vals a2 W hRR hc hw hst K hK
            obtain ⟨hBw, h1, h4, h7, h8, h9, h10, h11⟩ := hRR
            simp only [List.mem_cons, List.not_mem_nil, or_false] at hi
            rcases hi with rfl | rfl | rfl | rfl | rfl | rfl | rfl
            · have x1' : a2.eval (.tmp 25) = .int .i64 k := eval_tmp ((hst.other 25 (by kernel_rfl)).trans rfl)
              have hn10 : c 10 = false := by
                cases h : c 10 with
                | false => rfl
                | true => have := (h10 h).1; rw [hc] at this; cases this
              refine wpOp_make rfl rfl rfl x1' x1' (MK.out W) (hK _ _ ⟨hBw.alloc hBw.size _, ?_, ?_, ?_, ?_, ?_, ?_, ?_⟩)
              · intro _ _
                have hbz : Blk (W.alloc (.cells (madeCells #[.int .u8 0] k) 5)) W.heap.size ((List.replicate k (0 : UInt8)).map bv) 5 := by rw [made_zeros, zeros_row]; exact Blk.new _ _ _
                have := own_blk (X := List.replicate k (0 : UInt8)) (B := wr.heap.size) hbz hBw.size List.length_replicate (by unfold maxLen; omega)
                simpa [updV] using this
              · intro h; simpa [updV] using h4 (by simpa [updC] using h)
              · intro h; simpa [updV] using h7 (by simpa [updC] using h)
              · intro h; simpa [updV] using h8 (by simpa [updC] using h)
              · intro h
                obtain ⟨g, e1, e2⟩ := h9 (by simpa [updC] using h)
                exact ⟨g, by simpa [updV] using e1, fun _ => (e2 hn10).alloc _⟩
              · intro h; have h' : c 10 = true := by simpa [updC] using h
                rw [hn10] at h'; cases h'
              · intro h; simpa [updV, updC] using h11 (by simpa [updC] using h)
            · refine wpOp_call rfl rfl rfl (enter_of Tryd.func103 (by kernel_rfl) (by kernel_rfl)) #[.slice A1 l1 c1] ?_ ((LA1.out _ hBw).mono ?_)
              · have x1' : a2.eval (.tmp 28) = .slice A1 l1 c1 := eval_tmp ((hst.other 28 (by kernel_rfl)).trans rfl)
                simp only [List.map_toArray, List.map_cons, List.map_nil, x1']
              · rintro e w' ⟨rfl, rfl⟩
                refine ⟨_, rfl, hK _ _ ⟨hBw, ?_, ?_, ?_, ?_, ?_, ?_, ?_⟩⟩
                · intro h h'; simpa [updV] using h1 (by simpa [updC] using h) (by simpa [updC] using h')
                · intro _; simp [updV]
                · intro h; simpa [updV] using h7 (by simpa [updC] using h)
                · intro h; simpa [updV] using h8 (by simpa [updC] using h)
                · intro h; simpa [updV, updC] using h9 (by simpa [updC] using h)
                · intro h; simpa [updV, updC] using h10 (by simpa [updC] using h)
                · intro h; simpa [updV, updC] using h11 (by simpa [updC] using h)
            · refine wpOp_call rfl rfl rfl (enter_of Tryd.func103 (by kernel_rfl) (by kernel_rfl)) #[.slice A3 l3 c3] ?_ ((LA3.out _ hBw).mono ?_)
              · have x1' : a2.eval (.tmp 31) = .slice A3 l3 c3 := eval_tmp ((hst.other 31 (by kernel_rfl)).trans rfl)
                simp only [List.map_toArray, List.map_cons, List.map_nil, x1']
              · rintro e w' ⟨rfl, rfl⟩
                refine ⟨_, rfl, hK _ _ ⟨hBw, ?_, ?_, ?_, ?_, ?_, ?_, ?_⟩⟩
                · intro h h'; simpa [updV] using h1 (by simpa [updC] using h) (by simpa [updC] using h')
                · intro h; simpa [updV] using h4 (by simpa [updC] using h)
                · intro _; simp [updV]
                · intro h; simpa [updV] using h8 (by simpa [updC] using h)
                · intro h; simpa [updV, updC] using h9 (by simpa [updC] using h)
                · intro h; simpa [updV, updC] using h10 (by simpa [updC] using h)
                · intro h; simpa [updV, updC] using h11 (by simpa [updC] using h)
            · have c4 := hw 4 (by kernel_rfl)
              have c7 := hw 7 (by kernel_rfl)
              refine wpOp_call rfl rfl rfl (enter_of Tryd.func102 (by kernel_rfl) (by kernel_rfl)) #[bv x1, bv x3] ?_ ((QU.out _ hBw).mono ?_)
              · have y1 : a2.eval (.tmp 29) = bv x1 := (eval_tmp (hst.at_ 4 29 (by kernel_rfl) (by kernel_rfl) c4 (by kernel_rfl))).trans (h4 c4)
                have y2 : a2.eval (.tmp 32) = bv x3 := (eval_tmp (hst.at_ 7 32 (by kernel_rfl) (by kernel_rfl) c7 (by kernel_rfl))).trans (h7 c7)
                simp only [List.map_toArray, List.map_cons, List.map_nil, y1, y2]
              · rintro e w' ⟨rfl, m, rfl⟩
                refine ⟨_, rfl, hK _ _ ⟨below_dN hBw m, ?_, ?_, ?_, ?_, ?_, ?_, ?_⟩⟩
                · intro h h'; simpa [updV] using ownB_kp (h1 (by simpa [updC] using h) (by simpa [updC] using h')) (below_dN (Below.refl _ _) m)
                · intro h; simpa [updV] using h4 (by simpa [updC] using h)
                · intro h; simpa [updV] using h7 (by simpa [updC] using h)
                · intro _; simp [updV]
                · intro h
                  obtain ⟨g, e1, e2⟩ := h9 (by simpa [updC] using h)
                  exact ⟨g, by simpa [updV] using e1, fun h' => e2 (by simpa [updC] using h')⟩
                · intro h
                  have hh := h10 (by simpa [updC] using h)
                  refine ⟨by simpa [updC] using hh.1, by simpa [updC] using hh.2.1, ?_⟩
                  simpa [updV] using ownB_kp hh.2.2 (below_dN (Below.refl _ _) m)
                · intro h; simpa [updV, updC] using h11 (by simpa [updC] using h)
            · have c8 := hw 8 (by kernel_rfl)
              have hn10 : c 10 = false := by
                cases h : c 10 with
                | false => rfl
                | true => have := (h10 h).2.1; rw [hc] at this; cases this
              obtain ⟨i0, hi0, hz0, hz1, hz2⟩ := info_parts infoByte
              refine wpOp_listed rfl ?_
              refine wpList_buildSlice_one rfl 22 _ rfl (bv q) _ ((eval_tmp (hst.at_ 8 33 (by kernel_rfl) (by kernel_rfl) c8 (by kernel_rfl))).trans (h8 c8)) (run_buildSlice_cell W 22 5 i0 (.int .u8 0) Tryd.underlying22 hi0 hz0 hz1 (bv q) rfl) ?_
              refine wpList_end (postH_normal (hK _ _ ⟨hBw.alloc hBw.size _, ?_, ?_, ?_, ?_, ?_, ?_, ?_⟩))
              · intro h h'; simpa [updV] using ownB_kp (h1 (by simpa [updC] using h) (by simpa [updC] using h')) ((Below.refl _ _).alloc (Nat.le_refl _) _)
              · intro h; simpa [updV] using h4 (by simpa [updC] using h)
              · intro h; simpa [updV] using h7 (by simpa [updC] using h)
              · intro h; simpa [updV] using h8 (by simpa [updC] using h)
              · intro _; exact ⟨W.heap.size, by simp [updV], fun _ => Blk.new W [bv q] _⟩
              · intro h; have h' : c 10 = true := by simpa [updC] using h
                rw [hn10] at h'; cases h'
              · intro h; simpa [updV, updC] using h11 (by simpa [updC] using h)
            · have c1' := hw 1 (by kernel_rfl)
              have c9 := hw 9 (by kernel_rfl)
              obtain ⟨g, e1, e2⟩ := h9 c9
              have hn11 : c 11 = false := by
                cases h : c 11 with
                | false => rfl
                | true => have := (h11 h).1; rw [hc] at this; cases this
              refine wpOp_listed rfl ?_
              refine push_bytesH rfl _ _ rfl wr.heap.size (vals 1) (List.replicate k 0) [q] W.heap.size (some ⟨g, 0, none⟩) 1 1 rfl (fun h => by cases h) (eval_tmp (hst.at_ 1 26 (by kernel_rfl) (by kernel_rfl) c1' (by kernel_rfl))) ((eval_tmp (hst.at_ 9 34 (by kernel_rfl) (by kernel_rfl) c9 (by kernel_rfl))).trans e1) ((e2 hc).rds 0 1) (h1 c1' hc) (by simp; omega) hBw.size ?_
              intro v6 w6 ho6 hb6 _ _
              refine wpList_end (postH_normal (hK _ _ ⟨hBw.trans hb6, ?_, ?_, ?_, ?_, ?_, ?_, ?_⟩))
              · intro _ h'; simp [updC] at h'
              · intro h; simpa [updV] using h4 (by simpa [updC] using h)
              · intro h; simpa [updV] using h7 (by simpa [updC] using h)
              · intro h; simpa [updV] using h8 (by simpa [updC] using h)
              · intro _; exact ⟨g, by simpa [updV] using e1, fun h' => by simp [updC] at h'⟩
              · intro _; exact ⟨by simpa [updC] using c1', by simpa [updC] using c9, by simpa [updV, mono] using ho6⟩
              · intro h; have h' : c 11 = true := by simpa [updC] using h
                rw [hn11] at h'; cases h'
            · have c10 := hw 10 (by kernel_rfl)
              refine wpOp_move rfl rfl _ (.inl rfl) (vals 10) (eval_tmp (hst.at_ 10 35 (by kernel_rfl) (by kernel_rfl) c10 (by kernel_rfl))) (hK _ _ ⟨hBw, ?_, ?_, ?_, ?_, ?_, ?_, ?_⟩)
              · intro h h'; simpa [updV] using h1 (by simpa [updC] using h) (by simpa [updC] using h')
              · intro h; simpa [updV] using h4 (by simpa [updC] using h)
              · intro h; simpa [updV] using h7 (by simpa [updC] using h)
              · intro h; simpa [updV] using h8 (by simpa [updC] using h)
              · intro h; simpa [updV, updC] using h9 (by simpa [updC] using h)
              · intro h; simpa [updV, updC] using h10 (by simpa [updC] using h)
              · intro _; simp [updV, updC, c10]
          · intro c vals W hc hRR
            obtain ⟨hBw, _, _, _, _, _, h10, h11⟩ := hRR
            have c10 := hc 10 (by decide)
            have e11 := (h11 (hc 11 (by decide))).2
            have hfin : Below wr.heap.size wr W ∧ OwnB W wr.heap.size (vals 11) (mono k q) := by
              rw [e11]; exact ⟨hBw, (h10 c10).2.2⟩
            clear hc h10 h11 e11 hBw
            simp only [framedAll, List.map_cons, List.map_nil, Act.put, List.setIfInBounds_toArray, List.set_cons_zero, List.set_cons_succ]
            show KK _ W
            refine hKK _ _ (Met.intro (hJ _ _ ?_))
            repeat apply Exists.intro
            exact ⟨hfin, rfl⟩
        case rest =>
          obtain ⟨hBc0, hoc0⟩ := hcut
          have hBc := Lib.hid hBc0
          have hSc : Hid (SrW w wc ga gb ra ta rb tb (.slice A1 l1 c1) (.slice A2 l2 c2) (.slice A3 l3 c3) (.slice A4 l4 c4)) := ⟨hS.out.a.below hBc0 hS.out.a.lt, hS.out.b.below hBc0 hS.out.b.lt, hS.out.r1.keep hBc0 hgW.out, hS.out.r2.keep hBc0 hgW.out, hS.out.r3.keep hBc0 hgW.out, hS.out.r4.keep hBc0 hgW.out, hS.out.low.trans (hBc0.mono hS.out.low.size)⟩
          obtain ⟨Am, cm, rfl, hmc, _, _, hmr⟩ := own_form hoc0
          have hmo := Lib.hid hoc0
          have hmr' := Lib.hid hmr
          have hml : Hid ((mono k q).length = k + 1) := by show _ = _; simp [mono]
          rw [hml.out] at hmc hmo ⊢
          obtain ⟨lm, hlm⟩ : ∃ lm, lm = k + 1 := ⟨_, rfl⟩
          rw [← hlm] at hmc hmo hml ⊢
          have hlm' : lm ≤ 1002 := by omega
          clear hBc0 hoc0 hmr hlm LA1 LA3 QU MK hS p1 p2 p3 p4 hne
          have hphl1 := hphl.out.1
          have hphl2 := hphl.out.2
          have hR3c : Hid (Rds wc wc.heap.size A3 (rb.map bv)) := (H3.out.2.2.below hBc.out).more hBc.out.size
          have hmra := hmr'
          have hgWa : Hid (ga ≤ wc.heap.size) := by have := hSc.out.a.lt; show _ ≤ _; omega
          have hgBa : Hid (gb + 1 ≤ wc.heap.size) := hSc.out.b.lt
          have paa := hSc.out.a.cell (j := 0) rfl
          have pba := hSc.out.b.cell (j := 0) rfl
          have za : ∀ z : ExtOf wc.drew, z.world.cell? ⟨ga, 0, none⟩ = some (.slice A1 l1 c1) := fun z => (Below.cell (p := ⟨ga, 0, none⟩) (z.ext) hSc.out.a.lt).trans paa
          have zb : ∀ z : ExtOf wc.drew, z.world.cell? ⟨gb, 0, none⟩ = some (.slice A3 l3 c3) := fun z => (Below.cell (p := ⟨gb, 0, none⟩) (z.ext) hSc.out.b.lt).trans pba
          have htba : Hid (∀ V, Below wc.heap.size wc V → PTab 0 V) := fun V hV => ht'.out.below (hSc.out.low.trans (hV.mono hSc.out.low.size)) ht'.out.1
          have PRa : Hid (Calls Tryd.prog 66 #[.slice Am lm cm, .slice A3 l3 c3] wc.drew fun e w' => ∃ v, e = .returned v ∧ OwnB w' wc.drew.heap.size v (trim (pmul (mono k q) rb)) ∧ Below wc.drew.heap.size wc.drew w') := by
            have := product6_any (B := wc.heap.size) (mono k q) rb Am A3 cm c3 wc.drew (hmra.out.below (drewBelowB (Below.refl _ _))) ((hR3c.out).below (drewBelowB (Below.refl _ _))) (Nat.le_refl _) (by rw [hml.out]; omega) (by rw [← hL3.out]; omega) (htba.out _ (drewBelowB (Below.refl _ _)))
            rw [hml.out, ← hL3.out] at this
            exact this
          have hpla : Hid ((trim (pmul (mono k q) rb)).length ≤ 100000) := by
            show _ ≤ _
            rw [trim_len]
            refine Nat.le_trans (dg_le _) ?_
            rw [pmul_len, hml.out, ← hL3.out]
            omega
          have SUa : Hid (∀ V v gS, Below wc.heap.size wc V → RowAt V V.heap.size v (trim (pmul (mono k q) rb)) → Blk V gS [.slice A1 l1 c1, v] 22 → Calls Tryd.prog 65 #[.slice (some ⟨gS, 0, none⟩) 2 2] V fun e w' => ∃ v', e = .returned v' ∧ OwnB w' V.heap.size v' (stp ra rb k q) ∧ Below V.heap.size V w') := fun V v gS hV hv hb => by
            have hra := (hSc.out.r1.row hgWa.out).below hV |>.more hV.size
            have hM := mat_of (M := [ra, trim (pmul (mono k q) rb)]) hb rfl (B := V.heap.size) (Nat.le_refl _) (fun i x m hu hm => by
              cases i with
              | zero => simp only [List.getElem?_cons_zero, Option.some.injEq] at hu hm; subst hu; subst hm; exact hra
              | succ i =>
                cases i with
                | zero => simp only [List.getElem?_cons_succ, List.getElem?_cons_zero, Option.some.injEq] at hu hm; subst hu; subst hm; exact hv
                | succ i => simp at hu)
            have := sum6_any [ra, trim (pmul (mono k q) rb)] (some ⟨gS, 0, none⟩) 2 V hM (Nat.le_refl _) (by simp) (by
              intro m hm
              simp only [List.mem_cons, List.not_mem_nil, or_false] at hm
              rcases hm with rfl | rfl
              · rw [← hL1.out]; omega
              · exact hpla.out)
            rw [trim_two] at this
            exact this
          clear paa pba
          go_wp2_with fail
          refine wp_region_planM [9] [(true, 0), (true, 1), (true, 2), (true, 3), (true, 4), (false, 5), (false, 6), (false, 7), (true, 8), (false, 9)] (by decide) (by kernel_rfl) (by kernel_rfl) (by decide) (by intro c a d v w h; cases d <;> exact h) ?_
          change wpPlanM _ _ _ _ _ _ wc.drew
          iterate 5 (refine wpPlanM_plain rfl (fun K hK => ?_); go_simp; refine hK _ ?_; clear hK K)
          clear za zb
          refine wpPlanM_call rfl (fun K hK => ?_)
          go_wp2_with fail
          refine PRa.out.mono ?_
          rintro e x5 ⟨v5, rfl, ho5, hb5⟩
          have hB5 : Hid (Below wc.heap.size wc x5) := (drewBelowB (Below.refl wc.heap.size wc)).trans hb5
          have hr5 := Lib.hid (row_own ho5)
          obtain ⟨A5, c5, rfl, _, _, _, _⟩ := own_form ho5
          have hE5 : Ext wc.drew x5 := hb5
          obtain ⟨n5, hn5⟩ : ∃ n5, n5 = (trim (pmul (mono k q) rb)).length := ⟨_, rfl⟩
          rw [← hn5] at hr5 ⊢
          clear ho5 hb5 hn5 PRa
          go_wp2_with fail
          refine planPostL_normal ⟨.inr hE5, hK _ _ ?_⟩
          clear hK K hE5
          refine wpPlanM_call rfl (fun K hK => ?_)
          go_wp2_with fail
          have hE6 : Ext x5 (x5.alloc (.cells #[.slice A1 l1 c1, .slice A5 n5 c5] 22)) := (Below.refl _ _).alloc (Nat.le_refl _) _
          have hB6 : Hid (Below wc.heap.size wc (x5.alloc (.cells #[.slice A1 l1 c1, .slice A5 n5 c5] 22))) := hB5.out.trans (hE6.mono hB5.out.size)
          have hb6 : Hid (Blk (x5.alloc (.cells #[.slice A1 l1 c1, .slice A5 n5 c5] 22)) x5.heap.size [.slice A1 l1 c1, .slice A5 n5 c5] 22) := Blk.new x5 [_, _] _
          have hr6 : Hid (RowAt (x5.alloc (.cells #[.slice A1 l1 c1, .slice A5 n5 c5] 22)) (x5.alloc (.cells #[.slice A1 l1 c1, .slice A5 n5 c5] 22)).heap.size (.slice A5 n5 c5) (trim (pmul (mono k q) rb))) := (hr5.out.below hE6).more hE6.size
          refine planPostL_normal ⟨.inr hE6, hK _ _ ?_⟩
          clear hK K hE6 hB5 hr5
          obtain ⟨gS, hgS⟩ : ∃ g, g = x5.heap.size := ⟨_, rfl⟩
          rw [← hgS] at hb6 ⊢
          clear hgS
          generalize x5.alloc (.cells #[.slice A1 l1 c1, .slice A5 n5 c5] 22) = x6 at *
          refine wpPlanM_call rfl (fun K hK => ?_)
          go_wp2_with fail
          refine (SUa.out x6 _ gS hB6.out hr6.out hb6.out).mono ?_
          rintro e x7 ⟨v7, rfl, ho7, hb7⟩
          have hE7 : Ext x6 x7 := hb7
          have hB7 := Lib.hid (hB6.out.trans (hb7.mono hB6.out.size))
          have ho7' := Lib.hid (ownB_low (B := gb + 1) ho7 (Nat.le_trans hgBa.out hB6.out.size))
          obtain ⟨A7, c7, rfl, _, _, _, _⟩ := own_form ho7
          obtain ⟨n7, hn7⟩ : ∃ n7, n7 = (stp ra rb k q).length := ⟨_, rfl⟩
          have hn7' := Lib.hid hn7
          rw [← hn7] at ho7' ⊢
          clear ho7 hb7 hn7 SUa hB6 hr6 hb6
          go_wp2_with fail
          refine planPostL_normal ⟨.inr hE7, hK _ _ ?_⟩
          clear hK K hE7
          iterate 1 (refine wpPlanM_plain rfl (fun K hK => ?_); go_simp; refine hK _ ?_; clear hK K)
          have hA7 : Hid (Blk x7 ga [.slice A1 l1 c1, .slice A2 l2 c2] 131) := hSc.out.a.below hB7.out hSc.out.a.lt
          refine wpPlanM_call rfl (fun K hK => ?_)
          refine wpList_blk_store rfl 22 _ _ rfl 0 (.slice A7 n7 c7) rfl rfl hA7.out size_row (show 0 + 1 ≤ 2 by omega) (one_slice _ _ _) ?_
          intro x8 hw8 ho8
          refine wpList_end (planPostL_normal ⟨.inl (by decide), hK _ _ ?_⟩)
          clear hK K
          refine wpPlanM_nil ?_
          have hS8 : Hid (SrW w x8 ga gb (stp ra rb k q) ta rb tb (.slice A7 n7 c7) (.slice A2 l2 c2) (.slice A3 l3 c3) (.slice A4 l4 c4)) := by
            have hga := hgl.out
            have hg7 : ga ≤ x7.heap.size := Nat.le_trans hgWa.out hB7.out.size
            refine ⟨hw8.out, (hSc.out.b.below hB7.out hSc.out.b.lt).only ho8 (by omega), ?_, ?_, ?_, ?_, (hSc.out.low.trans (hB7.out.mono hSc.out.low.size)).trans (ho8.below (by omega))⟩
            · exact .inr (ownB_only ho7'.out ho8 (by omega))
            · exact (hSc.out.r2.keep hB7.out hgWa.out).only ho8 (Nat.le_refl _) (by omega)
            · exact (hSc.out.r3.keep hB7.out hgWa.out).only ho8 (Nat.le_refl _) (by omega)
            · exact (hSc.out.r4.keep hB7.out hgWa.out).only ho8 (Nat.le_refl _) (by omega)
          have hB8 : Hid (Below ga wc x8) := (hB7.out.mono hgWa.out).trans (ho8.below (Nat.le_refl _))
          have hmo8 : Hid (OwnB x8 (gb + 1) (.slice Am lm cm) (mono k q)) := ownB_only (ownB_kp (ownB_low hmo.out (by have := hS8.out.b.lt; have h2 := hgWr.out; omega)) hB7.out) ho8 (by have := hgl.out; omega)
          have hmrb : Hid (Rds x8 x8.heap.size Am ((mono k q).map bv)) := Rds.own (by have h := hmo8.out; unfold OwnB at h; rw [hml.out] at h; exact h)
          have hR4c : Hid (Rds x8 x8.heap.size A4 (tb.map bv)) := by
            obtain ⟨a', c', e, _, _, _, hr⟩ := hS8.out.r4.row (by have := hS8.out.a.lt; omega)
            injection e with e1 e2 e3
            rw [e1]; exact hr
          have hlx1 : Hid (n7 = (stp ra rb k q).length) := hn7'
          clear hw8 ho8 ho7' hA7 hB7 hSc hmr' hmo hmra hR3c hn7' hB8 htba hpla hgWa hgBa
          generalize A7 = AA at *
          generalize c7 = cc at *
          generalize n7 = nn at *
          generalize x8 = wd at *
          have hSd := hS8
          clear hS8
          have hgWb : Hid (ga ≤ wd.heap.size) := by have := hSd.out.a.lt; show _ ≤ _; omega
          have hgBb : Hid (gb + 1 ≤ wd.heap.size) := hSd.out.b.lt
          have pab := hSd.out.a.cell (j := 1) rfl
          have pbb := hSd.out.b.cell (j := 1) rfl
          have za : ∀ z : ExtOf wd.drew, z.world.cell? ⟨ga, 1, none⟩ = some (.slice A2 l2 c2) := fun z => (Below.cell (p := ⟨ga, 1, none⟩) (z.ext) hSd.out.a.lt).trans pab
          have zb : ∀ z : ExtOf wd.drew, z.world.cell? ⟨gb, 1, none⟩ = some (.slice A4 l4 c4) := fun z => (Below.cell (p := ⟨gb, 1, none⟩) (z.ext) hSd.out.b.lt).trans pbb
          have htbb : Hid (∀ V, Below wd.heap.size wd V → PTab 0 V) := fun V hV => ht'.out.below (hSd.out.low.trans (hV.mono hSd.out.low.size)) ht'.out.1
          have PRb : Hid (Calls Tryd.prog 66 #[.slice Am lm cm, .slice A4 l4 c4] wd.drew fun e w' => ∃ v, e = .returned v ∧ OwnB w' wd.drew.heap.size v (trim (pmul (mono k q) tb)) ∧ Below wd.drew.heap.size wd.drew w') := by
            have := product6_any (B := wd.heap.size) (mono k q) tb Am A4 cm c4 wd.drew (hmrb.out.below (drewBelowB (Below.refl _ _))) ((hR4c.out).below (drewBelowB (Below.refl _ _))) (Nat.le_refl _) (by rw [hml.out]; omega) (by rw [← hL4.out]; omega) (htbb.out _ (drewBelowB (Below.refl _ _)))
            rw [hml.out, ← hL4.out] at this
            exact this
          have hplb : Hid ((trim (pmul (mono k q) tb)).length ≤ 100000) := by
            show _ ≤ _
            rw [trim_len]
            refine Nat.le_trans (dg_le _) ?_
            rw [pmul_len, hml.out, ← hL4.out]
            omega
          have SUb : Hid (∀ V v gS, Below wd.heap.size wd V → RowAt V V.heap.size v (trim (pmul (mono k q) tb)) → Blk V gS [.slice A2 l2 c2, v] 22 → Calls Tryd.prog 65 #[.slice (some ⟨gS, 0, none⟩) 2 2] V fun e w' => ∃ v', e = .returned v' ∧ OwnB w' V.heap.size v' (stp ta tb k q) ∧ Below V.heap.size V w') := fun V v gS hV hv hb => by
            have hra := (hSd.out.r2.row hgWb.out).below hV |>.more hV.size
            have hM := mat_of (M := [ta, trim (pmul (mono k q) tb)]) hb rfl (B := V.heap.size) (Nat.le_refl _) (fun i x m hu hm => by
              cases i with
              | zero => simp only [List.getElem?_cons_zero, Option.some.injEq] at hu hm; subst hu; subst hm; exact hra
              | succ i =>
                cases i with
                | zero => simp only [List.getElem?_cons_succ, List.getElem?_cons_zero, Option.some.injEq] at hu hm; subst hu; subst hm; exact hv
                | succ i => simp at hu)
            have := sum6_any [ta, trim (pmul (mono k q) tb)] (some ⟨gS, 0, none⟩) 2 V hM (Nat.le_refl _) (by simp) (by
              intro m hm
              simp only [List.mem_cons, List.not_mem_nil, or_false] at hm
              rcases hm with rfl | rfl
              · rw [← hL2.out]; omega
              · exact hplb.out)
            rw [trim_two] at this
            exact this
          clear pab pbb
          go_wp2_with fail
          refine wp_region_planM [9] [(true, 0), (true, 1), (true, 2), (true, 3), (true, 4), (false, 5), (false, 6), (false, 7), (true, 8), (false, 9)] (by decide) (by kernel_rfl) (by kernel_rfl) (by decide) (by intro c a d v w h; cases d <;> exact h) ?_
          change wpPlanM _ _ _ _ _ _ wd.drew
          iterate 5 (refine wpPlanM_plain rfl (fun K hK => ?_); go_simp; refine hK _ ?_; clear hK K)
          clear za zb
          refine wpPlanM_call rfl (fun K hK => ?_)
          go_wp2_with fail
          refine PRb.out.mono ?_
          rintro e x5 ⟨v5, rfl, ho5, hb5⟩
          have hB5 : Hid (Below wd.heap.size wd x5) := (drewBelowB (Below.refl wd.heap.size wd)).trans hb5
          have hr5 := Lib.hid (row_own ho5)
          obtain ⟨A5, c5, rfl, _, _, _, _⟩ := own_form ho5
          have hE5 : Ext wd.drew x5 := hb5
          obtain ⟨n5, hn5⟩ : ∃ n5, n5 = (trim (pmul (mono k q) tb)).length := ⟨_, rfl⟩
          rw [← hn5] at hr5 ⊢
          clear ho5 hb5 hn5 PRb
          go_wp2_with fail
          refine planPostL_normal ⟨.inr hE5, hK _ _ ?_⟩
          clear hK K hE5
          refine wpPlanM_call rfl (fun K hK => ?_)
          go_wp2_with fail
          have hE6 : Ext x5 (x5.alloc (.cells #[.slice A2 l2 c2, .slice A5 n5 c5] 22)) := (Below.refl _ _).alloc (Nat.le_refl _) _
          have hB6 : Hid (Below wd.heap.size wd (x5.alloc (.cells #[.slice A2 l2 c2, .slice A5 n5 c5] 22))) := hB5.out.trans (hE6.mono hB5.out.size)
          have hb6 : Hid (Blk (x5.alloc (.cells #[.slice A2 l2 c2, .slice A5 n5 c5] 22)) x5.heap.size [.slice A2 l2 c2, .slice A5 n5 c5] 22) := Blk.new x5 [_, _] _
          have hr6 : Hid (RowAt (x5.alloc (.cells #[.slice A2 l2 c2, .slice A5 n5 c5] 22)) (x5.alloc (.cells #[.slice A2 l2 c2, .slice A5 n5 c5] 22)).heap.size (.slice A5 n5 c5) (trim (pmul (mono k q) tb))) := (hr5.out.below hE6).more hE6.size
          refine planPostL_normal ⟨.inr hE6, hK _ _ ?_⟩
          clear hK K hE6 hB5 hr5
          obtain ⟨gS, hgS⟩ : ∃ g, g = x5.heap.size := ⟨_, rfl⟩
          rw [← hgS] at hb6 ⊢
          clear hgS
          generalize x5.alloc (.cells #[.slice A2 l2 c2, .slice A5 n5 c5] 22) = x6 at *
          refine wpPlanM_call rfl (fun K hK => ?_)
          go_wp2_with fail
          refine (SUb.out x6 _ gS hB6.out hr6.out hb6.out).mono ?_
          rintro e x7 ⟨v7, rfl, ho7, hb7⟩
          have hE7 : Ext x6 x7 := hb7
          have hB7 := Lib.hid (hB6.out.trans (hb7.mono hB6.out.size))
          have ho7' := Lib.hid (ownB_low (B := gb + 1) ho7 (Nat.le_trans hgBb.out hB6.out.size))
          obtain ⟨A7, c7, rfl, _, _, _, _⟩ := own_form ho7
          obtain ⟨n7, hn7⟩ : ∃ n7, n7 = (stp ta tb k q).length := ⟨_, rfl⟩
          have hn7' := Lib.hid hn7
          rw [← hn7] at ho7' ⊢
          clear ho7 hb7 hn7 SUb hB6 hr6 hb6
          go_wp2_with fail
          refine planPostL_normal ⟨.inr hE7, hK _ _ ?_⟩
          clear hK K hE7
          iterate 1 (refine wpPlanM_plain rfl (fun K hK => ?_); go_simp; refine hK _ ?_; clear hK K)
          have hA7 : Hid (Blk x7 ga [.slice AA nn cc, .slice A2 l2 c2] 131) := hSd.out.a.below hB7.out hSd.out.a.lt
          refine wpPlanM_call rfl (fun K hK => ?_)
          refine wpList_blk_store rfl 22 _ _ rfl 1 (.slice A7 n7 c7) rfl rfl hA7.out size_row (show 1 + 1 ≤ 2 by omega) (one_slice _ _ _) ?_
          intro x8 hw8 ho8
          refine wpList_end (planPostL_normal ⟨.inl (by decide), hK _ _ ?_⟩)
          clear hK K
          refine wpPlanM_nil ?_
          have hS8 : Hid (SrW w x8 ga gb (stp ra rb k q) (stp ta tb k q) rb tb (.slice AA nn cc) (.slice A7 n7 c7) (.slice A3 l3 c3) (.slice A4 l4 c4)) := by
            have hga := hgl.out
            have hg7 : ga ≤ x7.heap.size := Nat.le_trans hgWb.out hB7.out.size
            refine ⟨hw8.out, (hSd.out.b.below hB7.out hSd.out.b.lt).only ho8 (by omega), ?_, ?_, ?_, ?_, (hSd.out.low.trans (hB7.out.mono hSd.out.low.size)).trans (ho8.below (by omega))⟩
            · exact (hSd.out.r1.keep hB7.out hgWb.out).only ho8 (Nat.le_refl _) (by omega)
            · exact .inr (ownB_only ho7'.out ho8 (by omega))
            · exact (hSd.out.r3.keep hB7.out hgWb.out).only ho8 (Nat.le_refl _) (by omega)
            · exact (hSd.out.r4.keep hB7.out hgWb.out).only ho8 (Nat.le_refl _) (by omega)
          clear hw8 ho8 ho7' hA7 hB7 hSd
          have e1 : decide (l3 ≤ most) = false := by simp only [decide_eq_false_iff_not]; omega
          have e2 : decide ((l3 : Int) ≤ (most : Int)) = false := by simp only [decide_eq_false_iff_not]; omega
          have e3 : decide ((k : Int) < 0) = false := by simp only [decide_eq_false_iff_not]; omega
          simp (config := { decide := true }) only [Act.put, List.getElem_toArray, List.getElem_cons_succ, List.getElem_cons_zero]
          go_roundw
          case rel =>
            repeat apply Exists.intro
            exact ⟨⟨stp ra rb k q, stp ta tb k q, rb, tb, _, _, _, _, hstep.out.1, hS8⟩, rfl⟩
          case measure =>
            rw [meas_of hS8.out, hme.out]
            have h1 := hstep.out.2
            rw [← hL1.out, ← hlx1.out] at h1
            by_cases h2 : nn < l3
            · rw [if_pos h2]; split <;> omega
            · rw [if_neg h2]; split <;> omega
end Go.Proofs.YtbilfhipmebmlaaDoor
