/-
  Contracts of stage 6: interpolated, Interpolate, Through. Contracts of stage 6: Interpolate, Through. One list of bytes is appended to an own one (a copy of the law in the texts of stage 5, for seats that lack those). Contracts of stage 6: candidate.
-/
import Derived.Test.YtbilfhipmebmlaaDoorQde
import Derived.Test.YtbilfhipmebmlaaDoorPmp
namespace Go.Proofs.YtbilfhipmebmlaaDoor
set_option linter.unusedVariables false
set_option linter.unusedSimpArgs false
open Go.RowKit

theorem row_own {w : World} {base : Nat} {v : Value} {l : List UInt8} (h : OwnB w base v l) : RowAt w w.heap.size v l := by
  obtain ⟨A, c, rfl, h1, h2, h3, h4⟩ := own_form h
  exact ⟨A, c, rfl, h1, h2, h3, h4⟩
theorem oth_len (xs : List UInt8) (n i : Nat) : (oth xs n i).length ≤ 2 * n + 1 := Nat.le_trans (dq_len _ _) (van_len xs n)
theorem trmP_len (xs ys : List UInt8) (n i : Nat) : (trmP xs ys n i).length ≤ 2 * n + 2 := by
  unfold trmP
  rw [trim_len]
  refine Nat.le_trans (dg_le _) ?_
  rw [pmul_len]
  have := oth_len xs n i
  simp only [List.length_cons, List.length_nil]
  omega
theorem lineP_len (xs ys : List UInt8) {n : Nat} (hd : Dist xs n) : (lineP xs ys n).length ≤ n := by
  have := (lineP_spec (ys := ys) hd).1
  have h2 := dg_trim (sumL ((List.range n).map (trmP xs ys n)))
  unfold lineP at this ⊢
  rw [trim_len]
  omega

set_option maxRecDepth 100000 in
set_option maxHeartbeats 8000000 in
theorem interpolated_any {B : Nat} (xs ys : List UInt8) (A A' : Option Addr) (c c' n ny : Nat) (w : World) (h : Rds w B A (xs.map bv)) (h' : Rds w B A' (ys.map bv)) (hB : B ≤ w.heap.size) (hn : n = xs.length) (hny : ny = ys.length) (hxy : n ≤ ny) (hl : n ≤ 1000) (hd : Dist xs n) (ht : PTab 0 w) :
    Calls Tryd.prog 70 #[.slice A n c, .slice A' ny c'] w fun e w' => ∃ v, e = .returned v ∧ OwnB w' w.heap.size v (lineP xs ys n) ∧ Below w.heap.size w w' := by
  have hX := Lib.hid h
  have hY := Lib.hid h'
  have hBs := Lib.hid hB
  have hn' := Lib.hid hn
  have hny' := Lib.hid hny
  have hd' := Lib.hid hd
  have ht' := Lib.hid ht
  obtain ⟨W1, hW1⟩ : ∃ W1, W1 = w.alloc (.cells #[.slice A n c] 22) := ⟨_, rfl⟩
  have hB1 : Hid (Below w.heap.size w W1) := by show Below _ _ _; rw [hW1]; exact (Below.refl _ _).alloc (Nat.le_refl _) _
  have hb1 : Hid (Blk W1 w.heap.size [.slice A n c] 22) := by show Blk _ _ _ _; rw [hW1]; exact Blk.new _ [_] _
  have hc1 := hb1.out.cell (j := 0) (v := .slice A n c) rfl
  have hW1' := Lib.hid hW1
  have VN := Lib.hid (vanishing_any xs A c n W1 (h.below (hB1.out.mono hB)) (Nat.le_trans hB hB1.out.size) hn hl (ht.below hB1.out ht.1))
  have MK := Lib.hid (fun W => run_make_row' (P := Tryd.prog) 65 22 (.slice none 0 0) 24 Tryd.underlying65 infoRow rfl .i64 .i64 n (by omega) (by omega) W)
  clear h h' hB hn hny hd ht hW1
  go_enter Tryd.func70, Tryd.ntmps70
  go_wp2_with fail
  generalize hg : w.alloc _ = Wg
  have hgW : W1 = Wg := by rw [← hg, hW1'.out]
  clear hg hW1'
  subst hgW
  refine VN.out.mono ?_
  rintro e w2 ⟨v2, rfl, ho2, hb2⟩
  have hB2 := Lib.hid (hB1.out.trans (hb2.mono hB1.out.size))
  have hb2x : Hid (Blk w2 w.heap.size [.slice A n c] 22) := hb1.out.below hb2 hb1.out.lt
  obtain ⟨Av, cv, rfl, hcv, hcm, hAn, hrv⟩ := own_form ho2
  have hrv' := Lib.hid hrv
  have hAn' := Lib.hid hAn
  have hvl := van_len xs n
  obtain ⟨nv, hnv⟩ : ∃ nv, nv = (van xs n).length := ⟨_, rfl⟩
  rw [← hnv] at hcv hvl ⊢
  have hnv' := Lib.hid hnv
  clear ho2 hb2 hrv hAn hnv VN hc1
  have hcmh := Lib.hid hcm
  clear hcm
  obtain ⟨W3, hW3⟩ : ∃ W3, W3 = w2.alloc (.cells #[.slice Av nv cv] 22) := ⟨_, rfl⟩
  have hb3 : Hid (Blk W3 w2.heap.size [.slice Av nv cv] 22) := by show Blk _ _ _ _; rw [hW3]; exact Blk.new _ [_] _
  have hb3x : Hid (Blk W3 w.heap.size [.slice A n c] 22) := by show Blk _ _ _ _; rw [hW3]; exact hb2x.out.alloc _
  have hB3 : Hid (Below w2.heap.size w2 W3) := by show Below _ _ _; rw [hW3]; exact (Below.refl _ _).alloc (Nat.le_refl _) _
  have hs3 : Hid (W3.heap.size = w2.heap.size + 1) := by show _ = _; rw [hW3]; simp
  obtain ⟨W4, hW4⟩ : ∃ W4, W4 = W3.alloc (.cells (madeCells #[.slice none 0 0] n) 22) := ⟨_, rfl⟩
  have hb4 : Hid (Blk W4 W3.heap.size (List.replicate n (.slice none 0 0)) 22) := by show Blk _ _ _ _; rw [hW4, made_nils]; exact Blk.new _ _ _
  have hB4 : Hid (Below W3.heap.size W3 W4) := by show Below _ _ _; rw [hW4]; exact (Below.refl _ _).alloc (Nat.le_refl _) _
  have hc3 := hb3x.out.cell (j := 0) (v := .slice A n c) rfl
  have hmk := MK.out W3
  rw [← hW4] at hmk
  have hs4 : Hid (W4.heap.size = W3.heap.size + 1) := by show _ = _; rw [hW4]; simp
  obtain ⟨gT, hgT⟩ : ∃ g, g = W3.heap.size := ⟨_, rfl⟩
  rw [← hgT] at hmk hb4 hs4
  have hgT' := Lib.hid hgT
  rw [hW3] at hc3 hmk
  have hW3' := Lib.hid hW3
  clear hW3 hW4 MK hgT
  go_wp2_with fail
  clear hc3 hmk
  have hBT : Hid (Below gT W4 W4) := Below.refl _ _
  have hlow : Hid (w.heap.size < gT ∧ w2.heap.size < gT ∧ w.heap.size ≤ w2.heap.size) := by
    have h1 := hs3.out; have h2 := hgT'.out; have h3 := hB2.out.size
    show _ ∧ _ ∧ _
    omega
  have hb4w : Hid (Blk W4 w2.heap.size [.slice Av nv cv] 22) := hb3.out.below hB4.out hb3.out.lt
  have hb4x : Hid (Blk W4 w.heap.size [.slice A n c] 22) := hb3x.out.below hB4.out hb3x.out.lt
  have hBw4 : Hid (Below w.heap.size w W4) := (hB2.out.trans (hB3.out.mono hlow.out.2.2)).trans (hB4.out.mono (by rw [← hgT'.out]; exact Nat.le_of_lt hlow.out.1))
  have hrv4 : Hid (Rds W4 w2.heap.size Av ((van xs n).map bv)) := hrv'.out.below (hB3.out.trans (hB4.out.mono (by rw [← hgT'.out]; exact Nat.le_of_lt hlow.out.2.1)))
  clear hb3 hb3x hB3 hB4 hB2 hs3 hgT' hW3' hrv' hb2x
  go_loopw [18] (fun v wr => ∃ (k : Nat) (vals : List Value), k ≤ n ∧ v = .int .i64 k ∧ Hid (vals.length = n ∧ ∀ j, j < k → ∃ u, vals[j]? = some u ∧ OwnB wr (gT + 1) u (trmP xs ys n j)) ∧ Hid (Blk wr gT vals 22) ∧ Hid (Below gT W4 wr)) (fun v _ => n - (intOf v).toNat)
  case atStart => exact ⟨0, _, by omega, rfl, ⟨List.length_replicate, fun j h => by omega⟩, hb4, hBT⟩
  case round =>
    clear hBT hb4
    obtain ⟨k, vals, hk, rfl, hV, hT, hBr⟩ := hrel
    have hBw := Lib.hid (hBw4.out.trans (hBr.out.mono (Nat.le_of_lt hlow.out.1)))
    have hgr : Hid (gT + 1 ≤ wr.heap.size) := hT.out.lt
    by_cases hlt : k < n
    · have t : (k : Int) < (n : Int) := by omega
      have t0 : 0 ≤ (k : Int) := by omega
      have hbX : Hid (Blk wr w.heap.size [.slice A n c] 22) := hb4x.out.below hBr.out hlow.out.1
      have hbW : Hid (Blk wr w2.heap.size [.slice Av nv cv] 22) := hb4w.out.below hBr.out hlow.out.2.1
      have OT := Lib.hid (others_any xs (van xs n) k n c nv cv A Av wr hbX.out hbW.out (hX.out.below (hBw.out.mono hBs.out)) (Nat.le_trans hBs.out hBw.out.size) hn'.out hnv'.out ((hrv4.out.below (hBr.out.mono (Nat.le_of_lt hlow.out.2.1))).more (by have := hgr.out; have := hlow.out.2.1; omega)) hcv hcmh.out hAn'.out (by omega) hlt (ht'.out.below hBw.out ht'.out.1))
      go_wp2_with fail
      refine OT.out.mono ?_
      rintro e w4 ⟨v4, rfl, ho4, hb4⟩
      have hT4 : Hid (Blk w4 gT vals 22) := hT.out.below hb4 hT.out.lt
      have hB4 : Hid (Below gT W4 w4) := hBr.out.trans (hb4.mono (by have := hgr.out; omega))
      have hBw4' : Hid (Below w.heap.size w w4) := hBw.out.trans (hb4.mono hBw.out.size)
      have hV4 : Hid (∀ j, j < k → ∃ u, vals[j]? = some u ∧ OwnB w4 (gT + 1) u (trmP xs ys n j)) := fun j hj => by
        obtain ⟨u, h1, h2⟩ := hV.out.2 j hj
        exact ⟨u, h1, ownB_kp h2 hb4⟩
      have hg4 : Hid (gT + 1 ≤ w4.heap.size) := hT4.out.lt
      have hvl4 := Lib.hid hV.out.1
      clear OT hV hT hbW hBr hb4
      obtain ⟨Ao, co_, rfl, hoc, hom, hAo, hro⟩ := own_form ho4
      have hro' := Lib.hid hro
      have hol : (dq (van xs n) [co xs k, 1]).length ≤ 2 * n + 1 := oth_len xs n k
      have hoth : Hid (dq (van xs n) [co xs k, 1] = oth xs n k) := rfl
      rw [hoth.out] at hol hoc hro'
      rw [hoth.out]
      clear ho4 hom hAo hro hoth
      obtain ⟨no, hno⟩ : ∃ no, no = (oth xs n k).length := ⟨_, rfl⟩
      rw [← hno] at hol hoc ⊢
      have hno' := Lib.hid hno
      clear hno
      have hx := at_co (p := xs) (k := k) (by rw [← hn'.out]; exact hlt)
      have hy := at_co (p := ys) (k := k) (by rw [← hny'.out]; omega)
      obtain ⟨ad, rfl, hab, hca⟩ := (hX.out.below (hBw4'.out.mono hBs.out)).look (k := k) (u := bv (co xs k)) (by rw [List.getElem?_map, hx]; rfl)
      obtain ⟨bd, rfl, hbb, hcb⟩ := (hY.out.below (hBw4'.out.mono hBs.out)).look (k := k) (u := bv (co ys k)) (by rw [List.getElem?_map, hy]; rfl)
      have ty : (k : Int) < (ny : Int) := by omega
      have hsp := Lib.hid (oth_spec hd'.out hlt)
      have htr : Hid (trmP xs ys n k = trim (pmul [Gf.mul (co ys k) (Gf.inv (ev (oth xs n k) (co xs k)))] (oth xs n k))) := rfl
      have hbX4 : Hid (Blk w4 w.heap.size [.slice (some ad) n c] 22) := hb4x.out.below hB4.out hlow.out.1
      have hcX := hbX4.out.cell (j := 0) (v := .slice (some ad) n c) rfl
      have hlt4 : ∀ g, g < B → g < w4.heap.size := fun g hg => by have := hg4.out; have := hlow.out; have := hBs.out; omega
      have zi : ∀ z : ExtOf w4.drew, z.world.cell? (ad.add k) = some (bv (co xs k)) := fun z => (Below.cell (p := ad.add k) (z.ext) (by rw [add_block]; exact hlt4 _ hab)).trans hca
      have zy : ∀ z : ExtOf w4.drew, z.world.cell? (bd.add k) = some (bv (co ys k)) := fun z => (Below.cell (p := bd.add k) (z.ext) (by rw [add_block]; exact hlt4 _ hbb)).trans hcb
      have zX : ∀ z : ExtOf w4.drew, z.world.cell? ⟨w.heap.size, 0, none⟩ = some (.slice (some ad) n c) := fun z => (Below.cell (p := ⟨w.heap.size, 0, none⟩) (z.ext) hbX4.out.lt).trans hcX
      have htab4 : Hid (∀ W, Below w.heap.size w W → PTab 0 W) := fun W hW => ht'.out.below hW ht'.out.1
      have EV := Lib.hid (eval_any (oth xs n k) (co xs k) Ao no co_ w4.drew hno'.out.symm (by omega) hro'.out (htab4.out _ (drewBelowB hBw4'.out)))
      have hne := Lib.hid hsp.out.2.2
      obtain ⟨O, hO⟩ : ∃ O, O = oth xs n k := ⟨_, rfl⟩
      rw [← hO] at EV hne htr hno' hro'
      have hev0 : Hid (ev O (co xs k) = ev O (co xs k)) := rfl
      obtain ⟨ex, hex⟩ : ∃ ex, ex = ev O (co xs k) := ⟨_, rfl⟩
      rw [← hex] at EV hne htr
      obtain ⟨q, hq⟩ : ∃ q, q = Gf.mul (co ys k) (Gf.inv ex) := ⟨_, rfl⟩
      rw [← hq] at htr
      have QU : Hid (∀ W, Below w.heap.size w W → Calls Tryd.prog 102 #[bv (co ys k), bv ex] W fun e w' => e = .returned (bv q) ∧ ∃ n, w' = W.drewN n) := fun W hW => by
        rw [hq]
        exact quotient_any (co ys k) ex W hne.out (htab4.out W hW)
      have PR : Hid (∀ W gL, Below w.heap.size w W → Rds W W.heap.size Ao (O.map bv) → Blk W gL [bv q] 5 → Calls Tryd.prog 66 #[.slice (some ⟨gL, 0, none⟩) 1 1, .slice Ao no co_] W fun e w' => ∃ v, e = .returned v ∧ OwnB w' W.heap.size v (trmP xs ys n k) ∧ Below W.heap.size W w') := fun W gL hW hr hb => by
        rw [htr.out, hno'.out]
        exact product6_any (B := W.heap.size) [q] O (some ⟨gL, 0, none⟩) Ao 1 co_ W (hb.rds 0 1) hr (Nat.le_refl _) (by simp) (by rw [← hno'.out]; omega) (htab4.out W hW)
      have hBE : Hid (Below w.heap.size w w4.drew) := drewBelowB hBw4'.out
      clear hab hbb hca hcb hcX hx hy hlt4 hO hex hq hsp hev0 hd'
      unfold bv at zi zy EV QU
      generalize co xs k = x at *
      generalize co ys k = y at *
      go_wp2_with fail
      refine wp_region_planM [17] [(true, 0), (true, 1), (true, 2), (true, 3), (true, 4), (true, 5), (true, 6), (true, 7), (true, 8), (true, 9), (true, 10), (true, 14), (false, 11), (false, 12), (false, 13), (false, 15), (true, 16), (false, 17)] (by decide) (by kernel_rfl) (by kernel_rfl) (by decide) (by intro c a d v w h; cases d <;> exact h) ?_
      change wpPlanM _ _ _ _ _ _ w4.drew
      iterate 12 (refine wpPlanM_plain rfl (fun K hK => ?_); go_simp; refine hK _ ?_; clear hK K)
      clear zi zy zX
      refine wpPlanM_call rfl (fun K hK => ?_)
      go_wp2_with fail
      refine EV.out.mono ?_
      rintro e w5 ⟨rfl, hb5⟩
      have hB5 := Lib.hid (hBE.out.trans (hb5.mono hBE.out.size))
      have hE5 : Ext w4.drew w5 := hb5
      have hB45 : Hid (Below w4.heap.size w4 w5) := (drewBelowB (Below.refl w4.heap.size w4)).trans hb5
      go_wp2_with fail
      refine planPostL_normal ⟨.inr hE5, hK _ _ ?_⟩
      clear hK K EV hE5 hb5
      refine wpPlanM_call rfl (fun K hK => ?_)
      go_wp2_with fail
      refine (QU.out _ hB5.out).mono ?_
      rintro e w6 ⟨rfl, m6, rfl⟩
      go_wp2_with fail
      refine planPostL_normal ⟨.inr (below_dN (Below.refl _ _) m6), hK _ _ ?_⟩
      clear hK K QU
      have hB6 : Hid (Below w.heap.size w (w5.drewN m6)) := below_dN hB5.out m6
      have hB46 : Hid (Below w4.heap.size w4 (w5.drewN m6)) := below_dN hB45.out m6
      clear hB5 hB45
      generalize w5.drewN m6 = w6 at *
      refine wpPlanM_call rfl (fun K hK => ?_)
      go_wp2_with fail
      have hx7 : Ext w6 (w6.alloc (.cells #[.int .u8 (q.toNat : Int)] 5)) := (Below.refl _ _).alloc (Nat.le_refl _) _
      refine planPostL_normal ⟨.inr hx7, hK _ _ ?_⟩
      clear hK K
      have hB7 : Hid (Below w.heap.size w (w6.alloc (.cells #[.int .u8 (q.toNat : Int)] 5))) := hB6.out.trans (hx7.mono hB6.out.size)
      have hB47 : Hid (Below w4.heap.size w4 (w6.alloc (.cells #[.int .u8 (q.toNat : Int)] 5))) := hB46.out.trans (hx7.mono hB46.out.size)
      have hbL : Hid (Blk (w6.alloc (.cells #[.int .u8 (q.toNat : Int)] 5)) w6.heap.size [bv q] 5) := Blk.new w6 [bv q] _
      obtain ⟨gL, hgL⟩ : ∃ g, g = w6.heap.size := ⟨_, rfl⟩
      rw [← hgL] at hbL ⊢
      clear hgL hx7 hB6 hB46
      generalize w6.alloc (.cells #[.int .u8 (q.toNat : Int)] 5) = w7 at *
      refine wpPlanM_call rfl (fun K hK => ?_)
      go_wp2_with fail
      refine (PR.out w7 gL hB7.out ((hro'.out.below hB47.out).more hB47.out.size) hbL.out).mono ?_
      rintro e w8 ⟨v8, rfl, ho8, hb8⟩
      have hE8 : Ext w7 w8 := hb8
      have hB8 := Lib.hid (hB47.out.trans (hb8.mono hB47.out.size))
      obtain ⟨A8, c8, rfl, _, _, _, _⟩ := own_form ho8
      have ho8' := Lib.hid (ownB_low (B := gT + 1) ho8 (Nat.le_trans hg4.out hB47.out.size))
      obtain ⟨n8, hn8⟩ : ∃ n8, n8 = (trmP xs ys n k).length := ⟨_, rfl⟩
      rw [← hn8] at ho8' ⊢
      clear ho8 hb8 hn8
      go_wp2_with fail
      refine planPostL_normal ⟨.inr hE8, hK _ _ ?_⟩
      clear hK K hE8 PR hbL hB47 hB7
      iterate 1 (refine wpPlanM_plain rfl (fun K hK => ?_); go_simp; refine hK _ ?_; clear hK K)
      have hT8 : Hid (Blk w8 gT vals 22) := hT4.out.below hB8.out hT4.out.lt
      have hV8 : Hid (∀ j, j < k → ∃ u, vals[j]? = some u ∧ OwnB w8 (gT + 1) u (trmP xs ys n j)) := fun j hj => by
        obtain ⟨u, h1, h2⟩ := hV4.out j hj
        exact ⟨u, h1, ownB_kp h2 hB8.out⟩
      have hfit : Hid (k + 1 ≤ vals.length) := by show _ ≤ _; rw [hvl4.out]; omega
      refine wpPlanM_call rfl (fun K hK => ?_)
      refine wpList_blk_store rfl 22 _ _ rfl k (.slice A8 n8 c8) rfl rfl hT8.out size_row hfit.out (one_slice _ _ _) ?_
      intro w9 hw9 ho9
      refine wpList_end (planPostL_normal ⟨.inl (by decide), hK _ _ ?_⟩)
      clear hK K
      refine wpPlanM_nil ?_
      have hT9 : Hid (Blk w9 gT (vals.set k (.slice A8 n8 c8)) 22) := by
        have hh := hw9.out
        rw [show (Value.slice A8 n8 c8).cells.toList = [.slice A8 n8 c8] from rfl, splice_set _ _ _ hfit.out] at hh
        exact hh
      have hV9 : Hid ((vals.set k (.slice A8 n8 c8)).length = n ∧ ∀ j, j < k + 1 → ∃ u, (vals.set k (.slice A8 n8 c8))[j]? = some u ∧ OwnB w9 (gT + 1) u (trmP xs ys n j)) := by
        refine ⟨by rw [List.length_set]; exact hvl4.out, fun j hj => ?_⟩
        by_cases e : j = k
        · subst e
          exact ⟨_, List.getElem?_set_self (by rw [hvl4.out]; exact hlt), ownB_only ho8'.out ho9 (by omega)⟩
        · obtain ⟨u, h1, h2⟩ := hV8.out j (by omega)
          exact ⟨u, by rw [List.getElem?_set_ne (fun h => e h.symm)]; exact h1, ownB_only h2 ho9 (by omega)⟩
      have hB9 : Hid (Below gT W4 w9) := (hB4.out.trans (hB8.out.mono (by have := hg4.out; omega))).trans (ho9.below (Nat.le_refl _))
      clear hw9 ho9
      go_wp2_with fail
      go_roundw
      case rel => exact ⟨k + 1, _, by omega, by go_num, hV9, hT9, hB9⟩
      case measure => simp [intOf]; omega
    · have t : ¬ (k : Int) < (n : Int) := by omega
      have hM : Hid (Mat wr wr.heap.size (some ⟨gT, 0, none⟩) ((List.range n).map (trmP xs ys n))) := by
        refine mat_of hT.out (by rw [hV.out.1]; simp) (Nat.le_refl _) fun i v m hi hm => ?_
        have hin : i < n := by
          have := (List.getElem?_eq_some_iff.1 hi).1
          rw [hV.out.1] at this; exact this
        obtain ⟨u, h1, h2⟩ := hV.out.2 i (by omega)
        rw [List.getElem?_map, List.getElem?_range hin] at hm
        rw [h1] at hi
        cases hi
        cases hm
        exact row_own h2
      have hS := sum6_any ((List.range n).map (trmP xs ys n)) (some ⟨gT, 0, none⟩) n wr hM.out (Nat.le_refl _) (by simp; omega) (fun m hm => by
        obtain ⟨i, hi, rfl⟩ := List.mem_map.1 hm
        have := trmP_len xs ys n i
        omega)
      rw [List.length_map, List.length_range] at hS
      have hS' : Hid (Calls Tryd.prog 65 #[.slice (some ⟨gT, 0, none⟩) n n] wr fun e w' => ∃ v, e = .returned v ∧ OwnB w' wr.heap.size v (lineP xs ys n) ∧ Below wr.heap.size wr w') := hS
      clear hS hM hV hT
      go_wp2_with fail
      refine hS'.out.mono ?_
      rintro e w8 ⟨v8, rfl, ho8, hb8⟩
      have hfin := Lib.hid (And.intro (ownB_low ho8 hBw.out.size) (hBw.out.trans (hb8.mono hBw.out.size)))
      clear ho8 hb8 hS'
      go_wp2_with fail
      go_ret
      exact ⟨_, by first | rfl | (go_simp; done) | (go_simp; rfl), hfin.out.1, hfin.out.2⟩
end Go.Proofs.YtbilfhipmebmlaaDoor

namespace Go.Proofs.YtbilfhipmebmlaaDoor
set_option linter.unusedVariables false
set_option linter.unusedSimpArgs false
open Go.RowKit

theorem right_yes {B : Nat} (xs : List UInt8) (A A' : Option Addr) (c c' n ny : Nat) (w : World) (h : Rds w B A (xs.map bv)) (hB : B ≤ w.heap.size) (hn : n = xs.length) (hl : n ≤ 100000) (hl' : ny ≤ 100000) (hd : Dist xs n) (he : n = ny) :
    Calls Tryd.prog 69 #[.slice A n c, .slice A' ny c'] w fun e w' => e = .returned (.bool true) ∧ Below w.heap.size w w' := by
  subst hn
  refine (right_any xs A A' c ny c' w h hB hl hl').mono ?_
  rintro e w' ⟨b, rfl, hb, hw⟩
  rw [hb.2 ⟨hd, he⟩]
  exact ⟨rfl, hw⟩
theorem right_no {B : Nat} (xs : List UInt8) (A A' : Option Addr) (c c' n ny : Nat) (w : World) (h : Rds w B A (xs.map bv)) (hB : B ≤ w.heap.size) (hn : n = xs.length) (hl : n ≤ 100000) (hl' : ny ≤ 100000) (hd : ¬ (Dist xs n ∧ n = ny)) :
    Calls Tryd.prog 69 #[.slice A n c, .slice A' ny c'] w fun e w' => e = .returned (.bool false) ∧ Below w.heap.size w w' := by
  subst hn
  refine (right_any xs A A' c ny c' w h hB hl hl').mono ?_
  rintro e w' ⟨b, rfl, hb, hw⟩
  cases b with
  | true => exact absurd (hb.1 rfl) hd
  | false => exact ⟨rfl, hw⟩

set_option maxRecDepth 100000 in
set_option maxHeartbeats 1000000 in
theorem interpolate_no {B : Nat} (xs : List UInt8) (A A' : Option Addr) (c c' n ny : Nat) (w : World) (h : Rds w B A (xs.map bv)) (hB : B ≤ w.heap.size) (hn : n = xs.length) (hl : n ≤ 100000) (hl' : ny ≤ 100000) (hd : ¬ (Dist xs n ∧ n = ny)) :
    Calls Tryd.prog 29 #[.slice A n c, .slice A' ny c'] w fun e w' => e = .returned (.tuple #[.slice none 0 0, .int .i64 1]) ∧ Below w.heap.size w w' := by
  have RT := Lib.hid (right_no xs A A' c c' n ny w h hB hn hl hl' hd)
  clear h hn hd
  go_enter Tryd.func29, Tryd.ntmps29
  go_wp2_with fail
  refine RT.out.mono ?_
  rintro e w2 ⟨rfl, hb2⟩
  have hb2' := Lib.hid hb2
  clear hb2
  go_wp2_with fail
  go_ret2
  exact ⟨rfl, hb2'.out⟩

set_option maxRecDepth 100000 in
set_option maxHeartbeats 1000000 in
theorem interpolate_ok {B : Nat} (xs ys : List UInt8) (A A' : Option Addr) (c c' n ny : Nat) (w : World) (h : Rds w B A (xs.map bv)) (h' : Rds w B A' (ys.map bv)) (hB : B ≤ w.heap.size) (hn : n = xs.length) (hny : ny = ys.length) (he : n = ny) (hl : n ≤ 1000) (hd : Dist xs n) (ht : PTab 0 w) :
    Calls Tryd.prog 29 #[.slice A n c, .slice A' ny c'] w fun e w' => ∃ v, e = .returned (.tuple #[v, .int .i64 0]) ∧ OwnB w' w.heap.size v (lineP xs ys n) ∧ Below w.heap.size w w' := by
  have RT := Lib.hid (right_yes xs A A' c c' n ny w h hB hn (by omega) (by omega) hd he)
  have IN : Hid (∀ W, Below w.heap.size w W → Calls Tryd.prog 70 #[.slice A n c, .slice A' ny c'] W fun e w' => ∃ v, e = .returned v ∧ OwnB w' W.heap.size v (lineP xs ys n) ∧ Below W.heap.size W w') := fun W hW =>
    interpolated_any xs ys A A' c c' n ny W (h.below (hW.mono hB)) (h'.below (hW.mono hB)) (Nat.le_trans hB hW.size) hn hny (by omega) hl hd (ht.below hW ht.1)
  clear h h' hn hny hd ht he
  go_enter Tryd.func29, Tryd.ntmps29
  go_wp2_with fail
  refine RT.out.mono ?_
  rintro e w2 ⟨rfl, hb2⟩
  have IN2 := Lib.hid (IN.out w2 hb2)
  have hb2' := Lib.hid hb2
  clear hb2 IN RT
  go_wp2_with fail
  refine IN2.out.mono ?_
  rintro e w3 ⟨v3, rfl, ho3, hb3⟩
  have hfin := Lib.hid (And.intro (ownB_low ho3 hb2'.out.size) (hb2'.out.trans (hb3.mono hb2'.out.size)))
  clear ho3 hb3
  go_wp2_with fail
  go_ret2
  exact ⟨_, by first | rfl | (go_simp; done) | (go_simp; rfl), hfin.out.1, hfin.out.2⟩

set_option maxRecDepth 100000 in
set_option maxHeartbeats 1000000 in
theorem through_no {B : Nat} (xs : List UInt8) (A A' : Option Addr) (c c' n ny : Nat) (d : Int) (w : World) (h : Rds w B A (xs.map bv)) (hB : B ≤ w.heap.size) (hn : n = xs.length) (hl : n ≤ 100000) (hl' : ny ≤ 100000) (hd : ¬ (Dist xs n ∧ n = ny)) :
    Calls Tryd.prog 31 #[.slice A n c, .slice A' ny c', .int .i64 d] w fun e w' => e = .returned (.tuple #[.slice none 0 0, .int .i64 1]) ∧ Below w.heap.size w w' := by
  have RT := Lib.hid (right_no xs A A' c c' n ny w h hB hn hl hl' hd)
  clear h hn hd
  go_enter Tryd.func31, Tryd.ntmps31
  go_wp2_with fail
  refine RT.out.mono ?_
  rintro e w2 ⟨rfl, hb2⟩
  have hb2' := Lib.hid hb2
  clear hb2
  go_wp2_with fail
  go_ret2
  exact ⟨rfl, hb2'.out⟩

set_option maxRecDepth 100000 in
set_option maxHeartbeats 1000000 in
theorem through_range {B : Nat} (xs : List UInt8) (A A' : Option Addr) (c c' n ny : Nat) (d : Int) (w : World) (h : Rds w B A (xs.map bv)) (hB : B ≤ w.heap.size) (hn : n = xs.length) (hl : n ≤ 100000) (hd : Dist xs n) (he : n = ny) (hr : d < 0 ∨ (n : Int) ≤ d) :
    Calls Tryd.prog 31 #[.slice A n c, .slice A' ny c', .int .i64 d] w fun e w' => e = .returned (.tuple #[.slice none 0 0, .int .i64 3]) ∧ Below w.heap.size w w' := by
  have RT := Lib.hid (right_yes xs A A' c c' n ny w h hB hn hl (by omega) hd he)
  clear h hn hd he
  by_cases h0 : d < 0
  · clear hr
    go_enter Tryd.func31, Tryd.ntmps31
    go_wp2_with fail
    refine RT.out.mono ?_
    rintro e w2 ⟨rfl, hb2⟩
    have hb2' := Lib.hid hb2
    clear hb2
    go_wp2_with fail
    go_ret2
    exact ⟨rfl, hb2'.out⟩
  · have h1 : d ≥ (n : Int) := by omega
    clear hr
    go_enter Tryd.func31, Tryd.ntmps31
    go_wp2_with fail
    refine RT.out.mono ?_
    rintro e w2 ⟨rfl, hb2⟩
    have hb2' := Lib.hid hb2
    clear hb2
    go_wp2_with fail
    go_ret2
    exact ⟨rfl, hb2'.out⟩

set_option maxRecDepth 100000 in
set_option maxHeartbeats 1000000 in
theorem through_ok {B : Nat} (xs ys : List UInt8) (A A' : Option Addr) (c c' n ny m : Nat) (w : World) (h : Rds w B A (xs.map bv)) (h' : Rds w B A' (ys.map bv)) (hB : B ≤ w.heap.size) (hn : n = xs.length) (hny : ny = ys.length) (he : n = ny) (hl : n ≤ 1000) (hd : Dist xs n) (hm : m < n) (ht : PTab 0 w) :
    Calls Tryd.prog 31 #[.slice A n c, .slice A' ny c', .int .i64 m] w fun e w' => ∃ v E, e = .returned (.tuple #[v, .int .i64 E]) ∧ ((m + 1 < dg (lineP xs ys n) ∧ E = 8 ∧ v = .slice none 0 0) ∨ (dg (lineP xs ys n) ≤ m + 1 ∧ E = 0 ∧ OwnB w' w.heap.size v (lineP xs ys n))) ∧ Below w.heap.size w w' := by
  have RT := Lib.hid (right_yes xs A A' c c' n ny w h hB hn (by omega) (by omega) hd he)
  have IN : Hid (∀ W, Below w.heap.size w W → Calls Tryd.prog 70 #[.slice A n c, .slice A' ny c'] W fun e w' => ∃ v, e = .returned v ∧ OwnB w' W.heap.size v (lineP xs ys n) ∧ Below W.heap.size W w') := fun W hW =>
    interpolated_any xs ys A A' c c' n ny W (h.below (hW.mono hB)) (h'.below (hW.mono hB)) (Nat.le_trans hB hW.size) hn hny (by omega) hl hd (ht.below hW ht.1)
  have hll := lineP_len xs ys hd
  obtain ⟨L, hL⟩ : ∃ L, L = lineP xs ys n := ⟨_, rfl⟩
  rw [← hL] at IN hll ⊢
  have t1 : ¬ (m : Int) < 0 := by omega
  have t2 : ¬ (m : Int) ≥ (n : Int) := by omega
  clear h h' hn hny hd ht hL he
  go_enter Tryd.func31, Tryd.ntmps31
  go_wp2_with fail
  refine RT.out.mono ?_
  rintro e w2 ⟨rfl, hb2⟩
  have IN2 := Lib.hid (IN.out w2 hb2)
  have hb2' := Lib.hid hb2
  clear hb2 IN RT
  go_wp2_with fail
  refine IN2.out.mono ?_
  rintro e w3 ⟨v3, rfl, ho3, hb3⟩
  have hfin := Lib.hid (And.intro (ownB_low ho3 hb2'.out.size) (hb2'.out.trans (hb3.mono hb2'.out.size)))
  obtain ⟨A3, c3, rfl, _, _, _, hr3⟩ := own_form ho3
  have DG := Lib.hid (degree_any L A3 c3 w3 hr3 (by omega))
  clear ho3 hb3 hr3 IN2
  generalize L.length = nL at *
  obtain ⟨g, hg⟩ : ∃ g, g = dg L := ⟨_, rfl⟩
  rw [← hg] at DG
  have hg' := Lib.hid hg
  clear hg
  obtain ⟨z, hz⟩ : ∃ z, z = (g : Int) - 1 := ⟨_, rfl⟩
  rw [← hz] at DG
  have hz' := Lib.hid hz
  clear hz
  go_wp2_with fail
  refine DG.out.mono ?_
  rintro e w4 ⟨rfl, rfl⟩
  by_cases hbig : m + 1 < g
  · have t3 : z > (m : Int) := by have := hz'.out; omega
    have hb' := Lib.hid hbig
    clear hbig
    go_wp2_with fail
    go_ret2
    exact ⟨_, 8, by first | rfl | (go_simp; done) | (go_simp; rfl), .inl ⟨by rw [← hg'.out]; exact hb'.out, rfl, rfl⟩, hfin.out.2⟩
  · have t3 : ¬ z > (m : Int) := by have := hz'.out; omega
    have hb' := Lib.hid hbig
    clear hbig
    go_wp2_with fail
    go_ret2
    exact ⟨_, 0, by first | rfl | (go_simp; done) | (go_simp; rfl), .inr ⟨by have := hb'.out; rw [← hg'.out]; omega, rfl, hfin.out.1⟩, hfin.out.2⟩
end Go.Proofs.YtbilfhipmebmlaaDoor

namespace Go.Proofs.YtbilfhipmebmlaaDoor
set_option linter.unusedVariables false
set_option linter.unusedSimpArgs false
open Go.RowKit

set_option maxRecDepth 100000 in
theorem push_bytesH {w : World} {ops : Array Oper} {rest : List Oper} {o : Oper} {a : Act} {Q : Exit → Act → World → Prop} (hgd : o.guard = none) (sl x : Operand)
    (ho : o.op = .call { callee := .builtin .append, args := #[sl, x], argTypes := #[22, 22] })
    (base : Nat) (v : Value) (m l : List UInt8) (B : Nat) (A : Option Addr) (n c : Nat) (hn : n = l.length) (hA : A = none → c = 0) (hs : a.eval sl = v) (hx : a.eval x = .slice A n c)
    (hr : Rds w B A (l.map bv)) (hown : OwnB w base v m) (hlen : m.length + l.length ≤ 140737488355328) (hbase : base ≤ w.heap.size)
    (h : ∀ v' w', OwnB w' base v' (m ++ l) → Below base w w' → w.grownBy w' v.ownBlock → (v'.ownBlock = v.ownBlock ∨ ∃ k, v'.ownBlock = some k ∧ w.heap.size ≤ k) → wpList Tryd.prog ops Q rest (a.put o.dst v') w') :
    wpList Tryd.prog ops Q (o :: rest) a w := by
  subst hn
  obtain ⟨i0, hi, hz0, hz1, hz2⟩ := info_parts infoByte
  cases A with
  | none =>
    have hl : l = [] := by
      by_cases hl : l = []
      · exact hl
      · obtain ⟨ad, hh, _⟩ := hr (by simpa using hl)
        cases hh
    subst hl
    rw [hA rfl] at hx
    refine wpList_plain hgd fun K hK => ?_
    have hrun := run_append_owned_none (P := Tryd.prog) w base 22 o.type 5 i0 1 Tryd.underlying22 hi v m.length (m.map bv) hown
    unfold Oper.wp execOp
    simp only [ho, resolve, invoke, builtin, Sem.run_bind, Sem.run_pure, Result.andThen_ok, List.map_toArray, List.map_cons, List.map_nil, hs, hx, List.length_nil, hrun]
    exact hK _ _ (h v w (by simpa using hown) (Below.refl _ _) (World.grownBy.refl w _) (.inl rfl))
  | some ad =>
    have hcell : ∀ j u, (l.map bv)[j]? = some u → w.cell? (ad.add j) = some u := by
      intro j u hu
      obtain ⟨ad', he, _, hc⟩ := hr.look hu
      injection he with he
      subst he
      exact hc
    refine wpList_append_own_at w hgd sl x 22 ho base 5 i0 (.int .u8 0) 1 1 Tryd.underlying22 hi hz0 hz1 hz2 rfl (by decide) v m.length (m.map bv) hs hown ad l.length c (l.map bv) hx (by simp) hcell
      (by intro u hu; obtain ⟨b, _, rfl⟩ := List.mem_map.1 hu; rfl) (by unfold maxLen; omega) (by omega) hbase ?_
    intro v' w' h2 h3 _ h4
    refine h v' w' ?_ ((Below.refl _ _).grown h3 hbase fun _ hk => (hown.lt _ hk).1) h3 ?_
    · unfold OwnB
      rw [List.length_append, List.map_append]
      exact h2
    · rcases h4 with h4 | h4
      · exact .inl h4
      · exact .inr ⟨_, h4, Nat.le_refl _⟩
end Go.Proofs.YtbilfhipmebmlaaDoor

namespace Go.Proofs.YtbilfhipmebmlaaDoor
set_option linter.unusedVariables false
set_option linter.unusedSimpArgs false
open Go.RowKit

/-- A row that lies below block ga, or above block gb. -/
def RowF (W : World) (ga gb : Nat) (v : Value) (l : List UInt8) : Prop := RowAt W ga v l ∨ OwnB W (gb + 1) v l
section
variable {W W' : World} {ga gb : Nat} {v : Value} {l : List UInt8}
theorem RowF.row (h : RowF W ga gb v l) (hg : ga ≤ W.heap.size) : RowAt W W.heap.size v l := by
  rcases h with h | h
  · exact h.more hg
  · exact row_own h
theorem RowF.keep (h : RowF W ga gb v l) (hb : Below W.heap.size W W') (hg : ga ≤ W.heap.size) : RowF W' ga gb v l := by
  rcases h with h | h
  · exact .inl (h.below (hb.mono hg))
  · exact .inr (ownB_kp h hb)
theorem RowF.only {k : Nat} (h : RowF W ga gb v l) (ho : Only k W W') (h1 : ga ≤ k) (h2 : k < gb + 1) : RowF W' ga gb v l := by
  rcases h with h | h
  · exact .inl (h.below (ho.below h1))
  · exact .inr (ownB_only h ho h2)
end
/-- What the search keeps. -/
structure SrI (xs ys : List UInt8) (n most : Nat) (ra ta rb tb : List UInt8) : Prop where
  t1 : trim ra = ra
  t2 : trim ta = ta
  t3 : trim rb = rb
  t4 : trim tb = tb
  ea : ∀ i, i < n → ev ra (co xs i) = Gf.mul (ev ta (co xs i)) (co ys i)
  eb : ∀ i, i < n → ev rb (co xs i) = Gf.mul (ev tb (co xs i)) (co ys i)
  la : ra.length ≤ n + 1
  lb : rb.length ≤ n + 1
  ph : (most < ra.length ∧ tb.length + ra.length = n + 2 ∧ ta.length + rb.length < n + 2) ∨ (most < rb.length ∧ ta.length + rb.length = n + 2 ∧ tb.length + ra.length < n + 2)
theorem trim_dg {p : List UInt8} (h : trim p = p) : dg p = p.length := by
  have := trim_len p
  rw [h] at this
  exact this.symm
theorem SrI.swap {xs ys ra ta rb tb : List UInt8} {n most : Nat} (h : SrI xs ys n most ra ta rb tb) : SrI xs ys n most rb tb ra ta :=
  ⟨h.t3, h.t4, h.t1, h.t2, h.eb, h.ea, h.lb, h.la, h.ph.symm⟩
/-- One multiple of a power. -/
def mono (k : Nat) (c : UInt8) : List UInt8 := List.replicate k 0 ++ [c]
theorem co_mono (k : Nat) (c : UInt8) (t : Nat) : co (mono k c) t = if t = k then c else 0 := by
  unfold mono co
  rw [List.getD_eq_getElem?_getD]
  by_cases h : t < k
  · rw [List.getElem?_append_left (by simpa using h), List.getElem?_replicate, if_pos h, if_neg (by omega)]; rfl
  · by_cases e : t = k
    · subst e
      rw [List.getElem?_append_right (by simp), if_pos rfl]
      simp
    · rw [List.getElem?_eq_none (by simp; omega), if_neg e]; rfl
theorem co_pmul_mono (b : List UInt8) (k : Nat) (c : UInt8) (j : Nat) : co (pmul (mono k c) b) j = Gf.mul c (sh b k j) := by
  rw [co_pmul, pc_one (s := k) _ (fun t _ hne => .inl (by rw [co_mono, if_neg hne])), if_pos (by simp [mono]), co_mono, if_pos rfl]
theorem ev_mono (k : Nat) (c x : UInt8) : ev (mono k c) x = Gf.mul c (xp x k) := by
  unfold mono
  rw [ev_snoc, ev_null x (fun j => co_zeros k j), UInt8.zero_xor, List.length_replicate]
/-- What a step makes. -/
def stp (a b : List UInt8) (k : Nat) (c : UInt8) : List UInt8 := trim (Gf.vsum a (trim (pmul (mono k c) b)))
theorem co_stp (a b : List UInt8) (k : Nat) (c : UInt8) (j : Nat) : co (stp a b k c) j = co a j ^^^ Gf.mul c (sh b k j) := by
  unfold stp
  rw [co_trim, co_vsum, co_trim, co_pmul_mono]
theorem ev_stp (a b : List UInt8) (k : Nat) (c x : UInt8) : ev (stp a b k c) x = ev a x ^^^ Gf.mul (Gf.mul c (xp x k)) (ev b x) := by
  unfold stp
  rw [ev_trim, ev_vsum, ev_trim, ev_pmul, ev_mono]
theorem SrI.step {xs ys ra ta rb tb : List UInt8} {n most : Nat} (h : SrI xs ys n most ra ta rb tb) (hm : most < rb.length) (hk : rb.length ≤ ra.length) (hm1 : 1 ≤ most) :
    SrI xs ys n most (stp ra rb (ra.length - rb.length) (Gf.mul (co ra (ra.length - 1)) (Gf.inv (co rb (rb.length - 1))))) (stp ta tb (ra.length - rb.length) (Gf.mul (co ra (ra.length - 1)) (Gf.inv (co rb (rb.length - 1))))) rb tb ∧
      (stp ra rb (ra.length - rb.length) (Gf.mul (co ra (ra.length - 1)) (Gf.inv (co rb (rb.length - 1))))).length < ra.length := by
  have da := trim_dg h.t1
  have db := trim_dg h.t3
  have dta := trim_dg h.t2
  have dtb := trim_dg h.t4
  have htb : co rb (rb.length - 1) ≠ 0 := by rw [← db]; exact dg_top rb (by omega)
  have hta : co ra (ra.length - 1) ≠ 0 := by rw [← da]; exact dg_top ra (by omega)
  obtain ⟨c, hc⟩ : ∃ c, c = Gf.mul (co ra (ra.length - 1)) (Gf.inv (co rb (rb.length - 1))) := ⟨_, rfl⟩
  have hinv : Gf.inv (co rb (rb.length - 1)) ≠ 0 := fun e => by
    have := Gf.mul_inv htb
    rw [e, Gf.mul_zero] at this
    cases this
  have hc0 : c ≠ 0 := by rw [hc]; exact Gf.mul_ne hta hinv
  have hct : Gf.mul c (co rb (rb.length - 1)) = co ra (ra.length - 1) := by
    rw [hc, Gf.mul_assoc, Gf.mul_comm (Gf.inv _), Gf.mul_inv htb, Gf.mul_one]
  rw [← hc]
  obtain ⟨k, hkk⟩ : ∃ k, k = ra.length - rb.length := ⟨_, rfl⟩
  rw [← hkk]
  have hl1 : (stp ra rb k c).length < ra.length := by
    have : dg (stp ra rb k c) ≤ ra.length - 1 := dg_below fun j hj => by
      rw [co_stp]
      by_cases e : j = ra.length - 1
      · subst e
        unfold sh
        rw [if_pos (by omega), show ra.length - 1 - k = rb.length - 1 by omega, hct, UInt8.xor_self]
      · rw [co_out (by omega), sh_above (by omega), Gf.mul_zero]; rfl
    rw [trim_dg (by unfold stp; exact trim_trim _)] at this
    omega
  have hev : ∀ i, i < n → ev (stp ra rb k c) (co xs i) = Gf.mul (ev (stp ta tb k c) (co xs i)) (co ys i) := fun i hi => by
    rw [ev_stp, ev_stp, h.ea i hi, h.eb i hi, Gf.xor_mul, Gf.mul_assoc (Gf.mul c _)]
  have hlow : tb.length + k < ta.length → (stp ta tb k c).length = ta.length := fun hlt => by
    rw [← trim_dg (p := stp ta tb k c) (by unfold stp; exact trim_trim _)]
    refine dg_uni (fun j hj => ?_) (fun _ => ?_)
    · rw [co_stp, co_out hj, sh_above (by omega), Gf.mul_zero]; rfl
    · rw [co_stp, sh_above (by omega), Gf.mul_zero, UInt8.xor_zero, ← dta]
      exact dg_top ta (by omega)
  have hhigh : ta.length < tb.length + k → 0 < tb.length → (stp ta tb k c).length = tb.length + k := fun hlt hp => by
    rw [← trim_dg (p := stp ta tb k c) (by unfold stp; exact trim_trim _)]
    refine dg_uni (fun j hj => ?_) (fun _ => ?_)
    · rw [co_stp, co_out (by omega), sh_above (by omega), Gf.mul_zero]; rfl
    · rw [co_stp, co_out (by omega), UInt8.zero_xor]
      unfold sh
      rw [if_pos (by omega), show tb.length + k - 1 - k = tb.length - 1 by omega, ← dtb]
      exact Gf.mul_ne hc0 (dg_top tb (by omega))
  have hla := h.la
  have hlb := h.lb
  refine ⟨⟨by unfold stp; exact trim_trim _, by unfold stp; exact trim_trim _, h.t3, h.t4, hev, h.eb, by omega, hlb, .inr ?_⟩, hl1⟩
  rcases h.ph with ⟨p1, p2, p3⟩ | ⟨p1, p2, p3⟩
  · rw [hhigh (by omega) (by omega)]
    omega
  · rw [hlow (by omega)]
    omega
theorem SrI.stop {xs ys ra ta rb tb : List UInt8} {n most : Nat} (h : SrI xs ys n most ra ta rb tb) (hm : rb.length ≤ most) : dg rb ≤ most ∧ dg tb + most ≤ n + 1 ∧ 0 < dg tb := by
  rw [trim_dg h.t3, trim_dg h.t4]
  have := h.la
  rcases h.ph with ⟨p1, p2, p3⟩ | ⟨p1, p2, p3⟩ <;> omega
theorem SrI.start {xs ys wh all : List UInt8} {n most : Nat} (h1 : trim wh = wh) (h2 : trim all = all) (hw : wh.length = n + 1) (ha : all.length ≤ n) (hm : most ≤ n) (ew : ∀ i, i < n → ev wh (co xs i) = 0) (ea : ∀ i, i < n → ev all (co xs i) = co ys i) : SrI xs ys n most wh [] all [1] :=
  ⟨h1, rfl, h2, by decide, fun i hi => by rw [ew i hi]; simp [ev, Gf.zero_mul], fun i hi => by rw [ea i hi]; simp [ev, Gf.zero_mul, Gf.one_mul], by omega, by omega, .inl ⟨by omega, by simp; omega, by simp; omega⟩⟩
/-- The length of a slice in a cell. -/
def lenC : Option Value → Nat
  | some (.slice _ n _) => n
  | _ => 0
theorem size_rem : (Tryd.prog.info? 131).map (·.size) = some 2 := by kernel_rfl
theorem row_rem : ∃ d, Tryd.prog.underlying 131 = some d ∧ d.isRow = true := ⟨_, Tryd.underlying131, rfl⟩
theorem rem_one (A A' : Option Addr) (n c n' c' : Nat) : ∀ u ∈ [Value.slice A n c, Value.slice A' n' c'], u.oneCell' = true := by
  intro u hu
  simp only [List.mem_cons, List.not_mem_nil, or_false] at hu
  rcases hu with rfl | rfl <;> rfl
end Go.Proofs.YtbilfhipmebmlaaDoor
