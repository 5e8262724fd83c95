/-
  Stage 3: the reference's Top.
-/
import Derived.Test.YtdikbglemgoocaaDoorMkb
namespace Go.Proofs.YtdikbglemgoocaaDoor
set_option linter.unusedVariables false
set_option linter.unusedSimpArgs false
open Go.RowKit

theorem size_topped : (Tryd.prog.info? 52).map (·.size) = some 17 := by kernel_rfl
theorem row_topped : ∃ d, Tryd.prog.underlying 52 = some d ∧ d.isRow = true := ⟨_, Tryd.underlying52, rfl⟩
/-- What the reference's Top returns. -/
def tpv (D : List UInt8) (E : Nat) : List Value := D.map bv ++ [.int .i64 E]
theorem tpv_one (D : List UInt8) (E : Nat) : ∀ u ∈ tpv D E, u.oneCell' = true := by
  intro u hu
  unfold tpv at hu
  rcases List.mem_append.1 hu with h | h
  · exact av_one D u h
  · rw [List.mem_singleton.1 h]; rfl
theorem tpv_len {D : List UInt8} (h : D.length = 16) (E : Nat) : (tpv D E).length = 17 := by simp [tpv, h]
theorem fold_set (r : List Value) : ∀ (l p q : List Value), q.length = l.length → List.foldl (fun (cs : Array Value) (x : Value × Nat) => cs.setIfInBounds x.snd x.fst) (p ++ q ++ r).toArray (l.zipIdx p.length) = (p ++ l ++ r).toArray
  | [], p, q, h => by obtain rfl : q = [] := List.eq_nil_of_length_eq_zero h; rfl
  | v :: l, p, [], h => by simp at h
  | v :: l, p, u :: q, h => by
    rw [List.zipIdx_cons, List.foldl_cons]
    have e : (p ++ u :: q ++ r).toArray.setIfInBounds p.length v = ((p ++ [v]) ++ q ++ r).toArray := by
      rw [List.setIfInBounds_toArray]
      congr 1
      simp [List.set_append]
    show List.foldl _ ((p ++ u :: q ++ r).toArray.setIfInBounds p.length v) _ = _
    rw [e]
    have := fold_set r l (p ++ [v]) q (by simpa using h)
    rw [List.length_append] at this
    simpa using this
theorem build_topped (Z : List UInt8) (h : Z.length = 16) : List.foldl (fun cs x => cs.setIfInBounds x.snd x.fst) #[Value.int .u8 0, .int .u8 0, .int .u8 0, .int .u8 0, .int .u8 0, .int .u8 0, .int .u8 0, .int .u8 0, .int .u8 0, .int .u8 0, .int .u8 0, .int .u8 0, .int .u8 0, .int .u8 0, .int .u8 0, .int .u8 0, .int .i64 0] (Z.map bv).zipIdx = (tpv Z 0).toArray :=
  fold_set [.int .i64 0] (Z.map bv) [] (bz 16) (by rw [List.length_map, h]; rfl)

set_option maxRecDepth 100000 in
set_option maxHeartbeats 1000000 in
theorem refTop_no (s : Int) (A : Option Addr) (n c : Nat) (w : World) (h : pkOk s n = false) :
    Calls Tryd.prog 28 #[pkv s A n c] w fun e w' => e = .returned (.agg (tpv z16 1).toArray) ∧ Below w.heap.size w w' := by
  obtain ⟨dd, hdu, hdr⟩ := row_topped
  have hdu' := Lib.hid hdu
  clear hdu
  have HO : Hid (∀ W, Calls Tryd.prog 55 #[pkv s A n c] W fun e w' => e = .returned (.bool false) ∧ Below W.heap.size W w') := fun W => by have := formed_any s A n c W; rwa [h] at this
  unfold pkv at *
  obtain ⟨dp, hdp, hpr⟩ := row_peaks
  have hdp' := Lib.hid hdp
  clear hdp
  obtain ⟨W2, hW2⟩ : ∃ W2, W2 = (w.alloc (.cells #[.int .i64 s, .slice A n c] 43)).alloc (.cells (tpv z16 0).toArray 52) := ⟨_, rfl⟩
  have hB2 : Hid (Below w.heap.size w W2) := by show Below _ _ _; rw [hW2]; exact ((Below.refl _ _).alloc (Nat.le_refl _) _).alloc (by simp) _
  have hR2 : Hid (Blk W2 (w.heap.size + 1) (tpv z16 0) 52) := by show Blk _ _ _ _; rw [hW2]; exact (Blk.new _ _ _).at (by simp)
  have hK2 : Hid (Blk W2 w.heap.size [.int .i64 s, .slice A n c] 43) := by show Blk _ _ _ _; rw [hW2]; exact (Blk.new _ [_, _] _).alloc _
  have hW2' := Lib.hid hW2
  clear hW2 h
  go_enter Tryd.func28, Tryd.ntmps28
  go_wp2_with fail
  generalize hg : (w.alloc _).alloc _ = Wg
  have hgW : W2 = Wg := by rw [← hg, hW2'.out]; rfl
  clear hg hW2'
  subst hgW
  go_wp2_with (refine wpList_blk_load rfl 43 _ rfl 0 rfl hK2.out [.int .i64 s, .slice A n c] (take_all0 _) dp hdp'.out hpr size_peaks ?_)
  refine (HO.out _).mono ?_
  rintro e w3 ⟨rfl, hb3⟩
  have hR3 := hR2.out.below hb3 hR2.out.lt
  have hB3 := hB2.out.trans (hb3.mono hB2.out.size)
  go_wp2_with (refine wpList_row_store rfl 52 _ _ rfl (tpv z16 1) rfl rfl hR3 size_topped rfl (tpv_one z16 1) ?_; intro w4 hW4 ho4)
  exact bodyPost_ret (ret_blk rfl _ w4 (g := w.heap.size + 1) rfl hW4.out dd hdu'.out hdr size_topped) rfl ⟨rfl, hB3.trans (ho4.below (by omega))⟩

set_option maxRecDepth 100000 in
set_option maxHeartbeats 1000000 in
theorem refTop_zero (A : Option Addr) (c : Nat) (w : World) (ht : Tab 3 w) :
    Calls Tryd.prog 28 #[pkv 0 A 0 c] w fun e w' => e = .returned (.agg (tpv emp 0).toArray) ∧ Below w.heap.size w w' := by
  obtain ⟨dd, hdu, hdr⟩ := row_topped
  have hdu' := Lib.hid hdu
  clear hdu
  have HO : Hid (∀ W, Calls Tryd.prog 55 #[pkv 0 A 0 c] W fun e w' => e = .returned (.bool true) ∧ Below W.heap.size W w') := fun W => by
    have := formed_any 0 A 0 c W
    rwa [show pkOk 0 0 = true by unfold pkOk; simp [pop_zero]] at this
  have hRt : Hid (∀ W, Tab 3 W → Calls Tryd.prog 38 #[] W fun e w' => e = .returned (av emp) ∧ Below W.heap.size W w') := fun W hT => refEmpty_any W hT
  have hel : Hid (emp.length = 16) := hashOf_len 32 []
  generalize emp = Z at hRt hel ⊢
  unfold pkv av at *
  obtain ⟨dp, hdp, hpr⟩ := row_peaks
  have hdp' := Lib.hid hdp
  clear hdp
  obtain ⟨W2, hW2⟩ : ∃ W2, W2 = (w.alloc (.cells #[.int .i64 0, .slice A 0 c] 43)).alloc (.cells (tpv z16 0).toArray 52) := ⟨_, rfl⟩
  have hB2 : Hid (Below w.heap.size w W2) := by show Below _ _ _; rw [hW2]; exact ((Below.refl _ _).alloc (Nat.le_refl _) _).alloc (by simp) _
  have hR2 : Hid (Blk W2 (w.heap.size + 1) (tpv z16 0) 52) := by show Blk _ _ _ _; rw [hW2]; exact (Blk.new _ _ _).at (by simp)
  have hK2 : Hid (Blk W2 w.heap.size [.int .i64 0, .slice A 0 c] 43) := by show Blk _ _ _ _; rw [hW2]; exact (Blk.new _ [_, _] _).alloc _
  have hT2 := Lib.hid (ht.on hB2.out)
  have hW2' := Lib.hid hW2
  clear hW2 ht
  go_enter Tryd.func28, Tryd.ntmps28
  go_wp2_with fail
  generalize hg : (w.alloc _).alloc _ = Wg
  have hgW : W2 = Wg := by rw [← hg, hW2'.out]; rfl
  clear hg hW2'
  subst hgW
  go_wp2_with (refine wpList_blk_load rfl 43 _ rfl 0 rfl hK2.out [.int .i64 0, .slice A 0 c] (take_all0 _) dp hdp'.out hpr size_peaks ?_)
  refine (HO.out _).mono ?_
  rintro e w3 ⟨rfl, hb3⟩
  have hR3 := Lib.hid (hR2.out.below hb3 hR2.out.lt)
  have hK3 := hK2.out.below hb3 hK2.out.lt
  have c0 := hK3.cell (j := 0) rfl
  have hB3 := Lib.hid (hB2.out.trans (hb3.mono hB2.out.size))
  have hT3 := Lib.hid (hT2.out.on hb3)
  clear hb3 hK3
  go_wp2_with fail
  refine (hRt.out _ hT3.out).mono ?_
  rintro e w4 ⟨rfl, hb4⟩
  have hR4 := Lib.hid (hR3.out.below hb4 hR3.out.lt)
  have hB4 := Lib.hid (hB3.out.trans (hb4.mono hB3.out.size))
  have h16 := hel.out
  have hbt := build_topped Z h16
  have h17 := tpv_len h16 0
  clear hb4
  go_wp2_with (refine wpList_row_store rfl 52 _ _ rfl (tpv Z 0) rfl rfl hR4.out (by rw [h17]; exact size_topped) (by rw [h17]; rfl) (tpv_one Z 0) ?_; intro w5 hW5 ho5)
  exact bodyPost_ret (ret_blk rfl _ w5 (g := w.heap.size + 1) rfl hW5.out dd hdu'.out hdr (by rw [h17]; exact size_topped)) rfl ⟨rfl, hB4.out.trans (ho5.below (by omega))⟩

set_option maxRecDepth 100000 in
set_option maxHeartbeats 2000000 in
theorem refTop_pos (z : Nat) (L : List (List UInt8)) (A : Option Addr) (n k c : Nat) (d : List UInt8) (w : World) (hz0 : 0 < z) (hok : pkOk z n = true) (hnL : n = L.length) (hk : n = k + 1) (hd : D16 L) (hdk : L[k]? = some d) (hA : Dg w A L) (hn6 : n ≤ 1000000) (ht : Tab 3 w) :
    Calls Tryd.prog 28 #[pkv z A n c] w fun e w' => e = .returned (.agg (tpv (jn (L.take k) d) 0).toArray) ∧ Below w.heap.size w w' := by
  obtain ⟨dd, hdu, hdr⟩ := row_topped
  have hdu' := Lib.hid hdu
  clear hdu
  obtain ⟨dp, hdp, hpr⟩ := row_peaks
  have hdp' := Lib.hid hdp
  clear hdp
  have HO : Hid (∀ W, Calls Tryd.prog 55 #[pkv z A n c] W fun e w' => e = .returned (.bool true) ∧ Below W.heap.size W w') := fun W => by
    have := formed_any z A n c W
    rwa [hok] at this
  obtain ⟨ad, rfl, hab, hdl, _⟩ := hA.at hd hdk
  have hLd : Hid (∀ W, Below w.heap.size w W → ∀ i x, L[i]? = some x → ∀ j v, (x.map bv)[j]? = some v → W.cell? ((ad.add (i * 16)).add j) = some v) := fun W hB i x hx => by
    obtain ⟨ad', he, _, _, hcc⟩ := (hA.on hB).at hd hx
    injection he with he
    subst he
    exact hcc
  have HN : Hid (∀ a b W, a.length = 16 → b.length = 16 → Tab 3 W → Calls Tryd.prog 20 #[av a, av b] W fun e w' => e = .returned (av (nd a b)) ∧ Below W.heap.size W w') := fun a b W ha hb hT => refNode_any a b W ha hb hT
  have hd' := Lib.hid hd
  have hdk' := Lib.hid hdk
  have hnL' := Lib.hid hnL
  have hk' := Lib.hid hk
  have hdl' := Lib.hid hdl
  have hd1 : (d.map bv).length = 16 := by rw [List.length_map, hdl]
  have hds := Lib.hid (size_dig16 (d.map bv) hd1)
  have hdo := av_one d
  have t0 : ((z : Int) == 0) = false := by simp; omega
  have e1 : (n : Int) - 1 = (k : Int) := by omega
  have e2 : (n : Int) - 2 = (k : Int) - 1 := by omega
  have b1 : (k : Int) < (n : Int) := by omega
  unfold pkv av at *
  obtain ⟨W2, hW2⟩ : ∃ W2, W2 = (w.alloc (.cells #[.int .i64 z, .slice (some ad) n c] 43)).alloc (.cells (tpv z16 0).toArray 52) := ⟨_, rfl⟩
  have hB2 : Hid (Below w.heap.size w W2) := by show Below _ _ _; rw [hW2]; exact ((Below.refl _ _).alloc (Nat.le_refl _) _).alloc (by simp) _
  have hR2 : Hid (Blk W2 (w.heap.size + 1) (tpv z16 0) 52) := by show Blk _ _ _ _; rw [hW2]; exact (Blk.new _ _ _).at (by simp)
  have hK2 : Hid (Blk W2 w.heap.size [.int .i64 z, .slice (some ad) n c] 43) := by show Blk _ _ _ _; rw [hW2]; exact (Blk.new _ [_, _] _).alloc _
  have hT2 := Lib.hid (ht.on hB2.out)
  have hW2' := Lib.hid hW2
  clear hW2 ht hok hnL hk hd hdk hA hdl hab hz0
  go_enter Tryd.func28, Tryd.ntmps28
  go_wp2_with fail
  generalize hg : (w.alloc _).alloc _ = Wg
  have hgW : W2 = Wg := by rw [← hg, hW2'.out]; rfl
  clear hg hW2'
  subst hgW
  go_wp2_with (refine wpList_blk_load rfl 43 _ rfl 0 rfl hK2.out [.int .i64 z, .slice (some ad) n c] (take_all0 _) dp hdp'.out hpr size_peaks ?_)
  refine (HO.out _).mono ?_
  rintro e w3 ⟨rfl, hb3⟩
  have hR3 := Lib.hid (hR2.out.below hb3 hR2.out.lt)
  have hK3 := Lib.hid (hK2.out.below hb3 hK2.out.lt)
  have c0 := hK3.out.cell (j := 0) rfl
  have c1 := hK3.out.cell (j := 1) rfl
  have hB3 := Lib.hid (hB2.out.trans (hb3.mono hB2.out.size))
  have hT3 := Lib.hid (hT2.out.on hb3)
  have hLk3 := Lib.hid (hLd.out w3 hB3.out k d hdk'.out)
  clear hb3 hR2 hK2 hB2 hT2
  go_wp2_with (first | (refine wpList_load_arr rfl 31 _ rfl (ad.add (k * 16)) rfl (d.map bv) 16 5 hLk3.out arr_dig hds.out ?_) | (refine wpList_row_store rfl 31 _ _ rfl (d.map bv) rfl rfl (Blk.new w3 (bz 16) 31) hds.out (by rw [hd1]; rfl) hdo ?_; intro w5 hW5 ho5; have hb5 : Below w3.heap.size w3 w5 := ((Below.refl _ _).alloc (Nat.le_refl _) _).trans (ho5.below (Nat.le_refl _)); have c1' := (hK3.out.below hb5 hK3.out.lt).cell (j := 1) rfl))
  have hS0 : Hid (Blk w5 w3.heap.size ((jn ((L.take k).drop k) d).map bv) 31) := by
    show Blk _ _ _ _
    rw [List.drop_eq_nil_of_le (by rw [List.length_take]; omega)]
    exact hW5.out
  have hb5' := Lib.hid hb5
  have hk1 : Hid ((k : Int) - 1 = (k : Int) - 1) := rfl
  clear hW5 ho5 hb5 c0 c1 c1' hLk3
  go_loopw [5] (fun v wr => ∃ (m : Nat) (i : Int), m ≤ k ∧ v = .int .i64 i ∧ Hid (i = (m : Int) - 1) ∧ Hid (Blk wr w3.heap.size ((jn ((L.take k).drop m) d).map bv) 31) ∧ Hid (Below w3.heap.size w3 wr)) (fun v _ => (intOf v + 1).toNat)
  case atStart => exact ⟨k, _, Nat.le_refl _, rfl, hk1, hS0, hb5'⟩
  case round =>
    obtain ⟨m, i, hm, rfl, hi, hD, hB⟩ := hrel
    have hRr := Lib.hid (hR3.out.below hB.out hR3.out.lt)
    have hKr := Lib.hid (hK3.out.below hB.out hK3.out.lt)
    have hBr := Lib.hid (hB3.out.trans (hB.out.mono hB3.out.size))
    have hTr := Lib.hid (hT3.out.on hB.out)
    by_cases h0 : m = 0
    · obtain rfl : i = -1 := by have := hi.out; omega
      subst h0
      have hDD : Hid (Blk wr w3.heap.size ((jn (L.take k) d).map bv) 31) := by have := hD.out; rwa [List.drop_zero] at this
      obtain ⟨Z, hZ⟩ : ∃ Z, Z = jn (L.take k) d := ⟨_, rfl⟩
      rw [← hZ] at hDD
      have h16 : Z.length = 16 := by rw [hZ]; exact jn_len hdl'.out _
      have hZ' := Lib.hid hZ
      have hbt := build_topped Z h16
      have h17 := tpv_len h16 0
      have hZs := Lib.hid (size_dig16 (Z.map bv) (by rw [List.length_map, h16]))
      clear hZ hD hi
      go_wp2_with (first | (refine wpList_blk_load rfl 31 _ rfl 0 rfl hDD.out (Z.map bv) (take_all0 _) (.array 16 5) arr_dig rfl hZs.out ?_) | (refine wpList_row_store rfl 52 _ _ rfl (tpv Z 0) rfl rfl hRr.out (by rw [h17]; exact size_topped) (by rw [h17]; rfl) (tpv_one Z 0) ?_; intro w6 hW6 ho6))
      exact bodyPost_ret (ret_blk rfl _ w6 (g := w.heap.size + 1) rfl hW6.out dd hdu'.out hdr (by rw [h17]; exact size_topped)) rfl ⟨by rw [hZ'.out], hBr.out.trans (ho6.below (by omega))⟩
    · obtain ⟨j, rfl⟩ : ∃ j, m = j + 1 := ⟨m - 1, by omega⟩
      obtain rfl : i = (j : Int) := by have := hi.out; omega
      have hjL : j < L.length := by have := hnL'.out; have := hk'.out; omega
      obtain ⟨x, hx⟩ : ∃ x, L[j]? = some x := ⟨_, List.getElem?_eq_getElem hjL⟩
      have hxl : x.length = 16 := hd'.out x (List.mem_of_getElem? hx)
      have hst : Hid (jn ((L.take k).drop j) d = nd x (jn ((L.take k).drop (j + 1)) d)) := by
        show _ = _
        rw [List.drop_eq_getElem_cons (by rw [List.length_take]; omega)]
        have : (L.take k)[j]'(by rw [List.length_take]; omega) = x := by
          rw [List.getElem_take]
          exact (List.getElem?_eq_some_iff.1 hx).2
        rw [this]
        rfl
      have hvl := jn_len hdl'.out ((L.take k).drop (j + 1))
      generalize jn ((L.take k).drop (j + 1)) d = v at hD hst hvl
      have hN := Lib.hid (fun W hT => HN.out x v W hxl hvl hT)
      have hml := nd_len x v
      generalize nd x v = y at hN hst hml
      have hv1 : (v.map bv).length = 16 := by rw [List.length_map, hvl]
      have hvs := Lib.hid (size_dig16 (v.map bv) hv1)
      have hx1 : (x.map bv).length = 16 := by rw [List.length_map, hxl]
      have hxs := Lib.hid (size_dig16 (x.map bv) hx1)
      have hy1 : (y.map bv).length = 16 := by rw [List.length_map, hml]
      have hys := Lib.hid (size_dig16 (y.map bv) hy1)
      have hyo := av_one y
      have hLx := Lib.hid (fun W (h : Below wr.heap.size wr W) => hLd.out W (hBr.out.trans (h.mono hBr.out.size)) j x hx)
      have j1 : (j : Int) < (n : Int) := by have := hnL'.out; omega
      have hDlt := Lib.hid hD.out.lt
      have hy1' := Lib.hid (hy1.trans hv1.symm)
      clear hx hxl hvl hml hi h0 hjL hx1 hv1 hy1
      go_wp2_with fail
      have hd3 : Below wr.heap.size wr wr.drew := (Below.refl _ _).drew
      have q1 : ∀ x : ROf (Below wr.heap.size) wr.drew, x.world.cell? ⟨w.heap.size, 1, none⟩ = some (.slice (some ad) n c) := fun x => (hKr.out.below (hd3.trans x.rel) hKr.out.lt).cell (j := 1) rfl
      refine wp_region_planR (R := Below wr.heap.size) (fun w => Below.refl _ w) (fun _ _ _ h k => h.trans k) [7] [(true, 0), (true, 1), (true, 2), (true, 3), (true, 4), (true, 5), (false, 6), (false, 7)] (by decide) (by kernel_rfl) (by kernel_rfl) (by decide) (by intro c a d v w h; cases d <;> exact h) ?_
      change wpPlanR _ _ _ _ _ _ _ wr.drew
      have hne : Nonempty (ROf (Below wr.heap.size) wr.drew) := ⟨⟨_, Below.refl _ _⟩⟩
      iterate 4 (refine wpPlanR_plain rfl (fun K hK => ?_); go_simp; refine hK _ ?_; clear hK K)
      refine wpPlanR_runW rfl (by rfl) _ (fun q => load_arr_run 31 _ rfl (ad.add (j * 16)) rfl (x.map bv) 16 5 q.world (hLx.out _ (hd3.trans q.rel)) arr_dig hxs.out) ?_
      refine wpPlanR_runW rfl (by rfl) _ (fun q => load_run 31 _ rfl w3.heap.size 0 rfl (v.map bv) (.array 16 5) arr_dig rfl hvs.out q.world ((hD.out.below (hd3.trans q.rel) hDlt.out).range 0 _ (take_all0 _))) ?_
      refine wpPlanR_call rfl (fun K hK => ?_)
      go_wp2_with fail
      refine (hN.out _ (hTr.out.on hd3)).mono ?_
      rintro e w5 ⟨rfl, hb5⟩
      go_wp2_with fail
      refine planPostR_normal ⟨.inr hb5, hK _ _ ?_⟩
      clear hK K
      have hD5 := Lib.hid (hD.out.below (hd3.trans hb5) hDlt.out)
      refine wpPlanR_call rfl (fun K hK => ?_)
      refine wpList_row_store rfl 31 _ _ rfl (y.map bv) rfl rfl hD5.out hys.out hy1'.out hyo ?_
      intro w6 hW6 ho6
      refine wpList_end (planPostR_normal ⟨.inl (by first | trivial | simp), hK _ _ ?_⟩)
      clear hK K
      refine wpPlanR_nil ?_
      have hend : Hid (Below w3.heap.size w3 w6) := (hB.out.trans ((hd3.trans hb5).mono hB.out.size)).trans (ho6.below (Nat.le_refl _))
      have hend2 : Hid (Blk w6 w3.heap.size ((jn ((L.take k).drop j) d).map bv) 31) := by show Blk _ _ _ _; rw [hst.out]; exact hW6.out
      have hend3 : Hid ((j : Int) - 1 = (j : Int) - 1) := rfl
      clear q1
      go_wp2_with fail
      go_roundw
      case rel => exact ⟨j, (j : Int) - 1, by omega, by go_num, hend3, hend2, hend⟩
      case measure => simp [intOf]
end Go.Proofs.YtdikbglemgoocaaDoor
