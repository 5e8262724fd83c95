/-
  MerklePeaksMatchSpec: contracts of all cases, and the walk. (Written by tools/genm3.py.)
-/
import Derived.Test.YtdikbglemgoocaaDoorRap
import Derived.Test.YtdikbglemgoocaaDoorOmk
import Derived.Test.YtdikbglemgoocaaDoorSn3
namespace Go.Proofs.YtdikbglemgoocaaDoor
set_option linter.unusedVariables false
set_option linter.unusedSimpArgs false
open Go.RowKit


def apS (s : Int) (n : Nat) : Int := if pkOk s n = true then (if s = 1099511627776 then 0 else s + 1) else 0
def apE (s : Int) (n : Nat) : Int := if pkOk s n = true then (if s = 1099511627776 then 2 else 0) else 1
def apQ (s : Int) (L : List (List UInt8)) (leaf : List UInt8) : List (List UInt8) := if pkOk s L.length = true then (if s = 1099511627776 then [] else apL s.toNat L leaf) else []
theorem pkOk_nat {s : Int} {n : Nat} (h : pkOk s n = true) : ∃ z : Nat, s = (z : Int) ∧ z ≤ 1099511627776 := by
  unfold pkOk at h
  simp at h
  exact ⟨s.toNat, by omega, by omega⟩
theorem pop_pos' : ∀ m q, q ≤ m → 0 < q → 0 < pop q := by
  intro m
  induction m with
  | zero => intro q h1 h2; omega
  | succ m ih =>
    intro q h1 h2
    rw [pop_pos h2]
    by_cases hq : q % 2 = 0
    · have := ih (q / 2) (by omega) (by omega); omega
    · omega
section
variable {W : World} {A : Option Addr} {n c : Nat} {L : List (List UInt8)}
theorem apQ_d16 (hd : D16 L) (s : Int) {leaf : List UInt8} (hf : leaf.length = 16) : D16 (apQ s L leaf) := by
  unfold apQ
  split
  · split
    · exact d16_nil
    · exact apL_d16 hd hf _
  · exact d16_nil
theorem apQ_len (s : Int) (leaf : List UInt8) : (apQ s L leaf).length ≤ L.length + 1 := by
  unfold apQ
  split
  · split
    · simp
    · rw [apL_len]; omega
  · simp
theorem topD_16 (hd : D16 L) (z : Int) : (topD z L).length = 16 := by
  unfold topD
  split
  · split
    · exact hashOf_len 32 []
    · refine jn_len ?_ _
      rw [List.getD_eq_getElem?_getD]
      cases hq : L[L.length - 1]? with
      | none => rfl
      | some d => exact hd d (List.mem_of_getElem? hq)
  · rfl
theorem append_all (h : DV W A n c L) (hl : n ≤ 50) (ht : Tbs W) (s : Int) (leaf : List UInt8) (hf : leaf.length = 16) (S E : Int) (Q : List (List UInt8)) (hS : S = apS s n) (hE : E = apE s n) (hQ : Q = apQ s L leaf) :
    Calls Tryd.prog 25 #[pkv s A n c, av leaf] W fun e w' => ∃ A n c, e = .returned (.tuple #[.agg #[.int .i64 S, .slice A n c], .int .i64 E]) ∧ DV w' A n c Q ∧ Below W.heap.size W w' := by
  subst hS hE hQ
  unfold apS apE apQ
  rw [← h.len]
  by_cases hok : pkOk s n = true
  · rw [if_pos hok, if_pos hok, if_pos hok]
    by_cases hm : s = 1099511627776
    · subst hm
      rw [if_pos rfl, if_pos rfl, if_pos rfl]
      exact (append_limit 0 A n c leaf W hok).mono fun e w' h => ⟨none, 0, 0, h.1, dv_nil _, h.2⟩
    · rw [if_neg hm, if_neg hm, if_neg hm]
      obtain ⟨z, rfl, hz⟩ := pkOk_nat hok
      refine (append_v h (by omega) ht leaf hf z (by omega) hok _ rfl).mono ?_
      rintro e w' ⟨A', n', c', rfl, h1, h2⟩
      exact ⟨A', n', c', rfl, h1, h2⟩
  · rw [if_neg hok, if_neg hok, if_neg hok]
    exact (append_no s A n c leaf W (by simpa using hok)).mono fun e w' h => ⟨none, 0, 0, h.1, dv_nil _, h.2⟩
theorem rappend_all (h : DV W A n c L) (hl : n ≤ 50) (ht : Tbs W) (s : Int) (leaf : List UInt8) (hf : leaf.length = 16) (S E : Int) (Q : List (List UInt8)) (hS : S = apS s n) (hE : E = apE s n) (hQ : Q = apQ s L leaf) :
    Calls Tryd.prog 27 #[pkv s A n c, av leaf] W fun e w' => ∃ A n c, e = .returned (.agg #[.int .i64 S, .slice A n c, .int .i64 E]) ∧ DV w' A n c Q ∧ Below W.heap.size W w' := by
  subst hS hE hQ
  unfold apS apE apQ
  rw [← h.len]
  by_cases hok : pkOk s n = true
  · rw [if_pos hok, if_pos hok, if_pos hok]
    by_cases hm : s = 1099511627776
    · subst hm
      rw [if_pos rfl, if_pos rfl, if_pos rfl]
      exact (refAppend_limit A n c leaf W hok).mono fun e w' h => ⟨none, 0, 0, h.1, dv_nil _, h.2⟩
    · rw [if_neg hm, if_neg hm, if_neg hm]
      obtain ⟨z, rfl, hz⟩ := pkOk_nat hok
      refine (refAppend_ok z L A n c leaf W (by omega) hok h hf (by omega) ht.k).mono ?_
      rintro e w' ⟨A', n', c', rfl, h1, h2⟩
      exact ⟨A', n', c', rfl, h1, h2⟩
  · rw [if_neg hok, if_neg hok, if_neg hok]
    exact (refAppend_no s A n c leaf W (by simpa using hok)).mono fun e w' h => ⟨none, 0, 0, h.1, dv_nil _, h.2⟩
theorem last_of (h : DV W A n c L) (hn : 0 < n) : ∃ d, L[n - 1]? = some d ∧ L.getD (n - 1) z16 = d ∧ L.dropLast = L.take (n - 1) := by
  obtain ⟨d, hd⟩ : ∃ d, L[n - 1]? = some d := ⟨_, List.getElem?_eq_getElem (by rw [← h.len]; omega)⟩
  exact ⟨d, hd, by rw [List.getD_eq_getElem?_getD, hd]; rfl, by rw [List.dropLast_eq_take, h.len]⟩
theorem top_all (h : DV W A n c L) (hl : n ≤ 50) (ht : Tbs W) (s : Int) (D : List UInt8) (E : Nat) (hD : D = topD s L) (hE : E = topE s n) :
    Calls Tryd.prog 26 #[pkv s A n c] W fun e w' => e = .returned (.tuple #[av D, .int .i64 E]) ∧ Below W.heap.size W w' := by
  subst hD hE
  unfold topD topE
  rw [← h.len]
  by_cases hok : pkOk s n = true
  · rw [if_pos hok, if_pos hok]
    obtain ⟨z, rfl, hz⟩ := pkOk_nat hok
    have hpop := (pkOk_pop hok).2
    by_cases h0 : z = 0
    · subst h0
      obtain rfl : n = 0 := by rw [hpop, pop_zero]
      rw [if_pos (show ((0 : Nat) : Int) = 0 from rfl)]
      exact top_zero A c W ht.r
    · rw [if_neg (by omega)]
      have hn : 0 < n := by rw [hpop]; exact pop_pos' z z (Nat.le_refl _) (by omega)
      obtain ⟨d, hd, hg, hdl⟩ := last_of h hn
      rw [hg, hdl]
      exact top_pos z L A n (n - 1) c d W (by omega) hok h.len (by omega) h.d16 hd h.rd h.cap (by omega) ht.r
  · rw [if_neg hok, if_neg hok]
    exact top_no s A n c W (by simpa using hok)
theorem rtop_all (h : DV W A n c L) (hl : n ≤ 50) (ht : Tbs W) (s : Int) (D : List UInt8) (E : Nat) (hD : D = topD s L) (hE : E = topE s n) :
    Calls Tryd.prog 28 #[pkv s A n c] W fun e w' => e = .returned (.agg (tpv D E).toArray) ∧ Below W.heap.size W w' := by
  subst hD hE
  unfold topD topE
  rw [← h.len]
  by_cases hok : pkOk s n = true
  · rw [if_pos hok, if_pos hok]
    obtain ⟨z, rfl, hz⟩ := pkOk_nat hok
    have hpop := (pkOk_pop hok).2
    by_cases h0 : z = 0
    · subst h0
      obtain rfl : n = 0 := by rw [hpop, pop_zero]
      rw [if_pos (show ((0 : Nat) : Int) = 0 from rfl)]
      exact refTop_zero A c W ht.k
    · rw [if_neg (by omega)]
      have hn : 0 < n := by rw [hpop]; exact pop_pos' z z (Nat.le_refl _) (by omega)
      obtain ⟨d, hd, hg, hdl⟩ := last_of h hn
      rw [hg, hdl]
      exact refTop_pos z L A n (n - 1) c d W (by omega) hok h.len (by omega) h.d16 hd h.rd (by omega) ht.k
  · rw [if_neg hok, if_neg hok]
    exact refTop_no s A n c W (by simpa using hok)
end
theorem tpv_take (D : List UInt8) (E : Nat) : ((tpv D E).drop 0).take (D.map bv).length = D.map bv := by
  unfold tpv
  rw [List.drop_zero, List.take_append_of_le_length (Nat.le_refl _), List.take_of_length_le (Nat.le_refl _)]
theorem tpv_at {D : List UInt8} (h : D.length = 16) (E : Nat) : (tpv D E)[16]? = some (.int .i64 E) := by
  unfold tpv
  rw [List.getElem?_append_right (by simp [h])]
  simp [h]

set_option maxRecDepth 100000 in
set_option maxHeartbeats 8000000 in
theorem walk_pspec (s : Int) (A0 : Option Addr) (n0 c0 : Nat) (L : List (List UInt8)) (l : List UInt8) (w : World) (hs : Wm.Fits s) (H0 : DV w A0 n0 c0 L) (hl16 : l.length = 16) (ht : Tbs w) :
    Calls Tryd.prog 5 #[pkv s A0 n0 c0, av l] w fun e w' => e = .returned (.bool true) ∧ Below w.heap.size w w' := by
  obtain ⟨pd, hpd, hpr⟩ := row_peaks
  have hpd' := Lib.hid hpd
  clear hpd
  have zl : Hid (l.length = 16) := hl16
  have ll : Hid ((l.map bv).length = 16) := by show _ = _; rw [List.length_map, zl.out]
  have sl := Lib.hid (size_dig16 (l.map bv) ll.out)
  have ol := av_one l
  obtain ⟨W2, hW2⟩ : ∃ W2, W2 = (w.alloc (.cells #[.int .i64 s, .slice A0 n0 c0] 43)).alloc (.cells (l.map bv).toArray 31) := ⟨_, rfl⟩
  have E : Hid (Below w.heap.size w W2) := by show Below _ _ _; rw [hW2]; exact ((Below.refl _ _).alloc (Nat.le_refl _) _).alloc (by simp) _
  have BL : Hid (Blk W2 (w.heap.size + 1) (l.map bv) 31) := by show Blk _ _ _ _; rw [hW2]; exact (Blk.new _ _ _).at (by simp)
  have BP : Hid (Blk W2 w.heap.size [.int .i64 s, .slice A0 n0 c0] 43) := by show Blk _ _ _ _; rw [hW2]; exact (Blk.new _ [_, _] _).alloc _
  have R0 := Lib.hid (H0.keep E.out)
  have T := Lib.hid (ht.keep E.out)
  have SA := Lib.hid (fun W (h : Tbs W) => sanity_any3 W h)
  have c1 : W2.cell? ⟨w.heap.size, 1, none⟩ = some (.slice A0 n0 c0) := BP.out.cell (j := 1) rfl
  have hW2' := Lib.hid hW2
  obtain ⟨S, hS⟩ : ∃ S, S = apS s n0 := ⟨_, rfl⟩
  obtain ⟨fe, hfe⟩ : ∃ E, E = apE s n0 := ⟨_, rfl⟩
  obtain ⟨Q, hQ⟩ : ∃ Q, Q = apQ s L l := ⟨_, rfl⟩
  obtain ⟨d, hD⟩ : ∃ D, D = topD s L := ⟨_, rfl⟩
  obtain ⟨ge, hge⟩ : ∃ E, E = topE s n0 := ⟨_, rfl⟩
  have zd : Hid (d.length = 16) := (by show _ = _; rw [hD]; exact topD_16 H0.d16 s)
  have ld : Hid ((d.map bv).length = 16) := by show _ = _; rw [List.length_map, zd.out]
  have sd := Lib.hid (size_dig16 (d.map bv) ld.out)
  have od := av_one d
  have hQl : Hid (Q.length ≤ 1000 ∨ 50 < n0) := by
    show _ ∨ _
    by_cases h : 50 < n0
    · exact .inr h
    · left
      have := apQ_len (L := L) s l
      rw [hQ]
      rw [← H0.len] at this
      omega
  have HA := Lib.hid (fun W (hn : n0 ≤ 50) (h : DV W A0 n0 c0 L) (ht : Tbs W) => append_all h hn ht s l hl16 S fe Q hS hfe hQ)
  have RA := Lib.hid (fun W (hn : n0 ≤ 50) (h : DV W A0 n0 c0 L) (ht : Tbs W) => rappend_all h hn ht s l hl16 S fe Q hS hfe hQ)
  have HT := Lib.hid (fun W (hn : n0 ≤ 50) (h : DV W A0 n0 c0 L) (ht : Tbs W) => top_all h hn ht s d ge hD hge)
  have RT := Lib.hid (fun W (hn : n0 ≤ 50) (h : DV W A0 n0 c0 L) (ht : Tbs W) => rtop_all h hn ht s d ge hD hge)
  have SM := Lib.hid (fun W A n c' A' n' c'' (Q : List (List UInt8)) (h : DV W A n c' Q) (h' : DV W A' n' c'' Q) (hl : n ≤ 1000000) => same_v h h' hl true (by simp))
  unfold pkv av at HA RA HT
  unfold pkv at RT
  unfold pkv av
  clear hW2 H0 ht hS hfe hQ hD hge hl16
  go_enter Tryd.func5, Tryd.ntmps5
  go_upto_region 1 with fail
  generalize hg : (w.alloc _).alloc _ = Wg
  have hgW : W2 = Wg := by rw [← hg, hW2'.out]
  clear hg hW2'
  subst hgW
  by_cases hb0 : 50 < n0
  · have t0 : (50 : Int) < (n0 : Int) := by omega
    clear hb0
    go_wp2_with fail
    refine (SA.out _ T.out).mono ?_
    rintro e v1 ⟨rfl, hb⟩
    replace E := Lib.hid (E.out.trans (hb.mono E.out.size))
    replace T := Lib.hid (T.out.keep hb)
    clear hb
    go_wp2_with fail
    go_ret
    exact ⟨by first | rfl | (go_simp; done), E.out⟩
  have t0 : ¬ (50 : Int) < (n0 : Int) := by omega
  have hn0 : Hid (n0 ≤ 50) := by show _ ≤ _; omega
  have hQ6 : Hid (Q.length ≤ 1000000) := by
    show _ ≤ _
    rcases hQl.out with h | h
    · omega
    · exact absurd h hb0
  clear hb0 hQl
  go_wp2_with (first | (refine wpList_blk_load rfl 43 _ rfl 0 rfl BP.out [.int .i64 s, .slice A0 n0 c0] (take_all0 _) pd hpd'.out hpr size_peaks ?_) | (refine wpList_blk_load rfl 31 _ rfl 0 rfl BL.out (l.map bv) (take_all0 _) (.array 16 5) arr_dig rfl sl.out ?_))
  clear c1
  refine (HA.out _ hn0.out R0.out T.out).mono ?_
  rintro e v1 ⟨Aq, nq, cq, rfl, h0, hb⟩
  have Rq := Lib.hid h0
  clear h0
  replace BP := Lib.hid (BP.out.below hb BP.out.lt)
  replace BL := Lib.hid (BL.out.below hb BL.out.lt)
  replace R0 := Lib.hid (R0.out.keep hb)
  replace E := Lib.hid (E.out.trans (hb.mono E.out.size))
  replace T := Lib.hid (T.out.keep hb)
  clear hb
  go_upto_region 4 with fail
  generalize hgu : v1.alloc _ = u1
  have hb : Below v1.heap.size v1 u1 := by rw [← hgu]; exact (Below.refl _ _).alloc (Nat.le_refl _) _
  have Bq : Hid (Blk u1 v1.heap.size [.int .i64 S, .slice Aq nq cq] 43) := by rw [← hgu]; exact Blk.new _ [.int .i64 S, .slice Aq nq cq] _
  clear hgu
  replace BP := Lib.hid (BP.out.below hb BP.out.lt)
  replace BL := Lib.hid (BL.out.below hb BL.out.lt)
  replace R0 := Lib.hid (R0.out.keep hb)
  replace Rq := Lib.hid (Rq.out.keep hb)
  replace E := Lib.hid (E.out.trans (hb.mono E.out.size))
  replace T := Lib.hid (T.out.keep hb)
  clear hb
  obtain ⟨gBq, hgBq⟩ : ∃ g, g = v1.heap.size := ⟨_, rfl⟩
  rw [← hgBq] at Bq ⊢
  clear hgBq
  go_wp2_with (refine wpList_blk_load rfl 43 _ rfl 0 rfl BP.out [.int .i64 s, .slice A0 n0 c0] (take_all0 _) pd hpd'.out hpr size_peaks ?_)
  refine (HT.out _ hn0.out R0.out T.out).mono ?_
  rintro e v2 ⟨rfl, hb⟩
  replace BP := Lib.hid (BP.out.below hb BP.out.lt)
  replace BL := Lib.hid (BL.out.below hb BL.out.lt)
  replace Bq := Lib.hid (Bq.out.below hb Bq.out.lt)
  replace R0 := Lib.hid (R0.out.keep hb)
  replace Rq := Lib.hid (Rq.out.keep hb)
  replace E := Lib.hid (E.out.trans (hb.mono E.out.size))
  replace T := Lib.hid (T.out.keep hb)
  clear hb
  go_upto_region 5 with (refine wpList_row_store rfl 31 _ _ rfl (d.map bv) rfl rfl (Blk.new v2 (bz 16) 31) sd.out (by rw [ld.out]; rfl) od ?_; intro u2 hu2 ho2)
  have hb : Below v2.heap.size v2 u2 := ((Below.refl _ _).alloc (Nat.le_refl _) _).trans (ho2.below (Nat.le_refl _))
  have Bd : Hid (Blk u2 v2.heap.size (d.map bv) 31) := hu2
  clear hu2 ho2
  replace BP := Lib.hid (BP.out.below hb BP.out.lt)
  replace BL := Lib.hid (BL.out.below hb BL.out.lt)
  replace Bq := Lib.hid (Bq.out.below hb Bq.out.lt)
  replace R0 := Lib.hid (R0.out.keep hb)
  replace Rq := Lib.hid (Rq.out.keep hb)
  replace E := Lib.hid (E.out.trans (hb.mono E.out.size))
  replace T := Lib.hid (T.out.keep hb)
  clear hb
  obtain ⟨gBd, hgBd⟩ : ∃ g, g = v2.heap.size := ⟨_, rfl⟩
  rw [← hgBd] at Bd ⊢
  clear hgBd
  go_wp2_with (first | (refine wpList_blk_load rfl 43 _ rfl 0 rfl BP.out [.int .i64 s, .slice A0 n0 c0] (take_all0 _) pd hpd'.out hpr size_peaks ?_) | (refine wpList_blk_load rfl 31 _ rfl 0 rfl BL.out (l.map bv) (take_all0 _) (.array 16 5) arr_dig rfl sl.out ?_))
  refine (RA.out _ hn0.out R0.out T.out).mono ?_
  rintro e v3 ⟨Ag, ng, cg, rfl, h0, hb⟩
  have Rg := Lib.hid h0
  clear h0
  replace BP := Lib.hid (BP.out.below hb BP.out.lt)
  replace BL := Lib.hid (BL.out.below hb BL.out.lt)
  replace Bq := Lib.hid (Bq.out.below hb Bq.out.lt)
  replace Bd := Lib.hid (Bd.out.below hb Bd.out.lt)
  replace R0 := Lib.hid (R0.out.keep hb)
  replace Rq := Lib.hid (Rq.out.keep hb)
  replace E := Lib.hid (E.out.trans (hb.mono E.out.size))
  replace T := Lib.hid (T.out.keep hb)
  clear hb
  go_upto_region 6 with fail
  generalize hgu : v3.alloc _ = u3
  have hb : Below v3.heap.size v3 u3 := by rw [← hgu]; exact (Below.refl _ _).alloc (Nat.le_refl _) _
  have Bg : Hid (Blk u3 v3.heap.size [.int .i64 S, .slice Ag ng cg, .int .i64 fe] 49) := by rw [← hgu]; exact Blk.new _ [.int .i64 S, .slice Ag ng cg, .int .i64 fe] _
  clear hgu
  replace BP := Lib.hid (BP.out.below hb BP.out.lt)
  replace BL := Lib.hid (BL.out.below hb BL.out.lt)
  replace Bq := Lib.hid (Bq.out.below hb Bq.out.lt)
  replace Bd := Lib.hid (Bd.out.below hb Bd.out.lt)
  replace R0 := Lib.hid (R0.out.keep hb)
  replace Rq := Lib.hid (Rq.out.keep hb)
  replace Rg := Lib.hid (Rg.out.keep hb)
  replace E := Lib.hid (E.out.trans (hb.mono E.out.size))
  replace T := Lib.hid (T.out.keep hb)
  clear hb
  obtain ⟨gBg, hgBg⟩ : ∃ g, g = v3.heap.size := ⟨_, rfl⟩
  rw [← hgBg] at Bg ⊢
  clear hgBg
  go_wp2_with (refine wpList_blk_load rfl 43 _ rfl 0 rfl BP.out [.int .i64 s, .slice A0 n0 c0] (take_all0 _) pd hpd'.out hpr size_peaks ?_)
  refine (RT.out _ hn0.out R0.out T.out).mono ?_
  rintro e v4 ⟨rfl, hb⟩
  replace BP := Lib.hid (BP.out.below hb BP.out.lt)
  replace BL := Lib.hid (BL.out.below hb BL.out.lt)
  replace Bq := Lib.hid (Bq.out.below hb Bq.out.lt)
  replace Bd := Lib.hid (Bd.out.below hb Bd.out.lt)
  replace Bg := Lib.hid (Bg.out.below hb Bg.out.lt)
  replace R0 := Lib.hid (R0.out.keep hb)
  replace Rq := Lib.hid (Rq.out.keep hb)
  replace Rg := Lib.hid (Rg.out.keep hb)
  replace E := Lib.hid (E.out.trans (hb.mono E.out.size))
  replace T := Lib.hid (T.out.keep hb)
  clear hb
  have h17 : Hid ((tpv d ge).length = 17) := by show _ = _; exact tpv_len zd.out ge
  go_upto_region 7 with (refine wpList_row_store rfl 52 _ _ rfl (tpv d ge) rfl rfl (Blk.new v4 (tpv z16 0) 52) (by rw [h17.out]; exact size_topped) (by rw [h17.out]; rfl) (tpv_one d ge) ?_; intro u4 hu4 ho4)
  have hb : Below v4.heap.size v4 u4 := ((Below.refl _ _).alloc (Nat.le_refl _) _).trans (ho4.below (Nat.le_refl _))
  have Bt : Hid (Blk u4 v4.heap.size (tpv d ge) 52) := hu4
  clear hu4 ho4
  replace BP := Lib.hid (BP.out.below hb BP.out.lt)
  replace BL := Lib.hid (BL.out.below hb BL.out.lt)
  replace Bq := Lib.hid (Bq.out.below hb Bq.out.lt)
  replace Bd := Lib.hid (Bd.out.below hb Bd.out.lt)
  replace Bg := Lib.hid (Bg.out.below hb Bg.out.lt)
  replace R0 := Lib.hid (R0.out.keep hb)
  replace Rq := Lib.hid (Rq.out.keep hb)
  replace Rg := Lib.hid (Rg.out.keep hb)
  replace E := Lib.hid (E.out.trans (hb.mono E.out.size))
  replace T := Lib.hid (T.out.keep hb)
  clear hb
  obtain ⟨gBt, hgBt⟩ : ∃ g, g = v4.heap.size := ⟨_, rfl⟩
  rw [← hgBt] at Bt ⊢
  clear hgBt
  have e1 : (S == S) = true := by simp
  have e2 : (fe == fe) = true := by simp
  have e3 : ((ge : Int) == (ge : Int)) = true := by simp
  have hat := Lib.hid (tpv_at zd.out ge)
  go_wp2_with fail
  refine (SA.out _ T.out).mono ?_
  rintro e v5 ⟨rfl, hb⟩
  replace BP := Lib.hid (BP.out.below hb BP.out.lt)
  replace BL := Lib.hid (BL.out.below hb BL.out.lt)
  replace Bq := Lib.hid (Bq.out.below hb Bq.out.lt)
  replace Bd := Lib.hid (Bd.out.below hb Bd.out.lt)
  replace Bg := Lib.hid (Bg.out.below hb Bg.out.lt)
  replace Bt := Lib.hid (Bt.out.below hb Bt.out.lt)
  replace R0 := Lib.hid (R0.out.keep hb)
  replace Rq := Lib.hid (Rq.out.keep hb)
  replace Rg := Lib.hid (Rg.out.keep hb)
  replace E := Lib.hid (E.out.trans (hb.mono E.out.size))
  replace T := Lib.hid (T.out.keep hb)
  clear hb
  have qq0 : v5.cell? ⟨gBq, 0, none⟩ = some (.int .i64 S) := Bq.out.cell (j := 0) rfl
  have qq1 : v5.cell? ⟨gBq, 1, none⟩ = some (.slice Aq nq cq) := Bq.out.cell (j := 1) rfl
  have qg0 : v5.cell? ⟨gBg, 0, none⟩ = some (.int .i64 S) := Bg.out.cell (j := 0) rfl
  have qg1 : v5.cell? ⟨gBg, 1, none⟩ = some (.slice Ag ng cg) := Bg.out.cell (j := 1) rfl
  have qg2 : v5.cell? ⟨gBg, 2, none⟩ = some (.int .i64 fe) := Bg.out.cell (j := 2) rfl
  have qt16 : v5.cell? ⟨gBt, 16, none⟩ = some (.int .i64 ge) := Bt.out.cell (j := 16) hat.out
  go_wp2_with fail
  refine (SM.out _ _ _ _ _ _ _ Q Rq.out Rg.out (by rw [Rq.out.len]; exact hQ6.out)).mono ?_
  rintro e v6 ⟨rfl, hb⟩
  replace BP := Lib.hid (BP.out.below hb BP.out.lt)
  replace BL := Lib.hid (BL.out.below hb BL.out.lt)
  replace Bq := Lib.hid (Bq.out.below hb Bq.out.lt)
  replace Bd := Lib.hid (Bd.out.below hb Bd.out.lt)
  replace Bg := Lib.hid (Bg.out.below hb Bg.out.lt)
  replace Bt := Lib.hid (Bt.out.below hb Bt.out.lt)
  replace R0 := Lib.hid (R0.out.keep hb)
  replace Rq := Lib.hid (Rq.out.keep hb)
  replace Rg := Lib.hid (Rg.out.keep hb)
  replace E := Lib.hid (E.out.trans (hb.mono E.out.size))
  replace T := Lib.hid (T.out.keep hb)
  clear hb
  clear qq0 qq1 qg0 qg1 qg2 qt16
  have qq0 : v6.cell? ⟨gBq, 0, none⟩ = some (.int .i64 S) := Bq.out.cell (j := 0) rfl
  have qq1 : v6.cell? ⟨gBq, 1, none⟩ = some (.slice Aq nq cq) := Bq.out.cell (j := 1) rfl
  have qg0 : v6.cell? ⟨gBg, 0, none⟩ = some (.int .i64 S) := Bg.out.cell (j := 0) rfl
  have qg1 : v6.cell? ⟨gBg, 1, none⟩ = some (.slice Ag ng cg) := Bg.out.cell (j := 1) rfl
  have qg2 : v6.cell? ⟨gBg, 2, none⟩ = some (.int .i64 fe) := Bg.out.cell (j := 2) rfl
  have qt16 : v6.cell? ⟨gBt, 16, none⟩ = some (.int .i64 ge) := Bt.out.cell (j := 16) hat.out
  go_wp2_with (first | (refine wpList_blk_loadW (by rfl) 31 _ rfl 0 rfl Bd.out (d.map bv) (take_all0 _) (.array 16 5) arr_dig rfl sd.out ?_) | (refine wpList_blk_loadW (by rfl) 31 _ rfl 0 rfl Bt.out (d.map bv) (tpv_take d ge) (.array 16 5) arr_dig rfl sd.out ?_) | (refine wpList_eql_bytes (by rfl) 31 _ _ _ rfl 16 arr_dig (by kernel_rfl) d d zd.out zd.out rfl rfl true (by simp) ?_))
  go_ret
  exact ⟨by first | rfl | (go_simp; done), E.out⟩
end Go.Proofs.YtdikbglemgoocaaDoor
