/-
  The contract of the specification's walk. (Written by tools/genrw.py.)
-/
import Derived.Test.YtlgokfgiemaklaaDoorRmw
namespace Go.Proofs.YtlgokfgiemaklaaDoor
set_option linter.unusedVariables false
set_option linter.unusedSimpArgs false
open Go.RowKit

theorem dv_rest {W : World} {A : Option Addr} {n c k : Nat} {L : List (List UInt8)} (h : DV W A n c L) (hk : k ≤ n) : DV W (if c = k then A else A.map (fun a => a.add (k * 16))) (n - k) (c - k) (L.drop k) := by
  have hl := h.len
  have hc := h.cap
  have hm := h.max
  by_cases e : c = k
  · rw [if_pos e]
    have e2 : L.drop k = [] := List.drop_eq_nil_of_le (by omega)
    rw [e2]
    exact ⟨by simp; omega, by have : flat ([] : List (List UInt8)) = [] := rfl; unfold Dg; rw [this]; exact Rds.empty, by omega, by omega, fun _ => by omega, d16_nil⟩
  · rw [if_neg e]
    cases A with
    | none => have := h.nil rfl; omega
    | some ad => exact dv_drop h hk
theorem wk_sum (D : List UInt8) (hD : D.length = 16) (f1 f2 p1 p2 : Nat) (g : Bool) : Instr.fill wkPl (wkv z16 0 0 false).toArray [(0, .agg (D.map bv).toArray), (1, .int .i64 ((f1 : Int) + (f2 : Int))), (2, .int .i64 ((p1 : Int) + (p2 : Int))), (3, .bool g)] = some (wkv D (f1 + f2) (p1 + p2) g).toArray := by
  rw [← Int.natCast_add, ← Int.natCast_add]
  exact wk_a D hD (f1 + f2) (p1 + p2) g
theorem wkv_dig {D : List UInt8} (h : D.length = 16) (f p : Nat) (g : Bool) : ((wkv D f p g).drop 0).take (D.map bv).length = D.map bv := by
  rw [List.drop_zero]; unfold wkv; rw [List.take_left']; rfl
theorem wkv_f {D : List UInt8} (h : D.length = 16) (f p : Nat) (g : Bool) : (wkv D f p g)[16]? = some (.int .i64 f) := by unfold wkv; rw [List.getElem?_append_right (by rw [List.length_map, h]; omega)]; simp [h]
theorem wkv_p {D : List UInt8} (h : D.length = 16) (f p : Nat) (g : Bool) : (wkv D f p g)[17]? = some (.int .i64 p) := by unfold wkv; rw [List.getElem?_append_right (by rw [List.length_map, h]; omega)]; simp [h]
theorem wkv_g {D : List UInt8} (h : D.length = 16) (f p : Nat) (g : Bool) : (wkv D f p g)[18]? = some (.bool g) := by unfold wkv; rw [List.getElem?_append_right (by rw [List.length_map, h]; omega)]; simp [h]
theorem at_first {W : World} {A : Option Addr} {n c : Nat} {L : List (List UInt8)} (h : DV W A n c L) (hn : 0 < n) : ∃ ad d, A = some ad ∧ L[0]? = some d ∧ d.length = 16 := by
  have hl := h.len
  obtain ⟨ad, he, _, h16, _⟩ := h.rd.at h.d16 (k := 0) (d := nx L 0) (by
    unfold nx
    rw [List.getD_eq_getElem?_getD, List.getElem?_eq_getElem (by omega)]; rfl)
  exact ⟨ad, nx L 0, he, by unfold nx; rw [List.getD_eq_getElem?_getD, List.getElem?_eq_getElem (by omega)]; rfl, h16⟩
theorem first_cells {W : World} {ad : Addr} {n c : Nat} {L : List (List UInt8)} {d : List UInt8} (h : DV W (some ad) n c L) (hd : L[0]? = some d) : ∀ j v, (d.map bv)[j]? = some v → W.cell? (ad.add j) = some v := fun j v hv => by
  obtain ⟨ad', he, _, _, hcc⟩ := h.rd.at h.d16 hd
  injection he with he
  subst he
  have := hcc j v hv
  rw [show ad.add (0 * 16) = ad from by unfold Addr.add; simp] at this
  exact this
structure S13 (gK g1 g2 : Nat) (w : World) (C1 C2 : List Value) (t : TypeId) (W : World) : Prop where
  bl : Below gK w W
  c1 : Blk W g1 C1 t
  c2 : Blk W g2 C2 t
set_option maxRecDepth 100000 in
set_option maxHeartbeats 16000000 in
theorem refWalk_up (N : Nat) : ∀ (o n np nf nq pc fc qc : Nat) (ps qs : List Int) (Fd Q : List (List UInt8)) (PA FA QA : Option Addr) (w : World), n ≤ N → 1 ≤ n → o + n ≤ 1099511627776 → IV w PA np pc ps → np ≤ 1000 → Asc ps → qs = wth (o : Int) ((o : Int) + (n : Int)) ps → DV w FA nf fc Fd → DV w QA nq qc Q → nf ≤ 1000 → nq ≤ 1000 → qs.length ≤ nf → Tbs w →
    Calls Tryd.prog 50 #[.int .i64 o, .int .i64 n, .slice PA np pc, .slice FA nf fc, .slice QA nq qc] w fun e w' => (∃ D f p g, e = .returned (.agg (wkv D f p g).toArray) ∧ WR Q qs.length (wlk Q o n qs (Fd.take qs.length) 0) D f p g) ∧ Below w.heap.size w w' := by
  induction N with
  | zero => intro o n np nf nq pc fc qc ps qs Fd Q PA FA QA w hl h1; omega
  | succ N ih =>
    intro o n np nf nq pc fc qc ps qs Fd Q PA FA QA w hl h1 h40 hP hp3 hasc hqs hF hQ hf3 hq3 hqf ht
    have hqa : Asc qs := by rw [hqs]; exact wth_asc hasc
    have hqi : ∀ p ∈ qs, (o : Int) ≤ p ∧ p < (o : Int) + (n : Int) := by rw [hqs]; exact wth_in
    have HW := Lib.hid (fun W (h : IV W PA np pc ps) => within_v h (by omega) (o : Int) ((o : Int) + (n : Int)) qs hqs)
    obtain ⟨dd, hdu, hdr⟩ := row_wk
    have hdu' := Lib.hid hdu
    obtain ⟨W1, hW1⟩ : ∃ W1, W1 = w.alloc (.cells (wkv z16 0 0 false).toArray 85) := ⟨_, rfl⟩
    have E : Hid (Below w.heap.size w W1) := by show Below _ _ _; rw [hW1]; exact (Below.refl _ _).alloc (Nat.le_refl _) _
    have BK : Hid (Blk W1 w.heap.size (wkv z16 0 0 false) 85) := by show Blk _ _ _ _; rw [hW1]; exact Blk.new _ _ _
    have RP := Lib.hid (hP.keep E.out)
    have RF := Lib.hid (hF.keep E.out)
    have RQ := Lib.hid (hQ.keep E.out)
    have T := Lib.hid (ht.keep E.out)
    have hW1' := Lib.hid hW1
    have hlN := Lib.hid hl
    have hqfH := Lib.hid hqf
    obtain ⟨gK, hgK⟩ : ∃ g, g = w.heap.size := ⟨_, rfl⟩
    have hgK' := Lib.hid hgK
    rw [← hgK] at BK
    have TW : Hid (∀ W, Below gK w W → Tbs W) := fun W h => ht.keep (by rw [← hgK]; exact h)
    obtain ⟨RR, hRR⟩ : ∃ R : List UInt8 → Nat → Nat → Bool → Prop, R = WR Q qs.length (wlk Q o n qs (Fd.take qs.length) 0) := ⟨_, rfl⟩
    rw [← hRR]
    have hRR' := Lib.hid hRR
    have hz16 : Hid (z16.length = 16) := rfl
    have hFl := Lib.hid hF.len
    have hQl := Lib.hid hQ.len
    clear hW1 hdu hP hF hQ ht hl hqs hqf hgK hRR hasc
    go_enter Tryd.func50, Tryd.ntmps50
    go_upto_region 1 with fail
    generalize hg : w.alloc _ = Wg
    have hgW : W1 = Wg := by rw [← hg, hW1'.out]; rfl
    clear hg hW1'
    subst hgW
    rw [← hgK'.out]
    go_wp2_with fail
    refine (HW.out _ RP.out).mono ?_
    rintro e v1 ⟨SA, ns, sc, rfl, h0, hb⟩
    have RS := Lib.hid h0
    clear h0
    replace BK := Lib.hid (BK.out.below hb BK.out.lt)
    replace RP := Lib.hid (RP.out.keep hb)
    replace RF := Lib.hid (RF.out.keep hb)
    replace RQ := Lib.hid (RQ.out.keep hb)
    replace E := Lib.hid (E.out.trans (hb.mono E.out.size))
    replace T := Lib.hid (T.out.keep hb)
    clear hb
    clear RP HW
    have hns := Lib.hid RS.out.len
    have hns3 : ns ≤ 1000 := by have := hns.out; have := hqfH.out; omega
    by_cases h0 : qs = []
    · have z0 : ns = 0 := by rw [hns.out, h0]; rfl
      subst z0
      subst h0
      by_cases hq0 : nq = 0
      · have hQ0 : Q = [] := List.eq_nil_of_length_eq_zero (by have := hQl.out; omega)
        subst hQ0
        subst hq0
        have hfin : Hid (RR z16 0 0 false) := by show RR _ _ _ _; rw [hRR'.out]; exact WR.none o n _
        clear hqa hqi ih hRR' hQl
        go_wp2_with (first | (refine step_wk rfl _ rfl (wkv z16 0 0 false) rfl ?_) | (refine wpList_row_store rfl 85 _ _ rfl (wkv z16 0 0 false) rfl rfl BK.out (size_wk hz16.out _ _ _) ((wkv_len hz16.out _ _ _).trans (wkv_len hz16.out _ _ _).symm) (wkv_one _ _ _ _) ?_; intro w9 hW9 ho9))
        exact bodyPost_ret (ret_blk rfl _ w9 (g := gK) rfl hW9.out dd hdu'.out hdr (size_wk hz16.out _ _ _)) rfl ⟨⟨_, _, _, _, rfl, hfin.out⟩, E.out.trans (ho9.below (by have := hgK'.out; omega))⟩
      · have zq : ((nq : Int) == 0) = false := by simp; omega
        have zq1 : (0 : Int) < (nq : Int) := by omega
        obtain ⟨ad, d, hA, hd0, hd16⟩ := at_first RQ.out (by omega)
        subst hA
        have hcd := Lib.hid (first_cells RQ.out hd0)
        have hds := Lib.hid (size_dig16 (d.map bv) (by rw [List.length_map, hd16]))
        have zd : Hid (d.length = 16) := hd16
        have hfin : Hid (RR d 0 1 true) := by show RR _ _ _ _; rw [hRR'.out]; exact WR.path o n _ d Q hd16 hd0
        clear hqa hqi ih hRR' hQl hd0 hd16 hq0
        go_wp2_with (first | (refine wpList_load_arr rfl 31 _ rfl ad rfl (d.map bv) 16 5 hcd.out arr_dig hds.out ?_) | (first | (refine step_wk rfl _ rfl (wkv d 0 1 true) (wk_p d zd.out) ?_) | (refine wpList_row_store rfl 85 _ _ rfl (wkv d 0 1 true) rfl rfl BK.out (size_wk zd.out _ _ _) ((wkv_len zd.out _ _ _).trans (wkv_len hz16.out _ _ _).symm) (wkv_one _ _ _ _) ?_; intro w9 hW9 ho9)))
        exact bodyPost_ret (ret_blk rfl _ w9 (g := gK) rfl hW9.out dd hdu'.out hdr (size_wk zd.out _ _ _)) rfl ⟨⟨_, _, _, _, rfl, hfin.out⟩, E.out.trans (ho9.below (by have := hgK'.out; omega))⟩
    have hql : 0 < qs.length := List.length_pos_iff.2 h0
    have z0 : ((ns : Int) == 0) = false := by have := hns.out; simp; omega
    obtain ⟨fd, d, hA, hd0, hd16⟩ := at_first RF.out (by have := hqfH.out; omega)
    subst hA
    by_cases hn1 : n = 1
    · subst hn1
      have zf1 : (0 : Int) < (nf : Int) := by have := hqfH.out; omega
      have hcd := Lib.hid (first_cells RF.out hd0)
      have hds := Lib.hid (size_dig16 (d.map bv) (by rw [List.length_map, hd16]))
      have zd : Hid (d.length = 16) := hd16
      have hfin : Hid (RR d 1 0 true) := by
        show RR _ _ _ _
        rw [hRR'.out]
        exact WR.found o qs Fd d Q hd16 (asc_one hqa hqi h0) hd0
      clear hqa hqi ih hRR' hQl hd0 hd16 hql h0
      go_wp2_with (first | (refine wpList_load_arr rfl 31 _ rfl fd rfl (d.map bv) 16 5 hcd.out arr_dig hds.out ?_) | (first | (refine step_wk rfl _ rfl (wkv d 1 0 true) (wk_f d zd.out) ?_) | (refine wpList_row_store rfl 85 _ _ rfl (wkv d 1 0 true) rfl rfl BK.out (size_wk zd.out _ _ _) ((wkv_len zd.out _ _ _).trans (wkv_len hz16.out _ _ _).symm) (wkv_one _ _ _ _) ?_; intro w9 hW9 ho9)))
      exact bodyPost_ret (ret_blk rfl _ w9 (g := gK) rfl hW9.out dd hdu'.out hdr (size_wk zd.out _ _ _)) rfl ⟨⟨_, _, _, _, rfl, hfin.out⟩, E.out.trans (ho9.below (by have := hgK'.out; omega))⟩
    clear hd0 hd16 d
    have zn : ((n : Int) == 1) = false := by simp; omega
    have hn2 : 2 ≤ n := by omega
    obtain ⟨k, hk⟩ : ∃ k, k = Mk.ksz n := ⟨_, rfl⟩
    have hkn : k < n := by rw [hk]; exact Mk.ksz_lt hn2
    have hkp : 0 < k := by rw [hk]; exact Mk.ksz_pos _
    have HS := Lib.hid (fun W => split_any n W hn2 (by omega))
    rw [← hk] at HS
    obtain ⟨b, hb0⟩ : ∃ b, b = bel qs (((o + k : Nat)) : Int) := ⟨_, rfl⟩
    have hbl : b ≤ qs.length := by rw [hb0]; exact bel_le _ _
    obtain ⟨q1, hq1⟩ : ∃ q, q = qs.take b := ⟨_, rfl⟩
    obtain ⟨q2, hq2⟩ : ∃ q, q = qs.drop b := ⟨_, rfl⟩
    have w1 : q1 = wth (o : Int) ((o : Int) + (k : Int)) qs := by
      rw [hq1, hb0, wth_take hqa (fun p hp => (hqi p hp).1), Int.natCast_add]
    have w2 : q2 = wth (((o + k : Nat)) : Int) ((((o + k : Nat)) : Int) + ((n - k : Nat) : Int)) qs := by
      rw [hq2, hb0]
      exact (wth_drop hqa (fun p hp => by have := (hqi p hp).2; omega)).symm
    have l1 : q1.length = b := by rw [hq1, List.length_take]; omega
    have l2 : q2.length = qs.length - b := by rw [hq2, List.length_drop]
    have hl := hlN.out
    have hqf := hqfH.out
    have I1 := Lib.hid (fun W (hs : IV W SA ns sc qs) (hf : DV W (some fd) nf fc Fd) (hq : DV W QA nq qc Q) (ht : Tbs W) => ih o k ns nf nq sc fc qc qs q1 Fd Q SA (some fd) QA W (by omega) hkp (by omega) hs hns3 hqa w1 hf hq hf3 hq3 (by omega) ht)
    have I2 := Lib.hid (fun f1 p1 (e1 : f1 = b) (h2 : p1 ≤ nq) W (hs : IV W SA ns sc qs) (hf : DV W (some fd) nf fc Fd) (hq : DV W QA nq qc Q) (ht : Tbs W) => ih (o + k) (n - k) ns (nf - f1) (nq - p1) sc (fc - f1) (qc - p1) qs q2 (Fd.drop f1) (Q.drop p1) SA (if fc = f1 then some fd else some (fd.add (f1 * 16))) (if qc = p1 then QA else QA.map (fun a => a.add (p1 * 16))) W (by omega) (by omega) (by omega) hs hns3 hqa w2 (dv_rest hf (by omega)) (dv_rest hq h2) (by omega) (by omega) (by rw [l2]; omega) ht)
    simp only [Int.natCast_add] at I2
    have WL : Hid (∀ D f p, WR Q q1.length (wlk Q o k q1 (Fd.take q1.length) 0) D f p false → RR z16 0 0 false) := fun D f p h => by
      rw [hRR'.out]
      rw [hq1] at h
      exact WR.left h0 hn2 hk hb0 h
    have WB : Hid (∀ D1 f1 p1 D2 f2 p2 b2, WR Q q1.length (wlk Q o k q1 (Fd.take q1.length) 0) D1 f1 p1 true → WR (Q.drop p1) q2.length (wlk (Q.drop p1) (o + k) (n - k) q2 ((Fd.drop f1).take q2.length) 0) D2 f2 p2 b2 → RR (nd D1 D2) (f1 + f2) (p1 + p2) b2) := fun D1 f1 p1 D2 f2 p2 b2 h h' => by
      rw [hRR'.out]
      have e3 := (h.d rfl).2.2
      rw [l1] at e3
      rw [hq1] at h
      rw [hq2, e3] at h'
      exact WR.both h0 hn2 hk hb0 h h'
    have l1H := Lib.hid l1
    have l2H := Lib.hid l2
    have hb1 : Hid (b ≤ qs.length) := hbl
    have HN := Lib.hid (fun W (ht : Tbs W) a b ha hb D hD => rnode_v (W := W) a b ha hb ht D hD)
    have hql3 : Hid (qs.length ≤ 1000) := by show _ ≤ _; omega
    unfold av at HN
    clear hl hqf l1 l2 hb0 hbl hq1 hq2 w1 w2 hk h0 hqa hqi ih hRR' hn1 hql
    go_wp2_with fail
    refine (HS.out _).mono ?_
    rintro e vs ⟨rfl, rfl⟩
    go_wp2_with fail
    refine (I1.out _ RS.out RF.out RQ.out T.out).mono ?_
    rintro e v3 ⟨⟨D1, f1, p1, ga, rfl, hr1⟩, hb⟩
    replace BK := Lib.hid (BK.out.below hb BK.out.lt)
    replace RF := Lib.hid (RF.out.keep hb)
    replace RQ := Lib.hid (RQ.out.keep hb)
    replace RS := Lib.hid (RS.out.keep hb)
    replace E := Lib.hid (E.out.trans (hb.mono E.out.size))
    replace T := Lib.hid (T.out.keep hb)
    clear hb
    have hR1 := Lib.hid hr1
    clear hr1
    have zD1 : Hid (D1.length = 16) := hR1.out.len
    have lD1 : Hid ((D1.map bv).length = 16) := by show _ = _; rw [List.length_map, zD1.out]
    have sD1 := Lib.hid (size_dig16 (D1.map bv) lD1.out)
    have oD1 := av_one D1
    have hk0 : Hid (gK < v3.heap.size) := BK.out.lt
    have hnw := Lib.hid (Blk.new v3 (wkv z16 0 0 false) 85)
    go_upto_region 10 with (refine wpList_row_store rfl 85 _ _ rfl (wkv D1 f1 p1 ga) rfl rfl hnw.out (size_wk zD1.out _ _ _) ((wkv_len zD1.out _ _ _).trans (wkv_len hz16.out _ _ _).symm) (wkv_one _ _ _ _) ?_; intro ua hu ho)
    have hb : Below v3.heap.size v3 ua := ((Below.refl _ _).alloc (Nat.le_refl _) _).trans (ho.below (Nat.le_refl _))
    have B1 : Hid (Blk ua v3.heap.size (wkv D1 f1 p1 ga) 85) := hu
    clear hu ho hnw
    replace BK := Lib.hid (BK.out.below hb BK.out.lt)
    replace RF := Lib.hid (RF.out.keep hb)
    replace RQ := Lib.hid (RQ.out.keep hb)
    replace RS := Lib.hid (RS.out.keep hb)
    replace E := Lib.hid (E.out.trans (hb.mono E.out.size))
    replace T := Lib.hid (T.out.keep hb)
    clear hb
    obtain ⟨g1, hg1⟩ : ∃ g, g = v3.heap.size := ⟨_, rfl⟩
    rw [← hg1] at B1 ⊢
    have hgk1 : Hid (gK < g1) := by show _ < _; rw [hg1]; exact hk0.out
    clear hg1 hk0
    have cg := B1.out.cell (wkv_g zD1.out f1 p1 ga)
    cases ga with
    | false =>
      have hfin := Lib.hid (WL.out D1 f1 p1 hR1.out)
      clear WL WB I2 HN
      go_wp2_with (first | (refine step_wk rfl _ rfl (wkv z16 0 0 false) rfl ?_) | (refine wpList_row_store rfl 85 _ _ rfl (wkv z16 0 0 false) rfl rfl BK.out (size_wk hz16.out _ _ _) ((wkv_len hz16.out _ _ _).trans (wkv_len hz16.out _ _ _).symm) (wkv_one _ _ _ _) ?_; intro w9 hW9 ho9))
      exact bodyPost_ret (ret_blk rfl _ w9 (g := gK) rfl hW9.out dd hdu'.out hdr (size_wk hz16.out _ _ _)) rfl ⟨⟨_, _, _, _, rfl, hfin.out⟩, E.out.trans (ho9.below (by have := hgK'.out; omega))⟩
    | true =>
      have hf1 := (hR1.out.d rfl).2.2
      have hple := hR1.out.ple
      rw [l1H.out] at hf1
      have hp1 : p1 ≤ nq := by have := hQl.out; omega
      have J2 := Lib.hid (I2.out f1 p1 hf1 hp1)
      have hf1n : f1 ≤ nf := by have := hb1.out; have := hqfH.out; omega
      have hfc := RF.out.cap
      have hqc := RQ.out.cap
      have s1 : (f1 : Int) ≤ (nf : Int) := by omega
      have s2 : (p1 : Int) ≤ (nq : Int) := by omega
      have s3 : f1 ≤ fc := by omega
      have s4 : p1 ≤ qc := by omega
      have s5 : 0 ≤ (f1 : Int) := by omega
      have s6 : 0 ≤ (p1 : Int) := by omega
      obtain ⟨FA2, ha1⟩ : ∃ X, (if fc = f1 then some fd else some (fd.add (f1 * 16))) = X := ⟨_, rfl⟩
      obtain ⟨QA2, ha2⟩ : ∃ X, (if qc = p1 then QA else Option.map (fun x => x.add (p1 * 16)) QA) = X := ⟨_, rfl⟩
      rw [ha1, ha2] at J2
      have hw1 : IntKind.i64.wrap ((o : Int) + (k : Int)) = (o : Int) + (k : Int) := by rw [IntKind.wrap_i64]; omega
      have hw2 : IntKind.i64.wrap ((n : Int) - (k : Int)) = ((n - k : Nat) : Int) := by rw [IntKind.wrap_i64]; omega
      clear hf1 hple I1 I2 WL HS
      go_wp2_with fail
      have hS0 : Below ua.heap.size ua ua.drew := (Below.refl _ _).drew
      have hne : Nonempty (SOf (fun W => Below ua.heap.size ua W)) := ⟨⟨_, hS0⟩⟩
      have qf : ∀ x : SOf (fun W => Below ua.heap.size ua W), x.world.cell? ⟨g1, 16, none⟩ = some (.int .i64 f1) := fun x => by have hb : Below ua.heap.size ua x.world := x.meets; exact (B1.out.below hb B1.out.lt).cell (wkv_f zD1.out f1 p1 true)
      have qp : ∀ x : SOf (fun W => Below ua.heap.size ua W), x.world.cell? ⟨g1, 17, none⟩ = some (.int .i64 p1) := fun x => by have hb : Below ua.heap.size ua x.world := x.meets; exact (B1.out.below hb B1.out.lt).cell (wkv_p zD1.out f1 p1 true)
      refine wp_region_planH (fun W => Below ua.heap.size ua W) [] 18 (by kernel_rfl) (by kernel_rfl) (by kernel_rfl) (by kernel_rfl) (by intro c a d v w h; cases d <;> exact h) hS0 ?_
      change wpPlanH _ _ _ _ _ _ _ _ _ ua.drew
      have hS := Lib.hid hS0
      clear hS0
      generalize ua.drew = x0 at hS ⊢
      refine wpAnyH_of_plan (by kernel_rfl) (by intro c a d v w h; cases d <;> exact h) [0, 1, 2, 3, 4, 5, 6, 7, 8, 9, 10, 11, 12, 13, 14] 3 _ _ _ hS.out (by kernel_rfl) ?_
      refine wpPlanH_plain rfl (fun K hK => ?_); go_simp; refine hK _ ?_; clear hK K
      refine wpPlanH_plain rfl (fun K hK => ?_); go_simp; refine hK _ ?_; clear hK K
      refine wpPlanH_plain rfl (fun K hK => ?_); go_simp; refine hK _ ?_; clear hK K
      refine wpPlanH_plain rfl (fun K hK => ?_); go_simp; refine hK _ ?_; clear hK K
      refine wpPlanH_plain rfl (fun K hK => ?_); go_simp; refine hK _ ?_; clear hK K
      refine wpPlanH_plain rfl (fun K hK => ?_); go_simp; refine hK _ ?_; clear hK K
      refine wpPlanH_plain rfl (fun K hK => ?_); go_simp; refine hK _ ?_; clear hK K
      refine wpPlanH_plain rfl (fun K hK => ?_); go_simp; refine hK _ ?_; clear hK K
      refine wpPlanH_plain rfl (fun K hK => ?_); go_simp; refine hK _ ?_; clear hK K
      refine wpPlanH_plain rfl (fun K hK => ?_); go_simp; refine hK _ ?_; clear hK K
      refine wpPlanH_plain rfl (fun K hK => ?_); go_simp; refine hK _ ?_; clear hK K
      refine wpPlanH_plain rfl (fun K hK => ?_); go_simp; refine hK _ ?_; clear hK K
      refine wpPlanH_plain rfl (fun K hK => ?_); go_simp; refine hK _ ?_; clear hK K
      refine wpPlanH_plain rfl (fun K hK => ?_); go_simp; refine hK _ ?_; clear hK K
      refine wpPlanH_plain rfl (fun K hK => ?_); go_simp; refine hK _ ?_; clear hK K
      clear qf qp hne
      refine wpAnyH_each (rs := [15, 16]) (by kernel_rfl) (by decide) (fun K hK q hq => ?_)
      simp only [List.mem_cons, List.not_mem_nil, or_false] at hq
      rcases hq with rfl | rfl
      · refine wpOp_listed rfl ?_
        go_wp2_with fail
        refine (J2.out _ (RS.out.keep hS.out) (RF.out.keep hS.out) (RQ.out.keep hS.out) (T.out.keep hS.out)).mono ?_
        rintro e y5 ⟨⟨D2, f2, p2, gb, rfl, hr2⟩, hbx⟩
        have hR2 := Lib.hid hr2
        clear hr2
        go_wp2_with fail
        have hbn := hS.out.trans (hbx.mono hS.out.size)
        refine postH_normal (hK _ _ _ hbn ?_)
        replace hS := Lib.hid hbn
        clear hK K hbx hbn
        refine wpAnyH_each (rs := [16]) (by kernel_rfl) (by decide) (fun K hK q hq => ?_)
        obtain rfl := List.mem_singleton.1 hq
        refine wpOp_listed rfl ?_
        have hbn := Lib.hid (hS.out.alloc hS.out.size (.cells (wkv z16 0 0 false).toArray 85))
        have hN2 := Lib.hid (Blk.new y5 (wkv z16 0 0 false) 85)
        go_wp2_with fail
        refine postH_normal (hK _ _ _ hbn.out ?_)
        clear hK K
        have hg2u : Hid (ua.heap.size ≤ y5.heap.size) := hS.out.size
        replace hS := hbn
        clear hbn
        obtain ⟨g2, hg2⟩ : ∃ g, g = y5.heap.size := ⟨_, rfl⟩
        rw [← hg2] at hN2 hg2u ⊢
        clear hg2
        refine wpAnyH_each (rs := [17]) (by kernel_rfl) (by decide) (fun K hK q hq => ?_)
        obtain rfl := List.mem_singleton.1 hq
        refine wpOp_listed rfl ?_
        have zD2 : Hid (D2.length = 16) := hR2.out.len
        have lD2 : Hid ((D2.map bv).length = 16) := by show _ = _; rw [List.length_map, zD2.out]
        have sD2 := Lib.hid (size_dig16 (D2.map bv) lD2.out)
        have oD2 := av_one D2
        refine wpList_row_store rfl 85 _ _ rfl (wkv D2 f2 p2 gb) rfl rfl hN2.out (size_wk zD2.out _ _ _) ((wkv_len zD2.out _ _ _).trans (wkv_len hz16.out _ _ _).symm) (wkv_one _ _ _ _) ?_
        intro u2 hu ho
        have hb := hS.out.trans (ho.below hg2u.out)
        refine wpList_end (postH_normal (hK _ _ _ hb ?_))
        clear hK K
        refine wpAnyH_done (by kernel_rfl) ?_ _
        have B2 : Hid (Blk u2 g2 (wkv D2 f2 p2 gb) 85) := hu
        have hg21 : Hid (g1 < g2) := by have h1 := B1.out.lt; have h2 := hg2u.out; show _ < _; omega
        clear hu ho hN2 hS
        replace BK := Lib.hid (BK.out.below hb BK.out.lt)
        replace B1 := Lib.hid (B1.out.below hb B1.out.lt)
        replace E := Lib.hid (E.out.trans (hb.mono E.out.size))
        clear hb T RS RF RQ J2
        obtain ⟨N2, hN⟩ : ∃ N, N = nd D1 D2 := ⟨_, rfl⟩
        have hfin : Hid (RR N2 (f1 + f2) (p1 + p2) gb) := by show RR _ _ _ _; rw [hN]; exact WB.out D1 f1 p1 D2 f2 p2 gb hR1.out hR2.out
        have zN2 : Hid (N2.length = 16) := (by show _ = _; rw [hN]; exact nd_len _ _)
        have lN2 : Hid ((N2.map bv).length = 16) := by show _ = _; rw [List.length_map, zN2.out]
        have sN2 := Lib.hid (size_dig16 (N2.map bv) lN2.out)
        have oN2 := av_one N2
        have HN2 := Lib.hid (fun W (ht : Tbs W) => HN.out W ht D1 D2 zD1.out zD2.out N2 hN)
        have hf2b : f2 ≤ 1000 := by have h1 := hR2.out.fle; have h2 := l2H.out; have h3 := hql3.out; omega
        have hp2b : p2 ≤ 1000 := by have h1 := hR2.out.ple; have h2 := hQl.out; rw [List.length_drop] at h1; omega
        have hf1b : f1 ≤ 1000 := by omega
        have hp1b : p1 ≤ 1000 := by omega
        have hS0 : S13 gK g1 g2 w (wkv D1 f1 p1 true) (wkv D2 f2 p2 gb) 85 u2.drew := ⟨by rw [hgK'.out]; exact E.out.drew, B1.out.drew, B2.out.drew⟩
        have BK0 : Hid (Blk u2.drew gK (wkv z16 0 0 false) 85) := BK.out.drew
        have hne : Nonempty (SOf (S13 gK g1 g2 w (wkv D1 f1 p1 true) (wkv D2 f2 p2 gb) 85)) := ⟨⟨_, hS0⟩⟩
        clear HN hN WB BK s1 s2 s3 s4 s5 s6 hfc hqc cg
        go_wp2_with fail
        have r1 : ∀ x : SOf (S13 gK g1 g2 w (wkv D1 f1 p1 true) (wkv D2 f2 p2 gb) 85), x.world.cell? ⟨g1, 16, none⟩ = some (.int .i64 f1) := fun x => x.meets.c1.cell (wkv_f zD1.out f1 p1 true)
        have r2 : ∀ x : SOf (S13 gK g1 g2 w (wkv D1 f1 p1 true) (wkv D2 f2 p2 gb) 85), x.world.cell? ⟨g2, 16, none⟩ = some (.int .i64 f2) := fun x => x.meets.c2.cell (wkv_f zD2.out f2 p2 gb)
        have r3 : ∀ x : SOf (S13 gK g1 g2 w (wkv D1 f1 p1 true) (wkv D2 f2 p2 gb) 85), x.world.cell? ⟨g1, 17, none⟩ = some (.int .i64 p1) := fun x => x.meets.c1.cell (wkv_p zD1.out f1 p1 true)
        have r4 : ∀ x : SOf (S13 gK g1 g2 w (wkv D1 f1 p1 true) (wkv D2 f2 p2 gb) 85), x.world.cell? ⟨g2, 17, none⟩ = some (.int .i64 p2) := fun x => x.meets.c2.cell (wkv_p zD2.out f2 p2 gb)
        have r5 : ∀ x : SOf (S13 gK g1 g2 w (wkv D1 f1 p1 true) (wkv D2 f2 p2 gb) 85), x.world.cell? ⟨g2, 18, none⟩ = some (.bool gb) := fun x => x.meets.c2.cell (wkv_g zD2.out f2 p2 gb)
        refine wp_region_planH (S13 gK g1 g2 w (wkv D1 f1 p1 true) (wkv D2 f2 p2 gb) 85) [] 19 (by kernel_rfl) (by kernel_rfl) (by kernel_rfl) (by kernel_rfl) (by intro c a d v w h; cases d <;> exact h) hS0 ?_
        change wpPlanH _ _ _ _ _ _ _ _ _ u2.drew
        have hS := Lib.hid hS0
        clear hS0
        generalize u2.drew = x0 at hS BK0 ⊢
        refine wpAnyH_of_plan (by kernel_rfl) (by intro c a d v w h; cases d <;> exact h) [0, 1, 2, 3, 5, 6, 7, 8, 9, 10, 11, 12, 13, 14, 15, 16] 3 _ _ _ hS.out (by kernel_rfl) ?_
        refine wpPlanH_plain rfl (fun K hK => ?_); go_simp; refine hK _ ?_; clear hK K
        refine wpPlanH_runW rfl (by rfl) _ (fun x1 => load_run 31 _ rfl g1 0 rfl (D1.map bv) (.array 16 5) arr_dig rfl sD1.out x1.world (x1.meets.c1.range 0 _ (wkv_dig zD1.out f1 p1 true))) ?_
        refine wpPlanH_plain rfl (fun K hK => ?_); go_simp; refine hK _ ?_; clear hK K
        refine wpPlanH_runW rfl (by rfl) _ (fun x1 => load_run 31 _ rfl g2 0 rfl (D2.map bv) (.array 16 5) arr_dig rfl sD2.out x1.world (x1.meets.c2.range 0 _ (wkv_dig zD2.out f2 p2 gb))) ?_
        refine wpPlanH_plain rfl (fun K hK => ?_); go_simp; refine hK _ ?_; clear hK K
        refine wpPlanH_plain rfl (fun K hK => ?_); go_simp; refine hK _ ?_; clear hK K
        refine wpPlanH_plain rfl (fun K hK => ?_); go_simp; refine hK _ ?_; clear hK K
        refine wpPlanH_plain rfl (fun K hK => ?_); go_simp; refine hK _ ?_; clear hK K
        refine wpPlanH_plain rfl (fun K hK => ?_); go_simp; refine hK _ ?_; clear hK K
        refine wpPlanH_plain rfl (fun K hK => ?_); go_simp; refine hK _ ?_; clear hK K
        refine wpPlanH_plain rfl (fun K hK => ?_); go_simp; refine hK _ ?_; clear hK K
        refine wpPlanH_plain rfl (fun K hK => ?_); go_simp; refine hK _ ?_; clear hK K
        refine wpPlanH_plain rfl (fun K hK => ?_); go_simp; refine hK _ ?_; clear hK K
        refine wpPlanH_plain rfl (fun K hK => ?_); go_simp; refine hK _ ?_; clear hK K
        refine wpPlanH_plain rfl (fun K hK => ?_); go_simp; refine hK _ ?_; clear hK K
        refine wpPlanH_plain rfl (fun K hK => ?_); go_simp; refine hK _ ?_; clear hK K
        refine wpAnyH_each (rs := [4]) (by kernel_rfl) (by decide) (fun K hK q hq => ?_)
        obtain rfl := List.mem_singleton.1 hq
        refine wpOp_listed rfl ?_
        go_wp2_with fail
        refine (HN2.out _ (TW.out _ hS.out.bl)).mono ?_
        rintro e y9 ⟨rfl, hbx⟩
        go_wp2_with fail
        have hsz9 : gK ≤ x0.heap.size := Nat.le_of_lt BK0.out.lt
        have hbn : S13 gK g1 g2 w (wkv D1 f1 p1 true) (wkv D2 f2 p2 gb) 85 y9 := ⟨hS.out.bl.trans (hbx.mono hsz9), hS.out.c1.below hbx hS.out.c1.lt, hS.out.c2.below hbx hS.out.c2.lt⟩
        refine postH_normal (hK _ _ _ hbn ?_)
        replace hS := Lib.hid hbn
        replace BK0 := Lib.hid (BK0.out.below hbx BK0.out.lt)
        clear hK K hbx hbn hsz9
        refine wpAnyH_of_plan (by kernel_rfl) (by intro c a d v w h; cases d <;> exact h) [17] 1 _ _ _ hS.out (by kernel_rfl) ?_
        refine wpPlanH_runW rfl (by rfl) _ (fun x1 => build_wk_run #[(0, .tmp 70), (1, .tmp 75), (2, .tmp 80), (3, .tmp 82)] rfl (wkv N2 (f1 + f2) (p1 + p2) gb) (by exact wk_sum N2 zN2.out f1 f2 p1 p2 gb) x1.world) ?_
        refine wpAnyH_each (rs := [18]) (by kernel_rfl) (by decide) (fun K hK q hq => ?_)
        obtain rfl := List.mem_singleton.1 hq
        refine wpOp_listed rfl ?_
        refine wpList_row_store rfl 85 _ _ rfl (wkv N2 (f1 + f2) (p1 + p2) gb) rfl rfl BK0.out (size_wk zN2.out _ _ _) ((wkv_len zN2.out _ _ _).trans (wkv_len hz16.out _ _ _).symm) (wkv_one _ _ _ _) ?_
        intro w9 hW9 ho9
        have hk1 : gK ≠ g1 := by have := hgk1.out; omega
        have hk2 : gK ≠ g2 := by have := hgk1.out; have := hg21.out; omega
        have hbn : S13 gK g1 g2 w (wkv D1 f1 p1 true) (wkv D2 f2 p2 gb) 85 w9 := ⟨hS.out.bl.trans (ho9.below (Nat.le_refl _)), hS.out.c1.only ho9 hk1.symm, hS.out.c2.only ho9 hk2.symm⟩
        refine wpList_end (postH_normal (hK _ _ _ hbn ?_))
        clear hK K
        refine wpAnyH_done (by kernel_rfl) ?_ _
        have hend : Below w.heap.size w w9 := by rw [← hgK'.out]; exact hbn.bl
        clear hS hne r1 r2 r3 r4 r5 hbn
        go_wp2_with fail
        exact bodyPost_ret (ret_blk rfl _ w9 (g := gK) rfl hW9.out dd hdu'.out hdr (size_wk zN2.out _ _ _)) rfl ⟨⟨_, _, _, _, rfl, hfin.out⟩, hend⟩
      · refine wpOp_listed rfl ?_
        have hbn := Lib.hid (hS.out.alloc hS.out.size (.cells (wkv z16 0 0 false).toArray 85))
        have hN2 := Lib.hid (Blk.new x0 (wkv z16 0 0 false) 85)
        go_wp2_with fail
        refine postH_normal (hK _ _ _ hbn.out ?_)
        clear hK K
        have hg2u : Hid (ua.heap.size ≤ x0.heap.size) := hS.out.size
        replace hS := hbn
        clear hbn
        obtain ⟨g2, hg2⟩ : ∃ g, g = x0.heap.size := ⟨_, rfl⟩
        rw [← hg2] at hN2 hg2u ⊢
        clear hg2
        generalize hg : x0.alloc _ = y1
        have hgW : x0.alloc (.cells (wkv z16 0 0 false).toArray 85) = y1 := by rw [← hg]; rfl
        rw [hgW] at hS hN2
        clear hg hgW
        refine wpAnyH_each (rs := [15]) (by kernel_rfl) (by decide) (fun K hK q hq => ?_)
        obtain rfl := List.mem_singleton.1 hq
        refine wpOp_listed rfl ?_
        go_wp2_with fail
        refine (J2.out _ (RS.out.keep hS.out) (RF.out.keep hS.out) (RQ.out.keep hS.out) (T.out.keep hS.out)).mono ?_
        rintro e y5 ⟨⟨D2, f2, p2, gb, rfl, hr2⟩, hbx⟩
        have hR2 := Lib.hid hr2
        clear hr2
        go_wp2_with fail
        have hbn := hS.out.trans (hbx.mono hS.out.size)
        refine postH_normal (hK _ _ _ hbn ?_)
        replace hS := Lib.hid hbn
        replace hN2 := Lib.hid (hN2.out.below hbx hN2.out.lt)
        clear hK K hbx hbn
        refine wpAnyH_each (rs := [17]) (by kernel_rfl) (by decide) (fun K hK q hq => ?_)
        obtain rfl := List.mem_singleton.1 hq
        refine wpOp_listed rfl ?_
        have zD2 : Hid (D2.length = 16) := hR2.out.len
        have lD2 : Hid ((D2.map bv).length = 16) := by show _ = _; rw [List.length_map, zD2.out]
        have sD2 := Lib.hid (size_dig16 (D2.map bv) lD2.out)
        have oD2 := av_one D2
        refine wpList_row_store rfl 85 _ _ rfl (wkv D2 f2 p2 gb) rfl rfl hN2.out (size_wk zD2.out _ _ _) ((wkv_len zD2.out _ _ _).trans (wkv_len hz16.out _ _ _).symm) (wkv_one _ _ _ _) ?_
        intro u2 hu ho
        have hb := hS.out.trans (ho.below hg2u.out)
        refine wpList_end (postH_normal (hK _ _ _ hb ?_))
        clear hK K
        refine wpAnyH_done (by kernel_rfl) ?_ _
        have B2 : Hid (Blk u2 g2 (wkv D2 f2 p2 gb) 85) := hu
        have hg21 : Hid (g1 < g2) := by have h1 := B1.out.lt; have h2 := hg2u.out; show _ < _; omega
        clear hu ho hN2 hS
        replace BK := Lib.hid (BK.out.below hb BK.out.lt)
        replace B1 := Lib.hid (B1.out.below hb B1.out.lt)
        replace E := Lib.hid (E.out.trans (hb.mono E.out.size))
        clear hb T RS RF RQ J2
        obtain ⟨N2, hN⟩ : ∃ N, N = nd D1 D2 := ⟨_, rfl⟩
        have hfin : Hid (RR N2 (f1 + f2) (p1 + p2) gb) := by show RR _ _ _ _; rw [hN]; exact WB.out D1 f1 p1 D2 f2 p2 gb hR1.out hR2.out
        have zN2 : Hid (N2.length = 16) := (by show _ = _; rw [hN]; exact nd_len _ _)
        have lN2 : Hid ((N2.map bv).length = 16) := by show _ = _; rw [List.length_map, zN2.out]
        have sN2 := Lib.hid (size_dig16 (N2.map bv) lN2.out)
        have oN2 := av_one N2
        have HN2 := Lib.hid (fun W (ht : Tbs W) => HN.out W ht D1 D2 zD1.out zD2.out N2 hN)
        have hf2b : f2 ≤ 1000 := by have h1 := hR2.out.fle; have h2 := l2H.out; have h3 := hql3.out; omega
        have hp2b : p2 ≤ 1000 := by have h1 := hR2.out.ple; have h2 := hQl.out; rw [List.length_drop] at h1; omega
        have hf1b : f1 ≤ 1000 := by omega
        have hp1b : p1 ≤ 1000 := by omega
        have hS0 : S13 gK g1 g2 w (wkv D1 f1 p1 true) (wkv D2 f2 p2 gb) 85 u2.drew := ⟨by rw [hgK'.out]; exact E.out.drew, B1.out.drew, B2.out.drew⟩
        have BK0 : Hid (Blk u2.drew gK (wkv z16 0 0 false) 85) := BK.out.drew
        have hne : Nonempty (SOf (S13 gK g1 g2 w (wkv D1 f1 p1 true) (wkv D2 f2 p2 gb) 85)) := ⟨⟨_, hS0⟩⟩
        clear HN hN WB BK s1 s2 s3 s4 s5 s6 hfc hqc cg
        go_wp2_with fail
        have r1 : ∀ x : SOf (S13 gK g1 g2 w (wkv D1 f1 p1 true) (wkv D2 f2 p2 gb) 85), x.world.cell? ⟨g1, 16, none⟩ = some (.int .i64 f1) := fun x => x.meets.c1.cell (wkv_f zD1.out f1 p1 true)
        have r2 : ∀ x : SOf (S13 gK g1 g2 w (wkv D1 f1 p1 true) (wkv D2 f2 p2 gb) 85), x.world.cell? ⟨g2, 16, none⟩ = some (.int .i64 f2) := fun x => x.meets.c2.cell (wkv_f zD2.out f2 p2 gb)
        have r3 : ∀ x : SOf (S13 gK g1 g2 w (wkv D1 f1 p1 true) (wkv D2 f2 p2 gb) 85), x.world.cell? ⟨g1, 17, none⟩ = some (.int .i64 p1) := fun x => x.meets.c1.cell (wkv_p zD1.out f1 p1 true)
        have r4 : ∀ x : SOf (S13 gK g1 g2 w (wkv D1 f1 p1 true) (wkv D2 f2 p2 gb) 85), x.world.cell? ⟨g2, 17, none⟩ = some (.int .i64 p2) := fun x => x.meets.c2.cell (wkv_p zD2.out f2 p2 gb)
        have r5 : ∀ x : SOf (S13 gK g1 g2 w (wkv D1 f1 p1 true) (wkv D2 f2 p2 gb) 85), x.world.cell? ⟨g2, 18, none⟩ = some (.bool gb) := fun x => x.meets.c2.cell (wkv_g zD2.out f2 p2 gb)
        refine wp_region_planH (S13 gK g1 g2 w (wkv D1 f1 p1 true) (wkv D2 f2 p2 gb) 85) [] 19 (by kernel_rfl) (by kernel_rfl) (by kernel_rfl) (by kernel_rfl) (by intro c a d v w h; cases d <;> exact h) hS0 ?_
        change wpPlanH _ _ _ _ _ _ _ _ _ u2.drew
        have hS := Lib.hid hS0
        clear hS0
        generalize u2.drew = x0 at hS BK0 ⊢
        refine wpAnyH_of_plan (by kernel_rfl) (by intro c a d v w h; cases d <;> exact h) [0, 1, 2, 3, 5, 6, 7, 8, 9, 10, 11, 12, 13, 14, 15, 16] 3 _ _ _ hS.out (by kernel_rfl) ?_
        refine wpPlanH_plain rfl (fun K hK => ?_); go_simp; refine hK _ ?_; clear hK K
        refine wpPlanH_runW rfl (by rfl) _ (fun x1 => load_run 31 _ rfl g1 0 rfl (D1.map bv) (.array 16 5) arr_dig rfl sD1.out x1.world (x1.meets.c1.range 0 _ (wkv_dig zD1.out f1 p1 true))) ?_
        refine wpPlanH_plain rfl (fun K hK => ?_); go_simp; refine hK _ ?_; clear hK K
        refine wpPlanH_runW rfl (by rfl) _ (fun x1 => load_run 31 _ rfl g2 0 rfl (D2.map bv) (.array 16 5) arr_dig rfl sD2.out x1.world (x1.meets.c2.range 0 _ (wkv_dig zD2.out f2 p2 gb))) ?_
        refine wpPlanH_plain rfl (fun K hK => ?_); go_simp; refine hK _ ?_; clear hK K
        refine wpPlanH_plain rfl (fun K hK => ?_); go_simp; refine hK _ ?_; clear hK K
        refine wpPlanH_plain rfl (fun K hK => ?_); go_simp; refine hK _ ?_; clear hK K
        refine wpPlanH_plain rfl (fun K hK => ?_); go_simp; refine hK _ ?_; clear hK K
        refine wpPlanH_plain rfl (fun K hK => ?_); go_simp; refine hK _ ?_; clear hK K
        refine wpPlanH_plain rfl (fun K hK => ?_); go_simp; refine hK _ ?_; clear hK K
        refine wpPlanH_plain rfl (fun K hK => ?_); go_simp; refine hK _ ?_; clear hK K
        refine wpPlanH_plain rfl (fun K hK => ?_); go_simp; refine hK _ ?_; clear hK K
        refine wpPlanH_plain rfl (fun K hK => ?_); go_simp; refine hK _ ?_; clear hK K
        refine wpPlanH_plain rfl (fun K hK => ?_); go_simp; refine hK _ ?_; clear hK K
        refine wpPlanH_plain rfl (fun K hK => ?_); go_simp; refine hK _ ?_; clear hK K
        refine wpPlanH_plain rfl (fun K hK => ?_); go_simp; refine hK _ ?_; clear hK K
        refine wpAnyH_each (rs := [4]) (by kernel_rfl) (by decide) (fun K hK q hq => ?_)
        obtain rfl := List.mem_singleton.1 hq
        refine wpOp_listed rfl ?_
        go_wp2_with fail
        refine (HN2.out _ (TW.out _ hS.out.bl)).mono ?_
        rintro e y9 ⟨rfl, hbx⟩
        go_wp2_with fail
        have hsz9 : gK ≤ x0.heap.size := Nat.le_of_lt BK0.out.lt
        have hbn : S13 gK g1 g2 w (wkv D1 f1 p1 true) (wkv D2 f2 p2 gb) 85 y9 := ⟨hS.out.bl.trans (hbx.mono hsz9), hS.out.c1.below hbx hS.out.c1.lt, hS.out.c2.below hbx hS.out.c2.lt⟩
        refine postH_normal (hK _ _ _ hbn ?_)
        replace hS := Lib.hid hbn
        replace BK0 := Lib.hid (BK0.out.below hbx BK0.out.lt)
        clear hK K hbx hbn hsz9
        refine wpAnyH_of_plan (by kernel_rfl) (by intro c a d v w h; cases d <;> exact h) [17] 1 _ _ _ hS.out (by kernel_rfl) ?_
        refine wpPlanH_runW rfl (by rfl) _ (fun x1 => build_wk_run #[(0, .tmp 70), (1, .tmp 75), (2, .tmp 80), (3, .tmp 82)] rfl (wkv N2 (f1 + f2) (p1 + p2) gb) (by exact wk_sum N2 zN2.out f1 f2 p1 p2 gb) x1.world) ?_
        refine wpAnyH_each (rs := [18]) (by kernel_rfl) (by decide) (fun K hK q hq => ?_)
        obtain rfl := List.mem_singleton.1 hq
        refine wpOp_listed rfl ?_
        refine wpList_row_store rfl 85 _ _ rfl (wkv N2 (f1 + f2) (p1 + p2) gb) rfl rfl BK0.out (size_wk zN2.out _ _ _) ((wkv_len zN2.out _ _ _).trans (wkv_len hz16.out _ _ _).symm) (wkv_one _ _ _ _) ?_
        intro w9 hW9 ho9
        have hk1 : gK ≠ g1 := by have := hgk1.out; omega
        have hk2 : gK ≠ g2 := by have := hgk1.out; have := hg21.out; omega
        have hbn : S13 gK g1 g2 w (wkv D1 f1 p1 true) (wkv D2 f2 p2 gb) 85 w9 := ⟨hS.out.bl.trans (ho9.below (Nat.le_refl _)), hS.out.c1.only ho9 hk1.symm, hS.out.c2.only ho9 hk2.symm⟩
        refine wpList_end (postH_normal (hK _ _ _ hbn ?_))
        clear hK K
        refine wpAnyH_done (by kernel_rfl) ?_ _
        have hend : Below w.heap.size w w9 := by rw [← hgK'.out]; exact hbn.bl
        clear hS hne r1 r2 r3 r4 r5 hbn
        go_wp2_with fail
        exact bodyPost_ret (ret_blk rfl _ w9 (g := gK) rfl hW9.out dd hdu'.out hdr (size_wk zN2.out _ _ _)) rfl ⟨⟨_, _, _, _, rfl, hfin.out⟩, hend⟩
end Go.Proofs.YtlgokfgiemaklaaDoor
