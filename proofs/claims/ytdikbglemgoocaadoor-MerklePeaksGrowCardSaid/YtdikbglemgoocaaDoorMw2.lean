/-
  MerklePeaksGrow: the walk. (Written by tools/genm2.py.)
-/
import Derived.Test.YtdikbglemgoocaaDoorMpg
import Derived.Test.YtdikbglemgoocaaDoorOmk
namespace Go.Proofs.YtdikbglemgoocaaDoor
set_option linter.unusedVariables false
set_option linter.unusedSimpArgs false
open Go.RowKit


section
variable {W : World} {A : Option Addr} {n c : Nat} {L : List (List UInt8)}
theorem topD_len {L : List (List UInt8)} (hd : D16 L) (z : Int) : (topD z L).length = 16 := by
  unfold topD
  split
  · split
    · exact hashOf_len 32 []
    · refine jn_len ?_ _
      rw [List.getD_eq_getElem?_getD]
      cases hq : L[L.length - 1]? with
      | none => rfl
      | some d => exact hd d (List.mem_of_getElem? hq)
  · rfl
theorem top_v (h : DV W A n c L) (hl : n ≤ 1000000) (ht : Tbs W) (z : Nat) (hok : pkOk z n = true) (D : List UInt8) (hD : D = topD z L) : Calls Tryd.prog 26 #[pkv z A n c] W fun e w' => e = .returned (.tuple #[av D, .int .i64 0]) ∧ Below W.heap.size W w' := by
  subst hD
  have hpop := (pkOk_pop hok).2
  unfold topD
  rw [← h.len, if_pos hok]
  by_cases hz : z = 0
  · subst hz
    obtain rfl : n = 0 := by rw [hpop, pop_zero]
    rw [if_pos (show ((0 : Nat) : Int) = 0 from rfl)]
    exact top_zero A c W ht.r
  · rw [if_neg (by omega)]
    have hn : 0 < n := by
      rw [hpop, pop_pos (by omega)]
      rcases Nat.eq_zero_or_pos (z % 2) with h0 | h0
      · have : ∀ m q, q ≤ m → 0 < q → 0 < pop q := by
          intro m
          induction m with
          | zero => intro q h1 h2; omega
          | succ m ih =>
            intro q h1 h2
            rw [pop_pos h2]
            by_cases hq : q % 2 = 0
            · have := ih (q / 2) (by omega) (by omega); omega
            · omega
        have := this (z / 2) (z / 2) (Nat.le_refl _) (by omega)
        omega
      · omega
    obtain ⟨d, hd⟩ : ∃ d, L[n - 1]? = some d := ⟨_, List.getElem?_eq_getElem (by rw [← h.len]; omega)⟩
    have hg : L.getD (n - 1) z16 = d := by rw [List.getD_eq_getElem?_getD, hd]; rfl
    have hdl : L.dropLast = L.take (n - 1) := by rw [List.dropLast_eq_take, h.len]
    rw [hg, hdl]
    exact top_pos z L A n (n - 1) c d W (by omega) hok h.len (by omega) h.d16 hd h.rd h.cap hl ht.r
end

set_option maxRecDepth 100000 in
set_option maxHeartbeats 8000000 in
theorem walk_grow (A0 : Option Addr) (c0 : Nat) (L : List (List UInt8)) (w : World) (H0 : SlA 16 w A0 L.length c0 L) (ht : Tbs w) :
    Calls Tryd.prog 7 #[.slice A0 L.length c0] w fun e w' => e = .returned (.bool true) ∧ Below w.heap.size w w' := by
  have R0 := Lib.hid (slA_dv H0)
  have hr0 := H0.reach
  have SA := Lib.hid (fun W (h : Tbs W) => sanity_any3 W h)
  have E : Hid (Below w.heap.size w w) := Below.refl _ _
  have T : Hid (Tbs w) := ht
  obtain ⟨n0, hn0⟩ : ∃ n, n = L.length := ⟨_, rfl⟩
  have hnL := Lib.hid hn0
  rw [← hn0] at R0 hr0 ⊢
  clear hn0 H0 ht
  by_cases hb0 : 40 < n0
  · have t0 : (40 : Int) < (n0 : Int) := by omega
    clear hb0
    go_enter Tryd.func7, Tryd.ntmps7
    go_wp2_with fail
    refine (SA.out _ T.out).mono ?_
    rintro e v1 ⟨rfl, hb⟩
    replace E := Lib.hid (E.out.trans (hb.mono E.out.size))
    replace T := Lib.hid (T.out.keep hb)
    clear hb
    go_wp2_with fail
    go_ret
    exact ⟨by first | rfl | (go_simp; done), E.out⟩
  have t0 : ¬ (40 : Int) < (n0 : Int) := by omega
  have hl0 : n0 ≤ 40 := by omega
  clear hb0
  obtain ⟨pd, hpd, hpr⟩ := row_peaks
  have hpd' := Lib.hid hpd
  clear hpd
  obtain ⟨gp, hgp⟩ : ∃ g, g = w.heap.size := ⟨_, rfl⟩
  have hgpl : Hid (gp = w.heap.size) := hgp
  have BP : Hid (Blk (w.alloc (.cells #[.int .i64 0, .slice none 0 0] 43)) gp [.int .i64 0, .slice none 0 0] 43) := by show Blk _ _ _ _; rw [hgp]; exact Blk.new _ [.int .i64 0, .slice none 0 0] _
  have h01 : Hid (Below gp w (w.alloc (.cells #[.int .i64 0, .slice none 0 0] 43))) := by show Below _ _ _; rw [hgp]; exact (Below.refl _ _).alloc (Nat.le_refl _) _
  clear hgp
  go_enter Tryd.func7, Tryd.ntmps7
  go_wp2_with fail
  rw [← hgpl.out]
  go_loopw [4] (fun v wr => ∃ k : Nat, k ≤ n0 ∧ v = .int .i64 k ∧ Hid (∃ A q z, Blk wr gp [.int .i64 k, .slice A q z] 43 ∧ DV wr A q z (grw L k)) ∧ Hid (Below gp w wr)) (fun v _ => n0 + 1 - (intOf v).toNat)
  case atStart => exact ⟨0, by omega, rfl, ⟨none, 0, 0, BP.out, dv_nil _⟩, h01⟩
  case round =>
    obtain ⟨k, hk, rfl, hP0, hbw⟩ := hrel
    have hbw2 : Hid (Below w.heap.size w wr) := by show Below _ _ _; rw [← hgpl.out]; exact hbw.out
    have hb := hbw2.out
    replace R0 := Lib.hid (R0.out.keep hb)
    replace E := Lib.hid (E.out.trans (hb.mono E.out.size))
    replace T := Lib.hid (T.out.keep hb)
    clear hb
    clear hbw2 BP h01
    obtain ⟨Ap, np, cp, hP1, hD1⟩ := hP0.out
    clear hP0
    have BQ := Lib.hid hP1
    have RP := Lib.hid hD1
    clear hP1 hD1
    have tk : (k : Int) ≤ (n0 : Int) := by omega
    have hnp : Hid (np ≤ 100) := by show _ ≤ _; rw [RP.out.len, grw_len _ k (by omega)]; have := pop_le k k (Nat.le_refl _); omega
    have hok : Hid (pkOk k np = true) := by show _ = _; rw [RP.out.len]; exact grw_ok L k (by omega)
    obtain ⟨d, hd⟩ : ∃ d, d = topD k (grw L k) := ⟨_, rfl⟩
    have hdr : Hid (d = rt (L.take k)) := by show _ = _; rw [hd]; exact top_grw L k (by rw [← hnL.out]; exact hk) (by omega)
    have zd : Hid (d.length = 16) := (by show _ = _; rw [hd]; exact topD_len (grw_d16 R0.out.d16 k) _)
    have ld : Hid ((d.map bv).length = 16) := by show _ = _; rw [List.length_map, zd.out]
    have sd := Lib.hid (size_dig16 (d.map bv) ld.out)
    have od := av_one d
    have HT := Lib.hid (fun W (h : DV W Ap np cp (grw L k)) (ht : Tbs W) => top_v h (by have := hnp.out; omega) ht k hok.out d hd)
    have HR := Lib.hid (fun W (h : DV W A0 k c0 (L.take k)) (ht : Tbs W) => root_v h (by omega) ht d hdr.out)
    have RT : Hid (DV wr A0 k c0 (L.take k)) := ⟨by rw [List.length_take, ← hnL.out]; omega, R0.out.rd.take R0.out.d16 k, by have := R0.out.cap; omega, R0.out.max, R0.out.nil, R0.out.d16.take k⟩
    have hkc : Hid (k ≤ c0) := RT.out.cap
    have tkc : (k : Int) ≤ (c0 : Int) := by have := hkc.out; omega
    clear hd
    unfold pkv av at HT
    unfold av at HR
    go_wp2_with (refine wpList_blk_load rfl 43 _ rfl 0 rfl BQ.out [.int .i64 k, .slice Ap np cp] (take_all0 _) pd hpd'.out hpr size_peaks ?_)
    refine (HT.out _ RP.out T.out).mono ?_
    rintro e v1 ⟨rfl, hb⟩
    replace BQ := Lib.hid (BQ.out.below hb BQ.out.lt)
    replace R0 := Lib.hid (R0.out.keep hb)
    replace RP := Lib.hid (RP.out.keep hb)
    replace RT := Lib.hid (RT.out.keep hb)
    replace E := Lib.hid (E.out.trans (hb.mono E.out.size))
    replace T := Lib.hid (T.out.keep hb)
    clear hb
    go_upto_region 8 with (refine wpList_row_store rfl 31 _ _ rfl (d.map bv) rfl rfl (Blk.new v1 (bz 16) 31) sd.out (by rw [ld.out]; rfl) od ?_; intro u1 hu1 ho1)
    have hb : Below v1.heap.size v1 u1 := ((Below.refl _ _).alloc (Nat.le_refl _) _).trans (ho1.below (Nat.le_refl _))
    have Bd : Hid (Blk u1 v1.heap.size (d.map bv) 31) := hu1
    clear hu1 ho1
    replace BQ := Lib.hid (BQ.out.below hb BQ.out.lt)
    replace R0 := Lib.hid (R0.out.keep hb)
    replace RP := Lib.hid (RP.out.keep hb)
    replace RT := Lib.hid (RT.out.keep hb)
    replace E := Lib.hid (E.out.trans (hb.mono E.out.size))
    replace T := Lib.hid (T.out.keep hb)
    clear hb
    obtain ⟨gBd, hgBd⟩ : ∃ g, g = v1.heap.size := ⟨_, rfl⟩
    rw [← hgBd] at Bd ⊢
    clear hgBd
    have hS0 : Below u1.heap.size u1 u1.drew := (Below.refl _ _).drew
    have hne : Nonempty (SOf (fun W => Below u1.heap.size u1 W)) := ⟨⟨_, hS0⟩⟩
    have q0 : ∀ x : SOf (fun W => Below u1.heap.size u1 W), x.world.cell? ⟨gp, 0, none⟩ = some (.int .i64 k) := fun x => by have hb : Below u1.heap.size u1 x.world := x.meets; exact (BQ.out.below hb BQ.out.lt).cell (j := 0) rfl
    have q1 : ∀ x : SOf (fun W => Below u1.heap.size u1 W), x.world.cell? ⟨gp, 1, none⟩ = some (.slice Ap np cp) := fun x => by have hb : Below u1.heap.size u1 x.world := x.meets; exact (BQ.out.below hb BQ.out.lt).cell (j := 1) rfl
    refine wp_region_planH (fun W => Below u1.heap.size u1 W) [] 16 (by kernel_rfl) (by kernel_rfl) (by kernel_rfl) (by kernel_rfl) (by intro c a d v w h; cases d <;> exact h) hS0 ?_
    change wpPlanH _ _ _ _ _ _ _ _ _ u1.drew
    have hS := Lib.hid hS0
    clear hS0
    generalize u1.drew = x0 at hS ⊢
    refine wpAnyH_of_plan (by kernel_rfl) (by intro c a d v w h; cases d <;> exact h) [0, 1, 2, 3, 4, 5, 6] 9 _ _ _ hS.out (by kernel_rfl) ?_
    refine wpPlanH_plain rfl (fun K hK => ?_); go_simp; refine hK _ ?_; clear hK K
    refine wpPlanH_plain rfl (fun K hK => ?_); go_simp; refine hK _ ?_; clear hK K
    refine wpPlanH_plain rfl (fun K hK => ?_); go_simp; refine hK _ ?_; clear hK K
    refine wpPlanH_runW rfl (by rfl) _ (fun x => load_run 31 _ rfl gBd 0 rfl (d.map bv) (.array 16 5) arr_dig rfl sd.out x.world ((Bd.out.below (show Below u1.heap.size u1 x.world from x.meets) Bd.out.lt).range 0 _ (take_all0 _))) ?_
    refine wpPlanH_plain rfl (fun K hK => ?_); go_simp; refine hK _ ?_; clear hK K
    refine wpPlanH_plain rfl (fun K hK => ?_); go_simp; refine hK _ ?_; clear hK K
    refine wpPlanH_plain rfl (fun K hK => ?_); go_simp; refine hK _ ?_; clear hK K
    refine wpAnyH_each (rs := [7]) (by kernel_rfl) (by decide) (fun K hK q hq => ?_)
    obtain rfl := List.mem_singleton.1 hq
    refine wpOp_listed rfl ?_
    go_wp2_with fail
    refine (HR.out _ (RT.out.keep hS.out) (T.out.keep hS.out)).mono ?_
    rintro e x2 ⟨rfl, hbx⟩
    go_wp2_with fail
    have hbn := hS.out.trans (hbx.mono hS.out.size)
    refine postH_normal (hK _ _ _ hbn ?_)
    replace hS := Lib.hid hbn
    clear hK K hbx hbn
    refine wpAnyH_of_plan (by kernel_rfl) (by intro c a d v w h; cases d <;> exact h) [8, 9, 10, 11, 12, 13, 14, 15] 0 _ _ _ hS.out (by kernel_rfl) ?_
    refine wpPlanH_runW rfl (by rfl) _ (fun x => neql_run 31 _ _ _ rfl 16 arr_dig (by kernel_rfl) d d zd.out zd.out rfl rfl true (by simp) x.world) ?_
    refine wpPlanH_plain rfl (fun K hK => ?_); go_simp; refine hK _ ?_; clear hK K
    refine wpPlanH_plain rfl (fun K hK => ?_); go_simp; refine hK _ ?_; clear hK K
    refine wpPlanH_plain rfl (fun K hK => ?_); go_simp; refine hK _ ?_; clear hK K
    refine wpPlanH_plain rfl (fun K hK => ?_); go_simp; refine hK _ ?_; clear hK K
    refine wpPlanH_plain rfl (fun K hK => ?_); go_simp; refine hK _ ?_; clear hK K
    refine wpPlanH_plain rfl (fun K hK => ?_); go_simp; refine hK _ ?_; clear hK K
    refine wpPlanH_plain rfl (fun K hK => ?_); go_simp; refine hK _ ?_; clear hK K
    clear q0 q1
    refine wpAnyH_done (by kernel_rfl) ?_ _
    have hb := hS.out
    clear hS hne
    replace BQ := Lib.hid (BQ.out.below hb BQ.out.lt)
    replace Bd := Lib.hid (Bd.out.below hb Bd.out.lt)
    replace R0 := Lib.hid (R0.out.keep hb)
    replace RP := Lib.hid (RP.out.keep hb)
    replace RT := Lib.hid (RT.out.keep hb)
    replace E := Lib.hid (E.out.trans (hb.mono E.out.size))
    replace T := Lib.hid (T.out.keep hb)
    clear hb
    by_cases hlt : k < n0
    rotate_left
    · obtain rfl : k = n0 := by omega
      clear hlt
      go_wp2_with fail
      refine (SA.out _ T.out).mono ?_
      rintro e z1 ⟨rfl, hb⟩
      replace E := Lib.hid (E.out.trans (hb.mono E.out.size))
      clear hb
      go_wp2_with fail
      go_ret
      exact ⟨by first | rfl | (go_simp; done), E.out⟩
    have te : ((k : Int) == (n0 : Int)) = false := by simp; omega
    have tlt : (k : Int) < (n0 : Int) := by omega
    have hat : L[k]? = some (nx L k) := by
      unfold nx
      rw [List.getD_eq_getElem?_getD, List.getElem?_eq_getElem (by have := hnL.out; omega)]
      rfl
    have hd2 := nx_len R0.out.d16 k
    have hat' := Lib.hid hat
    obtain ⟨ad0, hA0⟩ : ∃ ad0, A0 = some ad0 := by
      obtain ⟨ad', he, _⟩ := R0.out.rd.at R0.out.d16 hat
      exact ⟨ad', he⟩
    subst hA0
    clear hat HT HR RT hkc tkc
    have HA := Lib.hid (fun W (h : DV W Ap np cp (grw L k)) (ht : Tbs W) => append_o h (by have := hnp.out; omega) ht (nx L k) hd2 k (by omega) hok.out (grw L (k + 1)) rfl)
    have hLd := Lib.hid (fun W (h : DV W (some ad0) n0 c0 L) => (by
      obtain ⟨ad', he, _, _, hcc⟩ := h.rd.at h.d16 hat'.out
      injection he with he
      subst he
      exact hcc : ∀ j v, ((nx L k).map bv)[j]? = some v → W.cell? ((ad0.add (k * 16)).add j) = some v))
    have SM := Lib.hid (fun W A n c A' n' c' (h : DV W A n c (grw L k)) (h' : DV W A' n' c' (grw L k)) (hl : n ≤ 1000000) => same_v h h' hl true (by simp))
    have hdQ : Hid (D16 (grw L (k + 1))) := grw_d16 R0.out.d16 (k + 1)
    clear hat'
    generalize nx L k = d2 at HA hLd hd2
    obtain ⟨Q, hQ⟩ : ∃ Q, Q = grw L (k + 1) := ⟨_, rfl⟩
    rw [← hQ] at HA hdQ
    have hQ' := Lib.hid hQ
    clear hQ
    have hdl : (d2.map bv).length = 16 := by rw [List.length_map, hd2]
    have hds := Lib.hid (size_dig16 _ hdl)
    clear hd2 hdl
    unfold pkv av at HA
    have hb : Below x2.heap.size x2 (x2.alloc (.cells #[] 31)) := (Below.refl _ _).alloc (Nat.le_refl _) _
    have hE0 := Lib.hid hb
    have q1 : (x2.alloc (.cells #[] 31)).cell? ⟨gp, 1, none⟩ = some (.slice Ap np cp) := (BQ.out.below hb BQ.out.lt).cell (j := 1) rfl
    have RPe := Lib.hid (RP.out.keep hb)
    have hOe : Hid (OwnD (x2.alloc (.cells #[] 31)) x2.heap.size (.slice (some ⟨x2.heap.size, 0, none⟩) 0 0) []) := ⟨rfl, .inr ⟨x2.heap.size, 0, #[], rfl, Nat.le_refl _, Blk.new x2 [] 31, Nat.le_refl _, Nat.zero_le _, rfl, rfl⟩⟩
    clear hb
    go_upto_region 12 with (refine push_digs rfl _ _ rfl x2.heap.size _ [] (grw L k) RPe.out.d16 _ Ap np cp RPe.out.len RPe.out.nil rfl rfl RPe.out.rd hOe.out (by have h1 := hnp.out; have h2 := RPe.out.len; simp only [List.length_nil]; omega) hE0.out.size ?_; intro vk wk hOk hbk hgk)
    obtain ⟨Ak, nk, ck, hvk, hDk⟩ := hOk.dv RPe.out.d16
    subst hvk
    have RK : Hid (DV wk Ak nk ck (grw L k)) := hDk
    have hb := hE0.out.trans hbk
    clear hbk hgk hOk hDk hE0 hOe RPe q1
    replace BQ := Lib.hid (BQ.out.below hb BQ.out.lt)
    replace Bd := Lib.hid (Bd.out.below hb Bd.out.lt)
    replace R0 := Lib.hid (R0.out.keep hb)
    replace RP := Lib.hid (RP.out.keep hb)
    replace E := Lib.hid (E.out.trans (hb.mono E.out.size))
    replace T := Lib.hid (T.out.keep hb)
    clear hb
    have hgl := Lib.hid BQ.out.lt
    have HA2 := Lib.hid (fun W2 (hb : Below wk.heap.size wk W2) => HA.out W2 (RP.out.keep hb) (T.out.keep hb))
    have hLd2 := Lib.hid (fun W2 (hb : Below wk.heap.size wk W2) => hLd.out W2 (R0.out.keep hb))
    clear HA hLd
    go_cut [8, 9] from 14 to 73 (fun q j W2 => ∃ g A n c bs, q = .pointer (some ⟨g, 0, none⟩) ∧ j = .int .i64 0 ∧ Blk W2 g [.int .i64 ((k : Int) + 1), .slice A n c] 43 ∧ (gp < bs ∧ OwnD W2 bs (.slice A n c) Q) ∧ Below wk.heap.size wk W2)
    case first J KK hJ hKK =>
      have hdw : Below wk.heap.size wk wk.drew := (Below.refl _ _).drew
      have hne : Nonempty (SOf (fun W => Below wk.heap.size wk W)) := ⟨⟨_, hdw⟩⟩
      refine wp_region_planH (fun W => Below wk.heap.size wk W) [0, 1, 2, 3, 4] 7 (by kernel_rfl) (by kernel_rfl) (by kernel_rfl) (by kernel_rfl) (by intro c a d v w h; cases d <;> exact h) hdw ?_
      change wpPlanH _ _ _ _ _ _ _ _ _ wk.drew
      refine wpPlanH_runW rfl (by rfl) _ (fun x => load_run 43 _ rfl gp 0 rfl [.int .i64 k, .slice Ap np cp] pd hpd'.out hpr size_peaks x.world ((BQ.out.below x.meets hgl.out).range 0 _ (take_all0 _))) ?_
      iterate 3 (refine wpPlanH_plain rfl (fun K hK => ?_); go_simp; refine hK _ ?_; clear hK K)
      refine wpPlanH_runW rfl (by rfl) _ (fun x => load_arr_run 31 _ rfl (ad0.add (k * 16)) rfl (d2.map bv) 16 5 x.world (hLd2.out _ x.meets) arr_dig hds.out) ?_
      have hdw2 := Lib.hid hdw
      clear hdw
      have hsz : Hid (gp < wk.drew.heap.size) := hgl.out
      generalize wk.drew = Wd at hdw2 hsz ⊢
      refine wpAnyH_each (rs := [5, 9]) (by kernel_rfl) (by decide) (fun K hK q hq => ?_)
      simp only [List.mem_cons, List.not_mem_nil, or_false] at hq
      rcases hq with rfl | rfl
      · refine wpOp_listed rfl ?_
        go_wp2_with fail
        refine (HA2.out _ hdw2.out).mono ?_
        rintro e w4 ⟨A2, n2, c2, rfl, -, hO2, hQ2, hb4⟩
        go_wp2_with fail
        have hb4' := hdw2.out.trans (hb4.mono hdw2.out.size)
        refine postH_normal (hK _ _ _ hb4' ?_)
        clear hK K
        refine wpAnyH_of_plan (by kernel_rfl) (by intro c a d v w h; cases d <;> exact h) [6, 7, 8] 3 _ _ _ hb4' (by kernel_rfl) ?_
        iterate 3 (refine wpPlanH_plain rfl (fun K hK => ?_); go_simp; refine hK _ ?_; clear hK K)
        refine wpAnyH_each (rs := [9]) (by kernel_rfl) (by decide) (fun K hK q hq => ?_)
        obtain rfl := List.mem_singleton.1 hq
        refine wpOp_listed rfl ?_
        go_wp2_with fail
        have hb5 : Below wk.heap.size wk (w4.alloc (.cells #[.int .i64 0, .slice none 0 0] 43)) := hb4'.alloc hb4'.size _
        refine postH_normal (hK _ _ _ hb5 ?_)
        clear hK K
        have hN5 := Lib.hid (Blk.new w4 [.int .i64 0, .slice none 0 0] 43)
        have hO5' := Lib.hid hO2
        refine wpAnyH_each (rs := [10]) (by kernel_rfl) (by decide) (fun K hK q hq => ?_)
        obtain rfl := List.mem_singleton.1 hq
        refine wpOp_listed rfl ?_
        refine wpList_row_store rfl 43 _ _ rfl [.int .i64 ((k : Int) + 1), .slice A2 n2 c2] rfl rfl hN5.out size_peaks rfl (one_peaks _ _ _ _) ?_
        intro w6 hW6 ho6
        have hb46 : Below w4.heap.size w4 w6 := ((Below.refl _ _).alloc (Nat.le_refl _) _).trans (ho6.below (Nat.le_refl _))
        have hb6 := hb4'.trans (hb46.mono hb4'.size)
        refine wpList_end (postH_normal (hK _ _ _ hb6 ?_))
        clear hK K
        refine wpAnyH_each (rs := [11]) (by kernel_rfl) (by decide) (fun K hK q hq => ?_)
        obtain rfl := List.mem_singleton.1 hq
        refine wpOp_listed rfl ?_
        go_wp2_with fail
        refine postH_normal (hK _ _ _ hb6 ?_)
        clear hK K
        refine wpAnyH_done (by kernel_rfl) ?_ _
        try simp only [Act.put, List.setIfInBounds_toArray, List.set_cons_zero, List.set_cons_succ]
        show KK _ w6
        refine hKK _ _ (Met.intro (hJ _ _ ?_))
        repeat apply Exists.intro
        exact ⟨⟨w4.heap.size, A2, n2, c2, Wd.heap.size, rfl, rfl, hW6.out, ⟨hsz.out, hO5'.out.below hb46 (Nat.le_refl _)⟩, hb6⟩, rfl⟩
      · refine wpOp_listed rfl ?_
        go_wp2_with fail
        have hb3 : Below wk.heap.size wk (Wd.alloc (.cells #[.int .i64 0, .slice none 0 0] 43)) := hdw2.out.alloc hdw2.out.size _
        refine postH_normal (hK _ _ _ hb3 ?_)
        clear hK K
        have hN3 := Lib.hid (Blk.new Wd [.int .i64 0, .slice none 0 0] 43)
        have hs3 : Hid ((Wd.alloc (.cells #[.int .i64 0, .slice none 0 0] 43)).heap.size = Wd.heap.size + 1) := by show _ = _; simp
        obtain ⟨W3, hW3⟩ : ∃ W3, W3 = Wd.alloc (.cells #[.int .i64 0, .slice none 0 0] 43) := ⟨_, rfl⟩
        rw [← hW3] at hN3 hb3 hs3
        generalize hg : Wd.alloc _ = Wg
        have hgW : W3 = Wg := by rw [← hg, hW3]
        clear hg hW3
        subst hgW
        have hb3' := Lib.hid hb3
        clear hb3
        refine wpAnyH_each (rs := [5]) (by kernel_rfl) (by decide) (fun K hK q hq => ?_)
        obtain rfl := List.mem_singleton.1 hq
        refine wpOp_listed rfl ?_
        go_wp2_with fail
        refine (HA2.out _ hb3'.out).mono ?_
        rintro e w4 ⟨A2, n2, c2, rfl, -, hO2, hQ2, hb4⟩
        go_wp2_with fail
        have hb4' := hb3'.out.trans (hb4.mono hb3'.out.size)
        refine postH_normal (hK _ _ _ hb4' ?_)
        clear hK K
        have hN4 := Lib.hid (hN3.out.below hb4 hN3.out.lt)
        have hO5' := Lib.hid hO2
        refine wpAnyH_of_plan (by kernel_rfl) (by intro c a d v w h; cases d <;> exact h) [6, 7, 8] 2 _ _ _ hb4' (by kernel_rfl) ?_
        iterate 3 (refine wpPlanH_plain rfl (fun K hK => ?_); go_simp; refine hK _ ?_; clear hK K)
        refine wpAnyH_each (rs := [10]) (by kernel_rfl) (by decide) (fun K hK q hq => ?_)
        obtain rfl := List.mem_singleton.1 hq
        refine wpOp_listed rfl ?_
        refine wpList_row_store rfl 43 _ _ rfl [.int .i64 ((k : Int) + 1), .slice A2 n2 c2] rfl rfl hN4.out size_peaks rfl (one_peaks _ _ _ _) ?_
        intro w6 hW6 ho6
        have hb6 := hb4'.trans (ho6.below hdw2.out.size)
        refine wpList_end (postH_normal (hK _ _ _ hb6 ?_))
        clear hK K
        refine wpAnyH_each (rs := [11]) (by kernel_rfl) (by decide) (fun K hK q hq => ?_)
        obtain rfl := List.mem_singleton.1 hq
        refine wpOp_listed rfl ?_
        go_wp2_with fail
        refine postH_normal (hK _ _ _ hb6 ?_)
        clear hK K
        refine wpAnyH_done (by kernel_rfl) ?_ _
        try simp only [Act.put, List.setIfInBounds_toArray, List.set_cons_zero, List.set_cons_succ]
        show KK _ w6
        refine hKK _ _ (Met.intro (hJ _ _ ?_))
        repeat apply Exists.intro
        exact ⟨⟨Wd.heap.size, A2, n2, c2, W3.heap.size, rfl, rfl, hW6.out, ⟨by rw [hs3.out]; have := hsz.out; omega, hO5'.out.only ho6 (by rw [hs3.out]; omega)⟩, hb6⟩, rfl⟩
    case rest =>
      obtain ⟨gq, A2, n2, c2, bs, rfl, rfl, hq, ⟨hgb, hO⟩, hb⟩ := hcut
      have BN := Lib.hid hq
      have hO' := Lib.hid hO
      have hgb' := Lib.hid hgb
      clear hq hO hgb HA2 hLd2 hgl
      replace BQ := Lib.hid (BQ.out.below hb BQ.out.lt)
      replace Bd := Lib.hid (Bd.out.below hb Bd.out.lt)
      replace R0 := Lib.hid (R0.out.keep hb)
      replace RP := Lib.hid (RP.out.keep hb)
      replace RK := Lib.hid (RK.out.keep hb)
      replace E := Lib.hid (E.out.trans (hb.mono E.out.size))
      replace T := Lib.hid (T.out.keep hb)
      clear hb
      have q1 : wc.cell? ⟨gp, 1, none⟩ = some (.slice Ap np cp) := BQ.out.cell (j := 1) rfl
      go_wp2_with fail
      refine (SM.out _ _ _ _ _ _ _ RP.out RK.out (by have := hnp.out; omega)).mono ?_
      rintro e vs ⟨rfl, hb⟩
      have hO2' := Lib.hid (hO'.out.below hb (Nat.le_refl _))
      clear q1
      replace BQ := Lib.hid (BQ.out.below hb BQ.out.lt)
      replace Bd := Lib.hid (Bd.out.below hb Bd.out.lt)
      replace BN := Lib.hid (BN.out.below hb BN.out.lt)
      replace R0 := Lib.hid (R0.out.keep hb)
      replace RP := Lib.hid (RP.out.keep hb)
      replace RK := Lib.hid (RK.out.keep hb)
      replace E := Lib.hid (E.out.trans (hb.mono E.out.size))
      replace T := Lib.hid (T.out.keep hb)
      clear hb
      have q0 : vs.cell? ⟨gp, 0, none⟩ = some (.int .i64 k) := BQ.out.cell (j := 0) rfl
      go_wp2_with (first | (refine wpList_blk_load rfl 43 _ rfl 0 rfl BN.out [.int .i64 ((k : Int) + 1), .slice A2 n2 c2] (take_all0 _) pd hpd'.out hpr size_peaks ?_) | (refine wpList_row_store rfl 43 _ _ rfl [.int .i64 ((k : Int) + 1), .slice A2 n2 c2] rfl rfl BQ.out size_peaks rfl (one_peaks _ _ _ _) ?_; intro w7 hW7 ho7))
      have hend : Below gp w w7 := by
        have h := E.out
        rw [← hgpl.out] at h
        exact h.trans (ho7.below (Nat.le_refl _))
      have hend2 : Hid (∃ A n q, Blk w7 gp [.int .i64 ((k + 1 : Nat) : Int), .slice A n q] 43 ∧ DV w7 A n q (grw L (k + 1))) := by
        show ∃ A n q, _ ∧ _
        rw [← hQ'.out]
        exact ⟨A2, n2, c2, by have h := hW7.out; rw [show ((k : Int) + 1) = ((k + 1 : Nat) : Int) by omega] at h; exact h, DV.of (hO2'.out.only ho7 hgb'.out) hdQ.out⟩
      go_roundw
      case rel => exact ⟨k + 1, by omega, by go_num, hend2, hend⟩
      case measure => simp [intOf]; omega
end Go.Proofs.YtdikbglemgoocaaDoor
