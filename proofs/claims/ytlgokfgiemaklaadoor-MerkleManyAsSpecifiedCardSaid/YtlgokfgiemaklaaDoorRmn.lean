/-
  Contracts of the specification's many and Many.
-/
import Derived.Test.YtlgokfgiemaklaaDoorMmy
import Derived.Test.YtlgokfgiemaklaaDoorRws
namespace Go.Proofs.YtlgokfgiemaklaaDoor
set_option linter.unusedVariables false
set_option linter.unusedSimpArgs false
open Go.RowKit

theorem dv_take {W : World} {A : Option Addr} {n c k : Nat} {L : List (List UInt8)} (h : DV W A n c L) (hk : k ≤ n) : DV W A k c (L.take k) :=
  ⟨by rw [List.length_take]; have := h.len; omega, h.rd.take h.d16 k, by have := h.cap; omega, h.max, h.nil, h.d16.take k⟩
theorem dv_drop {W : World} {ad : Addr} {n c k : Nat} {L : List (List UInt8)} (h : DV W (some ad) n c L) (hk : k ≤ n) : DV W (some (ad.add (k * 16))) (n - k) (c - k) (L.drop k) :=
  ⟨by rw [List.length_drop, h.len], by have := Dg.drop h.rd h.d16 k; rwa [Nat.mul_comm] at this, by have := h.cap; omega, by have := h.max; omega, (fun e => by cases e), h.d16.drop k⟩
theorem ownD_lit (w : World) (base : Nat) (d : List UInt8) (hd : d.length = 16) (hb : base ≤ w.heap.size) : OwnD (w.alloc (.cells (d.map bv).toArray 31)) base (.slice (some ⟨w.heap.size, 0, none⟩) 1 1) [d] := by
  refine ⟨by rw [flat_one, List.length_map, hd]; rfl, .inr ⟨w.heap.size, 1, (d.map bv).toArray, rfl, hb, heap_alloc_new w _, Nat.le_refl _, by unfold maxLen; omega, by rw [List.size_toArray, List.length_map, hd], ?_⟩⟩
  rw [flat_one]
  exact List.take_of_length_le (by rw [List.length_map, hd]; show 16 ≤ 1 * 16; omega)
set_option maxRecDepth 100000 in
set_option maxHeartbeats 8000000 in
theorem refMany_up (N : Nat) : ∀ (o n c np pc : Nat) (L : List (List UInt8)) (A PA : Option Addr) (ps qs : List Int) (w : World), n ≤ N → 1 ≤ n → n ≤ 1000 → o + n ≤ 1000000 → DV w A n c L → IV w PA np pc ps → np ≤ 1000 → Asc ps → qs = wth (o : Int) ((o : Int) + (n : Int)) ps → Tbs w →
    Calls Tryd.prog 45 #[.slice A n c, .int .i64 o, .slice PA np pc] w fun e w' => (∃ v, e = .returned v ∧ OwnD w' w.heap.size v (mny o L qs)) ∧ Below w.heap.size w w' := by
  induction N with
  | zero => intro o n c np pc L A PA ps qs w hl h1; omega
  | succ N ih =>
    intro o n c np pc L A PA ps qs w hl h1 h3 ho hD hP hp3 hasc hqs ht
    have hqa : Asc qs := by rw [hqs]; exact wth_asc hasc
    have hqi : ∀ p ∈ qs, (o : Int) ≤ p ∧ p < (o : Int) + (n : Int) := by rw [hqs]; exact wth_in
    have hql : qs.length ≤ 1000 := by rw [hqs]; have := wth_len (o : Int) ((o : Int) + (n : Int)) ps; have := hP.len; omega
    have hLn := Lib.hid hD.len
    have HW := Lib.hid (fun W (h : IV W PA np pc ps) => within_v h (by omega) (o : Int) ((o : Int) + (n : Int)) qs hqs)
    have R0 := Lib.hid hD
    have RP := Lib.hid hP
    have T := Lib.hid ht
    have E : Hid (Below w.heap.size w w) := Below.refl _ _
    obtain ⟨M, hM⟩ : ∃ M, M = mny o L qs := ⟨_, rfl⟩
    rw [← hM]
    have hM' := Lib.hid hM
    clear hM
    have hlN := Lib.hid hl
    clear hqs hD hP ht hasc hl
    go_enter Tryd.func45, Tryd.ntmps45
    go_wp2_with fail
    refine (HW.out _ RP.out).mono ?_
    rintro e v1 ⟨Aq, nq, cq, rfl, hq, hb⟩
    have RQ := Lib.hid hq
    have hnq : nq = qs.length := hq.len
    have hnq' := Lib.hid hnq
    have hnq3 : nq ≤ 1000 := by omega
    clear hnq
    replace R0 := Lib.hid (R0.out.keep hb)
    replace E := Lib.hid (E.out.trans (hb.mono E.out.size))
    replace T := Lib.hid (T.out.keep hb)
    clear hb hq HW
    by_cases h0 : qs = []
    · have z0 : nq = 0 := by rw [hnq'.out, h0]; rfl
      subst z0
      have hm : Hid (M = [rt L]) := by show _ = _; rw [hM'.out, h0, mny_nil]
      have HR := Lib.hid (fun W (h : DV W A n c L) (ht : Tbs W) => rroot_v h (by omega) ht (rt L) rfl)
      have hd16 := rt_len R0.out.d16
      clear h0 hqa hqi ih
      generalize rt L = D at hm HR hd16
      unfold av at HR
      go_wp2_with fail
      refine (HR.out _ R0.out T.out).mono ?_
      rintro e v2 ⟨rfl, hb⟩
      have hs := E.out.trans (hb.mono E.out.size)
      have hO := Lib.hid (ownD_lit v2 w.heap.size D hd16 hs.size)
      have hE := Lib.hid (hs.alloc hs.size (.cells (D.map bv).toArray 31))
      clear hb hs
      go_wp2_with (refine step_build_dg rfl _ rfl D hd16 rfl ?_)
      go_ret
      exact ⟨⟨_, rfl, by rw [hm.out]; exact hO.out⟩, hE.out⟩
    · have z0 : ((nq : Int) == 0) = false := by
        have h1 : 0 < qs.length := List.length_pos_iff.2 h0
        have h2 := hnq'.out
        simp; omega
      by_cases hn1 : n = 1
      · have z1 : ((n : Int) == 1) = true := by simp; omega
        have hm : Hid (M = []) := by show _ = _; rw [hM'.out, mny_one o (by have := hLn.out; omega) h0]
        clear h0 hqa hqi ih hn1
        go_wp2_with fail
        go_ret
        exact ⟨⟨_, rfl, by rw [hm.out]; exact ownD_nil _ _⟩, E.out⟩
      · have z1 : ((n : Int) == 1) = false := by simp; omega
        have hn2 : 2 ≤ n := by omega
        obtain ⟨k, hk⟩ : ∃ k, k = Mk.ksz n := ⟨_, rfl⟩
        have hkn : k < n := by rw [hk]; exact Mk.ksz_lt hn2
        have hkp : 0 < k := by rw [hk]; exact Mk.ksz_pos _
        have HS := Lib.hid (fun W => split_any n W hn2 (by omega))
        rw [← hk] at HS
        have hkH := Lib.hid hk
        clear hk
        go_wp2_with fail
        refine (HS.out _).mono ?_
        rintro e v2 ⟨rfl, rfl⟩
        go_wp2_with fail
        have hl := hlN.out
        obtain ⟨b, hb0⟩ : ∃ b, b = bel qs (((o + k : Nat)) : Int) := ⟨_, rfl⟩
        have hbl : b ≤ qs.length := by rw [hb0]; exact bel_le _ _
        obtain ⟨q1, hq1⟩ : ∃ q, q = qs.take b := ⟨_, rfl⟩
        obtain ⟨q2, hq2⟩ : ∃ q, q = qs.drop b := ⟨_, rfl⟩
        have w1 : q1 = wth (o : Int) ((o : Int) + (k : Int)) qs := by
          rw [hq1, hb0, wth_take hqa (fun p hp => (hqi p hp).1), Int.natCast_add]
        have w2 : q2 = wth (((o + k : Nat)) : Int) ((((o + k : Nat)) : Int) + ((n - k : Nat) : Int)) qs := by
          rw [hq2, hb0]
          exact (wth_drop hqa (fun p hp => by have := (hqi p hp).2; omega)).symm
        have hLk : (L.take k).length = k := by rw [List.length_take]; have := hLn.out; omega
        have hLd : (L.drop k).length = n - k := by rw [List.length_drop]; have := hLn.out; omega
        obtain ⟨ad, hA⟩ : ∃ ad, A = some ad := by
          obtain ⟨ad, he, _⟩ := R0.out.rd.at R0.out.d16 (k := 0) (d := nx L 0) (by
            unfold nx
            rw [List.getD_eq_getElem?_getD, List.getElem?_eq_getElem (by have := hLn.out; omega)]; rfl)
          exact ⟨ad, he⟩
        subst hA
        obtain ⟨M1, hM1⟩ : ∃ M, M = mny o (L.take k) q1 := ⟨_, rfl⟩
        obtain ⟨M2, hM2⟩ : ∃ M, M = mny (o + k) (L.drop k) q2 := ⟨_, rfl⟩
        have hm : Hid (M = M1 ++ M2) := by
          show _ = _
          rw [hM'.out, mny_two o (by have := hLn.out; omega) h0, ← hLn.out, ← hkH.out, ← hb0, ← hq1, ← hq2, hM1, hM2]
        have d1 : Hid (D16 M1) := by show D16 _; rw [hM1]; exact mny_d16 _ _ _ _ (Nat.le_refl _) (R0.out.d16.take k)
        have d2 : Hid (D16 M2) := by show D16 _; rw [hM2]; exact mny_d16 _ _ _ _ (Nat.le_refl _) (R0.out.d16.drop k)
        have L1 : Hid (M1.length ≤ 1000000) := by show _ ≤ _; rw [hM1]; have := mny_len _ o (L.take k) q1 (Nat.le_refl _) (by omega); omega
        have L2 : Hid (M2.length ≤ 1000000) := by show _ ≤ _; rw [hM2]; have := mny_len _ (o + k) (L.drop k) q2 (Nat.le_refl _) (by omega); omega
        have I1 := Lib.hid (fun W (h : DV W (some ad) k c (L.take k)) (hp : IV W Aq nq cq qs) (ht : Tbs W) => ih o k c nq cq (L.take k) (some ad) Aq qs q1 W (by omega) hkp (by omega) (by omega) h hp (by omega) hqa w1 ht)
        have I2 := Lib.hid (fun W (h : DV W (some (ad.add (k * 16))) (n - k) (c - k) (L.drop k)) (hp : IV W Aq nq cq qs) (ht : Tbs W) => ih (o + k) (n - k) (c - k) nq cq (L.drop k) (some (ad.add (k * 16))) Aq qs q2 W (by omega) (by omega) (by omega) (by omega) h hp (by omega) hqa w2 ht)
        rw [← hM1] at I1
        rw [← hM2] at I2
        simp only [Int.natCast_add] at I2
        have hcc := R0.out.cap
        have DL : Hid (∀ W, DV W (some ad) n c L → DV W (some ad) k c (L.take k)) := fun W h => dv_take h (by omega)
        have DR : Hid (∀ W, DV W (some ad) n c L → DV W (some (ad.add (k * 16))) (n - k) (c - k) (L.drop k)) := fun W h => dv_drop h (by omega)
        have k1 : (k : Int) ≤ (n : Int) := by omega
        have k2 : (k : Int) ≤ (c : Int) := by omega
        have k3 : 0 ≤ (k : Int) := by omega
        have k4 : k ≤ c := by omega
        have k5 : k ≤ n := by omega
        have k6 : ¬ c = k := by omega
        clear hl hb0 hbl hq1 hq2 w1 w2 hLk hLd hM1 hM2 h0 hqa hqi hql ih hM' HS hcc hn2 hn1
        obtain ⟨base, hbase⟩ : ∃ b, b = v2.heap.size := ⟨_, rfl⟩
        have hS0 : Below base v2 v2.drew := by rw [hbase]; exact (Below.refl _ _).drew
        have hne : Nonempty (SOf (fun W => Below base v2 W)) := ⟨⟨_, hS0⟩⟩
        have hbz := Lib.hid hbase
        refine wp_region_planH (fun W => Below base v2 W) [1, 2, 3, 4, 5, 8, 9, 10, 11, 12, 13, 14] 6 (by kernel_rfl) (by kernel_rfl) (by kernel_rfl) (by kernel_rfl) (by intro c a d v w h; cases d <;> exact h) hS0 ?_
        change wpPlanH _ _ _ _ _ _ _ _ _ v2.drew
        have hS := Lib.hid hS0
        clear hS0 hbase
        generalize v2.drew = x0 at hS ⊢
        iterate 12 (refine wpPlanH_plain rfl (fun K hK => ?_); go_simp; refine hK _ ?_; clear hK K)
        have hKP : Hid (∀ W, Below base v2 W → DV W (some ad) n c L ∧ IV W Aq nq cq qs ∧ Tbs W) := fun W h => by
          have h' : Below v2.heap.size v2 W := by have := hbz.out; rw [← this]; exact h
          exact ⟨R0.out.keep h', RQ.out.keep h', T.out.keep h'⟩
        have hsz : Hid (∀ W, Below base v2 W → base ≤ W.heap.size) := fun W h => by have := hbz.out; have h2 := h.size; omega
        refine wpAnyH_each (rs := [0, 6]) (by kernel_rfl) (by decide) (fun K hK i hi => ?_)
        simp only [List.mem_cons, List.not_mem_nil, or_false] at hi
        rcases hi with rfl | rfl
        · refine wpOp_listed rfl ?_
          go_wp2_with fail
          have hS1 : Below base v2 (x0.alloc (.cells #[] 31)) := hS.out.alloc (hsz.out _ hS.out) _
          have O0 : Hid (OwnD (x0.alloc (.cells #[] 31)) base (.slice (some ⟨x0.heap.size, 0, none⟩) 0 0) []) := ownD_made x0 base (hsz.out _ hS.out)
          have ba : Below x0.heap.size x0 (x0.alloc (.cells #[] 31)) := (Below.refl _ _).alloc (Nat.le_refl _) _
          refine postH_normal (hK _ _ _ hS1 ?_)
          clear hK K
          replace hS := Lib.hid hS1
          have hba := Lib.hid ba
          clear hS1 ba
          obtain ⟨gl, hgl⟩ : ∃ g, g = x0.heap.size := ⟨_, rfl⟩
          rw [← hgl] at O0 ⊢
          clear hgl
          generalize x0.alloc (.cells #[] 31) = y1 at hS O0 hba ⊢
          refine wpAnyH_each (rs := [6]) (by kernel_rfl) (by decide) (fun K hK i hi => ?_)
          obtain rfl := List.mem_singleton.1 hi
          refine wpOp_listed rfl ?_
          go_wp2_with fail
          refine (I1.out _ (DL.out _ (hKP.out _ hS.out).1) (hKP.out _ hS.out).2.1 (hKP.out _ hS.out).2.2).mono ?_
          rintro e y2 ⟨⟨vl, rfl, ho1⟩, hb1⟩
          obtain ⟨A1, n1, c1, rfl, hv1⟩ := ho1.dv d1.out
          have X1 := Lib.hid hv1
          go_wp2_with fail
          have hS1 : Below base v2 y2 := hS.out.trans (hb1.mono (hsz.out _ hS.out))
          refine postH_normal (hK _ _ _ hS1 ?_)
          clear hK K
          replace hS := Lib.hid hS1
          replace O0 := Lib.hid (O0.out.below hb1 (Nat.le_refl _))
          clear hS1 hb1 ho1 hv1
          refine wpAnyH_each (rs := [7]) (by kernel_rfl) (by decide) (fun K hK i hi => ?_)
          obtain rfl := List.mem_singleton.1 hi
          refine wpOp_listed rfl ?_
          have hl1 := X1.out.len
          refine push_digs rfl _ _ rfl base _ [] M1 d1.out _ A1 n1 c1 hl1 X1.out.nil rfl rfl X1.out.rd O0.out (by have := L1.out; simp; omega) (hsz.out _ hS.out) ?_
          intro v3 y3 ho3 hb3 hg3
          have hS1 : Below base v2 y3 := hS.out.trans hb3
          refine wpList_end (postH_normal (hK _ _ _ hS1 ?_))
          clear hK K
          replace hS := Lib.hid hS1
          have O3 := Lib.hid ho3
          clear hS1 ho3 hb3 hg3 O0 X1 hl1
          refine wpAnyH_each (rs := [15]) (by kernel_rfl) (by decide) (fun K hK i hi => ?_)
          obtain rfl := List.mem_singleton.1 hi
          refine wpOp_listed rfl ?_
          go_wp2_with fail
          refine (I2.out _ (DR.out _ (hKP.out _ hS.out).1) (hKP.out _ hS.out).2.1 (hKP.out _ hS.out).2.2).mono ?_
          rintro e y4 ⟨⟨vr, rfl, ho1⟩, hb1⟩
          obtain ⟨A2, n2, c2, rfl, hv2⟩ := ho1.dv d2.out
          have X2 := Lib.hid hv2
          go_wp2_with fail
          have hS1 : Below base v2 y4 := hS.out.trans (hb1.mono (hsz.out _ hS.out))
          refine postH_normal (hK _ _ _ hS1 ?_)
          clear hK K
          replace hS := Lib.hid hS1
          replace O3 := Lib.hid (O3.out.below hb1 (Nat.le_refl _))
          clear hS1 hb1 ho1 hv2
          refine wpAnyH_each (rs := [16]) (by kernel_rfl) (by decide) (fun K hK i hi => ?_)
          obtain rfl := List.mem_singleton.1 hi
          refine wpOp_listed rfl ?_
          have hl2 := X2.out.len
          refine push_digs rfl _ _ rfl base v3 ([] ++ M1) M2 d2.out _ A2 n2 c2 hl2 X2.out.nil rfl rfl X2.out.rd O3.out (by have := L1.out; have := L2.out; simp; omega) (hsz.out _ hS.out) ?_
          intro v5 y5 ho5 hb5 hg5
          have hS1 : Below base v2 y5 := hS.out.trans hb5
          refine wpList_end (postH_normal (hK _ _ _ hS1 ?_))
          clear hK K
          replace hS := Lib.hid hS1
          have O5 := Lib.hid ho5
          clear hS1 ho5 hb5 hg5 O3 X2 hl2
          refine wpAnyH_each (rs := [17]) (by kernel_rfl) (by decide) (fun K hK i hi => ?_)
          obtain rfl := List.mem_singleton.1 hi
          refine wpOp_listed rfl ?_
          go_wp2_with fail
          refine postH_normal (hK _ _ _ hS.out ?_)
          clear hK K
          refine wpAnyH_done (by kernel_rfl) ?_ _
          have hfin : Hid (Below w.heap.size w y5) := by
            have h1 := E.out.size
            have h2 := hbz.out
            exact E.out.trans (hS.out.mono (by omega))
          have hown : Hid (OwnD y5 w.heap.size v5 M) := by
            have h1 := E.out.size
            have h2 := hbz.out
            show OwnD _ _ _ _
            rw [hm.out]
            exact (show OwnD y5 base v5 (M1 ++ M2) from O5.out).lower (by omega)
          clear hS hne O5
          go_wp2_with fail
          go_ret
          exact ⟨⟨_, rfl, hown.out⟩, hfin.out⟩
        · refine wpOp_listed rfl ?_
          go_wp2_with fail
          refine (I1.out _ (DL.out _ (hKP.out _ hS.out).1) (hKP.out _ hS.out).2.1 (hKP.out _ hS.out).2.2).mono ?_
          rintro e y1 ⟨⟨vl, rfl, ho1⟩, hb1⟩
          obtain ⟨A1, n1, c1, rfl, hv1⟩ := ho1.dv d1.out
          have X1 := Lib.hid hv1
          go_wp2_with fail
          have hS1 : Below base v2 y1 := hS.out.trans (hb1.mono (hsz.out _ hS.out))
          refine postH_normal (hK _ _ _ hS1 ?_)
          clear hK K
          replace hS := Lib.hid hS1

          clear hS1 hb1 ho1 hv1
          refine wpAnyH_each (rs := [0]) (by kernel_rfl) (by decide) (fun K hK i hi => ?_)
          obtain rfl := List.mem_singleton.1 hi
          refine wpOp_listed rfl ?_
          go_wp2_with fail
          have hS1 : Below base v2 (y1.alloc (.cells #[] 31)) := hS.out.alloc (hsz.out _ hS.out) _
          have O0 : Hid (OwnD (y1.alloc (.cells #[] 31)) base (.slice (some ⟨y1.heap.size, 0, none⟩) 0 0) []) := ownD_made y1 base (hsz.out _ hS.out)
          have ba : Below y1.heap.size y1 (y1.alloc (.cells #[] 31)) := (Below.refl _ _).alloc (Nat.le_refl _) _
          refine postH_normal (hK _ _ _ hS1 ?_)
          clear hK K
          replace hS := Lib.hid hS1
          have hba := Lib.hid ba
          clear hS1 ba
          obtain ⟨gl, hgl⟩ : ∃ g, g = y1.heap.size := ⟨_, rfl⟩
          rw [← hgl] at O0 ⊢
          clear hgl
          generalize y1.alloc (.cells #[] 31) = y2 at hS O0 hba ⊢
          replace X1 := Lib.hid (X1.out.keep hba.out)
          refine wpAnyH_each (rs := [7]) (by kernel_rfl) (by decide) (fun K hK i hi => ?_)
          obtain rfl := List.mem_singleton.1 hi
          refine wpOp_listed rfl ?_
          have hl1 := X1.out.len
          refine push_digs rfl _ _ rfl base _ [] M1 d1.out _ A1 n1 c1 hl1 X1.out.nil rfl rfl X1.out.rd O0.out (by have := L1.out; simp; omega) (hsz.out _ hS.out) ?_
          intro v3 y3 ho3 hb3 hg3
          have hS1 : Below base v2 y3 := hS.out.trans hb3
          refine wpList_end (postH_normal (hK _ _ _ hS1 ?_))
          clear hK K
          replace hS := Lib.hid hS1
          have O3 := Lib.hid ho3
          clear hS1 ho3 hb3 hg3 O0 X1 hl1
          refine wpAnyH_each (rs := [15]) (by kernel_rfl) (by decide) (fun K hK i hi => ?_)
          obtain rfl := List.mem_singleton.1 hi
          refine wpOp_listed rfl ?_
          go_wp2_with fail
          refine (I2.out _ (DR.out _ (hKP.out _ hS.out).1) (hKP.out _ hS.out).2.1 (hKP.out _ hS.out).2.2).mono ?_
          rintro e y4 ⟨⟨vr, rfl, ho1⟩, hb1⟩
          obtain ⟨A2, n2, c2, rfl, hv2⟩ := ho1.dv d2.out
          have X2 := Lib.hid hv2
          go_wp2_with fail
          have hS1 : Below base v2 y4 := hS.out.trans (hb1.mono (hsz.out _ hS.out))
          refine postH_normal (hK _ _ _ hS1 ?_)
          clear hK K
          replace hS := Lib.hid hS1
          replace O3 := Lib.hid (O3.out.below hb1 (Nat.le_refl _))
          clear hS1 hb1 ho1 hv2
          refine wpAnyH_each (rs := [16]) (by kernel_rfl) (by decide) (fun K hK i hi => ?_)
          obtain rfl := List.mem_singleton.1 hi
          refine wpOp_listed rfl ?_
          have hl2 := X2.out.len
          refine push_digs rfl _ _ rfl base v3 ([] ++ M1) M2 d2.out _ A2 n2 c2 hl2 X2.out.nil rfl rfl X2.out.rd O3.out (by have := L1.out; have := L2.out; simp; omega) (hsz.out _ hS.out) ?_
          intro v5 y5 ho5 hb5 hg5
          have hS1 : Below base v2 y5 := hS.out.trans hb5
          refine wpList_end (postH_normal (hK _ _ _ hS1 ?_))
          clear hK K
          replace hS := Lib.hid hS1
          have O5 := Lib.hid ho5
          clear hS1 ho5 hb5 hg5 O3 X2 hl2
          refine wpAnyH_each (rs := [17]) (by kernel_rfl) (by decide) (fun K hK i hi => ?_)
          obtain rfl := List.mem_singleton.1 hi
          refine wpOp_listed rfl ?_
          go_wp2_with fail
          refine postH_normal (hK _ _ _ hS.out ?_)
          clear hK K
          refine wpAnyH_done (by kernel_rfl) ?_ _
          have hfin : Hid (Below w.heap.size w y5) := by
            have h1 := E.out.size
            have h2 := hbz.out
            exact E.out.trans (hS.out.mono (by omega))
          have hown : Hid (OwnD y5 w.heap.size v5 M) := by
            have h1 := E.out.size
            have h2 := hbz.out
            show OwnD _ _ _ _
            rw [hm.out]
            exact (show OwnD y5 base v5 (M1 ++ M2) from O5.out).lower (by omega)
          clear hS hne O5
          go_wp2_with fail
          go_ret
          exact ⟨⟨_, rfl, hown.out⟩, hfin.out⟩
end Go.Proofs.YtlgokfgiemaklaaDoor
