/-
  PolyMatchesSpec: the walk. (Written by tools/genqu.py.)
-/
import Derived.Test.YtbilfhipmebmlaaDoorQs
namespace Go.Proofs.YtbilfhipmebmlaaDoor
set_option linter.unusedVariables false
set_option linter.unusedSimpArgs false
open Go.RowKit

set_option maxRecDepth 100000 in
set_option maxHeartbeats 4000000 in
theorem refdiv_zero {B : Nat} (b : List UInt8) (A A' : Option Addr) (ca c' n m : Nat) (w : World) (h' : Rds w B A' (b.map bv)) (hB : B ≤ w.heap.size) (hm : m = b.length) (hla : n ≤ 256) (hlb : m ≤ 256) (hz : dg b = 0) :
    Calls Tryd.prog 27 #[.slice A n ca, .slice A' m c'] w fun e w' => e = .returned (.agg #[.slice none 0 0, .slice none 0 0, .int .i64 1]) ∧ Below w.heap.size w w' := by
  obtain ⟨dd, hdu, hdr⟩ := row_dvd6
  have hdu' := Lib.hid hdu
  obtain ⟨W1, hW1⟩ : ∃ W1, W1 = w.alloc (.cells #[.slice none 0 0, .slice none 0 0, .int .i64 0] 35) := ⟨_, rfl⟩
  have hB1 : Hid (Below w.heap.size w W1) := by show Below _ _ _; rw [hW1]; exact (Below.refl _ _).alloc (Nat.le_refl _) _
  have hR1 : Hid (Blk W1 w.heap.size [.slice none 0 0, .slice none 0 0, .int .i64 0] 35) := by show Blk _ _ _ _; rw [hW1]; exact Blk.new _ [_, _, _] _
  have hW1' := Lib.hid hW1
  have hDG : Hid (Calls Tryd.prog 19 #[.slice A' m c'] W1 fun e w' => e = .returned (.int .i64 (-1)) ∧ w' = W1) := by
    have := refDegree_any b A' c' W1 (h'.below (hB1.out.mono hB)) (by omega)
    rw [← hm, hz] at this
    exact this
  have t1 : ¬ (n : Int) > 256 := by omega
  have t2 : ¬ (m : Int) > 256 := by omega
  clear hdu hW1 h' hB hm hz
  go_enter Tryd.func27, Tryd.ntmps27
  go_wp2_with fail
  generalize hg : w.alloc _ = Wg
  have hgW : W1 = Wg := by rw [← hg, hW1'.out]
  clear hg hW1'
  subst hgW
  refine hDG.out.mono ?_
  rintro e w2 ⟨rfl, hww⟩
  rw [hww]
  clear hww w2 hDG
  go_wp2_with (refine wpList_row_store rfl 35 _ _ rfl [.slice none 0 0, .slice none 0 0, .int .i64 1] rfl rfl hR1.out size_dvd6 rfl (dvd_one6 _ _ _ _ _ _ _) ?_; intro w4 hw4 ho4)
  exact bodyPost_ret (ret_blk rfl _ w4 (g := w.heap.size) rfl hw4.out dd hdu'.out hdr size_dvd6) rfl ⟨rfl, hB1.out.trans (ho4.below (Nat.le_refl _))⟩
/-- What DivMod returns. -/
def dmQ (a b : List UInt8) : List UInt8 := if dg b = 0 then [] else dq a b
def dmR (a b : List UInt8) : List UInt8 := if dg b = 0 then [] else dr a b
def dmE (b : List UInt8) : Int := if dg b = 0 then 1 else 0
theorem dmQ_len (a b : List UInt8) : (dmQ a b).length ≤ a.length := by
  unfold dmQ; split
  · simp
  · exact dq_len a b
theorem dmR_len (a b : List UInt8) : (dmR a b).length ≤ b.length := by
  unfold dmR; split
  · simp
  · rename_i h
    have h1 := (div_spec a (b := b) (by omega)).2
    have h2 : (dr a b).length = dg (dr a b) := by unfold dr; rw [trim_len, dg_trim]
    have := dg_le b
    omega
section
variable {W : World} {A A' : Option Addr} {n c n' c' : Nat} {l m : List UInt8}
theorem dm_v (h : RowV W A n c l) (h' : RowV W A' n' c' m) (hl : n ≤ 256) (hl' : n' ≤ 256) (ht : PTab 0 W) (Q R : List UInt8) (E : Int) (hQ : Q = dmQ l m) (hR : R = dmR l m) (hE : E = dmE m) : Calls Tryd.prog 26 #[.slice A n c, .slice A' n' c'] W fun e w' => ∃ A n c A' n' c', e = .returned (.tuple #[.slice A n c, .slice A' n' c', .int .i64 E]) ∧ RowV w' A n c Q ∧ RowV w' A' n' c' R ∧ Below W.heap.size W w' := by
  subst hQ hR hE
  unfold dmQ dmR dmE
  by_cases hz : dg m = 0
  · rw [if_pos hz, if_pos hz, if_pos hz]
    refine (divmodz_v (A := A) (c := c) h' hl hl' hz).mono ?_
    rintro e w' ⟨rfl, rfl⟩
    exact ⟨none, 0, 0, none, 0, 0, rfl, rowV_nil _, rowV_nil _, Below.refl _ _⟩
  · rw [if_neg hz, if_neg hz, if_neg hz]
    exact divmod_v h h' hl hl' (by omega) ht
theorem rdm_v (h : RowV W A n c l) (h' : RowV W A' n' c' m) (hl : n ≤ 256) (hl' : n' ≤ 256) (Q R : List UInt8) (E : Int) (hQ : Q = dmQ l m) (hR : R = dmR l m) (hE : E = dmE m) : Calls Tryd.prog 27 #[.slice A n c, .slice A' n' c'] W fun e w' => ∃ A n c A' n' c', e = .returned (.agg #[.slice A n c, .slice A' n' c', .int .i64 E]) ∧ RowV w' A n c Q ∧ RowV w' A' n' c' R ∧ Below W.heap.size W w' := by
  subst hQ hR hE
  unfold dmQ dmR dmE
  by_cases hz : dg m = 0
  · rw [if_pos hz, if_pos hz, if_pos hz]
    refine (refdiv_zero m A A' c c' n n' W h'.rds (Nat.le_refl _) h'.len hl hl' hz).mono ?_
    rintro e w' ⟨rfl, hb⟩
    exact ⟨none, 0, 0, none, 0, 0, rfl, rowV_nil _, rowV_nil _, hb⟩
  · rw [if_neg hz, if_neg hz, if_neg hz]
    exact refdiv_ok l m A A' c c' n n' W h.rds h'.rds (Nat.le_refl _) h.len h'.len hl hl' h.nil (by omega)
end

set_option maxRecDepth 100000 in
set_option maxHeartbeats 16000000 in
theorem walk_matches (A0 : Option Addr) (c0 : Nat) (l0 : List UInt8) (A1 : Option Addr) (c1 : Nat) (l1 : List UInt8) (b2 : Nat) (w : World) (H0 : SlB w A0 l0.length c0 l0) (H1 : SlB w A1 l1.length c1 l1) (hb2 : b2 < 256) (ht : PTab 0 w) :
    Calls Tryd.prog 3 #[.slice A0 l0.length c0, .slice A1 l1.length c1, .int .u8 b2] w (OkEnd true w) := by
  have R0 := Lib.hid (slB_row H0)
  have R1 := Lib.hid (slB_row H1)
  have hr0 := H0.reach
  have hr1 := H1.reach
  obtain ⟨x, hx⟩ : ∃ x : UInt8, (x.toNat : Nat) = b2 := ⟨UInt8.ofNat b2, by simp [UInt8.toNat_ofNat']; omega⟩
  subst hx
  have T := Lib.hid ht
  have SA := Lib.hid (fun (W : World) (h : Fol w W) => sanity_any6 W (ht.below h ht.1))
  clear H0 H1 ht hb2
  obtain ⟨n0, hn0⟩ : ∃ n, n = l0.length := ⟨_, rfl⟩
  obtain ⟨n1, hn1⟩ : ∃ n, n = l1.length := ⟨_, rfl⟩
  rw [← hn0] at R0 hr0 ⊢
  rw [← hn1] at R1 hr1 ⊢
  clear hn0 hn1
  have E : Hid (Fol w w) := Below.refl _ _
  by_cases hb0 : 300 < n0
  · have t0 : (n0 : Int) > 300 := by omega
    clear hb0
    have SA0 := Lib.hid (SA.out w E.out)
    go_enter Tryd.func3, Tryd.ntmps3
    go_wp2_with fail
    refine SA0.out.mono ?_
    rintro e v1 ⟨rfl, hb⟩
    replace E := Lib.hid (E.out.to hb)
    clear hb
    go_wp2_with fail
    go_ret
    exact ⟨by first | rfl | (go_simp; done), E.out⟩
  have t0 : ¬ (n0 : Int) > 300 := by omega
  by_cases hb1 : 300 < n1
  · have t1 : (n1 : Int) > 300 := by omega
    clear hb1 hb0
    have SA0 := Lib.hid (SA.out w E.out)
    go_enter Tryd.func3, Tryd.ntmps3
    go_wp2_with fail
    refine SA0.out.mono ?_
    rintro e v1 ⟨rfl, hb⟩
    replace E := Lib.hid (E.out.to hb)
    clear hb
    go_wp2_with fail
    go_ret
    exact ⟨by first | rfl | (go_simp; done), E.out⟩
  have t1 : ¬ (n1 : Int) > 300 := by omega
  have h0 : n0 ≤ 300 := by omega
  have h1 : n1 ≤ 300 := by omega
  have hne : ∀ z : UInt8, (((z.toNat : Nat) : Int) != ((z.toNat : Nat) : Int)) = false := fun z => by simp
  have htl : Hid ((trim l0).length ≤ 300) := by
    show _ ≤ _
    rw [trim_len]
    have h2 := dg_le l0
    rw [← R0.out.len] at h2
    omega
  have hsl : Hid ((trim (Gf.vsum l0 l1)).length ≤ 300) := by
    show _ ≤ _
    rw [trim_len]
    refine Nat.le_trans (dg_le _) ?_
    rw [Gf.vsum_len, ← R0.out.len, ← R1.out.len]
    omega
  clear hb0 hb1 hr0 hr1
  go_enter Tryd.func3, Tryd.ntmps3
  go_wp2_with fail
  refine (eval_v R0.out x (by omega) T.out).mono ?_
  rintro e v1 ⟨rfl, hb⟩
  replace R0 := Lib.hid (R0.out.keep hb)
  replace R1 := Lib.hid (R1.out.keep hb)
  replace E := Lib.hid (E.out.to hb)
  replace T := Lib.hid (T.out.below hb T.out.1)
  clear hb
  go_wp2_with fail
  refine (reval_v R0.out x (by omega)).mono ?_
  rintro e v2 ⟨rfl, hb⟩
  replace R0 := Lib.hid (R0.out.keep hb)
  replace R1 := Lib.hid (R1.out.keep hb)
  replace E := Lib.hid (E.out.to hb)
  replace T := Lib.hid (T.out.below hb T.out.1)
  clear hb
  go_wp2_with fail
  obtain ⟨zd, hzd⟩ : ∃ z, z = (dg l0 : Int) - 1 := ⟨_, rfl⟩
  have hne2 : (zd != zd) = false := by simp
  have DG := Lib.hid (degree_v R0.out (by omega))
  rw [← hzd] at DG
  have DG2 := Lib.hid (rdegree_v R0.out (by omega))
  rw [← hzd] at DG2
  clear hzd
  refine DG.out.mono ?_
  rintro e w9 ⟨rfl, hww⟩
  rw [hww]
  clear hww w9
  go_wp2_with fail
  refine DG2.out.mono ?_
  rintro e w9 ⟨rfl, hww⟩
  rw [hww]
  clear hww w9
  go_wp2_with fail
  clear DG DG2
  refine (trim_v R0.out (by omega)).mono ?_
  rintro e v3 ⟨A3, n3, c3, rfl, hR3, hb⟩
  have R3 := Lib.hid hR3
  clear hR3
  replace R0 := Lib.hid (R0.out.keep hb)
  replace R1 := Lib.hid (R1.out.keep hb)
  replace E := Lib.hid (E.out.to hb)
  replace T := Lib.hid (T.out.below hb T.out.1)
  clear hb
  go_wp2_with fail
  refine (rtrim_v R0.out (by omega)).mono ?_
  rintro e v4 ⟨A4, n4, c4, rfl, hR4, hb⟩
  have R4 := Lib.hid hR4
  clear hR4
  replace R0 := Lib.hid (R0.out.keep hb)
  replace R1 := Lib.hid (R1.out.keep hb)
  replace R3 := Lib.hid (R3.out.keep hb)
  replace E := Lib.hid (E.out.to hb)
  replace T := Lib.hid (T.out.below hb T.out.1)
  clear hb
  have SM := Lib.hid (same6_v R3.out R4.out (by have := R3.out.len; have := htl.out; omega))
  rw [sameB_refl6] at SM
  go_wp2_with fail
  refine (SM.out).mono ?_
  rintro e v5 ⟨rfl, hb⟩
  replace R0 := Lib.hid (R0.out.keep hb)
  replace R1 := Lib.hid (R1.out.keep hb)
  replace E := Lib.hid (E.out.to hb)
  replace T := Lib.hid (T.out.below hb T.out.1)
  clear hb
  clear SM R3 R4
  go_wp2_with fail
  refine (add_v R0.out R1.out (by omega) (by omega)).mono ?_
  rintro e v6 ⟨A5, n5, c5, rfl, hR5, hb⟩
  have R5 := Lib.hid hR5
  clear hR5
  replace R0 := Lib.hid (R0.out.keep hb)
  replace R1 := Lib.hid (R1.out.keep hb)
  replace E := Lib.hid (E.out.to hb)
  replace T := Lib.hid (T.out.below hb T.out.1)
  clear hb
  go_wp2_with fail
  refine (radd_v R0.out R1.out (by omega) (by omega)).mono ?_
  rintro e v7 ⟨A6, n6, c6, rfl, hR6, hb⟩
  have R6 := Lib.hid hR6
  clear hR6
  replace R0 := Lib.hid (R0.out.keep hb)
  replace R1 := Lib.hid (R1.out.keep hb)
  replace R5 := Lib.hid (R5.out.keep hb)
  replace E := Lib.hid (E.out.to hb)
  replace T := Lib.hid (T.out.below hb T.out.1)
  clear hb
  have SM := Lib.hid (same6_v R5.out R6.out (by have := R5.out.len; have := hsl.out; omega))
  rw [sameB_refl6] at SM
  go_wp2_with fail
  refine (SM.out).mono ?_
  rintro e v8 ⟨rfl, hb⟩
  replace R0 := Lib.hid (R0.out.keep hb)
  replace R1 := Lib.hid (R1.out.keep hb)
  replace E := Lib.hid (E.out.to hb)
  replace T := Lib.hid (T.out.below hb T.out.1)
  clear hb
  clear SM R5 R6
  by_cases hL : 256 < n0
  · have u0 : (n0 : Int) > 256 := by omega
    have ML := Lib.hid (mul6_long n0 n1 c0 c1 A0 A1 v8 (by omega))
    have DL := Lib.hid (divmod_long n0 n1 c0 c1 A0 A1 v8 (by omega))
    clear hL
    go_wp2_with fail
    refine ML.out.mono ?_
    rintro e w9 ⟨rfl, hww⟩
    rw [hww]
    clear hww w9
    go_wp2_with fail
    refine DL.out.mono ?_
    rintro e w9 ⟨rfl, hww⟩
    rw [hww]
    clear hww w9
    go_wp2_with fail
    clear ML DL
    refine (SA.out v8 E.out).mono ?_
    rintro e v9 ⟨rfl, hb⟩
    replace R0 := Lib.hid (R0.out.keep hb)
    replace R1 := Lib.hid (R1.out.keep hb)
    replace E := Lib.hid (E.out.to hb)
    replace T := Lib.hid (T.out.below hb T.out.1)
    clear hb
    go_wp2_with fail
    go_ret
    exact ⟨by first | rfl | (go_simp; done), E.out⟩
  have u0 : ¬ (n0 : Int) > 256 := by omega
  have hL0 := hL
  clear hL
  by_cases hL : 256 < n1
  · have u1 : (n1 : Int) > 256 := by omega
    have ML := Lib.hid (mul6_long n0 n1 c0 c1 A0 A1 v8 (by omega))
    have DL := Lib.hid (divmod_long n0 n1 c0 c1 A0 A1 v8 (by omega))
    clear hL
    go_wp2_with fail
    refine ML.out.mono ?_
    rintro e w9 ⟨rfl, hww⟩
    rw [hww]
    clear hww w9
    go_wp2_with fail
    refine DL.out.mono ?_
    rintro e w9 ⟨rfl, hww⟩
    rw [hww]
    clear hww w9
    go_wp2_with fail
    clear ML DL
    refine (SA.out v8 E.out).mono ?_
    rintro e v9 ⟨rfl, hb⟩
    replace R0 := Lib.hid (R0.out.keep hb)
    replace R1 := Lib.hid (R1.out.keep hb)
    replace E := Lib.hid (E.out.to hb)
    replace T := Lib.hid (T.out.below hb T.out.1)
    clear hb
    go_wp2_with fail
    go_ret
    exact ⟨by first | rfl | (go_simp; done), E.out⟩
  have u1 : ¬ (n1 : Int) > 256 := by omega
  have k0 : n0 ≤ 256 := by omega
  have k1 : n1 ≤ 256 := by omega
  have v0 : decide ((256 : Int) < (n0 : Int)) = false := by simp only [decide_eq_false_iff_not]; omega
  have v1 : decide ((256 : Int) < (n1 : Int)) = false := by simp only [decide_eq_false_iff_not]; omega
  clear hL hL0
  by_cases hM : 60 < n0
  · have s0 : (n0 : Int) > 60 := by omega
    clear hM
    go_wp2_with fail
    refine (SA.out v8 E.out).mono ?_
    rintro e v9 ⟨rfl, hb⟩
    replace R0 := Lib.hid (R0.out.keep hb)
    replace R1 := Lib.hid (R1.out.keep hb)
    replace E := Lib.hid (E.out.to hb)
    replace T := Lib.hid (T.out.below hb T.out.1)
    clear hb
    go_wp2_with fail
    go_ret
    exact ⟨by first | rfl | (go_simp; done), E.out⟩
  have s0 : ¬ (n0 : Int) > 60 := by omega
  by_cases hN : 60 < n1
  · have s1 : (n1 : Int) > 60 := by omega
    clear hM hN
    go_wp2_with fail
    refine (SA.out v8 E.out).mono ?_
    rintro e v9 ⟨rfl, hb⟩
    replace R0 := Lib.hid (R0.out.keep hb)
    replace R1 := Lib.hid (R1.out.keep hb)
    replace E := Lib.hid (E.out.to hb)
    replace T := Lib.hid (T.out.below hb T.out.1)
    clear hb
    go_wp2_with fail
    go_ret
    exact ⟨by first | rfl | (go_simp; done), E.out⟩
  have s1 : ¬ (n1 : Int) > 60 := by omega
  have j0 : n0 ≤ 60 := by omega
  have j1 : n1 ≤ 60 := by omega
  obtain ⟨PQ, hPQ⟩ : ∃ P, P = dmQ l0 l1 := ⟨_, rfl⟩
  obtain ⟨PR, hPR⟩ : ∃ P, P = dmR l0 l1 := ⟨_, rfl⟩
  obtain ⟨PE, hPE⟩ : ∃ P, P = dmE l1 := ⟨_, rfl⟩
  have hq := Lib.hid (And.intro hPQ (And.intro hPR hPE))
  have hlq : Hid (PQ.length ≤ 60) := by have := dmQ_len l0 l1; rw [← hPQ, ← R0.out.len] at this; show _ ≤ _; omega
  have hlr : Hid (PR.length ≤ 60) := by have := dmR_len l0 l1; rw [← hPR, ← R1.out.len] at this; show _ ≤ _; omega
  have hml : Hid ((trim (pmul l0 l1)).length ≤ 120) := by
    show _ ≤ _
    rw [trim_len]
    refine Nat.le_trans (dg_le _) ?_
    rw [pmul_len, ← R0.out.len, ← R1.out.len]
    omega
  clear hM hN hPQ hPR hPE
  go_wp2_with fail
  refine (mul_v R0.out R1.out (by omega) (by omega) T.out).mono ?_
  rintro e v9 ⟨A3, n3, c3, rfl, hR3, hb⟩
  have R3 := Lib.hid hR3
  clear hR3
  replace R0 := Lib.hid (R0.out.keep hb)
  replace R1 := Lib.hid (R1.out.keep hb)
  replace E := Lib.hid (E.out.to hb)
  replace T := Lib.hid (T.out.below hb T.out.1)
  clear hb
  go_wp2_with fail
  refine (dm_v R0.out R1.out (by omega) (by omega) T.out PQ PR PE hq.out.1 hq.out.2.1 hq.out.2.2).mono ?_
  rintro e v10 ⟨A4, n4, c4, A5, n5, c5, rfl, hR4, hR5, hb⟩
  have R4 := Lib.hid hR4
  clear hR4
  have R5 := Lib.hid hR5
  clear hR5
  replace R0 := Lib.hid (R0.out.keep hb)
  replace R1 := Lib.hid (R1.out.keep hb)
  replace R3 := Lib.hid (R3.out.keep hb)
  replace E := Lib.hid (E.out.to hb)
  replace T := Lib.hid (T.out.below hb T.out.1)
  clear hb
  go_wp2_with fail
  refine (rdm_v R0.out R1.out (by omega) (by omega) PQ PR PE hq.out.1 hq.out.2.1 hq.out.2.2).mono ?_
  rintro e v11 ⟨A6, n6, c6, A7, n7, c7, rfl, hR6, hR7, hb⟩
  have R6 := Lib.hid hR6
  clear hR6
  have R7 := Lib.hid hR7
  clear hR7
  replace R0 := Lib.hid (R0.out.keep hb)
  replace R1 := Lib.hid (R1.out.keep hb)
  replace R3 := Lib.hid (R3.out.keep hb)
  replace R4 := Lib.hid (R4.out.keep hb)
  replace R5 := Lib.hid (R5.out.keep hb)
  replace E := Lib.hid (E.out.to hb)
  replace T := Lib.hid (T.out.below hb T.out.1)
  clear hb
  go_wp2_with fail
  generalize hg : v11.alloc _ = u11
  have BX : Hid (Blk u11 v11.heap.size [.slice A6 n6 c6, .slice A7 n7 c7, .int .i64 PE] 35) := by rw [← hg]; exact Blk.new v11 [.slice A6 n6 c6, .slice A7 n7 c7, .int .i64 PE] _
  have hb : Below v11.heap.size v11 u11 := by rw [← hg]; exact (Below.refl _ _).alloc (Nat.le_refl _) _
  clear hg
  replace R0 := Lib.hid (R0.out.keep hb)
  replace R1 := Lib.hid (R1.out.keep hb)
  replace R3 := Lib.hid (R3.out.keep hb)
  replace R4 := Lib.hid (R4.out.keep hb)
  replace R5 := Lib.hid (R5.out.keep hb)
  replace R6 := Lib.hid (R6.out.keep hb)
  replace R7 := Lib.hid (R7.out.keep hb)
  replace E := Lib.hid (E.out.to hb)
  replace T := Lib.hid (T.out.below hb T.out.1)
  clear hb
  obtain ⟨gBX, hgBX⟩ : ∃ g, g = v11.heap.size := ⟨_, rfl⟩
  rw [← hgBX] at BX ⊢
  clear hgBX
  refine (SA.out _ E.out).mono ?_
  rintro e v12 ⟨rfl, hb⟩
  replace R0 := Lib.hid (R0.out.keep hb)
  replace R1 := Lib.hid (R1.out.keep hb)
  replace R3 := Lib.hid (R3.out.keep hb)
  replace R4 := Lib.hid (R4.out.keep hb)
  replace R5 := Lib.hid (R5.out.keep hb)
  replace R6 := Lib.hid (R6.out.keep hb)
  replace R7 := Lib.hid (R7.out.keep hb)
  replace BX := Lib.hid (BX.out.below hb BX.out.lt)
  replace E := Lib.hid (E.out.to hb)
  replace T := Lib.hid (T.out.below hb T.out.1)
  clear hb
  go_wp2_with fail
  refine (rprod_v R0.out R1.out (by omega) (by omega)).mono ?_
  rintro e v13 ⟨A8, n8, c8, rfl, hR8, hb⟩
  have R8 := Lib.hid hR8
  clear hR8
  replace R0 := Lib.hid (R0.out.keep hb)
  replace R1 := Lib.hid (R1.out.keep hb)
  replace R3 := Lib.hid (R3.out.keep hb)
  replace R4 := Lib.hid (R4.out.keep hb)
  replace R5 := Lib.hid (R5.out.keep hb)
  replace R6 := Lib.hid (R6.out.keep hb)
  replace R7 := Lib.hid (R7.out.keep hb)
  replace BX := Lib.hid (BX.out.below hb BX.out.lt)
  replace E := Lib.hid (E.out.to hb)
  replace T := Lib.hid (T.out.below hb T.out.1)
  clear hb
  have SM := Lib.hid (same6_v R3.out R8.out (by have := R3.out.len; have := hml.out; omega))
  rw [sameB_refl6] at SM
  go_wp2_with fail
  refine (SM.out).mono ?_
  rintro e v14 ⟨rfl, hb⟩
  replace R0 := Lib.hid (R0.out.keep hb)
  replace R1 := Lib.hid (R1.out.keep hb)
  replace R3 := Lib.hid (R3.out.keep hb)
  replace R4 := Lib.hid (R4.out.keep hb)
  replace R5 := Lib.hid (R5.out.keep hb)
  replace R6 := Lib.hid (R6.out.keep hb)
  replace R7 := Lib.hid (R7.out.keep hb)
  replace R8 := Lib.hid (R8.out.keep hb)
  replace BX := Lib.hid (BX.out.below hb BX.out.lt)
  replace E := Lib.hid (E.out.to hb)
  replace T := Lib.hid (T.out.below hb T.out.1)
  clear hb
  clear SM
  have q0 := BX.out.cell (j := 0) rfl
  have q2 := BX.out.cell (j := 2) rfl
  have SM := Lib.hid (same6_v R4.out R6.out (by have := R4.out.len; have := hlq.out; omega))
  rw [sameB_refl6] at SM
  go_wp2_with fail
  refine (SM.out).mono ?_
  rintro e v15 ⟨rfl, hb⟩
  replace R0 := Lib.hid (R0.out.keep hb)
  replace R1 := Lib.hid (R1.out.keep hb)
  replace R3 := Lib.hid (R3.out.keep hb)
  replace R4 := Lib.hid (R4.out.keep hb)
  replace R5 := Lib.hid (R5.out.keep hb)
  replace R6 := Lib.hid (R6.out.keep hb)
  replace R7 := Lib.hid (R7.out.keep hb)
  replace R8 := Lib.hid (R8.out.keep hb)
  replace BX := Lib.hid (BX.out.below hb BX.out.lt)
  replace E := Lib.hid (E.out.to hb)
  replace T := Lib.hid (T.out.below hb T.out.1)
  clear hb
  clear SM q0 q2
  have q1 := BX.out.cell (j := 1) rfl
  have SM := Lib.hid (same6_v R5.out R7.out (by have := R5.out.len; have := hlr.out; omega))
  rw [sameB_refl6] at SM
  go_wp2_with fail
  refine (SM.out).mono ?_
  rintro e v16 ⟨rfl, hb⟩
  replace R0 := Lib.hid (R0.out.keep hb)
  replace R1 := Lib.hid (R1.out.keep hb)
  replace R3 := Lib.hid (R3.out.keep hb)
  replace R4 := Lib.hid (R4.out.keep hb)
  replace R5 := Lib.hid (R5.out.keep hb)
  replace R6 := Lib.hid (R6.out.keep hb)
  replace R7 := Lib.hid (R7.out.keep hb)
  replace R8 := Lib.hid (R8.out.keep hb)
  replace BX := Lib.hid (BX.out.below hb BX.out.lt)
  replace E := Lib.hid (E.out.to hb)
  replace T := Lib.hid (T.out.below hb T.out.1)
  clear hb
  clear SM q1
  go_wp2_with fail
  go_ret
  exact ⟨by first | rfl | (go_simp; done), E.out⟩
end Go.Proofs.YtbilfhipmebmlaaDoor
