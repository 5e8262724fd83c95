/-
  PolyInterpolatesAsSpecified: the walk. (Written by tools/genqt.py.)
-/
import Derived.Test.YtbilfhipmebmlaaDoorQs
namespace Go.Proofs.YtbilfhipmebmlaaDoor
set_option linter.unusedVariables false
set_option linter.unusedSimpArgs false
open Go.RowKit

theorem ipR_len (l m : List UInt8) (n n' : Nat) : (ipR l m n n').1.length ≤ n := by
  unfold ipR
  split
  · rename_i h; exact lineP_len l m h.1
  · simp
theorem thR_len (l m : List UInt8) (n n' : Nat) (d : Int) : (thR l m n n' d).1.length ≤ n := by
  unfold thR
  split
  · rename_i h
    split
    · simp
    · split
      · exact lineP_len l m h.1
      · simp
  · simp

set_option maxRecDepth 100000 in
set_option maxHeartbeats 8000000 in
theorem walk_ipspec (A0 : Option Addr) (c0 : Nat) (l0 : List UInt8) (A1 : Option Addr) (c1 : Nat) (l1 : List UInt8) (a2 : Int) (w : World) (H0 : SlB w A0 l0.length c0 l0) (H1 : SlB w A1 l1.length c1 l1) (hi2 : -9223372036854775808 ≤ a2 ∧ a2 ≤ 9223372036854775807) (ht : PTab 0 w) :
    Calls Tryd.prog 4 #[.slice A0 l0.length c0, .slice A1 l1.length c1, .int .i64 a2] w (OkEnd true w) := by
  have R0 := Lib.hid (slB_row H0)
  have R1 := Lib.hid (slB_row H1)
  have hr0 := H0.reach
  have hr1 := H1.reach
  have T := Lib.hid ht
  have SA := Lib.hid (fun (W : World) (h : Fol w W) => sanity_any6 W (ht.below h ht.1))
  clear H0 H1 ht hi2
  obtain ⟨n0, hn0⟩ : ∃ n, n = l0.length := ⟨_, rfl⟩
  obtain ⟨n1, hn1⟩ : ∃ n, n = l1.length := ⟨_, rfl⟩
  rw [← hn0] at R0 hr0 ⊢
  rw [← hn1] at R1 hr1 ⊢
  clear hn0 hn1
  have E : Hid (Fol w w) := Below.refl _ _
  by_cases hb0 : 24 < n0
  · have t0 : (n0 : Int) > 24 := by omega
    clear hb0
    have SA0 := Lib.hid (SA.out w E.out)
    go_enter Tryd.func4, Tryd.ntmps4
    go_wp2_with fail
    refine SA0.out.mono ?_
    rintro e v1 ⟨rfl, hb⟩
    replace E := Lib.hid (E.out.to hb)
    clear hb
    go_wp2_with fail
    go_ret
    exact ⟨by first | rfl | (go_simp; done), E.out⟩
  have t0 : ¬ (n0 : Int) > 24 := by omega
  by_cases hb1 : 24 < n1
  · have t1 : (n1 : Int) > 24 := by omega
    clear hb1 hb0
    have SA0 := Lib.hid (SA.out w E.out)
    go_enter Tryd.func4, Tryd.ntmps4
    go_wp2_with fail
    refine SA0.out.mono ?_
    rintro e v1 ⟨rfl, hb⟩
    replace E := Lib.hid (E.out.to hb)
    clear hb
    go_wp2_with fail
    go_ret
    exact ⟨by first | rfl | (go_simp; done), E.out⟩
  have t1 : ¬ (n1 : Int) > 24 := by omega
  have h0 : n0 ≤ 24 := by omega
  have h1 : n1 ≤ 24 := by omega
  obtain ⟨P1, hP1⟩ : ∃ P, P = (ipR l0 l1 n0 n1).1 := ⟨_, rfl⟩
  obtain ⟨E1, hE1⟩ : ∃ P, P = (ipR l0 l1 n0 n1).2 := ⟨_, rfl⟩
  obtain ⟨P2, hP2⟩ : ∃ P, P = (thR l0 l1 n0 n1 a2).1 := ⟨_, rfl⟩
  obtain ⟨E2, hE2⟩ : ∃ P, P = (thR l0 l1 n0 n1 a2).2 := ⟨_, rfl⟩
  have hl1 : Hid (P1.length ≤ 24) := by have := ipR_len l0 l1 n0 n1; rw [← hP1] at this; show _ ≤ _; omega
  have hl2 : Hid (P2.length ≤ 24) := by have := thR_len l0 l1 n0 n1 a2; rw [← hP2] at this; show _ ≤ _; omega
  have hq := Lib.hid (And.intro hP1 (And.intro hE1 (And.intro hP2 hE2)))
  clear hP1 hE1 hP2 hE2 hb0 hb1 hr0 hr1
  go_enter Tryd.func4, Tryd.ntmps4
  go_wp2_with fail
  refine (ip_v R0.out R1.out (by omega) (by omega) T.out P1 E1 hq.out.1 hq.out.2.1).mono ?_
  rintro e v1 ⟨A3, n3, c3, rfl, hR3, hb⟩
  have R3 := Lib.hid hR3
  clear hR3
  replace R0 := Lib.hid (R0.out.keep hb)
  replace R1 := Lib.hid (R1.out.keep hb)
  replace E := Lib.hid (E.out.to hb)
  replace T := Lib.hid (T.out.below hb T.out.1)
  clear hb
  go_wp2_with fail
  refine (rip_v R0.out R1.out (by omega) (by omega) P1 E1 hq.out.1 hq.out.2.1).mono ?_
  rintro e v2 ⟨A4, n4, c4, rfl, hR4, hb⟩
  have R4 := Lib.hid hR4
  clear hR4
  replace R0 := Lib.hid (R0.out.keep hb)
  replace R1 := Lib.hid (R1.out.keep hb)
  replace R3 := Lib.hid (R3.out.keep hb)
  replace E := Lib.hid (E.out.to hb)
  replace T := Lib.hid (T.out.below hb T.out.1)
  clear hb
  go_wp2_with fail
  generalize hg : v2.alloc _ = u2
  have BX : Hid (Blk u2 v2.heap.size [.slice A4 n4 c4, .int .i64 E1] 39) := by rw [← hg]; exact Blk.new v2 [.slice A4 n4 c4, .int .i64 E1] _
  have hb : Below v2.heap.size v2 u2 := by rw [← hg]; exact (Below.refl _ _).alloc (Nat.le_refl _) _
  clear hg
  replace R0 := Lib.hid (R0.out.keep hb)
  replace R1 := Lib.hid (R1.out.keep hb)
  replace R3 := Lib.hid (R3.out.keep hb)
  replace R4 := Lib.hid (R4.out.keep hb)
  replace E := Lib.hid (E.out.to hb)
  replace T := Lib.hid (T.out.below hb T.out.1)
  clear hb
  obtain ⟨gBX, hgBX⟩ : ∃ g, g = v2.heap.size := ⟨_, rfl⟩
  rw [← hgBX] at BX ⊢
  clear hgBX
  refine (th_v R0.out R1.out (by omega) (by omega) a2 T.out P2 E2 hq.out.2.2.1 hq.out.2.2.2).mono ?_
  rintro e v3 ⟨A5, n5, c5, rfl, hR5, hb⟩
  have R5 := Lib.hid hR5
  clear hR5
  replace R0 := Lib.hid (R0.out.keep hb)
  replace R1 := Lib.hid (R1.out.keep hb)
  replace R3 := Lib.hid (R3.out.keep hb)
  replace R4 := Lib.hid (R4.out.keep hb)
  replace BX := Lib.hid (BX.out.below hb BX.out.lt)
  replace E := Lib.hid (E.out.to hb)
  replace T := Lib.hid (T.out.below hb T.out.1)
  clear hb
  go_wp2_with fail
  refine (rth_v R0.out R1.out (by omega) (by omega) a2 P2 E2 hq.out.2.2.1 hq.out.2.2.2).mono ?_
  rintro e v4 ⟨A6, n6, c6, rfl, hR6, hb⟩
  have R6 := Lib.hid hR6
  clear hR6
  replace R0 := Lib.hid (R0.out.keep hb)
  replace R1 := Lib.hid (R1.out.keep hb)
  replace R3 := Lib.hid (R3.out.keep hb)
  replace R4 := Lib.hid (R4.out.keep hb)
  replace R5 := Lib.hid (R5.out.keep hb)
  replace BX := Lib.hid (BX.out.below hb BX.out.lt)
  replace E := Lib.hid (E.out.to hb)
  replace T := Lib.hid (T.out.below hb T.out.1)
  clear hb
  go_wp2_with fail
  generalize hg : v4.alloc _ = u4
  have BY : Hid (Blk u4 v4.heap.size [.slice A6 n6 c6, .int .i64 E2] 39) := by rw [← hg]; exact Blk.new v4 [.slice A6 n6 c6, .int .i64 E2] _
  have hb : Below v4.heap.size v4 u4 := by rw [← hg]; exact (Below.refl _ _).alloc (Nat.le_refl _) _
  clear hg
  replace R0 := Lib.hid (R0.out.keep hb)
  replace R1 := Lib.hid (R1.out.keep hb)
  replace R3 := Lib.hid (R3.out.keep hb)
  replace R4 := Lib.hid (R4.out.keep hb)
  replace R5 := Lib.hid (R5.out.keep hb)
  replace R6 := Lib.hid (R6.out.keep hb)
  replace E := Lib.hid (E.out.to hb)
  replace T := Lib.hid (T.out.below hb T.out.1)
  replace BX := Lib.hid (BX.out.below hb BX.out.lt)
  clear hb
  obtain ⟨gBY, hgBY⟩ : ∃ g, g = v4.heap.size := ⟨_, rfl⟩
  rw [← hgBY] at BY ⊢
  clear hgBY
  refine (SA.out _ E.out).mono ?_
  rintro e v5 ⟨rfl, hb⟩
  replace R0 := Lib.hid (R0.out.keep hb)
  replace R1 := Lib.hid (R1.out.keep hb)
  replace R3 := Lib.hid (R3.out.keep hb)
  replace R4 := Lib.hid (R4.out.keep hb)
  replace R5 := Lib.hid (R5.out.keep hb)
  replace R6 := Lib.hid (R6.out.keep hb)
  replace BX := Lib.hid (BX.out.below hb BX.out.lt)
  replace BY := Lib.hid (BY.out.below hb BY.out.lt)
  replace E := Lib.hid (E.out.to hb)
  replace T := Lib.hid (T.out.below hb T.out.1)
  clear hb
  have q1 := BX.out.cell (j := 0) rfl
  have q2 := BX.out.cell (j := 1) rfl
  have SM := Lib.hid (same6_v R3.out R4.out (by have := R3.out.len; have := hl1.out; omega))
  rw [sameB_refl6] at SM
  go_wp2_with fail
  refine (SM.out).mono ?_
  rintro e v6 ⟨rfl, hb⟩
  replace R0 := Lib.hid (R0.out.keep hb)
  replace R1 := Lib.hid (R1.out.keep hb)
  replace R3 := Lib.hid (R3.out.keep hb)
  replace R4 := Lib.hid (R4.out.keep hb)
  replace R5 := Lib.hid (R5.out.keep hb)
  replace R6 := Lib.hid (R6.out.keep hb)
  replace BX := Lib.hid (BX.out.below hb BX.out.lt)
  replace BY := Lib.hid (BY.out.below hb BY.out.lt)
  replace E := Lib.hid (E.out.to hb)
  replace T := Lib.hid (T.out.below hb T.out.1)
  clear hb
  clear SM q1 q2
  have q1 := BY.out.cell (j := 0) rfl
  have q2 := BY.out.cell (j := 1) rfl
  have SM := Lib.hid (same6_v R5.out R6.out (by have := R5.out.len; have := hl2.out; omega))
  rw [sameB_refl6] at SM
  go_wp2_with fail
  refine (SM.out).mono ?_
  rintro e v7 ⟨rfl, hb⟩
  replace R0 := Lib.hid (R0.out.keep hb)
  replace R1 := Lib.hid (R1.out.keep hb)
  replace R3 := Lib.hid (R3.out.keep hb)
  replace R4 := Lib.hid (R4.out.keep hb)
  replace R5 := Lib.hid (R5.out.keep hb)
  replace R6 := Lib.hid (R6.out.keep hb)
  replace BX := Lib.hid (BX.out.below hb BX.out.lt)
  replace BY := Lib.hid (BY.out.below hb BY.out.lt)
  replace E := Lib.hid (E.out.to hb)
  replace T := Lib.hid (T.out.below hb T.out.1)
  clear hb
  clear SM q1 q2
  go_wp2_with fail
  go_ret
  exact ⟨by first | rfl | (go_simp; done), E.out⟩
end Go.Proofs.YtbilfhipmebmlaaDoor
