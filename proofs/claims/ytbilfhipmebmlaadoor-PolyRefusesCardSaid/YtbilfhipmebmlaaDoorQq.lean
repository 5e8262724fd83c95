/-
  PolyRefuses: the walk. (Written by tools/genqq.py.)
-/
import Derived.Test.YtbilfhipmebmlaaDoorQo
namespace Go.Proofs.YtbilfhipmebmlaaDoor
set_option linter.unusedVariables false
set_option linter.unusedSimpArgs false
open Go.RowKit

set_option maxRecDepth 100000 in
set_option maxHeartbeats 8000000 in
theorem walk_refuses (A0 : Option Addr) (c0 : Nat) (l0 : List UInt8) (A1 : Option Addr) (c1 : Nat) (l1 : List UInt8) (b2 b3 : Nat) (A4 : Option Addr) (c4 : Nat) (l4 : List UInt8) (w : World) (H0 : SlB w A0 l0.length c0 l0) (H1 : SlB w A1 l1.length c1 l1) (y2 : b2 < 256) (y3 : b3 < 256) (H4 : SlB w A4 l4.length c4 l4) (ht : PTab 0 w) :
    Calls Tryd.prog 9 #[.slice A0 l0.length c0, .slice A1 l1.length c1, .int .u8 b2, .int .u8 b3, .slice A4 l4.length c4] w (OkEnd true w) := by
  have R0 := Lib.hid (slB_row H0)
  have R1 := Lib.hid (slB_row H1)
  have R4 := Lib.hid (slB_row H4)
  have hr0 := H0.reach
  have hr1 := H1.reach
  have hr4 := H4.reach
  have T := Lib.hid ht
  have SA := Lib.hid (fun (W : World) (h : Fol w W) => sanity_any6 W (ht.below h ht.1))
  clear H0 H1 H4 ht
  obtain ⟨n0, hn0⟩ : ∃ n, n = l0.length := ⟨_, rfl⟩
  obtain ⟨n1, hn1⟩ : ∃ n, n = l1.length := ⟨_, rfl⟩
  obtain ⟨n4, hn4⟩ : ∃ n, n = l4.length := ⟨_, rfl⟩
  rw [← hn0] at R0 hr0 ⊢
  rw [← hn1] at R1 hr1 ⊢
  rw [← hn4] at R4 hr4 ⊢
  clear hn0 hn1 hn4
  have E : Hid (Fol w w) := Below.refl _ _
  obtain ⟨d1, hd1⟩ : ∃ d1, d1 = b2 + 1 := ⟨_, rfl⟩
  obtain ⟨w2, hw2⟩ : ∃ w2, w2 = 2 * b3 := ⟨_, rfl⟩
  obtain ⟨s, hs⟩ : ∃ s, s = d1 + w2 := ⟨_, rfl⟩
  have e1 : (b2 : Int) + 1 = (d1 : Int) := by omega
  have e2 : (2 : Int) * (b3 : Int) = (w2 : Int) := by omega
  have e3 : (d1 : Int) + (w2 : Int) = (s : Int) := by omega
  have f1 : IntKind.i64.wrap (d1 : Int) = (d1 : Int) := by rw [IntKind.wrap_i64]; omega
  have f2 : IntKind.i64.wrap (w2 : Int) = (w2 : Int) := by rw [IntKind.wrap_i64]; omega
  have f3 : IntKind.i64.wrap (s : Int) = (s : Int) := by rw [IntKind.wrap_i64]; omega
  have f4 : IntKind.i64.wrap (b2 : Int) = (b2 : Int) := by rw [IntKind.wrap_i64]; omega
  have f5 : IntKind.i64.wrap (b3 : Int) = (b3 : Int) := by rw [IntKind.wrap_i64]; omega
  have hd1' := Lib.hid hd1
  have hs' : Hid (s = b2 + 1 + 2 * b3) := by show _ = _; omega
  clear hd1 hw2 hs
  by_cases hD : Dist l0 n0 ∧ n0 = n1
  · have RT := Lib.hid (right_v (A' := A1) (c' := c1) R0.out hr0 hr1 true ⟨fun _ => hD, fun _ => rfl⟩)
    have he := Lib.hid hD.2
    have hd := Lib.hid hD.1
    clear hD
    by_cases hbig : 40 < n0
    · have t0 : (n0 : Int) > 40 := by omega
      clear hbig
      go_enter Tryd.func9, Tryd.ntmps9
      go_wp2_with fail
      refine (RT.out).mono ?_
      rintro e v1 ⟨rfl, hb⟩
      replace R0 := Lib.hid (R0.out.keep hb)
      replace R1 := Lib.hid (R1.out.keep hb)
      replace R4 := Lib.hid (R4.out.keep hb)
      replace E := Lib.hid (E.out.to hb)
      replace T := Lib.hid (T.out.below hb T.out.1)
      clear hb
      clear RT
      go_wp2_with fail
      refine (SA.out v1 E.out).mono ?_
      rintro e v2 ⟨rfl, hb⟩
      replace R0 := Lib.hid (R0.out.keep hb)
      replace R1 := Lib.hid (R1.out.keep hb)
      replace R4 := Lib.hid (R4.out.keep hb)
      replace E := Lib.hid (E.out.to hb)
      replace T := Lib.hid (T.out.below hb T.out.1)
      clear hb
      go_wp2_with fail
      go_ret
      exact ⟨by first | rfl | (go_simp; done), E.out⟩
    have t0 : ¬ (n0 : Int) > 40 := by omega
    by_cases hot : d1 < n4
    · have t1 : (n4 : Int) > (d1 : Int) := by omega
      clear hot hbig
      go_enter Tryd.func9, Tryd.ntmps9
      go_wp2_with fail
      refine (RT.out).mono ?_
      rintro e v1 ⟨rfl, hb⟩
      replace R0 := Lib.hid (R0.out.keep hb)
      replace R1 := Lib.hid (R1.out.keep hb)
      replace R4 := Lib.hid (R4.out.keep hb)
      replace E := Lib.hid (E.out.to hb)
      replace T := Lib.hid (T.out.below hb T.out.1)
      clear hb
      clear RT
      go_wp2_with fail
      refine (SA.out v1 E.out).mono ?_
      rintro e v2 ⟨rfl, hb⟩
      replace R0 := Lib.hid (R0.out.keep hb)
      replace R1 := Lib.hid (R1.out.keep hb)
      replace R4 := Lib.hid (R4.out.keep hb)
      replace E := Lib.hid (E.out.to hb)
      replace T := Lib.hid (T.out.below hb T.out.1)
      clear hb
      go_wp2_with fail
      go_ret
      exact ⟨by first | rfl | (go_simp; done), E.out⟩
    have t1 : ¬ (n4 : Int) > (d1 : Int) := by omega
    by_cases hfew : n0 < s
    · have t2 : (n0 : Int) < (s : Int) := by omega
      clear hfew hot hbig
      go_enter Tryd.func9, Tryd.ntmps9
      go_wp2_with fail
      refine (RT.out).mono ?_
      rintro e v1 ⟨rfl, hb⟩
      replace R0 := Lib.hid (R0.out.keep hb)
      replace R1 := Lib.hid (R1.out.keep hb)
      replace R4 := Lib.hid (R4.out.keep hb)
      replace E := Lib.hid (E.out.to hb)
      replace T := Lib.hid (T.out.below hb T.out.1)
      clear hb
      clear RT
      go_wp2_with fail
      refine (SA.out v1 E.out).mono ?_
      rintro e v2 ⟨rfl, hb⟩
      replace R0 := Lib.hid (R0.out.keep hb)
      replace R1 := Lib.hid (R1.out.keep hb)
      replace R4 := Lib.hid (R4.out.keep hb)
      replace E := Lib.hid (E.out.to hb)
      replace T := Lib.hid (T.out.below hb T.out.1)
      clear hb
      go_wp2_with fail
      go_ret
      exact ⟨by first | rfl | (go_simp; done), E.out⟩
    have t2 : ¬ (n0 : Int) < (s : Int) := by omega
    have hle : n0 ≤ 40 := by omega
    have hn4 : n4 ≤ d1 := by omega
    have hw := hs'.out
    have hd14 : Hid (dg l4 ≤ b2 + 1) := by
      show _ ≤ _
      have h1 := dg_le l4
      have h2 := R4.out.len
      have h3 := hd1'.out
      omega
    have hn4k : n4 ≤ 100000 := by have := hd1'.out; omega
    have hsn : Hid (b2 + 1 + 2 * b3 ≤ n0) := by show _ ≤ _; omega
    clear hw hfew hot hbig hr0 hr1 hr4
    go_enter Tryd.func9, Tryd.ntmps9
    go_wp2_with fail
    refine (RT.out).mono ?_
    rintro e v1 ⟨rfl, hb⟩
    replace R0 := Lib.hid (R0.out.keep hb)
    replace R1 := Lib.hid (R1.out.keep hb)
    replace R4 := Lib.hid (R4.out.keep hb)
    replace E := Lib.hid (E.out.to hb)
    replace T := Lib.hid (T.out.below hb T.out.1)
    clear hb
    clear RT
    go_wp2_with fail
    refine (decode_v R0.out R1.out he.out (by omega) hd.out b2 b3 hsn.out T.out).mono ?_
    rintro e v2 (⟨PP, A5, n5, c5, A6, n6, c6, hF0, rfl, hR5, hR6, hb⟩ | ⟨hL0, rfl, hb⟩)
    · have hF := Lib.hid hF0
      have R5 := Lib.hid hR5
      have R6 := Lib.hid hR6
      have hp5 : Hid (n5 ≤ b2 + 1) := by
        show _ ≤ _
        rw [hR5.len, ← hF0.2.1, trim_len]
        exact hF0.1
      have hp6 : Hid (n6 ≤ b3) := by
        show _ ≤ _
        rw [hR6.len]
        exact hF0.2.2
      have h5 : n5 ≤ d1 := by have := hp5.out; have := hd1'.out; omega
      have h6 : n6 ≤ b3 := hp6.out
      have t5 : ¬ (n5 : Int) > (d1 : Int) := by omega
      have t6 : ¬ (n6 : Int) > (b3 : Int) := by omega
      replace R0 := Lib.hid (R0.out.keep hb)
      replace R1 := Lib.hid (R1.out.keep hb)
      replace R4 := Lib.hid (R4.out.keep hb)
      replace E := Lib.hid (E.out.to hb)
      replace T := Lib.hid (T.out.below hb T.out.1)
      clear hb hF0 hR5 hR6
      go_wp2_with fail
      refine (missed_v R4.out R0.out R1.out (Nat.le_of_eq he.out) hn4k (by omega)).mono ?_
      rintro e v3 ⟨A7, n7, c7, rfl, hR7, hb⟩
      have R7 := Lib.hid hR7
      clear hR7
      replace R0 := Lib.hid (R0.out.keep hb)
      replace R1 := Lib.hid (R1.out.keep hb)
      replace R4 := Lib.hid (R4.out.keep hb)
      replace R5 := Lib.hid (R5.out.keep hb)
      replace R6 := Lib.hid (R6.out.keep hb)
      replace E := Lib.hid (E.out.to hb)
      replace T := Lib.hid (T.out.below hb T.out.1)
      clear hb
      go_wp2_with fail
      refine (missed_v R5.out R0.out R1.out (Nat.le_of_eq he.out) (by have := hp5.out; omega) (by omega)).mono ?_
      rintro e v4 ⟨A8, n8, c8, rfl, hR8, hb⟩
      have R8 := Lib.hid hR8
      clear hR8
      replace R0 := Lib.hid (R0.out.keep hb)
      replace R1 := Lib.hid (R1.out.keep hb)
      replace R4 := Lib.hid (R4.out.keep hb)
      replace R5 := Lib.hid (R5.out.keep hb)
      replace R6 := Lib.hid (R6.out.keep hb)
      replace R7 := Lib.hid (R7.out.keep hb)
      replace E := Lib.hid (E.out.to hb)
      replace T := Lib.hid (T.out.below hb T.out.1)
      clear hb
      have SM := Lib.hid (sameints_v (c := c6) (c' := c8) R6.out R8.out (by omega))
      rw [sameB_refl6] at SM
      go_wp2_with fail
      refine (SM.out).mono ?_
      rintro e v5 ⟨rfl, hb⟩
      replace R0 := Lib.hid (R0.out.keep hb)
      replace R1 := Lib.hid (R1.out.keep hb)
      replace R4 := Lib.hid (R4.out.keep hb)
      replace R5 := Lib.hid (R5.out.keep hb)
      replace R6 := Lib.hid (R6.out.keep hb)
      replace R7 := Lib.hid (R7.out.keep hb)
      replace R8 := Lib.hid (R8.out.keep hb)
      replace E := Lib.hid (E.out.to hb)
      replace T := Lib.hid (T.out.below hb T.out.1)
      clear hb
      clear SM
      go_wp2_with fail
      refine (SA.out v5 E.out).mono ?_
      rintro e v6 ⟨rfl, hb⟩
      replace R0 := Lib.hid (R0.out.keep hb)
      replace R1 := Lib.hid (R1.out.keep hb)
      replace R4 := Lib.hid (R4.out.keep hb)
      replace R5 := Lib.hid (R5.out.keep hb)
      replace R6 := Lib.hid (R6.out.keep hb)
      replace R7 := Lib.hid (R7.out.keep hb)
      replace R8 := Lib.hid (R8.out.keep hb)
      replace E := Lib.hid (E.out.to hb)
      replace T := Lib.hid (T.out.below hb T.out.1)
      clear hb
      by_cases hmm : b3 < n7
      · have t7 : (n7 : Int) > (b3 : Int) := by omega
        clear hmm
        go_wp2_with fail
        go_ret
        exact ⟨by first | rfl | (go_simp; done), E.out⟩
      · have t7 : ¬ (n7 : Int) > (b3 : Int) := by omega
        have heq : Hid (trim l4 = PP) := Found.one (xs := l0) (ys := l1) (n := n0) (d := b2) (wrong := b3) ⟨by rw [dg_trim]; exact hd14.out, trim_trim _, by rw [missL_congr (co_trim l4), ← R7.out.len]; omega⟩ hF.out hd.out hsn.out
        clear hmm
        go_wp2_with fail
        refine (trim_v R4.out hn4k).mono ?_
        rintro e v7 ⟨A9, n9, c9, rfl, hR9, hb⟩
        have R9 := Lib.hid hR9
        clear hR9
        replace R0 := Lib.hid (R0.out.keep hb)
        replace R1 := Lib.hid (R1.out.keep hb)
        replace R4 := Lib.hid (R4.out.keep hb)
        replace R5 := Lib.hid (R5.out.keep hb)
        replace R6 := Lib.hid (R6.out.keep hb)
        replace R7 := Lib.hid (R7.out.keep hb)
        replace R8 := Lib.hid (R8.out.keep hb)
        replace E := Lib.hid (E.out.to hb)
        replace T := Lib.hid (T.out.below hb T.out.1)
        clear hb
        rw [heq.out] at R9
        have SM := Lib.hid (same6_v R9.out R5.out (by have := R9.out.len; have := R5.out.len; have := hp5.out; omega))
        rw [sameB_refl6] at SM
        go_wp2_with fail
        refine (SM.out).mono ?_
        rintro e v8 ⟨rfl, hb⟩
        replace R0 := Lib.hid (R0.out.keep hb)
        replace R1 := Lib.hid (R1.out.keep hb)
        replace R4 := Lib.hid (R4.out.keep hb)
        replace R5 := Lib.hid (R5.out.keep hb)
        replace R6 := Lib.hid (R6.out.keep hb)
        replace R7 := Lib.hid (R7.out.keep hb)
        replace R8 := Lib.hid (R8.out.keep hb)
        replace R9 := Lib.hid (R9.out.keep hb)
        replace E := Lib.hid (E.out.to hb)
        replace T := Lib.hid (T.out.below hb T.out.1)
        clear hb
        clear SM
        go_wp2_with fail
        go_ret
        exact ⟨by first | rfl | (go_simp; done), E.out⟩
    · have hL := Lib.hid hL0
      replace R0 := Lib.hid (R0.out.keep hb)
      replace R1 := Lib.hid (R1.out.keep hb)
      replace R4 := Lib.hid (R4.out.keep hb)
      replace E := Lib.hid (E.out.to hb)
      replace T := Lib.hid (T.out.below hb T.out.1)
      clear hb hL0
      go_wp2_with fail
      refine (missed_v R4.out R0.out R1.out (Nat.le_of_eq he.out) hn4k (by omega)).mono ?_
      rintro e v3 ⟨A7, n7, c7, rfl, hR7, hb⟩
      have R7 := Lib.hid hR7
      clear hR7
      replace R0 := Lib.hid (R0.out.keep hb)
      replace R1 := Lib.hid (R1.out.keep hb)
      replace R4 := Lib.hid (R4.out.keep hb)
      replace E := Lib.hid (E.out.to hb)
      replace T := Lib.hid (T.out.below hb T.out.1)
      clear hb
      have hm7 : b3 < n7 := by rw [R7.out.len]; exact hL.out l4 hd14.out
      have t7 : (n7 : Int) > (b3 : Int) := by omega
      clear hm7
      go_wp2_with fail
      refine (SA.out v3 E.out).mono ?_
      rintro e v4 ⟨rfl, hb⟩
      replace R0 := Lib.hid (R0.out.keep hb)
      replace R1 := Lib.hid (R1.out.keep hb)
      replace R4 := Lib.hid (R4.out.keep hb)
      replace R7 := Lib.hid (R7.out.keep hb)
      replace E := Lib.hid (E.out.to hb)
      replace T := Lib.hid (T.out.below hb T.out.1)
      clear hb
      go_wp2_with fail
      go_ret
      exact ⟨by first | rfl | (go_simp; done), E.out⟩
  · have RT := Lib.hid (right_v (A' := A1) (c' := c1) R0.out hr0 hr1 false ⟨fun h => (by cases h), fun h => absurd h hD⟩)
    clear hD
    by_cases hbig : 40 < n0
    · have t0 : (n0 : Int) > 40 := by omega
      clear hbig
      go_enter Tryd.func9, Tryd.ntmps9
      go_wp2_with fail
      refine (RT.out).mono ?_
      rintro e v1 ⟨rfl, hb⟩
      replace R0 := Lib.hid (R0.out.keep hb)
      replace R1 := Lib.hid (R1.out.keep hb)
      replace R4 := Lib.hid (R4.out.keep hb)
      replace E := Lib.hid (E.out.to hb)
      replace T := Lib.hid (T.out.below hb T.out.1)
      clear hb
      clear RT
      go_wp2_with fail
      refine (SA.out v1 E.out).mono ?_
      rintro e v2 ⟨rfl, hb⟩
      replace R0 := Lib.hid (R0.out.keep hb)
      replace R1 := Lib.hid (R1.out.keep hb)
      replace R4 := Lib.hid (R4.out.keep hb)
      replace E := Lib.hid (E.out.to hb)
      replace T := Lib.hid (T.out.below hb T.out.1)
      clear hb
      go_wp2_with fail
      go_ret
      exact ⟨by first | rfl | (go_simp; done), E.out⟩
    · have t0 : ¬ (n0 : Int) > 40 := by omega
      clear hbig
      go_enter Tryd.func9, Tryd.ntmps9
      go_wp2_with fail
      refine (RT.out).mono ?_
      rintro e v1 ⟨rfl, hb⟩
      replace R0 := Lib.hid (R0.out.keep hb)
      replace R1 := Lib.hid (R1.out.keep hb)
      replace R4 := Lib.hid (R4.out.keep hb)
      replace E := Lib.hid (E.out.to hb)
      replace T := Lib.hid (T.out.below hb T.out.1)
      clear hb
      clear RT
      go_wp2_with fail
      refine (SA.out v1 E.out).mono ?_
      rintro e v2 ⟨rfl, hb⟩
      replace R0 := Lib.hid (R0.out.keep hb)
      replace R1 := Lib.hid (R1.out.keep hb)
      replace R4 := Lib.hid (R4.out.keep hb)
      replace E := Lib.hid (E.out.to hb)
      replace T := Lib.hid (T.out.below hb T.out.1)
      clear hb
      go_wp2_with fail
      go_ret
      exact ⟨by first | rfl | (go_simp; done), E.out⟩
end Go.Proofs.YtbilfhipmebmlaaDoor
