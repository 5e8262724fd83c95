/-
  PolyInterpolates: the walk. (Written by tools/genqp.py.)
-/
import Derived.Test.YtbilfhipmebmlaaDoorQo
namespace Go.Proofs.YtbilfhipmebmlaaDoor
set_option linter.unusedVariables false
set_option linter.unusedSimpArgs false
open Go.RowKit

theorem vals_line {l m : List UInt8} {n : Nat} (hd : Dist l n) (hm : n = m.length) : valsL (lineP l m n) l n = m :=
  list_ext (by rw [valsL_len, hm]) fun j => by
    rcases Nat.lt_or_ge j n with h | h
    · rw [co_valsL h, (lineP_spec hd).2 j h]
    · rw [co_out (by rw [valsL_len]; exact h), co_out (by omega)]
theorem line_vals {l p : List UInt8} {n : Nat} (hd : Dist l n) (hp : p.length ≤ n) : lineP l (valsL p l n) n = trim p :=
  lineP_uni hd (Nat.le_trans (dg_le p) hp) fun j hj => by rw [co_valsL hj]

set_option maxRecDepth 100000 in
set_option maxHeartbeats 8000000 in
theorem walk_interpolates (A0 : Option Addr) (c0 : Nat) (l0 : List UInt8) (A1 : Option Addr) (c1 : Nat) (l1 : List UInt8) (A2 : Option Addr) (c2 : Nat) (l2 : List UInt8) (w : World) (H0 : SlB w A0 l0.length c0 l0) (H1 : SlB w A1 l1.length c1 l1) (H2 : SlB w A2 l2.length c2 l2) (ht : PTab 0 w) :
    Calls Tryd.prog 7 #[.slice A0 l0.length c0, .slice A1 l1.length c1, .slice A2 l2.length c2] w (OkEnd true w) := by
  have R0 := Lib.hid (slB_row H0)
  have R1 := Lib.hid (slB_row H1)
  have R2 := Lib.hid (slB_row H2)
  have hr0 := H0.reach
  have hr1 := H1.reach
  have hr2 := H2.reach
  have T := Lib.hid ht
  have SA := Lib.hid (fun (W : World) (h : Fol w W) => sanity_any6 W (ht.below h ht.1))
  clear H0 H1 H2 ht
  obtain ⟨n0, hn0⟩ : ∃ n, n = l0.length := ⟨_, rfl⟩
  obtain ⟨n1, hn1⟩ : ∃ n, n = l1.length := ⟨_, rfl⟩
  obtain ⟨n2, hn2⟩ : ∃ n, n = l2.length := ⟨_, rfl⟩
  rw [← hn0] at R0 hr0 ⊢
  rw [← hn1] at R1 hr1 ⊢
  rw [← hn2] at R2 hr2 ⊢
  clear hn0 hn1 hn2
  have E : Hid (Fol w w) := Below.refl _ _
  by_cases hD : Dist l0 n0 ∧ n0 = n1
  · have hD' := Lib.hid hD
    have RT := Lib.hid (right_v (A' := A1) (c' := c1) R0.out hr0 hr1 true ⟨fun _ => hD, fun _ => rfl⟩)
    by_cases hbig : 40 < n0
    · have t0 : (n0 : Int) > 40 := by omega
      clear hD
      go_enter Tryd.func7, Tryd.ntmps7
      go_wp2_with fail
      refine (RT.out).mono ?_
      rintro e v1 ⟨rfl, hb⟩
      replace R0 := Lib.hid (R0.out.keep hb)
      replace R1 := Lib.hid (R1.out.keep hb)
      replace R2 := Lib.hid (R2.out.keep hb)
      replace E := Lib.hid (E.out.to hb)
      replace T := Lib.hid (T.out.below hb T.out.1)
      clear hb
      clear RT
      go_wp2_with fail
      refine (SA.out v1 E.out).mono ?_
      rintro e v2 ⟨rfl, hb⟩
      replace R0 := Lib.hid (R0.out.keep hb)
      replace R1 := Lib.hid (R1.out.keep hb)
      replace R2 := Lib.hid (R2.out.keep hb)
      replace E := Lib.hid (E.out.to hb)
      replace T := Lib.hid (T.out.below hb T.out.1)
      clear hb
      go_wp2_with fail
      go_ret
      exact ⟨by first | rfl | (go_simp; done), E.out⟩
    · have t0 : ¬ (n0 : Int) > 40 := by omega
      have hle : n0 ≤ 40 := by omega
      have he := Lib.hid hD.2
      have hd := Lib.hid hD.1
      clear hD hbig hr0 hr1
      go_enter Tryd.func7, Tryd.ntmps7
      go_wp2_with fail
      refine (RT.out).mono ?_
      rintro e v1 ⟨rfl, hb⟩
      replace R0 := Lib.hid (R0.out.keep hb)
      replace R1 := Lib.hid (R1.out.keep hb)
      replace R2 := Lib.hid (R2.out.keep hb)
      replace E := Lib.hid (E.out.to hb)
      replace T := Lib.hid (T.out.below hb T.out.1)
      clear hb
      clear RT
      go_wp2_with fail
      have IN := Lib.hid (interp_v R0.out R1.out he.out (by omega) hd.out T.out)
      have hvl := Lib.hid (vals_line hd.out (m := l1) (by rw [← R1.out.len]; exact he.out))
      have hll := Lib.hid (lineP_len l0 l1 hd.out)
      generalize lineP l0 l1 n0 = LP at *
      refine (IN.out).mono ?_
      rintro e v2 ⟨A3, n3, c3, rfl, hR3, hb⟩
      have R3 := Lib.hid hR3
      clear hR3
      replace R0 := Lib.hid (R0.out.keep hb)
      replace R1 := Lib.hid (R1.out.keep hb)
      replace R2 := Lib.hid (R2.out.keep hb)
      replace E := Lib.hid (E.out.to hb)
      replace T := Lib.hid (T.out.below hb T.out.1)
      clear hb
      clear IN
      have hn3 : n3 ≤ n0 := by have := R3.out.len; have := hll.out; omega
      have t3 : ¬ (n3 : Int) > (n0 : Int) := by omega
      go_wp2_with fail
      refine (values_v R3.out R0.out (by omega) (by omega) T.out).mono ?_
      rintro e v3 ⟨A4, n4, c4, rfl, hR4, hb⟩
      have R4 := Lib.hid hR4
      clear hR4
      replace R0 := Lib.hid (R0.out.keep hb)
      replace R1 := Lib.hid (R1.out.keep hb)
      replace R2 := Lib.hid (R2.out.keep hb)
      replace R3 := Lib.hid (R3.out.keep hb)
      replace E := Lib.hid (E.out.to hb)
      replace T := Lib.hid (T.out.below hb T.out.1)
      clear hb
      rw [hvl.out] at R4
      have SM := Lib.hid (same6_v R4.out R1.out (by have := R4.out.len; have := R1.out.len; have := he.out; omega))
      rw [sameB_refl6] at SM
      go_wp2_with fail
      refine (SM.out).mono ?_
      rintro e v4 ⟨rfl, hb⟩
      replace R0 := Lib.hid (R0.out.keep hb)
      replace R1 := Lib.hid (R1.out.keep hb)
      replace R2 := Lib.hid (R2.out.keep hb)
      replace R3 := Lib.hid (R3.out.keep hb)
      replace R4 := Lib.hid (R4.out.keep hb)
      replace E := Lib.hid (E.out.to hb)
      replace T := Lib.hid (T.out.below hb T.out.1)
      clear hb
      clear SM
      clear R3 R4 R1 hvl hll t3
      by_cases hp : n0 < n2 ∨ n2 = 0
      · by_cases hp1 : n0 < n2
        · have t4 : (n2 : Int) > (n0 : Int) := by omega
          clear hp
          go_wp2_with fail
          refine (SA.out v4 E.out).mono ?_
          rintro e v5 ⟨rfl, hb⟩
          replace R0 := Lib.hid (R0.out.keep hb)
          replace R2 := Lib.hid (R2.out.keep hb)
          replace E := Lib.hid (E.out.to hb)
          replace T := Lib.hid (T.out.below hb T.out.1)
          clear hb
          go_wp2_with fail
          go_ret
          exact ⟨by first | rfl | (go_simp; done), E.out⟩
        · have t4 : ¬ (n2 : Int) > (n0 : Int) := by omega
          obtain rfl : n2 = 0 := by omega
          clear hp
          go_wp2_with fail
          refine (SA.out v4 E.out).mono ?_
          rintro e v5 ⟨rfl, hb⟩
          replace R0 := Lib.hid (R0.out.keep hb)
          replace R2 := Lib.hid (R2.out.keep hb)
          replace E := Lib.hid (E.out.to hb)
          replace T := Lib.hid (T.out.below hb T.out.1)
          clear hb
          go_wp2_with fail
          go_ret
          exact ⟨by first | rfl | (go_simp; done), E.out⟩
      · have t4 : ¬ (n2 : Int) > (n0 : Int) := by omega
        obtain ⟨q, hq⟩ : ∃ q, n2 = q + 1 := ⟨n2 - 1, by omega⟩
        have t5 : ((n2 : Int) == 0) = false := by simp only [beq_eq_false_iff_ne, ne_eq]; omega
        have t6 : (n2 : Int) - 1 = (q : Int) := by omega
        have t7 : IntKind.i64.wrap ((n2 : Int) - 1) = (q : Int) := by rw [IntKind.wrap_i64]; omega
        have hqn : q < n0 := by omega
        have hq2 := Lib.hid hq
        have hp2 : n2 ≤ n0 := by omega
        have hline := Lib.hid (line_vals (l := l0) (p := l2) hd.out (by rw [← R2.out.len]; exact hp2))
        have hdg : Hid (dg (trim l2) ≤ q + 1) := by
          show _ ≤ _
          rw [dg_trim]
          have h1 := dg_le l2
          have h2 := R2.out.len
          omega
        have htl : Hid ((trim l2).length ≤ 40) := by
          show _ ≤ _
          rw [trim_len]
          have h1 := dg_le l2
          have h2 := R2.out.len
          omega
        clear hp hq
        go_wp2_with fail
        refine (values_v R2.out R0.out (by omega) (by omega) T.out).mono ?_
        rintro e v5 ⟨A5, n5, c5, rfl, hR5, hb⟩
        have R5 := Lib.hid hR5
        clear hR5
        replace R0 := Lib.hid (R0.out.keep hb)
        replace R2 := Lib.hid (R2.out.keep hb)
        replace E := Lib.hid (E.out.to hb)
        replace T := Lib.hid (T.out.below hb T.out.1)
        clear hb
        have h5 : Hid (n0 = n5) := by show _ = _; rw [R5.out.len, valsL_len]
        have IN := Lib.hid (interp_v R0.out R5.out h5.out (by omega) hd.out T.out)
        rw [hline.out] at IN
        go_wp2_with fail
        refine (IN.out).mono ?_
        rintro e v6 ⟨A6, n6, c6, rfl, hR6, hb⟩
        have R6 := Lib.hid hR6
        clear hR6
        replace R0 := Lib.hid (R0.out.keep hb)
        replace R2 := Lib.hid (R2.out.keep hb)
        replace E := Lib.hid (E.out.to hb)
        replace T := Lib.hid (T.out.below hb T.out.1)
        clear hb
        clear IN R5
        go_wp2_with fail
        refine (values_v R2.out R0.out (by omega) (by omega) T.out).mono ?_
        rintro e v7 ⟨A7, n7, c7, rfl, hR7, hb⟩
        have R7 := Lib.hid hR7
        clear hR7
        replace R0 := Lib.hid (R0.out.keep hb)
        replace R2 := Lib.hid (R2.out.keep hb)
        replace R6 := Lib.hid (R6.out.keep hb)
        replace E := Lib.hid (E.out.to hb)
        replace T := Lib.hid (T.out.below hb T.out.1)
        clear hb
        have h7 : Hid (n0 = n7) := by show _ = _; rw [R7.out.len, valsL_len]
        have TH := Lib.hid (through_v R0.out R7.out h7.out (by omega) hd.out q hqn (by rw [hline.out]; exact hdg.out) T.out)
        rw [hline.out] at TH
        go_wp2_with fail
        refine (TH.out).mono ?_
        rintro e v8 ⟨A8, n8, c8, rfl, hR8, hb⟩
        have R8 := Lib.hid hR8
        clear hR8
        replace R0 := Lib.hid (R0.out.keep hb)
        replace R2 := Lib.hid (R2.out.keep hb)
        replace R6 := Lib.hid (R6.out.keep hb)
        replace E := Lib.hid (E.out.to hb)
        replace T := Lib.hid (T.out.below hb T.out.1)
        clear hb
        clear TH R7
        go_wp2_with fail
        refine (SA.out v8 E.out).mono ?_
        rintro e v9 ⟨rfl, hb⟩
        replace R0 := Lib.hid (R0.out.keep hb)
        replace R2 := Lib.hid (R2.out.keep hb)
        replace R6 := Lib.hid (R6.out.keep hb)
        replace R8 := Lib.hid (R8.out.keep hb)
        replace E := Lib.hid (E.out.to hb)
        replace T := Lib.hid (T.out.below hb T.out.1)
        clear hb
        go_wp2_with fail
        refine (trim_v R2.out (by omega)).mono ?_
        rintro e v10 ⟨A9, n9, c9, rfl, hR9, hb⟩
        have R9 := Lib.hid hR9
        clear hR9
        replace R0 := Lib.hid (R0.out.keep hb)
        replace R2 := Lib.hid (R2.out.keep hb)
        replace R6 := Lib.hid (R6.out.keep hb)
        replace R8 := Lib.hid (R8.out.keep hb)
        replace E := Lib.hid (E.out.to hb)
        replace T := Lib.hid (T.out.below hb T.out.1)
        clear hb
        have SM := Lib.hid (same6_v R6.out R9.out (by have := R6.out.len; have := htl.out; omega))
        rw [sameB_refl6] at SM
        go_wp2_with fail
        refine (SM.out).mono ?_
        rintro e v11 ⟨rfl, hb⟩
        replace R0 := Lib.hid (R0.out.keep hb)
        replace R2 := Lib.hid (R2.out.keep hb)
        replace R6 := Lib.hid (R6.out.keep hb)
        replace R8 := Lib.hid (R8.out.keep hb)
        replace R9 := Lib.hid (R9.out.keep hb)
        replace E := Lib.hid (E.out.to hb)
        replace T := Lib.hid (T.out.below hb T.out.1)
        clear hb
        clear SM
        go_wp2_with fail
        refine (trim_v R2.out (by omega)).mono ?_
        rintro e v12 ⟨A10, n10, c10, rfl, hR10, hb⟩
        have R10 := Lib.hid hR10
        clear hR10
        replace R0 := Lib.hid (R0.out.keep hb)
        replace R2 := Lib.hid (R2.out.keep hb)
        replace R6 := Lib.hid (R6.out.keep hb)
        replace R8 := Lib.hid (R8.out.keep hb)
        replace R9 := Lib.hid (R9.out.keep hb)
        replace E := Lib.hid (E.out.to hb)
        replace T := Lib.hid (T.out.below hb T.out.1)
        clear hb
        have SM := Lib.hid (same6_v R8.out R10.out (by have := R8.out.len; have := htl.out; omega))
        rw [sameB_refl6] at SM
        go_wp2_with fail
        refine (SM.out).mono ?_
        rintro e v13 ⟨rfl, hb⟩
        replace R0 := Lib.hid (R0.out.keep hb)
        replace R2 := Lib.hid (R2.out.keep hb)
        replace R6 := Lib.hid (R6.out.keep hb)
        replace R8 := Lib.hid (R8.out.keep hb)
        replace R9 := Lib.hid (R9.out.keep hb)
        replace R10 := Lib.hid (R10.out.keep hb)
        replace E := Lib.hid (E.out.to hb)
        replace T := Lib.hid (T.out.below hb T.out.1)
        clear hb
        clear SM
        go_wp2_with fail
        go_ret
        exact ⟨by first | rfl | (go_simp; done), E.out⟩
  · have RT := Lib.hid (right_v (A' := A1) (c' := c1) R0.out hr0 hr1 false ⟨fun h => (by cases h), fun h => absurd h hD⟩)
    clear hD
    by_cases hbig : 40 < n0
    · have t0 : (n0 : Int) > 40 := by omega
      go_enter Tryd.func7, Tryd.ntmps7
      go_wp2_with fail
      refine (RT.out).mono ?_
      rintro e v1 ⟨rfl, hb⟩
      replace R0 := Lib.hid (R0.out.keep hb)
      replace R1 := Lib.hid (R1.out.keep hb)
      replace R2 := Lib.hid (R2.out.keep hb)
      replace E := Lib.hid (E.out.to hb)
      replace T := Lib.hid (T.out.below hb T.out.1)
      clear hb
      clear RT
      go_wp2_with fail
      refine (SA.out v1 E.out).mono ?_
      rintro e v2 ⟨rfl, hb⟩
      replace R0 := Lib.hid (R0.out.keep hb)
      replace R1 := Lib.hid (R1.out.keep hb)
      replace R2 := Lib.hid (R2.out.keep hb)
      replace E := Lib.hid (E.out.to hb)
      replace T := Lib.hid (T.out.below hb T.out.1)
      clear hb
      go_wp2_with fail
      go_ret
      exact ⟨by first | rfl | (go_simp; done), E.out⟩
    · have t0 : ¬ (n0 : Int) > 40 := by omega
      go_enter Tryd.func7, Tryd.ntmps7
      go_wp2_with fail
      refine (RT.out).mono ?_
      rintro e v1 ⟨rfl, hb⟩
      replace R0 := Lib.hid (R0.out.keep hb)
      replace R1 := Lib.hid (R1.out.keep hb)
      replace R2 := Lib.hid (R2.out.keep hb)
      replace E := Lib.hid (E.out.to hb)
      replace T := Lib.hid (T.out.below hb T.out.1)
      clear hb
      clear RT
      go_wp2_with fail
      refine (SA.out v1 E.out).mono ?_
      rintro e v2 ⟨rfl, hb⟩
      replace R0 := Lib.hid (R0.out.keep hb)
      replace R1 := Lib.hid (R1.out.keep hb)
      replace R2 := Lib.hid (R2.out.keep hb)
      replace E := Lib.hid (E.out.to hb)
      replace T := Lib.hid (T.out.below hb T.out.1)
      clear hb
      go_wp2_with fail
      go_ret
      exact ⟨by first | rfl | (go_simp; done), E.out⟩
end Go.Proofs.YtbilfhipmebmlaaDoor
