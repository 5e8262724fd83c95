/-
  PolyIsARing: the walk. (Written by tools/genqn.py.)
-/
import Derived.Test.YtbilfhipmebmlaaDoorQjm
namespace Go.Proofs.YtbilfhipmebmlaaDoor
set_option linter.unusedVariables false
set_option linter.unusedSimpArgs false
open Go.RowKit

theorem slB_row {W : World} {A : Option Addr} {n c : Nat} {l : List UInt8} (h : SlB W A n c l) : RowV W A n c l := ⟨h.len, h.cap, h.max, h.nil, h.rds⟩
theorem u8_eqf (x : UInt8) : (((x.toNat : Nat) : Int) != ((x.toNat : Nat) : Int)) = false := by simp
theorem trim_back {a b : List UInt8} (h : 0 < dg b) : trim (Gf.vsum (trim (pmul (dq a b) b)) (dr a b)) = trim a := trim_ext fun j => by
  rw [co_vsum, co_trim]; exact (div_spec a h).1 j
theorem sameB_refl6 {α : Type} [DecidableEq α] (a : List α) : sameB a a = true := by unfold sameB; simp
/-- The worlds that follow. -/
def Fol (w W : World) : Prop := Below w.heap.size w W
theorem Fol.to {w W V : World} (h : Fol w W) (hb : Below W.heap.size W V) : Fol w V := h.trans (hb.mono h.size)

set_option maxRecDepth 100000 in
set_option maxHeartbeats 8000000 in
theorem walk_ring (A0 : Option Addr) (c0 : Nat) (l0 : List UInt8) (A1 : Option Addr) (c1 : Nat) (l1 : List UInt8) (b2 : Nat) (w : World) (H0 : SlB w A0 l0.length c0 l0) (H1 : SlB w A1 l1.length c1 l1) (hb2 : b2 < 256) (ht : PTab 0 w) :
    Calls Tryd.prog 6 #[.slice A0 l0.length c0, .slice A1 l1.length c1, .int .u8 b2] w (OkEnd true w) := by
  have R0 := Lib.hid (slB_row H0)
  have R1 := Lib.hid (slB_row H1)
  have hr0 := H0.reach
  have hr1 := H1.reach
  obtain ⟨x, hx⟩ : ∃ x : UInt8, (x.toNat : Nat) = b2 := ⟨UInt8.ofNat b2, by simp [UInt8.toNat_ofNat']; omega⟩
  subst hx
  have T := Lib.hid ht
  have SA := Lib.hid (fun (W : World) (h : Fol w W) => sanity_any6 W (ht.below h ht.1))
  clear H0 H1 ht hb2
  obtain ⟨n0, hn0⟩ : ∃ n, n = l0.length := ⟨_, rfl⟩
  obtain ⟨n1, hn1⟩ : ∃ n, n = l1.length := ⟨_, rfl⟩
  rw [← hn0] at R0 hr0 ⊢
  rw [← hn1] at R1 hr1 ⊢
  clear hn0 hn1
  have E : Hid (Fol w w) := Below.refl _ _
  by_cases hlong : 40 < n0 ∨ 40 < n1
  · have SA0 := Lib.hid (SA.out w E.out)
    by_cases h0 : 40 < n0
    · have t0 : (n0 : Int) > 40 := by omega
      clear hlong
      go_enter Tryd.func6, Tryd.ntmps6
      go_wp2_with fail
      refine SA0.out.mono ?_
      rintro e w2 ⟨rfl, hb⟩
      have hb' := Lib.hid hb
      clear hb
      go_wp2_with fail
      go_ret
      exact ⟨by first | rfl | (go_simp; done), hb'.out⟩
    · have t0 : ¬ (n0 : Int) > 40 := by omega
      have t1 : (n1 : Int) > 40 := by omega
      clear hlong
      go_enter Tryd.func6, Tryd.ntmps6
      go_wp2_with fail
      refine SA0.out.mono ?_
      rintro e w2 ⟨rfl, hb⟩
      have hb' := Lib.hid hb
      clear hb
      go_wp2_with fail
      go_ret
      exact ⟨by first | rfl | (go_simp; done), hb'.out⟩
  have t0 : ¬ (n0 : Int) > 40 := by omega
  have t1 : ¬ (n1 : Int) > 40 := by omega
  have hn0 : n0 ≤ 40 := by omega
  have hn1 : n1 ≤ 40 := by omega
  clear hlong hr0 hr1
  have hadd : Hid (ev (trim (Gf.vsum l0 l1)) x = ev l0 x ^^^ ev l1 x) := by show _ = _; rw [ev_trim, ev_vsum]
  have hmul : Hid (ev (trim (pmul l0 l1)) x = Gf.mul (ev l0 x) (ev l1 x)) := by show _ = _; rw [ev_trim, ev_pmul]
  have hmdg : Hid ((0 < dg l0 ∧ 0 < dg l1 → dg (trim (pmul l0 l1)) = dg l0 + dg l1 - 1) ∧ (dg l0 = 0 ∨ dg l1 = 0 → dg (trim (pmul l0 l1)) = 0)) := ⟨fun h => by rw [dg_trim, dg_pmul h.1 h.2], fun h => by rw [dg_trim, dg_pmul_null h]⟩
  have hd0 : Hid (dg l0 ≤ n0) := by show _ ≤ _; rw [R0.out.len]; exact dg_le l0
  have hd1 : Hid (dg l1 ≤ n1) := by show _ ≤ _; rw [R1.out.len]; exact dg_le l1
  have hxx := u8_xor_bv (ev l0 x) (ev l1 x)
  have hml : Hid ((trim (pmul l0 l1)).length ≤ 80) := by
    show _ ≤ _
    rw [trim_len]
    refine Nat.le_trans (dg_le _) ?_
    rw [pmul_len, ← R0.out.len, ← R1.out.len]
    omega
  have hsl : Hid ((trim (Gf.vsum l0 l1)).length ≤ 80) := by
    show _ ≤ _
    rw [trim_len]
    refine Nat.le_trans (dg_le _) ?_
    rw [Gf.vsum_len, ← R0.out.len, ← R1.out.len]
    omega
  have hne : ∀ z : UInt8, (((z.toNat : Nat) : Int) != ((z.toNat : Nat) : Int)) = false := fun z => by simp
  go_enter Tryd.func6, Tryd.ntmps6
  go_wp2_with fail
  refine (mul_v R0.out R1.out (by omega) (by omega) T.out).mono ?_
  rintro e w1 ⟨Am, nm, cm, rfl, hRm, hb⟩
  have Rm := Lib.hid hRm
  have KEEP := hb
  clear hRm
  replace R0 := Lib.hid (R0.out.keep hb)
  replace R1 := Lib.hid (R1.out.keep hb)
  replace E := Lib.hid (E.out.to hb)
  replace T := Lib.hid (T.out.below hb T.out.1)
  clear hb KEEP
  have hnm : nm ≤ 80 := by have := Rm.out.len; have := hml.out; omega
  go_wp2_with fail
  refine (eval_v R0.out x (by omega) T.out).mono ?_
  rintro e w2 ⟨rfl, hb⟩
  replace R0 := Lib.hid (R0.out.keep hb)
  replace R1 := Lib.hid (R1.out.keep hb)
  replace Rm := Lib.hid (Rm.out.keep hb)
  replace E := Lib.hid (E.out.to hb)
  replace T := Lib.hid (T.out.below hb T.out.1)
  clear hb
  go_wp2_with fail
  refine (eval_v R1.out x (by omega) T.out).mono ?_
  rintro e w3 ⟨rfl, hb⟩
  replace R0 := Lib.hid (R0.out.keep hb)
  replace R1 := Lib.hid (R1.out.keep hb)
  replace Rm := Lib.hid (Rm.out.keep hb)
  replace E := Lib.hid (E.out.to hb)
  replace T := Lib.hid (T.out.below hb T.out.1)
  clear hb
  go_wp2_with fail
  refine (add_v R0.out R1.out (by omega) (by omega)).mono ?_
  rintro e w4 ⟨As, ns, cs, rfl, hRs, hb⟩
  replace R0 := Lib.hid (R0.out.keep hb)
  replace R1 := Lib.hid (R1.out.keep hb)
  replace Rm := Lib.hid (Rm.out.keep hb)
  replace E := Lib.hid (E.out.to hb)
  replace T := Lib.hid (T.out.below hb T.out.1)
  clear hb
  have Rs := Lib.hid hRs
  clear hRs
  have hns : ns ≤ 80 := by have := Rs.out.len; have := hsl.out; omega
  go_wp2_with fail
  have EV5 := Lib.hid (eval_v Rs.out x (by omega) T.out)
  rw [hadd.out] at EV5
  refine (EV5.out).mono ?_
  rintro e w5 ⟨rfl, hb⟩
  replace R0 := Lib.hid (R0.out.keep hb)
  replace R1 := Lib.hid (R1.out.keep hb)
  replace Rm := Lib.hid (Rm.out.keep hb)
  replace E := Lib.hid (E.out.to hb)
  replace T := Lib.hid (T.out.below hb T.out.1)
  clear hb
  clear EV5 Rs
  go_wp2_with fail
  have EV6 := Lib.hid (eval_v Rm.out x (by omega) T.out)
  rw [hmul.out] at EV6
  refine (EV6.out).mono ?_
  rintro e w6 ⟨rfl, hb⟩
  replace R0 := Lib.hid (R0.out.keep hb)
  replace R1 := Lib.hid (R1.out.keep hb)
  replace Rm := Lib.hid (Rm.out.keep hb)
  replace E := Lib.hid (E.out.to hb)
  replace T := Lib.hid (T.out.below hb T.out.1)
  clear hb
  clear EV6
  go_wp2_with fail
  have EV7 := Lib.hid (gmul_v (ev l0 x) (ev l1 x) _ rfl T.out)
  refine (EV7.out).mono ?_
  rintro e w7 ⟨rfl, hb⟩
  replace R0 := Lib.hid (R0.out.keep hb)
  replace R1 := Lib.hid (R1.out.keep hb)
  replace Rm := Lib.hid (Rm.out.keep hb)
  replace E := Lib.hid (E.out.to hb)
  replace T := Lib.hid (T.out.below hb T.out.1)
  clear hb
  clear EV7
  go_wp2_with fail
  by_cases hp1 : 0 < dg l1
  · by_cases hp0 : 0 < dg l0
    · obtain ⟨i, hi⟩ : ∃ i, dg l0 = i + 1 := ⟨dg l0 - 1, by omega⟩
      have hi1 := Lib.hid hi
      have ti : (i : Int) ≥ 0 := by omega
      have ti2 : ¬ (i : Int) < 0 := by omega
      obtain ⟨k, hk⟩ : ∃ k, dg l1 = k + 1 := ⟨dg l1 - 1, by omega⟩
      have hk1 := Lib.hid hk
      have tk : (k : Int) ≥ 0 := by omega
      have tk2 : ¬ (k : Int) < 0 := by omega
      have hk0 : Hid (0 < dg l1) := by show _ < _; omega
      have D0 : Hid (Calls Tryd.prog 18 #[.slice A0 n0 c0] w7 fun e w' => e = .returned (.int .i64 (i : Int)) ∧ w' = w7) := by
        have := degree_v R0.out (by omega)
        rw [hi, show (((i + 1 : Nat) : Int) - 1) = (i : Int) by omega] at this
        exact this
      have D1 : Hid (Calls Tryd.prog 18 #[.slice A1 n1 c1] w7 fun e w' => e = .returned (.int .i64 (k : Int)) ∧ w' = w7) := by
        have := degree_v R1.out (by omega)
        rw [hk, show (((k + 1 : Nat) : Int) - 1) = (k : Int) by omega] at this
        exact this
      obtain ⟨s, hs⟩ : ∃ s, s = i + k := ⟨_, rfl⟩
      have es : (i : Int) + (k : Int) = (s : Int) := by omega
      have esw : IntKind.i64.wrap (s : Int) = (s : Int) := by have := hd0.out; have := hd1.out; rw [IntKind.wrap_i64]; omega
      have hmd := hmdg.out.1 ⟨by omega, by omega⟩
      have DM : Hid (Calls Tryd.prog 18 #[.slice Am nm cm] w7 fun e w' => e = .returned (.int .i64 (s : Int)) ∧ w' = w7) := by
        have := degree_v Rm.out (by omega)
        rw [hmd, show (((dg l0 + dg l1 - 1 : Nat) : Int) - 1) = (s : Int) by omega] at this
        exact this
      clear hmd hs
      clear hmdg hi hk
      try clear hz0
      try clear hz1
      try clear hp0
      try clear hp1
      go_wp2_with fail
      refine D0.out.mono ?_
      rintro e w8 ⟨rfl, rfl⟩
      go_wp2_with fail
      refine D1.out.mono ?_
      rintro e w8 ⟨rfl, rfl⟩
      go_wp2_with fail
      refine DM.out.mono ?_
      rintro e w8 ⟨rfl, rfl⟩
      clear D0 D1 DM
      go_wp2_with fail
      have hql : Hid ((dq l0 l1).length ≤ 40) := by have := dq_len l0 l1; rw [← R0.out.len] at this; show _ ≤ _; omega
      have hback := Lib.hid (trim_back (a := l0) hk0.out)
      have hdr := Lib.hid (div_spec l0 hk0.out).2
      refine (divmod_v R0.out R1.out (by omega) (by omega) hk0.out T.out).mono ?_
      rintro e w9 ⟨Aq, nq, cq, Ar, nr, cr, rfl, hRq, hRr, hb⟩
      have Rq := Lib.hid hRq
      have Rr := Lib.hid hRr
      replace R0 := Lib.hid (R0.out.keep hb)
      replace R1 := Lib.hid (R1.out.keep hb)
      replace E := Lib.hid (E.out.to hb)
      replace T := Lib.hid (T.out.below hb T.out.1)
      clear hb hRq hRr
      have hnq : nq ≤ 40 := by have := Rq.out.len; have := hql.out; omega
      have hnr : nr ≤ 40 := by
        have h1 := Rr.out.len
        have h2 : (dr l0 l1).length = dg (dr l0 l1) := by unfold dr; rw [trim_len, dg_trim]
        have := hdr.out; have := hd1.out
        omega
      go_wp2_with fail
      refine (mul_v Rq.out R1.out (by omega) (by omega) T.out).mono ?_
      rintro e w10 ⟨Ab, nb, cb, rfl, hRb, hb⟩
      have Rb := Lib.hid hRb
      replace R0 := Lib.hid (R0.out.keep hb)
      replace Rr := Lib.hid (Rr.out.keep hb)
      replace E := Lib.hid (E.out.to hb)
      replace T := Lib.hid (T.out.below hb T.out.1)
      have hnb : nb ≤ 80 := by
        have h1 := hRb.len
        rw [trim_len] at h1
        have h2 := dg_le (pmul (dq l0 l1) l1)
        rw [pmul_len, ← Rq.out.len, ← R1.out.len] at h2
        omega
      clear hb hRb
      go_wp2_with fail
      refine (SA.out w10 E.out).mono ?_
      rintro e w11 ⟨rfl, hb⟩
      replace R0 := Lib.hid (R0.out.keep hb)
      replace Rr := Lib.hid (Rr.out.keep hb)
      replace Rb := Lib.hid (Rb.out.keep hb)
      replace E := Lib.hid (E.out.to hb)
      clear hb
      go_wp2_with fail
      refine (add_v Rb.out Rr.out (by omega) (by omega)).mono ?_
      rintro e w12 ⟨Ax, nx, cx, rfl, hRx, hb⟩
      have Rx := Lib.hid hRx
      replace R0 := Lib.hid (R0.out.keep hb)
      replace Rr := Lib.hid (Rr.out.keep hb)
      replace E := Lib.hid (E.out.to hb)
      clear hb hRx
      go_wp2_with fail
      refine (trim_v R0.out (by omega)).mono ?_
      rintro e w13 ⟨Ay, ny, cy, rfl, hRy, hb⟩
      have Ry := Lib.hid hRy
      replace Rx := Lib.hid (Rx.out.keep hb)
      replace Rr := Lib.hid (Rr.out.keep hb)
      replace E := Lib.hid (E.out.to hb)
      clear hb hRy
      have hxle : nx ≤ 100000 := by
        have h1 := Rx.out.len
        rw [hback.out, trim_len] at h1
        have := hd0.out
        omega
      have SM := Lib.hid (same6_v Rx.out Ry.out hxle)
      rw [hback.out, sameB_refl6] at SM
      go_wp2_with fail
      refine SM.out.mono ?_
      rintro e w14 ⟨rfl, hb⟩
      replace Rr := Lib.hid (Rr.out.keep hb)
      replace E := Lib.hid (E.out.to hb)
      clear hb SM
      go_wp2_with fail
      refine (degree_v Rr.out (by omega)).mono ?_
      rintro e w15 ⟨rfl, rfl⟩
      have hlt : ((dg (dr l0 l1) : Int) - 1 < (k : Int)) := by have := hdr.out; have := hk1.out; omega
      generalize (dg (dr l0 l1) : Int) - 1 = zr at *
      go_wp2_with fail
      go_ret
      exact ⟨by first | rfl | (go_simp; done), E.out⟩
    · have hz0 : dg l0 = 0 := by omega
      have hi1 := Lib.hid hz0
      obtain ⟨k, hk⟩ : ∃ k, dg l1 = k + 1 := ⟨dg l1 - 1, by omega⟩
      have hk1 := Lib.hid hk
      have tk : (k : Int) ≥ 0 := by omega
      have tk2 : ¬ (k : Int) < 0 := by omega
      have hk0 : Hid (0 < dg l1) := by show _ < _; omega
      have D0 : Hid (Calls Tryd.prog 18 #[.slice A0 n0 c0] w7 fun e w' => e = .returned (.int .i64 (-1)) ∧ w' = w7) := by
        have := degree_v R0.out (by omega)
        rw [hz0] at this
        exact this
      have D1 : Hid (Calls Tryd.prog 18 #[.slice A1 n1 c1] w7 fun e w' => e = .returned (.int .i64 (k : Int)) ∧ w' = w7) := by
        have := degree_v R1.out (by omega)
        rw [hk, show (((k + 1 : Nat) : Int) - 1) = (k : Int) by omega] at this
        exact this
      have hmd := hmdg.out.2 (by first | exact .inl hz0 | exact .inr hz1)
      have DM : Hid (Calls Tryd.prog 18 #[.slice Am nm cm] w7 fun e w' => e = .returned (.int .i64 (-1)) ∧ w' = w7) := by
        have := degree_v Rm.out (by omega)
        rw [hmd] at this
        exact this
      clear hmd
      clear hmdg hk
      try clear hz0
      try clear hz1
      try clear hp0
      try clear hp1
      go_wp2_with fail
      refine D0.out.mono ?_
      rintro e w8 ⟨rfl, rfl⟩
      go_wp2_with fail
      refine D1.out.mono ?_
      rintro e w8 ⟨rfl, rfl⟩
      go_wp2_with fail
      refine DM.out.mono ?_
      rintro e w8 ⟨rfl, rfl⟩
      clear D0 D1 DM
      go_wp2_with fail
      have hql : Hid ((dq l0 l1).length ≤ 40) := by have := dq_len l0 l1; rw [← R0.out.len] at this; show _ ≤ _; omega
      have hback := Lib.hid (trim_back (a := l0) hk0.out)
      have hdr := Lib.hid (div_spec l0 hk0.out).2
      refine (divmod_v R0.out R1.out (by omega) (by omega) hk0.out T.out).mono ?_
      rintro e w9 ⟨Aq, nq, cq, Ar, nr, cr, rfl, hRq, hRr, hb⟩
      have Rq := Lib.hid hRq
      have Rr := Lib.hid hRr
      replace R0 := Lib.hid (R0.out.keep hb)
      replace R1 := Lib.hid (R1.out.keep hb)
      replace E := Lib.hid (E.out.to hb)
      replace T := Lib.hid (T.out.below hb T.out.1)
      clear hb hRq hRr
      have hnq : nq ≤ 40 := by have := Rq.out.len; have := hql.out; omega
      have hnr : nr ≤ 40 := by
        have h1 := Rr.out.len
        have h2 : (dr l0 l1).length = dg (dr l0 l1) := by unfold dr; rw [trim_len, dg_trim]
        have := hdr.out; have := hd1.out
        omega
      go_wp2_with fail
      refine (mul_v Rq.out R1.out (by omega) (by omega) T.out).mono ?_
      rintro e w10 ⟨Ab, nb, cb, rfl, hRb, hb⟩
      have Rb := Lib.hid hRb
      replace R0 := Lib.hid (R0.out.keep hb)
      replace Rr := Lib.hid (Rr.out.keep hb)
      replace E := Lib.hid (E.out.to hb)
      replace T := Lib.hid (T.out.below hb T.out.1)
      have hnb : nb ≤ 80 := by
        have h1 := hRb.len
        rw [trim_len] at h1
        have h2 := dg_le (pmul (dq l0 l1) l1)
        rw [pmul_len, ← Rq.out.len, ← R1.out.len] at h2
        omega
      clear hb hRb
      go_wp2_with fail
      refine (SA.out w10 E.out).mono ?_
      rintro e w11 ⟨rfl, hb⟩
      replace R0 := Lib.hid (R0.out.keep hb)
      replace Rr := Lib.hid (Rr.out.keep hb)
      replace Rb := Lib.hid (Rb.out.keep hb)
      replace E := Lib.hid (E.out.to hb)
      clear hb
      go_wp2_with fail
      refine (add_v Rb.out Rr.out (by omega) (by omega)).mono ?_
      rintro e w12 ⟨Ax, nx, cx, rfl, hRx, hb⟩
      have Rx := Lib.hid hRx
      replace R0 := Lib.hid (R0.out.keep hb)
      replace Rr := Lib.hid (Rr.out.keep hb)
      replace E := Lib.hid (E.out.to hb)
      clear hb hRx
      go_wp2_with fail
      refine (trim_v R0.out (by omega)).mono ?_
      rintro e w13 ⟨Ay, ny, cy, rfl, hRy, hb⟩
      have Ry := Lib.hid hRy
      replace Rx := Lib.hid (Rx.out.keep hb)
      replace Rr := Lib.hid (Rr.out.keep hb)
      replace E := Lib.hid (E.out.to hb)
      clear hb hRy
      have hxle : nx ≤ 100000 := by
        have h1 := Rx.out.len
        rw [hback.out, trim_len] at h1
        have := hd0.out
        omega
      have SM := Lib.hid (same6_v Rx.out Ry.out hxle)
      rw [hback.out, sameB_refl6] at SM
      go_wp2_with fail
      refine SM.out.mono ?_
      rintro e w14 ⟨rfl, hb⟩
      replace Rr := Lib.hid (Rr.out.keep hb)
      replace E := Lib.hid (E.out.to hb)
      clear hb SM
      go_wp2_with fail
      refine (degree_v Rr.out (by omega)).mono ?_
      rintro e w15 ⟨rfl, rfl⟩
      have hlt : ((dg (dr l0 l1) : Int) - 1 < (k : Int)) := by have := hdr.out; have := hk1.out; omega
      generalize (dg (dr l0 l1) : Int) - 1 = zr at *
      go_wp2_with fail
      go_ret
      exact ⟨by first | rfl | (go_simp; done), E.out⟩
  · have hz1 : dg l1 = 0 := by omega
    by_cases hp0 : 0 < dg l0
    · obtain ⟨i, hi⟩ : ∃ i, dg l0 = i + 1 := ⟨dg l0 - 1, by omega⟩
      have hi1 := Lib.hid hi
      have ti : (i : Int) ≥ 0 := by omega
      have ti2 : ¬ (i : Int) < 0 := by omega
      have hk0 : Hid (dg l1 = 0) := hz1
      have D0 : Hid (Calls Tryd.prog 18 #[.slice A0 n0 c0] w7 fun e w' => e = .returned (.int .i64 (i : Int)) ∧ w' = w7) := by
        have := degree_v R0.out (by omega)
        rw [hi, show (((i + 1 : Nat) : Int) - 1) = (i : Int) by omega] at this
        exact this
      have D1 : Hid (Calls Tryd.prog 18 #[.slice A1 n1 c1] w7 fun e w' => e = .returned (.int .i64 (-1)) ∧ w' = w7) := by
        have := degree_v R1.out (by omega)
        rw [hz1] at this
        exact this
      have hmd := hmdg.out.2 (by first | exact .inl hz0 | exact .inr hz1)
      have DM : Hid (Calls Tryd.prog 18 #[.slice Am nm cm] w7 fun e w' => e = .returned (.int .i64 (-1)) ∧ w' = w7) := by
        have := degree_v Rm.out (by omega)
        rw [hmd] at this
        exact this
      clear hmd
      clear hmdg hi
      try clear hz0
      try clear hz1
      try clear hp0
      try clear hp1
      go_wp2_with fail
      refine D0.out.mono ?_
      rintro e w8 ⟨rfl, rfl⟩
      go_wp2_with fail
      refine D1.out.mono ?_
      rintro e w8 ⟨rfl, rfl⟩
      go_wp2_with fail
      refine DM.out.mono ?_
      rintro e w8 ⟨rfl, rfl⟩
      clear D0 D1 DM
      go_wp2_with fail
      refine (divmodz_v R1.out (by omega) (by omega) hk0.out).mono ?_
      rintro e w9 ⟨rfl, rfl⟩
      go_wp2_with fail
      refine (SA.out w9 E.out).mono ?_
      rintro e w10 ⟨rfl, hb⟩
      replace E := Lib.hid (E.out.to hb)
      clear hb
      go_wp2_with fail
      go_ret
      exact ⟨by first | rfl | (go_simp; done), E.out⟩
    · have hz0 : dg l0 = 0 := by omega
      have hi1 := Lib.hid hz0
      have hk0 : Hid (dg l1 = 0) := hz1
      have D0 : Hid (Calls Tryd.prog 18 #[.slice A0 n0 c0] w7 fun e w' => e = .returned (.int .i64 (-1)) ∧ w' = w7) := by
        have := degree_v R0.out (by omega)
        rw [hz0] at this
        exact this
      have D1 : Hid (Calls Tryd.prog 18 #[.slice A1 n1 c1] w7 fun e w' => e = .returned (.int .i64 (-1)) ∧ w' = w7) := by
        have := degree_v R1.out (by omega)
        rw [hz1] at this
        exact this
      have hmd := hmdg.out.2 (by first | exact .inl hz0 | exact .inr hz1)
      have DM : Hid (Calls Tryd.prog 18 #[.slice Am nm cm] w7 fun e w' => e = .returned (.int .i64 (-1)) ∧ w' = w7) := by
        have := degree_v Rm.out (by omega)
        rw [hmd] at this
        exact this
      clear hmd
      clear hmdg
      try clear hz0
      try clear hz1
      try clear hp0
      try clear hp1
      go_wp2_with fail
      refine D0.out.mono ?_
      rintro e w8 ⟨rfl, rfl⟩
      go_wp2_with fail
      refine D1.out.mono ?_
      rintro e w8 ⟨rfl, rfl⟩
      go_wp2_with fail
      refine DM.out.mono ?_
      rintro e w8 ⟨rfl, rfl⟩
      clear D0 D1 DM
      go_wp2_with fail
      refine (divmodz_v R1.out (by omega) (by omega) hk0.out).mono ?_
      rintro e w9 ⟨rfl, rfl⟩
      go_wp2_with fail
      refine (SA.out w9 E.out).mono ?_
      rintro e w10 ⟨rfl, hb⟩
      replace E := Lib.hid (E.out.to hb)
      clear hb
      go_wp2_with fail
      go_ret
      exact ⟨by first | rfl | (go_simp; done), E.out⟩
end Go.Proofs.YtbilfhipmebmlaaDoor
