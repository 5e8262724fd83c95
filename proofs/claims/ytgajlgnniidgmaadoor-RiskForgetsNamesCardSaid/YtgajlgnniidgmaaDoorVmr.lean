/-
  Stage 12 (risk), the specification: Power, Loses. Stage 12 (risk), the specification: Check. Stage 12 (risk), the specification: Loss. Stage 12 (risk), the specification: size, before. Stage 12 (risk), the specification: Least. Stage 12 (risk), the specification: Few.
-/
import Derived.Test.YtgajlgnniidgmaaDoorVpl
namespace Go.Proofs.YtgajlgnniidgmaaDoor
set_option linter.unusedVariables false
set_option linter.unusedSimpArgs false
open Go.RowKit Go.Maps

theorem bit_zero12 (s k : Nat) : (bits BinOp.and IntKind.i64 ((s : Int) / 2 ^ k) 1 == 0) = !s.testBit k := by
  have e : (s : Int) / 2 ^ k = ((s / 2 ^ k : Nat) : Int) := by rw [Int.natCast_ediv, Int.natCast_pow]; rfl
  rw [i64_and17, e, Nat.testBit_eq_decide_div_mod_eq]
  by_cases h : s / 2 ^ k % 2 = 1
  · rw [decide_eq_true h]
    simp only [Bool.not_true, beq_eq_false_iff_ne, ne_eq]
    omega
  · rw [decide_eq_false h]
    simp only [Bool.not_false, beq_iff_eq]
    omega
theorem wrapN12 {v : Nat} (h : v < 1000000000) : IntKind.i64.wrap (v : Int) = (v : Int) := by rw [IntKind.wrap_i64]; omega
theorem or_add12 {u k : Nat} (h : u < 2 ^ k) : u ||| 1 <<< k = u + 2 ^ k := by
  have := Nat.two_pow_add_eq_or_of_lt h 1
  rw [Nat.mul_one] at this
  rw [Nat.one_shiftLeft, Nat.or_comm, ← this, Nat.add_comm]

set_option maxRecDepth 100000 in
set_option maxHeartbeats 1000000 in
theorem refPower_any (n : Nat) (w : World) (hn : n ≤ 12) : Calls Tryd.prog 23 #[.int .i64 n] w fun e w' => e = .returned (.int .i64 ((16 ^ n : Nat) : Int)) ∧ w' = w := by
  obtain ⟨R, hR⟩ : ∃ R, R = 16 ^ n := ⟨_, rfl⟩
  rw [← hR]
  have hR' := Lib.hid hR
  clear hR
  go_enter Tryd.func23, Tryd.ntmps23
  go_wp2_with fail
  go_loopg [3, 4] n (fun g s3 s4 wx => ∃ k u : Nat, k + g = n ∧ s4 = .int .i64 k ∧ s3 = .int .i64 u ∧ Hid (u = 16 ^ k) ∧ wx = w)
  case atStart => exact ⟨0, 1, by omega, rfl, rfl, rfl, rfl⟩
  case round =>
    obtain ⟨k, u, hkg, rfl, rfl, hu, rfl⟩ := hrel
    cases gk with
    | zero =>
      have hkz : ¬ ((k : Int) < (n : Int)) := by omega
      have hz : Hid (R = u) := by show R = u; rw [hR'.out, hu.out, show k = n by omega]
      go_wp2_with fail
      go_ret
      refine ⟨?_, rfl⟩
      first
        | rfl
        | (rw [hz.out]; rfl)
    | succ gk =>
      have hkz : (k : Int) < (n : Int) := by omega
      have hp : 16 ^ (k + 1) ≤ 281474976710656 := Nat.le_trans (Nat.pow_le_pow_right (by omega) (show k + 1 ≤ 12 by omega)) (by decide)
      have hv : Hid (u * 16 = 16 ^ (k + 1)) := by show u * 16 = 16 ^ (k + 1); rw [hu.out, Nat.pow_succ]
      have hv2 : u * 16 ≤ 281474976710656 := by rw [hv.out]; exact hp
      clear hp
      go_wp2_with fail
      go_roundg gk
      case measure => omega
      case rel => exact ⟨k + 1, u * 16, by omega, by go_num, by go_num, hv, rfl⟩

set_option maxRecDepth 100000 in
set_option maxHeartbeats 4000000 in
theorem refLoses_any {B : Nat} (p : Prl) (f : Nat) (w : World) (hM : PerM w B p) (hl : p.al.length ≤ 24) (hr : ∀ d ∈ p.al, -1 ≤ d ∧ d ≤ 60) (hsh : ∀ g ∈ p.Gs, g.length ≤ 1000000) :
    Calls Tryd.prog 24 #[prv p, .int .i64 f] w (SayEnd w (LosP p f)) := by
  obtain ⟨Q, hQ⟩ : ∃ Q, Q = LosP p f := ⟨_, rfl⟩
  have hQ' : Hid (Q = ¬ RecP p.D p.Gs p.G (lft f p.al 0 0 : Nat)) := hQ
  rw [← hQ]
  clear hQ
  rcases p with ⟨D, A, n, c, G, Gs, A1, n1, c1, al, A2, n2, c2, ch⟩
  unfold prv prc
  dsimp only at *
  obtain ⟨W1, hW1⟩ : ∃ W1, W1 = w.alloc (.cells #[.int .i64 D, .slice A n c, .int .i64 G, .slice A1 n1 c1, .slice A2 n2 c2] 27) := ⟨_, rfl⟩
  have hB1 : Hid (Below w.heap.size w W1) := by show Below _ _ _; rw [hW1]; exact (Below.refl _ _).alloc (Nat.le_refl _) _
  have hR1 : Hid (Blk W1 w.heap.size [.int .i64 D, .slice A n c, .int .i64 G, .slice A1 n1 c1, .slice A2 n2 c2] 27) := by show Blk _ _ _ _; rw [hW1]; exact Blk.new _ [_, _, _, _, _] _
  have hM' := Lib.hid (hM.keep hB1.out)
  have hn : Hid (n1 = al.length) := hM.n1
  have hW1' := Lib.hid hW1
  have hr' := Lib.hid hr
  have hl24 : n1 ≤ 24 := by rw [hn.out]; exact hl
  have hrd : Hid (Rds W1 B A1 (al.map iv)) := hM'.out.al
  have p3 := hR1.out.cell (j := 3) rfl
  have hsz := Lib.hid size_cod
  have hun : Hid (Tryd.prog.underlying 24 = _) := Tryd.underlying24
  have CR : Hid (∀ s : Nat, Calls Tryd.prog 46 #[cdv D A n c G, .int .i64 s] W1 (SayEnd W1 (RecP D Gs G s))) := fun s => refRecoverable7_any D G s Gs n c A W1 hM'.out.cod hsh
  clear hW1 hM hr hl hsh
  unfold cdv at CR
  obtain ⟨R, hR⟩ : ∃ R, R = lft f al 0 0 := ⟨_, rfl⟩
  rw [← hR] at hQ'
  go_enter Tryd.func24, Tryd.ntmps24
  go_wp2_with fail
  generalize hg : w.alloc _ = Wg
  have hgW : W1 = Wg := by rw [← hg, hW1'.out]
  clear hg hW1'
  subst hgW
  go_wp2_with fail
  go_loopg [5, 6] n1 (fun g s5 s6 wx => ∃ k u : Nat, k + g = n1 ∧ s6 = .int .i64 k ∧ s5 = .int .i64 u ∧ Hid (u < 2 ^ k) ∧ Hid (R = lft f (al.drop k) k u) ∧ wx = W1)
  case atStart => exact ⟨0, 0, by omega, rfl, rfl, (by decide : 0 < 2 ^ 0), hR, rfl⟩
  case round =>
    obtain ⟨k, u, hkg, rfl, rfl, hu, hI, rfl⟩ := hrel
    clear hR
    cases gk with
    | zero =>
      have hkz : ¬ ((k : Int) < (n1 : Int)) := by omega
      have hz : R = u := by rw [hI.out, List.drop_eq_nil_of_le (by have := hn.out; omega)]; rfl
      have C := CR.out u
      have hQ2 : Hid (Q = ¬ RecP D Gs G u) := by show Q = _; rw [hQ'.out, hz]
      clear hQ' hz
      go_wp2_with (first | (refine wpList_blk_load rfl 24 _ rfl 0 rfl hR1.out [_, _, _] rfl _ hun.out rfl hsz.out ?_) | fail)
      refine C.mono ?_
      rintro e w2 ⟨⟨b, rfl, hb⟩, hbl⟩
      have hE := Lib.hid (hB1.out.trans (hbl.mono hB1.out.size))
      have hb' : Hid ((!b) = true ↔ Q) := by
        show (!b) = true ↔ Q
        rw [hQ2.out]
        cases b with
        | true => exact ⟨fun h => (by cases h), fun h => absurd (hb.1 rfl) h⟩
        | false => exact ⟨fun _ h => (by have := hb.2 h; cases this), fun _ => rfl⟩
      clear hb hbl C
      go_wp2_with fail
      go_ret
      exact ⟨⟨_, rfl, hb'.out⟩, hE.out⟩
    | succ gk =>
      have hkz : (k : Int) < (n1 : Int) := by omega
      obtain ⟨x, hx⟩ : ∃ x, al[k]? = some x := ⟨_, List.getElem?_eq_getElem (by have := hn.out; omega)⟩
      have hdrop : al.drop k = x :: al.drop (k + 1) := by rw [List.drop_eq_getElem_cons (List.getElem?_eq_some_iff.1 hx).1, (List.getElem?_eq_some_iff.1 hx).2]
      obtain ⟨bd, rfl, hbb, hcb⟩ := hrd.out.look (k := k) (u := iv x) (by rw [List.getElem?_map, hx]; rfl)
      unfold iv at hcb
      obtain ⟨r1, r2⟩ := hr'.out x (List.mem_of_getElem? hx)
      have hu24 : u < 16777216 := Nat.lt_of_lt_of_le hu.out (p24 (by omega))
      have hlt2 := Lib.hid (or_lt24 hu.out)
      have hlt1 : Hid (u < 2 ^ (k + 1)) := Nat.lt_of_lt_of_le hu.out (Nat.pow_le_pow_right (by omega) (by omega))
      have hstep : Hid (R = lft f (al.drop (k + 1)) (k + 1) (if x ≠ -1 ∧ f.testBit x.toNat = false then u ||| 1 <<< k else u)) := by
        show _ = _
        rw [hI.out, hdrop, lft]
      obtain ⟨u2, hu2⟩ : ∃ u2, u2 = u ||| 1 <<< k := ⟨_, rfl⟩
      have ha := or_add12 hu.out
      rw [← hu2] at ha hstep hlt2
      have hp24 : 2 ^ k ≤ 16777216 := p24 (by omega)
      obtain ⟨pw, hpw⟩ : ∃ pw, pw = 2 ^ k := ⟨_, rfl⟩
      have e2 : (2 : Int) ^ k = (pw : Int) := by rw [hpw, Int.natCast_pow]; rfl
      rw [← hpw] at ha hp24
      have fp : wrap64 (pw : Int) = (pw : Int) := by unfold wrap64; omega
      have ea : (u : Int) + (pw : Int) = (u2 : Int) := by omega
      have hu2l : u2 < 1000000000 := by clear fp e2 ea hstep hI; omega
      have fu := wrapN12 hu2l
      clear hu2l
      clear hx hdrop hI hu hu2 hpw ha hp24
      have k0 : ¬ (k : Int) < 0 := by omega
      have k1 : 0 ≤ (k : Int) := by omega
      have k2 : min k 64 = k := by omega
      by_cases hm : x = -1
      · subst hm
        rw [if_neg (by simp)] at hstep
        go_wp2_with fail
        go_roundg gk
        case measure => omega
        case rel => exact ⟨k + 1, u, by omega, by go_num, rfl, hlt1, hstep, rfl⟩
      · obtain ⟨d, rfl⟩ : ∃ d : Nat, x = d := ⟨x.toNat, by omega⟩
        have hne : ¬ (d : Int) = -1 := hm
        have hge : (d : Int) ≥ 0 := by omega
        have hge2 : 0 ≤ (d : Int) := by omega
        have d0 : ¬ (d : Int) < 0 := by omega
        have d2 : min d 64 = d := by omega
        rw [Int.toNat_natCast] at hstep
        have hbz := bit_zero12 f d
        cases hb : f.testBit d with
        | true =>
          rw [hb] at hbz hstep
          rw [if_neg (by simp)] at hstep
          go_wp2_with fail
          go_roundg gk
          case measure => omega
          case rel => exact ⟨k + 1, u, by omega, by go_num, rfl, hlt1, hstep, rfl⟩
        | false =>
          rw [hb] at hbz hstep
          rw [if_pos ⟨hne, rfl⟩] at hstep
          go_wp2_with fail
          go_roundg gk
          case measure => omega
          case rel => exact ⟨k + 1, u2, by omega, by go_num, by first | rfl | (go_num; done) | rw [e2, fp, ea, fu], hlt2, hstep, rfl⟩
end Go.Proofs.YtgajlgnniidgmaaDoor

namespace Go.Proofs.YtgajlgnniidgmaaDoor
set_option linter.unusedVariables false
set_option linter.unusedSimpArgs false
open Go.RowKit Go.Maps

theorem any_of12 {P : Int → Bool} {l : List Int} {k : Nat} {x : Int} (hx : l[k]? = some x) (hp : P x = true) : l.any P = true := List.any_eq_true.2 ⟨x, List.mem_of_getElem? hx, hp⟩
set_option maxRecDepth 100000 in
set_option maxHeartbeats 8000000 in
theorem refCheck12_any {B : Nat} (p : Prl) (w : World) (hM : PerM w B p) (hsh : ∀ g ∈ p.Gs, g.length ≤ 1000000) :
    Calls Tryd.prog 11 #[prv p] w fun e w' => e = .returned (.int .i64 (chkP p)) ∧ Below w.heap.size w w' := by
  have k1 := Lib.hid (@chkP_1 p)
  have k2 := Lib.hid (@chkP_2 p)
  have k3 := Lib.hid (@chkP_3 p)
  have k4 := Lib.hid (@chkP_4 p)
  have k5 := Lib.hid (@chkP_5 p)
  have k6 := Lib.hid (@chkP_6 p)
  obtain ⟨Z, hZ⟩ : ∃ z, z = chkP p := ⟨_, rfl⟩
  rw [← hZ] at k1 k2 k3 k4 k5 k6 ⊢
  clear hZ
  rcases p with ⟨D, A, n, c, G, Gs, A1, n1, c1, al, A2, n2, c2, ch⟩
  unfold prv prc
  dsimp only at k1 k2 k3 k4 k5 k6 hsh ⊢
  have hn1 : Hid (n1 = al.length) := hM.n1
  have hn2 : Hid (n2 = ch.length) := hM.n2
  have hnG : Hid (n = Gs.length) := hM.cod.len
  have hs1 : n1 ≤ 140737488355328 := hM.s1
  have hs2 : n2 ≤ 140737488355328 := hM.s2
  obtain ⟨W1, hW1⟩ : ∃ W1, W1 = w.alloc (.cells #[.int .i64 D, .slice A n c, .int .i64 G, .slice A1 n1 c1, .slice A2 n2 c2] 27) := ⟨_, rfl⟩
  have E1 : Hid (Below w.heap.size w W1) := by show Below _ _ _; rw [hW1]; exact (Below.refl _ _).alloc (Nat.le_refl _) _
  have X1 : Hid (Blk W1 w.heap.size [.int .i64 D, .slice A n c, .int .i64 G, .slice A1 n1 c1, .slice A2 n2 c2] 27) := by show Blk _ _ _ _; rw [hW1]; exact Blk.new _ [_, _, _, _, _] _
  have M1 := Lib.hid (hM.keep E1.out)
  have hW' := Lib.hid hW1
  have hszc := Lib.hid size_cod
  have hunc : Hid (Tryd.prog.underlying 24 = _) := Tryd.underlying24
  have CC := Lib.hid (refCheck7_any D G Gs n c A W1 M1.out.cod hsh)
  obtain ⟨Ck, hCk⟩ : ∃ x, x = chkE D Gs G := ⟨_, rfl⟩
  rw [← hCk] at CC k1 k2 k3 k4 k5 k6
  have hCkH := Lib.hid hCk
  clear hM hW1 hCk hsh
  unfold cdv at CC
  go_enter Tryd.func11, Tryd.ntmps11
  go_wp2_with fail
  generalize hg : w.alloc _ = Wg
  have hgW : W1 = Wg := by rw [← hg, hW'.out]
  clear hg hW'
  subst hgW
  go_wp2_with (first | (refine wpList_blk_load rfl 24 _ rfl 0 rfl X1.out [_, _, _] rfl _ hunc.out rfl hszc.out ?_) | fail)
  refine CC.out.mono ?_
  rintro e W ⟨rfl, hb⟩
  clear CC
  have X := Lib.hid (X1.out.below hb X1.out.lt)
  have M := Lib.hid (M1.out.keep hb)
  have E : Hid (Below w.heap.size w W) := E1.out.trans (hb.mono E1.out.size)
  clear hb X1 M1 E1
  by_cases h0 : Ck = 0
  rotate_left
  · have t0 : (Ck == 0) = false := by simpa using h0
    have hz := Lib.hid (k1.out h0)
    go_wp2_with fail
    go_ret
    exact ⟨(by rw [hz.out]; rfl), E.out⟩
  obtain ⟨b1, b2, b3, b4, b5, _⟩ := cchk_ok (hCkH.out.symm.trans h0)
  subst h0
  have p0 := X.out.cell (j := 0) rfl
  have p1 := X.out.cell (j := 1) rfl
  have p2 := X.out.cell (j := 2) rfl
  have p4 := X.out.cell (j := 4) rfl
  have p3 := X.out.cell (j := 3) rfl
  by_cases h2 : 12 < n2
  · have hz : Hid (Z = 2) := k2.out (by first | rfl | trivial) (by have := hn2.out; omega)
    have h2' : (n2 : Int) > 12 := by omega
    go_wp2_with fail
    go_ret
    exact ⟨(by rw [hz.out]; rfl), E.out⟩
  have h2' : ¬ (n2 : Int) > 12 := by omega
  have h2H : Hid (¬ 12 < ch.length) := by show ¬ 12 < ch.length; rw [← hn2.out]; exact h2
  obtain ⟨d, rfl⟩ : ∃ d : Nat, D = d := ⟨D.toNat, by omega⟩
  obtain ⟨g, rfl⟩ : ∃ g : Nat, G = g := ⟨G.toNat, by omega⟩
  have hnl := hnG.out
  obtain ⟨s1, hs1e⟩ : ∃ s, s = d + n := ⟨_, rfl⟩
  obtain ⟨pc, hpc⟩ : ∃ s, s = d + n + g := ⟨_, rfl⟩
  have e1 : (d : Int) + (n : Int) = (s1 : Int) := by omega
  have e2 : (s1 : Int) + (g : Int) = (pc : Int) := by omega
  have f1 := wrapN12 (v := s1) (by omega)
  have f2 := wrapN12 (v := pc) (by omega)
  have epc : Hid ((d : Int) + Gs.length + g = pc) := by show _ = _; omega
  clear b1 b2 b3 b4 b5 hs1e hpc hnl
  by_cases h3 : n1 = pc
  rotate_left
  · have t3 : ((n1 : Int) == (pc : Int)) = false := by simp only [beq_eq_false_iff_ne, ne_eq]; omega
    have hz : Hid (Z = 1) := k3.out (by first | rfl | trivial) h2H.out (by rw [epc.out, ← hn1.out]; omega)
    go_wp2_with fail
    go_ret
    exact ⟨(by rw [hz.out]; rfl), E.out⟩
  have k4' := Lib.hid (k4.out (by first | rfl | trivial) h2H.out (by rw [epc.out, ← hn1.out, h3]))
  have k5' := Lib.hid (k5.out (by first | rfl | trivial) h2H.out (by rw [epc.out, ← hn1.out, h3]))
  have k6' := Lib.hid (k6.out (by first | rfl | trivial) h2H.out (by rw [epc.out, ← hn1.out, h3]))
  have t3b : ((n1 : Int) != (pc : Int)) = false := by rw [bne, show ((n1 : Int) == (pc : Int)) = true by simp only [beq_iff_eq]; omega]; rfl
  clear k1 k2 k3 k4 k5 k6 h3
  have hal : Hid (Rds W B A1 (al.map iv)) := M.out.al
  have hch : Hid (Rds W B A2 (ch.map iv)) := M.out.ch
  rw [← hn2.out] at k4' k5' k6'
  go_wp2_with fail
  go_loopw [4] (fun i wr => ∃ k : Nat, k ≤ n1 ∧ i = .int .i64 k ∧ Hid ((al.take k).any (badA n2) = false) ∧ Hid (Below W.heap.size W wr)) (fun i _ => n1 - (intOf i).toNat)
  case atStart => exact ⟨0, by omega, rfl, rfl, Below.refl _ _⟩
  case round =>
    obtain ⟨k, hk, rfl, hno, hW⟩ := hrel
    clear p0 p1 p2 p3 p4
    have hle := M.out.le
    have Xr := Lib.hid (X.out.below hW.out X.out.lt)
    have Er : Hid (Below w.heap.size w wr) := E.out.trans (hW.out.mono E.out.size)
    have halr : Hid (Rds wr B A1 (al.map iv)) := hal.out.below (hW.out.mono hle)
    have hchr : Hid (Rds wr B A2 (ch.map iv)) := hch.out.below (hW.out.mono hle)
    have p3 := Xr.out.cell (j := 3) rfl
    have p4 := Xr.out.cell (j := 4) rfl
    clear hal hch
    by_cases hlt : k < n1
    · obtain ⟨x, hx⟩ : ∃ x, al[k]? = some x := ⟨_, List.getElem?_eq_getElem (by rw [← hn1.out]; exact hlt)⟩
      obtain ⟨ad, rfl, hab, hc⟩ := halr.out.look (k := k) (u := iv x) (by rw [List.getElem?_map, hx]; rfl)
      have t : (k : Int) < (n1 : Int) := by omega
      have t0 : 0 ≤ (k : Int) := by omega
      have t1 : ¬ (k : Int) < 0 := by omega
      have hx' := Lib.hid hx
      unfold iv at hc
      clear hx
      by_cases hx1 : x < -1
      · have hd : decide (x < -1) = true := decide_eq_true hx1
        have hz : Hid (Z = 1) := k4'.out (any_of12 hx'.out (by unfold badA; rw [hd]; rfl))
        go_wp2_with fail
        go_quiet (fail)
        go_wp2_with fail
        go_ret
        exact ⟨(by rw [hz.out]; rfl), (by first | exact Er.out | exact below_dN7 Er.out _)⟩
      · have hd : decide (x < -1) = false := decide_eq_false hx1
        by_cases hx2 : x ≥ (n2 : Int)
        · have hz : Hid (Z = 1) := k4'.out (any_of12 hx'.out (by unfold badA; rw [hd, decide_eq_true (show (n2 : Int) ≤ x from hx2)]; rfl))
          go_wp2_with fail
          go_quiet (fail)
          go_wp2_with fail
          go_ret
          exact ⟨(by rw [hz.out]; rfl), (by first | exact Er.out | exact below_dN7 Er.out _)⟩
        · have hnext := Lib.hid (any_take_next12 hno.out hx'.out (by unfold badA; rw [hd, decide_eq_false (show ¬ (n2 : Int) ≤ x from hx2)]; rfl))
          go_wp2_with fail
          go_quiet (fail)
          go_wp2_with fail
          go_roundw
          case rel => exact ⟨k + 1, by omega, by go_num, hnext, below_dN7 hW.out _⟩
          case measure => simp [intOf]; omega
    · have t : ¬ (k : Int) < (n1 : Int) := by omega
      have hfin : Hid (al.any (badA n2) = false) := by
        have := hno.out
        rw [List.take_of_length_le (by have := hn1.out; omega)] at this
        exact this
      have k5x := Lib.hid (k5'.out hfin.out)
      have k6x := Lib.hid (k6'.out hfin.out)
      clear k4' k5' k6' hno halr
      go_wp2_with fail
      obtain ⟨wo, hwo⟩ : ∃ wo, wo = wr := ⟨_, rfl⟩
      subst hwo
      go_loopw [5] (fun i wx => ∃ j : Nat, j ≤ n2 ∧ i = .int .i64 j ∧ Hid ((ch.take j).any badC = false) ∧ wx = wo) (fun i _ => n2 - (intOf i).toNat)
      case atStart => exact ⟨0, by omega, rfl, rfl, rfl⟩
      case round =>
        obtain ⟨j, hj, rfl, hno, rfl⟩ := hrel
        by_cases hlt2 : j < n2
        · obtain ⟨x, hx⟩ : ∃ x, ch[j]? = some x := ⟨_, List.getElem?_eq_getElem (by rw [← hn2.out]; exact hlt2)⟩
          obtain ⟨ad, rfl, hab, hc⟩ := hchr.out.look (k := j) (u := iv x) (by rw [List.getElem?_map, hx]; rfl)
          have tt : (j : Int) < (n2 : Int) := by omega
          have t0 : 0 ≤ (j : Int) := by omega
          have t1 : ¬ (j : Int) < 0 := by omega
          have hx' := Lib.hid hx
          unfold iv at hc
          clear hx
          by_cases hx1 : x < 0
          · have hd : decide (x < 0) = true := decide_eq_true hx1
            have hz : Hid (Z = 3) := k5x.out (any_of12 hx'.out (by unfold badC; rw [hd]; rfl))
            go_wp2_with fail
            go_ret
            exact ⟨(by rw [hz.out]; rfl), (by first | exact Er.out | exact below_dN7 Er.out _)⟩
          · have hd : decide (x < 0) = false := decide_eq_false hx1
            by_cases hx2 : x > 16
            · have hz : Hid (Z = 3) := k5x.out (any_of12 hx'.out (by unfold badC; rw [hd, decide_eq_true (show (16 : Int) < x from hx2)]; rfl))
              go_wp2_with fail
              go_ret
              exact ⟨(by rw [hz.out]; rfl), (by first | exact Er.out | exact below_dN7 Er.out _)⟩
            · have hnext := Lib.hid (any_take_next12 hno.out hx'.out (by unfold badC; rw [hd, decide_eq_false (show ¬ (16 : Int) < x from hx2)]; rfl))
              go_wp2_with fail
              go_roundw
              case rel => exact ⟨j + 1, by omega, by go_num, hnext, by first | rfl | trivial⟩
              case measure => simp [intOf]; omega
        · have tt : ¬ (j : Int) < (n2 : Int) := by omega
          have hfin2 : Hid (ch.any badC = false) := by
            have := hno.out
            rw [List.take_of_length_le (by have := hn2.out; omega)] at this
            exact this
          have hz : Hid (Z = 0) := k6x.out hfin2.out
          go_wp2_with fail
          go_ret
          exact ⟨(by rw [hz.out]; rfl), (by first | exact Er.out | exact below_dN7 Er.out _)⟩
end Go.Proofs.YtgajlgnniidgmaaDoor

namespace Go.Proofs.YtgajlgnniidgmaaDoor
set_option linter.unusedVariables false
set_option linter.unusedSimpArgs false
open Go.RowKit Go.Maps

theorem size_cnt12 : (Tryd.prog.info? 38).map (·.size) = some 2 := by kernel_rfl
theorem two_one12 (a b : Int) : ∀ u ∈ [Value.int .i64 a, Value.int .i64 b], u.oneCell' = true := by
  intro u hu
  simp only [List.mem_cons, List.not_mem_nil, or_false] at hu
  rcases hu with rfl | rfl <;> rfl
set_option maxRecDepth 100000 in
set_option maxHeartbeats 8000000 in
theorem refLoss12_any {B : Nat} (p : Prl) (w : World) (hM : PerM w B p) (hsh : ∀ g ∈ p.Gs, g.length ≤ 1000000) :
    Calls Tryd.prog 18 #[prv p] w fun e w' => e = .returned (.agg #[.int .i64 (if chkP p = 0 then lsum p (2 ^ p.ch.length) else 0), .int .i64 (chkP p)]) ∧ Below w.heap.size w w' := by
  rcases p with ⟨D, A, n, c, G, Gs, A1, n1, c1, al, A2, n2, c2, ch⟩
  obtain ⟨q, hq⟩ : ∃ q : Prl, q = ⟨D, A, n, c, G, Gs, A1, n1, c1, al, A2, n2, c2, ch⟩ := ⟨_, rfl⟩
  have hqv : Hid (prv q = .agg #[.int .i64 D, .slice A n c, .int .i64 G, .slice A1 n1 c1, .slice A2 n2 c2]) := by rw [hq]; rfl
  have hqh : Hid (q.ch = ch) := by rw [hq]; rfl
  have hchq : Hid (∀ W, PerM W B q → Rds W B A2 (ch.map iv)) := fun W m => by rw [hq] at m; exact m.ch
  have hshq : Hid (∀ g ∈ q.Gs, g.length ≤ 1000000) := by show ∀ g ∈ q.Gs, g.length ≤ 1000000; rw [hq]; exact hsh
  rw [← hq] at hM ⊢
  have hnn : Hid (n2 = ch.length) := by show n2 = ch.length; rw [hq] at hM; exact hM.n2
  obtain ⟨W1, hW1⟩ : ∃ W1, W1 = (w.alloc (.cells #[.int .i64 D, .slice A n c, .int .i64 G, .slice A1 n1 c1, .slice A2 n2 c2] 27)).alloc (.cells #[.int .i64 0, .int .i64 0] 38) := ⟨_, rfl⟩
  have E : Hid (Below w.heap.size w W1) := by show Below _ _ _; rw [hW1]; exact ((Below.refl _ _).alloc (Nat.le_refl _) _).alloc (by rw [World.alloc]; simp) _
  have X : Hid (Blk W1 w.heap.size [.int .i64 D, .slice A n c, .int .i64 G, .slice A1 n1 c1, .slice A2 n2 c2] 27) := by show Blk _ _ _ _; rw [hW1]; exact (Blk.new _ [_, _, _, _, _] _).alloc _
  have Y : Hid (Blk W1 (w.heap.size + 1) [.int .i64 0, .int .i64 0] 38) := by
    show Blk _ _ _ _
    rw [hW1, show w.heap.size + 1 = (w.alloc (.cells #[.int .i64 D, .slice A n c, .int .i64 G, .slice A1 n1 c1, .slice A2 n2 c2] 27)).heap.size by rw [World.alloc]; simp]
    exact Blk.new _ [_, _] _
  have M := Lib.hid (hM.keep E.out)
  have hW' := Lib.hid hW1
  have hsz := Lib.hid size_prl
  have hun : Hid (Tryd.prog.underlying 27 = _) := Tryd.underlying27
  have huc : Hid (Tryd.prog.underlying 38 = _) := Tryd.underlying38
  have CC := Lib.hid (refCheck12_any q W1 M.out hshq.out)
  rw [hqv.out] at CC
  obtain ⟨Z, hZ⟩ : ∃ z, z = chkP q := ⟨_, rfl⟩
  rw [← hZ] at CC ⊢
  have hZ' := Lib.hid hZ
  obtain ⟨V0, hV0⟩ : ∃ v : Int, v = (if Z = 0 then lsum q (2 ^ q.ch.length) else 0) := ⟨_, rfl⟩
  rw [← hV0]
  have hV0' := Lib.hid hV0
  clear hM hW1 hq hsh hZ hV0
  rw [hqv.out]
  go_enter Tryd.func18, Tryd.ntmps18
  go_wp2_with fail
  generalize hg : (w.alloc _).alloc _ = Wg
  have hgW : W1 = Wg := by rw [← hg, hW'.out]
  clear hg hW'
  subst hgW
  go_wp2_with (first | (refine wpList_blk_load rfl 27 _ rfl 0 rfl X.out [_, _, _, _, _] rfl _ hun.out rfl hsz.out ?_) | fail)
  refine CC.out.mono ?_
  rintro e w2 ⟨rfl, hb⟩
  clear CC
  replace X := Lib.hid (X.out.below hb X.out.lt)
  replace Y := Lib.hid (Y.out.below hb Y.out.lt)
  replace M := Lib.hid (M.out.keep hb)
  replace E : Hid (Below w.heap.size w w2) := E.out.trans (hb.mono E.out.size)
  clear hb
  by_cases h0 : Z = 0
  rotate_left
  · have t0 : (Z == 0) = false := by simpa using h0
    have hz : Hid (V0 = 0) := by show V0 = 0; rw [hV0'.out, if_neg h0]
    go_wp2_with (refine wpList_row_store rfl 38 _ _ rfl [.int .i64 0, .int .i64 Z] rfl rfl Y.out size_cnt12 rfl (two_one12 _ _) ?_; intro w4 hw4 ho4)
    exact bodyPost_ret (ret_blk rfl _ w4 (g := w.heap.size + 1) rfl hw4.out _ huc.out rfl size_cnt12) rfl ⟨(by rw [hz.out]), E.out.trans (ho4.below (Nat.le_succ _))⟩
  have OK := Lib.hid (chkP_ok.1 (hZ'.out.symm.trans h0))
  have hlv : Hid (V0 = lsum q (2 ^ n2)) := by show V0 = _; rw [hV0'.out, if_pos h0, hqh.out, hnn.out]
  subst h0
  have hl12 : n2 ≤ 12 := by rw [hnn.out, ← hqh.out]; exact OK.out.l12
  obtain ⟨m, hm⟩ : ∃ m, m = 2 ^ n2 := ⟨_, rfl⟩
  rw [← hm] at hlv
  have hm4 : m ≤ 4096 := by
    have : (2 : Nat) ^ n2 ≤ 2 ^ 12 := Nat.pow_le_pow_right (by omega) (by omega)
    omega
  have u1 : ¬ (n2 : Int) < 0 := by omega
  have u0 : 0 ≤ (n2 : Int) := by omega
  have um : min n2 64 = n2 := by omega
  have e2 : (2 : Int) ^ n2 = (m : Int) := by rw [hm, Int.natCast_pow]; rfl
  have fm : wrap64 (m : Int) = (m : Int) := by unfold wrap64; omega
  have hrng := Lib.hid (lsum_rng (p := q) OK.out.l12 OK.out.ch)
  have hrc : Hid (∀ c ∈ ch, 0 ≤ c ∧ c ≤ 16) := by show ∀ c ∈ ch, _; rw [← hqh.out]; exact OK.out.ch
  clear hm hV0' hZ'
  go_wp2_with fail
  go_loopg [4, 5] m (fun g s4 s5 wx => ∃ k : Nat, k + g = m ∧ s5 = .int .i64 k ∧ s4 = .int .i64 (lsum q k) ∧ Hid (Below w2.heap.size w2 wx))
  case atStart => exact ⟨0, by omega, rfl, rfl, Below.refl _ _⟩
  case round =>
    obtain ⟨k, hkg, rfl, rfl, hW⟩ := hrel
    have hle := M.out.le
    have Xr := Lib.hid (X.out.below hW.out X.out.lt)
    have Yr := Lib.hid (Y.out.below hW.out Y.out.lt)
    have Mr := Lib.hid (M.out.keep hW.out)
    have Er : Hid (Below w.heap.size w wr) := E.out.trans (hW.out.mono E.out.size)
    have hrd := Lib.hid (hchq.out wr Mr.out)
    have p4 := Xr.out.cell (j := 4) rfl
    obtain ⟨S0, hS0⟩ : ∃ s, s = lsum q k := ⟨_, rfl⟩
    rw [← hS0]
    have r0 := hrng.out k
    rw [← hS0] at r0
    obtain ⟨r1, r2⟩ := r0
    have hS0' := Lib.hid hS0
    clear hS0 hle
    obtain ⟨og, hog⟩ : ∃ og, og = gk := ⟨_, rfl⟩
    subst hog
    cases og with
    | zero =>
      have hkz : ¬ ((k : Int) < (m : Int)) := by omega
      have hkm : Hid (V0 = S0) := by show V0 = S0; rw [hlv.out, hS0'.out, show k = m by omega]
      go_wp2_with (refine wpList_row_store rfl 38 _ _ rfl [.int .i64 S0, .int .i64 0] rfl rfl Yr.out size_cnt12 rfl (two_one12 _ _) ?_; intro w4 hw4 ho4)
      exact bodyPost_ret (ret_blk rfl _ w4 (g := w.heap.size + 1) rfl hw4.out _ huc.out rfl size_cnt12) rfl ⟨(by rw [hkm.out]), Er.out.trans (ho4.below (Nat.le_succ _))⟩
    | succ og =>
      have hkz : (k : Int) < (m : Int) := by omega
      have r3 := hrng.out (k + 1)
      have CL := refLoses_any q k wr Mr.out OK.out.l24 OK.out.a60 hshq.out
      rw [hqv.out] at CL
      obtain ⟨V, hV⟩ : ∃ v, v = wgt k ch 0 1 := ⟨_, rfl⟩
      have v0 : 0 ≤ V := by rw [hV]; exact (wgt_rng k ch 0 1 hrc.out (by omega) (by omega)).1
      have hV' : Hid (V = wgt k q.ch 0 1) := by show V = _; rw [hqh.out]; exact hV
      go_wp2_with fail
      obtain ⟨wo, hwo⟩ : ∃ wo, wo = wr := ⟨_, rfl⟩
      subst hwo
      go_loopg [6, 7] n2 (fun gi s6 s7 wx => ∃ (j : Nat) (u : Int), j + gi = n2 ∧ s7 = .int .i64 j ∧ s6 = .int .i64 u ∧ 0 ≤ u ∧ Hid (u ≤ 16 ^ j) ∧ Hid (V = wgt k (ch.drop j) j u) ∧ wx = wo)
      case atStart => exact ⟨0, 1, by omega, rfl, rfl, by omega, (by decide : (1 : Int) ≤ 16 ^ 0), hV, rfl⟩
      case round =>
        obtain ⟨j, u, hjg, rfl, rfl, hu0, hu, hI, rfl⟩ := hrel
        clear hV
        obtain ⟨gi, hgi⟩ : ∃ gi, gi = gk := ⟨_, rfl⟩
        subst hgi
        cases gi with
        | zero =>
          have hjz : ¬ ((j : Int) < (n2 : Int)) := by omega
          have hz : u = V := by rw [hI.out, List.drop_eq_nil_of_le (by have := hnn.out; omega)]; rfl
          subst hz
          clear hI hu
          go_wp2_with (first | (refine wpList_blk_load rfl 27 _ rfl 0 rfl Xr.out [_, _, _, _, _] rfl _ hun.out rfl hsz.out ?_) | fail)
          refine CL.mono ?_
          rintro e w5 ⟨⟨b, rfl, hb⟩, hbl⟩
          have hW5 := Lib.hid (hW.out.trans (hbl.mono hW.out.size))
          have hb' := Lib.hid hb
          clear CL hbl hb
          cases b with
          | true =>
            have hnx : Hid (lsum q (k + 1) = S0 + u) := by show lsum q (k + 1) = S0 + u; rw [lsum_yes (hb'.out.1 rfl), ← hS0'.out, ← hV'.out]
            rw [hnx.out] at r3
            obtain ⟨yy, hY⟩ : ∃ y, S0 + u = y := ⟨_, rfl⟩
            rw [hY] at hnx r3
            have fY : IntKind.i64.wrap yy = yy := by rw [IntKind.wrap_i64]; omega
            clear r3 hb'
            go_wp2_with fail
            go_roundg og
            case measure => omega
            case rel => first | exact ⟨k + 1, by omega, by go_num, by rw [hnx.out], hW5⟩ | exact ⟨_, _, _, ⟨k + 1, by omega, by go_num, by rw [hnx.out], hW5⟩, rfl⟩
          | false =>
            have hnx : Hid (lsum q (k + 1) = S0) := by show lsum q (k + 1) = S0; rw [lsum_no (fun h => by have := hb'.out.2 h; cases this), hS0'.out]
            clear r3 hb'
            go_wp2_with fail
            go_roundg og
            case measure => omega
            case rel => first | exact ⟨k + 1, by omega, by go_num, by rw [hnx.out], hW5⟩ | exact ⟨_, _, _, ⟨k + 1, by omega, by go_num, by rw [hnx.out], hW5⟩, rfl⟩
        | succ gi =>
          have hjz : (j : Int) < (n2 : Int) := by omega
          obtain ⟨x, hx⟩ : ∃ x, ch[j]? = some x := ⟨_, List.getElem?_eq_getElem (by have := hnn.out; omega)⟩
          have hdrop : ch.drop j = x :: ch.drop (j + 1) := by rw [List.drop_eq_getElem_cons (List.getElem?_eq_some_iff.1 hx).1, (List.getElem?_eq_some_iff.1 hx).2]
          obtain ⟨bd, rfl, hbb, hcb⟩ := hrd.out.look (k := j) (u := iv x) (by rw [List.getElem?_map, hx]; rfl)
          unfold iv at hcb
          obtain ⟨r1, r2⟩ := hrc.out x (List.mem_of_getElem? hx)
          have hstep : Hid (V = wgt k (ch.drop (j + 1)) (j + 1) (u * (if k.testBit j = true then x else 16 - x))) := by
            show _ = _
            rw [hI.out, hdrop, wgt]
          have hp := p16 (k := j + 1) (by omega)
          clear hx hdrop hI CL r3
          have hbi := bit_int7 k j
          have j0 : 0 ≤ (j : Int) := by omega
          have j1 : ¬ (j : Int) < 0 := by omega
          have j2 : min j 64 = j := by omega
          cases hb : k.testBit j with
          | true =>
            rw [hb] at hbi hstep
            rw [if_pos rfl] at hstep
            obtain ⟨m0, m1⟩ := mul16 hu0 hu.out r1 r2
            have m1' := Lib.hid m1
            obtain ⟨y, hy⟩ : ∃ y, u * x = y := ⟨_, rfl⟩
            rw [hy] at hstep m0 m1 m1'
            have hf : IntKind.i64.wrap y = y := by rw [IntKind.wrap_i64]; omega
            clear m1 hp hu
            go_wp2_with fail
            go_roundg gi
            case measure => omega
            case rel => exact ⟨j + 1, y, by omega, by go_num, by first | rfl | (go_num; done) | (rw [hy, hf]), m0, m1', hstep, rfl⟩
          | false =>
            rw [hb] at hbi hstep
            rw [if_neg (by simp)] at hstep
            obtain ⟨z, hz⟩ : ∃ z, 16 - x = z := ⟨_, rfl⟩
            rw [hz] at hstep
            have hfz : IntKind.i64.wrap z = z := by rw [IntKind.wrap_i64]; omega
            obtain ⟨m0, m1⟩ := mul16 hu0 hu.out (show 0 ≤ z by omega) (show z ≤ 16 by omega)
            have m1' := Lib.hid m1
            obtain ⟨y, hy⟩ : ∃ y, u * z = y := ⟨_, rfl⟩
            rw [hy] at hstep m0 m1 m1'
            have hf : IntKind.i64.wrap y = y := by rw [IntKind.wrap_i64]; omega
            clear m1 hp hu
            go_wp2_with fail
            go_roundg gi
            case measure => omega
            case rel => exact ⟨j + 1, y, by omega, by go_num, by first | rfl | (go_num; done) | (rw [hy, hf]), m0, m1', hstep, rfl⟩
end Go.Proofs.YtgajlgnniidgmaaDoor

namespace Go.Proofs.YtgajlgnniidgmaaDoor
set_option linter.unusedVariables false
set_option linter.unusedSimpArgs false
open Go.RowKit Go.Maps

theorem bfr_zero : ∀ (m a : Nat), bfr m a 0 = false
  | 0, a => rfl
  | m + 1, a => by rw [bfr, if_neg (by omega)]; exact bfr_zero m _
theorem bfr_diff {m x y : Nat} (h : x % 2 ≠ y % 2) : bfr (m + 1) x (x ^^^ y) = decide (x % 2 = 1) := by
  have e := Nat.xor_mod_two_eq_one (a := x) (b := y)
  rw [bfr, if_pos (e.2 (by omega))]
theorem bfr_same {m x y : Nat} (h : x % 2 = y % 2) : bfr (m + 1) x (x ^^^ y) = bfr m (x / 2) (x / 2 ^^^ y / 2) := by
  have e := Nat.xor_mod_two_eq_one (a := x) (b := y)
  rw [bfr, if_neg (fun hh => by have := e.1 hh; omega), Nat.xor_div_two]
theorem and1_12 (v : Nat) : bits BinOp.and IntKind.i64 (v : Int) 1 = ((v % 2 : Nat) : Int) := by rw [i64_and17]; omega

set_option maxRecDepth 100000 in
set_option maxHeartbeats 2000000 in
theorem refsize12_any (s : Nat) (w : World) (hs : s < 4096) : Calls Tryd.prog 40 #[.int .i64 s] w fun e w' => e = .returned (.int .i64 (cnt7 s)) ∧ w' = w := by
  obtain ⟨R, hR⟩ : ∃ R, R = cnt7 s := ⟨_, rfl⟩
  rw [← hR]
  have hRs : R ≤ 4096 := by rw [hR]; exact Nat.le_trans (cnt7_le s s (Nat.le_refl _)) (by omega)
  go_enter Tryd.func40, Tryd.ntmps40
  go_wp2_with fail
  go_loopg [0, 3] s (fun g s0 s3 wx => ∃ v t : Nat, v ≤ g ∧ v < 4096 ∧ s0 = .int .i64 v ∧ s3 = .int .i64 t ∧ Hid (R = t + cnt7 v) ∧ wx = w)
  case atStart => exact ⟨s, 0, by omega, hs, rfl, rfl, by show R = 0 + cnt7 s; omega, rfl⟩
  case round =>
    obtain ⟨v, t, hvg, hv, rfl, rfl, hI, rfl⟩ := hrel
    clear hR
    by_cases h0 : v = 0
    · have hz : Hid (R = t) := by show R = t; rw [hI.out, h0, cnt7_zero]; omega
      subst h0
      have hz0 : ¬ ((0 : Int) > 0) := by omega
      go_wp2_with fail
      go_ret
      exact ⟨(by rw [hz.out]; rfl), rfl⟩
    · have hp : (v : Int) > 0 := by omega
      have hb := and1_12 v
      obtain ⟨h, hh⟩ : ∃ h, h = v / 2 := ⟨_, rfl⟩
      obtain ⟨r, hr⟩ : ∃ r, r = v % 2 := ⟨_, rfl⟩
      obtain ⟨t2, ht2⟩ : ∃ t2, t2 = t + r := ⟨_, rfl⟩
      have hI2 : Hid (R = t2 + cnt7 h) := by show R = t2 + cnt7 h; rw [hI.out, cnt7_pos (by omega), ht2, hh, hr]; omega
      have ht4 : t2 < 1000000000 := by have := hI2.out; omega
      rw [← hr] at hb
      have eh : (v : Int) / 2 = (h : Int) := by omega
      have et : (t : Int) + (r : Int) = (t2 : Int) := by omega
      have ft := wrapN12 ht4
      have hh1 : h + 1 ≤ v := by omega
      clear hI hr ht2 hh
      go_wp2_with fail
      cases gk with
      | zero => omega
      | succ gk =>
        go_roundg gk
        case measure => omega
        case rel => exact ⟨h, t2, by omega, by omega, by first | rfl | (go_num; done), by first | rfl | (go_num; done), hI2, by first | rfl | trivial⟩

set_option maxRecDepth 100000 in
set_option maxHeartbeats 2000000 in
theorem refbefore12_any (a b : Nat) (w : World) (ha : a < 4096) (hb : b < 4096) : Calls Tryd.prog 39 #[.int .i64 a, .int .i64 b] w fun e w' => e = .returned (.bool (bfr 64 a (a ^^^ b))) ∧ w' = w := by
  obtain ⟨R, hR⟩ : ∃ R, R = bfr 64 a (a ^^^ b) := ⟨_, rfl⟩
  rw [← hR]
  obtain ⟨N, hN⟩ : ∃ n : Nat, n = 64 := ⟨_, rfl⟩
  rw [← hN] at hR
  have hpa : Hid (a < 2 ^ N ∧ b < 2 ^ N) := by show a < 2 ^ N ∧ b < 2 ^ N; rw [hN]; omega
  clear hN
  go_enter Tryd.func39, Tryd.ntmps39
  go_wp2_with fail
  go_loopg [0, 1] N (fun g s0 s1 wx => ∃ x y : Nat, x < 4096 ∧ y < 4096 ∧ s0 = .int .i64 x ∧ s1 = .int .i64 y ∧ Hid (x < 2 ^ g ∧ y < 2 ^ g) ∧ Hid (R = bfr g x (x ^^^ y)) ∧ wx = w)
  case atStart => exact ⟨a, b, ha, hb, rfl, rfl, hpa, hR, rfl⟩
  case round =>
    obtain ⟨x, y, hx, hy, rfl, rfl, hp, hI, rfl⟩ := hrel
    clear hR hpa
    by_cases h0 : x = y
    · have hz : Hid (R = false) := by show R = false; rw [hI.out, h0, Nat.xor_self, bfr_zero]
      subst h0
      clear hI hp
      go_wp2_with fail
      go_ret
      exact ⟨(by rw [hz.out]; rfl), rfl⟩
    · have t0 : ((x : Int) == (y : Int)) = false := by simp only [beq_eq_false_iff_ne, ne_eq]; omega
      have b1 := and1_12 x
      have b2 := and1_12 y
      cases gk with
      | zero =>
        obtain ⟨q1, q2⟩ := hp.out
        rw [Nat.pow_zero] at q1 q2
        omega
      | succ gk =>
        obtain ⟨q1, q2⟩ := hp.out
        rw [Nat.pow_succ] at q1 q2
        obtain ⟨r, hr⟩ : ∃ r, r = x % 2 := ⟨_, rfl⟩
        obtain ⟨u, hu⟩ : ∃ r, r = y % 2 := ⟨_, rfl⟩
        by_cases hd : x % 2 = y % 2
        · have hI2 : Hid (R = bfr gk (x / 2) (x / 2 ^^^ y / 2)) := by show R = _; rw [hI.out, bfr_same hd]
          have hp2 : Hid (x / 2 < 2 ^ gk ∧ y / 2 < 2 ^ gk) := ⟨by omega, by omega⟩
          obtain ⟨xh, hxh⟩ : ∃ h, h = x / 2 := ⟨_, rfl⟩
          obtain ⟨yh, hyh⟩ : ∃ h, h = y / 2 := ⟨_, rfl⟩
          rw [← hxh, ← hyh] at hI2 hp2
          have e1 : (x : Int) / 2 = (xh : Int) := by omega
          have e2 : (y : Int) / 2 = (yh : Int) := by omega
          have l1 : xh < 4096 := by omega
          have l2 : yh < 4096 := by omega
          rw [← hd, ← hr] at b2
          rw [← hr] at b1
          clear hI hp q1 q2 hr hu hd hxh hyh
          go_wp2_with fail
          go_roundg gk
          case measure => omega
          case rel => exact ⟨xh, yh, l1, l2, by first | rfl | (go_num; done), by first | rfl | (go_num; done), hp2, hI2, by first | rfl | trivial⟩
        · have hz : Hid (R = decide (x % 2 = 1)) := by show R = _; rw [hI.out, bfr_diff hd]
          rw [← hr] at b1
          rw [← hu] at b2
          have t1 : ((r : Int) == (u : Int)) = false := by simp only [beq_eq_false_iff_ne, ne_eq]; omega
          have hz2 : Hid (((r : Int) == 1) = R) := by
            show ((r : Int) == 1) = R
            rw [hz.out, hr]
            by_cases h1 : x % 2 = 1
            · rw [decide_eq_true h1, h1]; rfl
            · rw [decide_eq_false h1, show x % 2 = 0 by omega]; rfl
          clear hI hp q1 q2 hr hu hd hz
          go_wp2_with fail
          go_ret
          exact ⟨(by rw [← hz2.out]; rfl), by first | rfl | trivial⟩
end Go.Proofs.YtgajlgnniidgmaaDoor

namespace Go.Proofs.YtgajlgnniidgmaaDoor
set_option linter.unusedVariables false
set_option linter.unusedSimpArgs false
open Go.RowKit Go.Maps

theorem cnt7_even_r (n : Nat) : cnt7 (2 * n) = cnt7 n := by
  rcases Nat.eq_zero_or_pos n with rfl | h
  · rfl
  · rw [cnt7_pos (by omega), show 2 * n % 2 = 0 by omega, show 2 * n / 2 = n by omega, Nat.zero_add]
theorem cnt7_odd_r (n : Nat) : cnt7 (2 * n + 1) = cnt7 n + 1 := by
  rw [cnt7_pos (by omega), show (2 * n + 1) % 2 = 1 by omega, show (2 * n + 1) / 2 = n by omega, Nat.add_comm]
theorem half7_r (n : Nat) : ∃ q, n = 2 * q ∨ n = 2 * q + 1 := ⟨n / 2, by omega⟩
theorem cnt7_split_r : ∀ (k u v : Nat), v < 2 ^ k → cnt7 (2 ^ k * u + v) = cnt7 u + cnt7 v
  | 0, u, v, h => by
    have : v = 0 := by simpa using h
    rw [this, Nat.pow_zero, Nat.one_mul, Nat.add_zero, cnt7_zero, Nat.add_zero]
  | k + 1, u, v, h => by
    have hp : 2 ^ (k + 1) = 2 * 2 ^ k := by rw [Nat.pow_succ, Nat.mul_comm]
    rw [hp] at h ⊢
    obtain ⟨q, hq | hq⟩ := half7_r v
    · rw [hq, show 2 * 2 ^ k * u + 2 * q = 2 * (2 ^ k * u + q) by rw [Nat.mul_add, Nat.mul_assoc], cnt7_even_r, cnt7_even_r, cnt7_split_r k u q (by omega)]
    · rw [hq, show 2 * 2 ^ k * u + (2 * q + 1) = 2 * (2 ^ k * u + q) + 1 by rw [Nat.mul_add, Nat.mul_assoc]; omega, cnt7_odd_r, cnt7_odd_r, cnt7_split_r k u q (by omega)]
      omega
theorem cnt7_ones_r : ∀ k, cnt7 (2 ^ k - 1) = k
  | 0 => cnt7_zero
  | k + 1 => by
    have hp : 2 ^ (k + 1) = 2 * 2 ^ k := by rw [Nat.pow_succ, Nat.mul_comm]
    have h1 := Nat.one_le_two_pow (n := k)
    rw [hp, show 2 * 2 ^ k - 1 = 2 * (2 ^ k - 1) + 1 by omega, cnt7_odd_r, cnt7_ones_r k]
theorem cnt7_shift_r (v t : Nat) : cnt7 (2 ^ t * v) = cnt7 v := by
  have := cnt7_split_r t v 0 (Nat.two_pow_pos t)
  rw [Nat.add_zero, cnt7_zero, Nat.add_zero] at this
  exact this
theorem cnt7_two_r (k : Nat) : cnt7 (2 ^ k) = 1 := by
  have := cnt7_shift_r 1 k
  rw [Nat.mul_one] at this
  rw [this]
  exact cnt7_ones_r 1
/-- The least number with so many bits. -/
theorem cnt7_low_r : ∀ N v, v ≤ N → 2 ^ cnt7 v - 1 ≤ v
  | 0, v, h => by rw [Nat.le_zero.1 h, cnt7_zero]; exact Nat.le_refl 0
  | N + 1, v, h => by
    obtain ⟨q, hq | hq⟩ := half7_r v
    · rcases Nat.eq_zero_or_pos q with h0 | h0
      · rw [hq, h0, Nat.mul_zero, cnt7_zero]; exact Nat.le_refl 0
      · have := cnt7_low_r N q (by omega)
        rw [hq, cnt7_even_r]; omega
    · have := cnt7_low_r N q (by omega)
      rw [hq, cnt7_odd_r, Nat.pow_succ]
      omega
/-- The greatest number of m bits with so many bits. -/
theorem cnt7_high_r : ∀ (m v : Nat), v < 2 ^ m → cnt7 v ≤ m ∧ v + 2 ^ (m - cnt7 v) ≤ 2 ^ m
  | 0, v, h => by
    have : v = 0 := by simpa using h
    rw [this, cnt7_zero]
    exact ⟨Nat.le_refl 0, Nat.le_refl 1⟩
  | m + 1, v, h => by
    have hp : 2 ^ (m + 1) = 2 * 2 ^ m := by rw [Nat.pow_succ, Nat.mul_comm]
    rw [hp] at h ⊢
    obtain ⟨q, hq | hq⟩ := half7_r v
    · obtain ⟨h1, h2⟩ := cnt7_high_r m q (by omega)
      rw [hq, cnt7_even_r, show m + 1 - cnt7 q = m - cnt7 q + 1 by omega, Nat.pow_succ]
      exact ⟨by omega, by omega⟩
    · obtain ⟨h1, h2⟩ := cnt7_high_r m q (by omega)
      have := Nat.one_le_two_pow (n := m - cnt7 q)
      rw [hq, cnt7_odd_r, show m + 1 - (cnt7 q + 1) = m - cnt7 q by omega]
      exact ⟨by omega, by omega⟩
/-- All has most bits: it comes before nothing. -/
theorem lsq_all {p : Prl} {all n : Nat} (h : all = 2 ^ n - 1) : lsq p all (all + 1) = lsq p all all := by
  refine lsq_no (fun hh => ?_)
  have h1 := hh.1
  have hb := lsq_lt (p := p) (all := all) all (Nat.le_refl _)
  generalize lsq p all all = b at hb h1
  have hp : 1 ≤ 2 ^ n := Nat.one_le_two_pow
  obtain ⟨c1, _⟩ := cnt7_high_r n b (by omega)
  have c2 : cnt7 all = n := by rw [h]; exact cnt7_ones_r n
  unfold befB at h1
  by_cases he : cnt7 all = cnt7 b
  · have hl := cnt7_low_r b b (Nat.le_refl _)
    rw [← he, c2] at hl
    have : b = all := by omega
    rw [if_pos he, this, Nat.xor_self, bfr_zero] at h1
    cases h1
  · rw [if_neg he, decide_eq_true_eq] at h1
    omega
set_option maxRecDepth 100000 in
set_option maxHeartbeats 8000000 in
theorem refLeast12_any {B : Nat} (p : Prl) (w : World) (hM : PerM w B p) (hsh : ∀ g ∈ p.Gs, g.length ≤ 1000000) :
    Calls Tryd.prog 19 #[prv p] w fun e w' => e = .returned (.agg #[.int .i64 (if chkP p = 0 then (lstV p : Int) else 0), .int .i64 (chkP p)]) ∧ Below w.heap.size w w' := by
  rcases p with ⟨D, A, n, c, G, Gs, A1, n1, c1, al, A2, n2, c2, ch⟩
  obtain ⟨q, hq⟩ : ∃ q : Prl, q = ⟨D, A, n, c, G, Gs, A1, n1, c1, al, A2, n2, c2, ch⟩ := ⟨_, rfl⟩
  have hqv : Hid (prv q = .agg #[.int .i64 D, .slice A n c, .int .i64 G, .slice A1 n1 c1, .slice A2 n2 c2]) := by rw [hq]; rfl
  have hqh : Hid (q.ch = ch) := by rw [hq]; rfl
  have hchq : Hid (∀ W, PerM W B q → Rds W B A2 (ch.map iv)) := fun W m => by rw [hq] at m; exact m.ch
  have hshq : Hid (∀ g ∈ q.Gs, g.length ≤ 1000000) := by show ∀ g ∈ q.Gs, g.length ≤ 1000000; rw [hq]; exact hsh
  rw [← hq] at hM ⊢
  have hnn : Hid (n2 = ch.length) := by show n2 = ch.length; rw [hq] at hM; exact hM.n2
  obtain ⟨W1, hW1⟩ : ∃ W1, W1 = (w.alloc (.cells #[.int .i64 D, .slice A n c, .int .i64 G, .slice A1 n1 c1, .slice A2 n2 c2] 27)).alloc (.cells #[.int .i64 0, .int .i64 0] 38) := ⟨_, rfl⟩
  have E : Hid (Below w.heap.size w W1) := by show Below _ _ _; rw [hW1]; exact ((Below.refl _ _).alloc (Nat.le_refl _) _).alloc (by rw [World.alloc]; simp) _
  have X : Hid (Blk W1 w.heap.size [.int .i64 D, .slice A n c, .int .i64 G, .slice A1 n1 c1, .slice A2 n2 c2] 27) := by show Blk _ _ _ _; rw [hW1]; exact (Blk.new _ [_, _, _, _, _] _).alloc _
  have Y : Hid (Blk W1 (w.heap.size + 1) [.int .i64 0, .int .i64 0] 38) := by
    show Blk _ _ _ _
    rw [hW1, show w.heap.size + 1 = (w.alloc (.cells #[.int .i64 D, .slice A n c, .int .i64 G, .slice A1 n1 c1, .slice A2 n2 c2] 27)).heap.size by rw [World.alloc]; simp]
    exact Blk.new _ [_, _] _
  have M := Lib.hid (hM.keep E.out)
  have hW' := Lib.hid hW1
  have hsz := Lib.hid size_prl
  have hun : Hid (Tryd.prog.underlying 27 = _) := Tryd.underlying27
  have huc : Hid (Tryd.prog.underlying 38 = _) := Tryd.underlying38
  have CC := Lib.hid (refCheck12_any q W1 M.out hshq.out)
  rw [hqv.out] at CC
  obtain ⟨Z, hZ⟩ : ∃ z, z = chkP q := ⟨_, rfl⟩
  rw [← hZ] at CC ⊢
  have hZ' := Lib.hid hZ
  obtain ⟨V0, hV0⟩ : ∃ v : Int, v = (if Z = 0 then (lstV q : Int) else 0) := ⟨_, rfl⟩
  rw [← hV0]
  have hV0' := Lib.hid hV0
  clear hM hW1 hq hsh hZ hV0
  rw [hqv.out]
  go_enter Tryd.func19, Tryd.ntmps19
  go_wp2_with fail
  generalize hg : (w.alloc _).alloc _ = Wg
  have hgW : W1 = Wg := by rw [← hg, hW'.out]
  clear hg hW'
  subst hgW
  go_wp2_with (first | (refine wpList_blk_load rfl 27 _ rfl 0 rfl X.out [_, _, _, _, _] rfl _ hun.out rfl hsz.out ?_) | fail)
  refine CC.out.mono ?_
  rintro e w2 ⟨rfl, hb⟩
  clear CC
  replace X := Lib.hid (X.out.below hb X.out.lt)
  replace Y := Lib.hid (Y.out.below hb Y.out.lt)
  replace M := Lib.hid (M.out.keep hb)
  replace E : Hid (Below w.heap.size w w2) := E.out.trans (hb.mono E.out.size)
  clear hb
  by_cases h0 : Z = 0
  rotate_left
  · have t0 : (Z == 0) = false := by simpa using h0
    have hz : Hid (V0 = 0) := by show V0 = 0; rw [hV0'.out, if_neg h0]
    go_wp2_with (refine wpList_row_store rfl 38 _ _ rfl [.int .i64 0, .int .i64 Z] rfl rfl Y.out size_cnt12 rfl (two_one12 _ _) ?_; intro w4 hw4 ho4)
    exact bodyPost_ret (ret_blk rfl _ w4 (g := w.heap.size + 1) rfl hw4.out _ huc.out rfl size_cnt12) rfl ⟨(by rw [hz.out]), E.out.trans (ho4.below (Nat.le_succ _))⟩
  have OK := Lib.hid (chkP_ok.1 (hZ'.out.symm.trans h0))
  have hlv0 : Hid (V0 = lstV q) := by show V0 = _; rw [hV0'.out, if_pos h0]
  subst h0
  have hl12 : n2 ≤ 12 := by rw [hnn.out, ← hqh.out]; exact OK.out.l12
  obtain ⟨m, hm⟩ : ∃ m, m = 2 ^ n2 := ⟨_, rfl⟩
  have hm4 : m ≤ 4096 := by
    have : (2 : Nat) ^ n2 ≤ 2 ^ 12 := Nat.pow_le_pow_right (by omega) (by omega)
    omega
  have u1 : ¬ (n2 : Int) < 0 := by omega
  have u0 : 0 ≤ (n2 : Int) := by omega
  have um : min n2 64 = n2 := by omega
  have e2 : (2 : Int) ^ n2 = (m : Int) := by rw [hm, Int.natCast_pow]; rfl
  have fm : wrap64 (m : Int) = (m : Int) := by unfold wrap64; omega
  have hm1 : 1 ≤ m := by rw [hm]; exact Nat.one_le_two_pow
  obtain ⟨M0, hM0⟩ : ∃ a, a = m - 1 := ⟨_, rfl⟩
  have e3 : (m : Int) - 1 = (M0 : Int) := by omega
  have fM := wrapN12 (v := M0) (by omega)
  have hlv : Hid (V0 = lsq q M0 m) := by
    show V0 = _
    rw [hlv0.out, show m = M0 + 1 by omega, lsq_all (n := n2) (by rw [hM0, hm])]
    unfold lstV
    rw [hqh.out, ← hnn.out, ← hm, ← hM0]
  have hM4 : M0 < 4096 := by omega
  have hmM : m = M0 + 1 := by omega
  clear hm hV0' hZ' hlv0 hM0
  have p4 := X.out.cell (j := 4) rfl
  go_wp2_with fail
  clear p4
  go_loopg [4, 5] m (fun g s4 s5 wx => ∃ k : Nat, k + g = m ∧ s5 = .int .i64 k ∧ s4 = .int .i64 (lsq q M0 k) ∧ Hid (Below w2.heap.size w2 wx))
  case atStart => exact ⟨0, by omega, rfl, rfl, Below.refl _ _⟩
  case round =>
    obtain ⟨k, hkg, rfl, rfl, hW⟩ := hrel
    have Xr := Lib.hid (X.out.below hW.out X.out.lt)
    have Yr := Lib.hid (Y.out.below hW.out Y.out.lt)
    have Mr := Lib.hid (M.out.keep hW.out)
    have Er : Hid (Below w.heap.size w wr) := E.out.trans (hW.out.mono E.out.size)
    have p4 := Xr.out.cell (j := 4) rfl
    obtain ⟨S0, hS0⟩ : ∃ s, s = lsq q M0 k := ⟨_, rfl⟩
    rw [← hS0]
    have hS0' := Lib.hid hS0
    cases gk with
    | zero =>
      have hkz : ¬ ((k : Int) < (m : Int)) := by omega
      have hkm : Hid (V0 = S0) := by show V0 = S0; rw [hlv.out, hS0'.out, show k = m by omega]
      clear hS0
      go_wp2_with (refine wpList_row_store rfl 38 _ _ rfl [.int .i64 S0, .int .i64 0] rfl rfl Yr.out size_cnt12 rfl (two_one12 _ _) ?_; intro w4 hw4 ho4)
      exact bodyPost_ret (ret_blk rfl _ w4 (g := w.heap.size + 1) rfl hw4.out _ huc.out rfl size_cnt12) rfl ⟨(by rw [hkm.out]), Er.out.trans (ho4.below (Nat.le_succ _))⟩
    | succ gk =>
      have hkz : (k : Int) < (m : Int) := by omega
      have r0 : S0 ≤ M0 := by rw [hS0]; exact lsq_lt k (by omega)
      clear hS0
      have CL := refLoses_any q k wr Mr.out OK.out.l24 OK.out.a60 hshq.out
      rw [hqv.out] at CL
      go_wp2_with (first | (refine wpList_blk_load rfl 27 _ rfl 0 rfl Xr.out [_, _, _, _, _] rfl _ hun.out rfl hsz.out ?_) | fail)
      refine CL.mono ?_
      rintro e w5 ⟨⟨b, rfl, hb⟩, hbl⟩
      have hW5 := Lib.hid (hW.out.trans (hbl.mono hW.out.size))
      have hb' := Lib.hid hb
      clear CL hbl hb
      have CB := refbefore12_any k S0 w5 (by omega) (by omega)
      obtain ⟨z, hz⟩ : ∃ z, z = bfr 64 k (k ^^^ S0) := ⟨_, rfl⟩
      rw [← hz] at CB
      have hz' := Lib.hid hz
      have S1 := refsize12_any k w5 (by omega)
      have S2 := refsize12_any S0 w5 (by omega)
      obtain ⟨x, hx⟩ : ∃ x, x = cnt7 k := ⟨_, rfl⟩
      obtain ⟨y, hy⟩ : ∃ x, x = cnt7 S0 := ⟨_, rfl⟩
      rw [← hx] at S1
      rw [← hy] at S2
      have hbe : Hid (befB k S0 = if x = y then z else decide (x < y)) := by show befB k S0 = _; unfold befB; rw [hx, hy, hz]
      clear hz hx hy hz'
      go_wp2_with fail
      refine CB.mono ?_
      rintro e v0 ⟨rfl, rfl⟩
      clear CB
      cases b with
      | false =>
        have hnx : Hid (lsq q M0 (k + 1) = S0) := by
          show lsq q M0 (k + 1) = S0
          rw [lsq_no (fun h => by have := hb'.out.2 h.2; cases this), hS0'.out]
        clear hb' hbe S1 S2
        go_wp2_with fail
        go_roundg gk
        case measure => omega
        case rel => exact ⟨k + 1, by omega, by go_num, by rw [hnx.out], hW5⟩
      | true =>
        have hlos := Lib.hid (hb'.out.1 rfl)
        clear hb'
        by_cases hlt : x < y
        · have hnx : Hid (lsq q M0 (k + 1) = k) := by
            show lsq q M0 (k + 1) = k
            exact lsq_yes (by rw [← hS0'.out, hbe.out, if_neg (by omega)]; exact decide_eq_true hlt) hlos.out
          have t1 : (x : Int) < (y : Int) := by omega
          clear hbe hlos hS0'
          go_wp2_with fail
          refine S1.mono ?_
          rintro e v1 ⟨rfl, rfl⟩
          go_wp2_with fail
          refine S2.mono ?_
          rintro e v1 ⟨rfl, rfl⟩
          go_wp2_with fail
          go_roundg gk
          case measure => omega
          case rel => exact ⟨k + 1, by omega, by go_num, by rw [hnx.out], hW5⟩
        · have t1 : ¬ (x : Int) < (y : Int) := by omega
          by_cases he : x = y
          · have t2 : ((x : Int) == (y : Int)) = true := by simp only [beq_iff_eq]; omega
            cases z with
            | true =>
              have hnx : Hid (lsq q M0 (k + 1) = k) := by
                show lsq q M0 (k + 1) = k
                exact lsq_yes (by rw [← hS0'.out, hbe.out, if_pos he]) hlos.out
              clear hbe hlos hS0'
              subst he
              go_wp2_with fail
              refine S1.mono ?_
              rintro e v1 ⟨rfl, rfl⟩
              go_wp2_with fail
              refine S2.mono ?_
              rintro e v1 ⟨rfl, rfl⟩
              go_wp2_with fail
              refine S1.mono ?_
              rintro e v1 ⟨rfl, rfl⟩
              go_wp2_with fail
              refine S2.mono ?_
              rintro e v1 ⟨rfl, rfl⟩
              go_wp2_with fail
              go_roundg gk
              case measure => omega
              case rel => exact ⟨k + 1, by omega, by go_num, by rw [hnx.out], hW5⟩
            | false =>
              have hnx : Hid (lsq q M0 (k + 1) = S0) := by
                show lsq q M0 (k + 1) = S0
                rw [lsq_no (fun h => by have h1 := h.1; rw [← hS0'.out, hbe.out, if_pos he] at h1; cases h1), hS0'.out]
              clear hbe hlos hS0'
              subst he
              go_wp2_with fail
              refine S1.mono ?_
              rintro e v1 ⟨rfl, rfl⟩
              go_wp2_with fail
              refine S2.mono ?_
              rintro e v1 ⟨rfl, rfl⟩
              go_wp2_with fail
              refine S1.mono ?_
              rintro e v1 ⟨rfl, rfl⟩
              go_wp2_with fail
              refine S2.mono ?_
              rintro e v1 ⟨rfl, rfl⟩
              go_wp2_with fail
              go_roundg gk
              case measure => omega
              case rel => exact ⟨k + 1, by omega, by go_num, by rw [hnx.out], hW5⟩
          · have t2 : ((x : Int) == (y : Int)) = false := by simp only [beq_eq_false_iff_ne, ne_eq]; omega
            have hnx : Hid (lsq q M0 (k + 1) = S0) := by
              show lsq q M0 (k + 1) = S0
              rw [lsq_no (fun h => by have h1 := h.1; rw [← hS0'.out, hbe.out, if_neg he, decide_eq_false hlt] at h1; cases h1), hS0'.out]
            clear hbe hlos hS0'
            go_wp2_with fail
            refine S1.mono ?_
            rintro e v1 ⟨rfl, rfl⟩
            go_wp2_with fail
            refine S2.mono ?_
            rintro e v1 ⟨rfl, rfl⟩
            go_wp2_with fail
            refine S1.mono ?_
            rintro e v1 ⟨rfl, rfl⟩
            go_wp2_with fail
            refine S2.mono ?_
            rintro e v1 ⟨rfl, rfl⟩
            go_wp2_with fail
            go_roundg gk
            case measure => omega
            case rel => exact ⟨k + 1, by omega, by go_num, by rw [hnx.out], hW5⟩
end Go.Proofs.YtgajlgnniidgmaaDoor

namespace Go.Proofs.YtgajlgnniidgmaaDoor
set_option linter.unusedVariables false
set_option linter.unusedSimpArgs false
open Go.RowKit Go.Maps

/-- At most N domains, and lists of at most 60 elements. -/
def Few12P (p : Prl) (N : Int) : Prop := (p.ch.length : Int) ≤ N ∧ p.al.length ≤ 60 ∧ p.Gs.length ≤ 30 ∧ ∀ g ∈ p.Gs, g.length ≤ 30
theorem Few12P.sh {p : Prl} {N : Int} (h : Few12P p N) : ∀ g ∈ p.Gs, g.length ≤ 1000000 := fun g hg => Nat.le_trans (h.2.2.2 g hg) (by omega)
set_option maxRecDepth 100000 in
set_option maxHeartbeats 4000000 in
theorem few12_any {B : Nat} (p : Prl) (N : Int) (w : World) (hM : PerM w B p) :
    Calls Tryd.prog 9 #[prv p, .int .i64 N] w (SayEnd w (Few12P p N)) := by
  obtain ⟨Q, hQ⟩ : ∃ Q, Q = Few12P p N := ⟨_, rfl⟩
  have hQ' : Hid (Q = ((p.ch.length : Int) ≤ N ∧ p.al.length ≤ 60 ∧ p.Gs.length ≤ 30 ∧ ∀ g ∈ p.Gs, g.length ≤ 30)) := hQ
  rw [← hQ]
  clear hQ
  rcases p with ⟨D, A, n, c, G, Gs, A1, n1, c1, al, A2, n2, c2, ch⟩
  unfold prv prc
  dsimp only at hQ' ⊢
  have hn1 : Hid (n1 = al.length) := hM.n1
  have hn2 : Hid (n2 = ch.length) := hM.n2
  have hnG : Hid (n = Gs.length) := hM.cod.len
  obtain ⟨W1, hW1⟩ : ∃ W1, W1 = w.alloc (.cells #[.int .i64 D, .slice A n c, .int .i64 G, .slice A1 n1 c1, .slice A2 n2 c2] 27) := ⟨_, rfl⟩
  have E : Hid (Below w.heap.size w W1) := by show Below _ _ _; rw [hW1]; exact (Below.refl _ _).alloc (Nat.le_refl _) _
  have X : Hid (Blk W1 w.heap.size [.int .i64 D, .slice A n c, .int .i64 G, .slice A1 n1 c1, .slice A2 n2 c2] 27) := by show Blk _ _ _ _; rw [hW1]; exact Blk.new _ [_, _, _, _, _] _
  have hG : Hid (GrpM W1 B A Gs) := (hM.keep E.out).cod.m
  have hW' := Lib.hid hW1
  have p1 := X.out.cell (j := 1) rfl
  have p3 := X.out.cell (j := 3) rfl
  have p4 := X.out.cell (j := 4) rfl
  clear hM hW1
  have hnoH : Hid (∀ b : Bool, b = false → (¬ Q) → (b = true ↔ Q)) := fun b hb hq => ⟨fun h => (by rw [hb] at h; cases h), fun h => absurd h hq⟩
  go_enter Tryd.func9, Tryd.ntmps9
  go_upto_region 1 with fail
  generalize hg : w.alloc _ = Wg
  have hgW : W1 = Wg := by rw [← hg, hW'.out]
  clear hg hW'
  subst hgW
  by_cases h1 : N < (n2 : Int)
  · have hq : Hid (¬ Q) := by show ¬ Q; rw [hQ'.out, ← hn2.out]; omega
    go_wp2_with fail
    go_ret
    exact ⟨⟨false, rfl, hnoH.out false rfl hq.out⟩, E.out⟩
  by_cases h2 : (60 : Int) < (n1 : Int)
  · have hq : Hid (¬ Q) := by show ¬ Q; rw [hQ'.out, ← hn1.out]; omega
    go_wp2_with fail
    go_ret
    exact ⟨⟨false, rfl, hnoH.out false rfl hq.out⟩, E.out⟩
  by_cases h3 : (30 : Int) < (n : Int)
  · have hq : Hid (¬ Q) := by show ¬ Q; rw [hQ'.out, ← hnG.out]; omega
    go_wp2_with fail
    go_ret
    exact ⟨⟨false, rfl, hnoH.out false rfl hq.out⟩, E.out⟩
  have hQ2 : Hid (Q ↔ ∀ g ∈ Gs, g.length ≤ 30) := by
    show Q ↔ _
    rw [hQ'.out, ← hn1.out, ← hn2.out, ← hnG.out]
    exact ⟨fun h => h.2.2.2, fun h => ⟨by omega, by omega, by omega, h⟩⟩
  clear hQ'
  go_wp2_with fail
  go_loopw [5] (fun i wr => ∃ k : Nat, k ≤ n ∧ i = .int .i64 k ∧ Hid (∀ g ∈ Gs.take k, g.length ≤ 30) ∧ wr = W1) (fun i _ => n - (intOf i).toNat)
  case atStart => exact ⟨0, by omega, rfl, (fun g hg => by simp at hg), rfl⟩
  case round =>
    obtain ⟨k, hk, rfl, hall, rfl⟩ := hrel
    by_cases hlt : k < n
    · obtain ⟨g, hg⟩ : ∃ g, Gs[k]? = some g := ⟨_, List.getElem?_eq_getElem (by rw [← hnG.out]; exact hlt)⟩
      obtain ⟨ad, v, rfl, hab, hcv, a, ca, rfl, hgl, hcl, hca, _⟩ := hG.out.at hg
      have hgH := Lib.hid hg
      obtain ⟨l, hl⟩ : ∃ l, l = g.length := ⟨_, rfl⟩
      rw [← hl] at hcv
      have hlH := Lib.hid hl
      have t : (k : Int) < (n : Int) := by omega
      have t0 : 0 ≤ (k : Int) := by omega
      clear hg hl hgl hcl hca
      by_cases hl30 : l > 30
      · have tl : (l : Int) > 30 := by omega
        have hq : Hid (¬ Q) := by
          show ¬ Q
          rw [hQ2.out]
          intro h
          have := h g (List.mem_of_getElem? hgH.out)
          rw [← hlH.out] at this
          omega
        go_wp2_with fail
        go_ret
        exact ⟨⟨false, rfl, hnoH.out false rfl hq.out⟩, E.out⟩
      · have tl : ¬ (l : Int) > 30 := by omega
        have hnext : Hid (∀ g ∈ Gs.take (k + 1), g.length ≤ 30) := by
          show ∀ g ∈ Gs.take (k + 1), g.length ≤ 30
          intro x hx
          rw [List.take_add_one, hgH.out] at hx
          rcases List.mem_append.1 hx with hx | hx
          · exact hall.out x hx
          · rw [Option.toList_some, List.mem_singleton] at hx
            rw [hx, ← hlH.out]
            omega
        go_wp2_with fail
        go_roundw
        case rel => exact ⟨k + 1, by omega, by go_num, hnext, by first | rfl | trivial⟩
        case measure => simp [intOf]; omega
    · have t : ¬ (k : Int) < (n : Int) := by omega
      have hq : Hid Q := by
        show Q
        rw [hQ2.out]
        have := hall.out
        rw [List.take_of_length_le (by have := hnG.out; omega)] at this
        exact this
      go_wp2_with fail
      go_ret
      exact ⟨⟨true, rfl, ⟨fun _ => hq.out, fun _ => rfl⟩⟩, E.out⟩
end Go.Proofs.YtgajlgnniidgmaaDoor
