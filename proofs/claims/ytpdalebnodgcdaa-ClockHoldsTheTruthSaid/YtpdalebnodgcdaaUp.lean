/-
  Stage 14 (clock): Sync of the specification. (Written by tools/genup.py.)
-/
import Derived.Test.YtpdalebnodgcdaaUo
namespace Go.Proofs.Ytpdalebnodgcdaa
set_option linter.unusedVariables false
set_option linter.unusedSimpArgs false
open Go.RowKit

theorem size_syn : (Try.prog.info? 46).map (·.size) = some 3 := by kernel_rfl
theorem oneS (a : Int) (A : Option Addr) (n c : Nat) (e : Int) : ∀ u ∈ [Value.int .i64 a, .slice A n c, .int .i64 e], u.oneCell' = true := by
  intro u hu
  simp only [List.mem_cons, List.not_mem_nil, or_false] at hu
  rcases hu with rfl | rfl | rfl <;> rfl

set_option maxRecDepth 100000 in
set_option maxHeartbeats 4000000 in
theorem rSync_any {B : Nat} (k : Clk) (r : Rdg) (w : World) (m : ClkM w B k) :
    Calls Try.prog 17 #[.agg #[.int .i64 k.rate, .slice k.A k.n k.c], .agg #[.int .i64 r.L, .int .i64 r.lo, .int .i64 r.hi]] w fun e w' => ∃ (k' : Clk) (e' : Int), e = .returned (.agg #[.int .i64 k'.rate, .slice k'.A k'.n k'.c, .int .i64 e']) ∧ SyEnd w k.rate k.l r k' e' w' := by
  rcases k with ⟨rate, A, n, c, l⟩
  rcases r with ⟨L, a, b⟩
  dsimp only at *
  obtain ⟨W2, hW2⟩ : ∃ W2, W2 = ((w.alloc (.cells #[.int .i64 rate, .slice A n c] 24)).alloc (.cells #[.int .i64 L, .int .i64 a, .int .i64 b] 29)).alloc (.cells #[.int .i64 0, .slice none 0 0, .int .i64 0] 46) := ⟨_, rfl⟩
  have E : Hid (Below w.heap.size w W2) := by show Below _ _ _; rw [hW2]; exact (((Below.refl _ _).alloc (Nat.le_refl _) _).alloc (by simp) _).alloc (by simp; omega) _
  have X1 : Hid (Blk W2 w.heap.size [.int .i64 rate, .slice A n c] 24) := by show Blk _ _ _ _; rw [hW2]; exact ((Blk.new w [_, _] _).alloc _).alloc _
  have X2 : Hid (Blk W2 (w.heap.size + 1) [.int .i64 L, .int .i64 a, .int .i64 b] 29) := by show Blk _ _ _ _; rw [hW2]; exact ((Blk.new _ [_, _, _] _).alloc _).at (by simp)
  have X3 : Hid (Blk W2 (w.heap.size + 1 + 1) [.int .i64 0, .slice none 0 0, .int .i64 0] 46) := by show Blk _ _ _ _; rw [hW2]; exact (Blk.new _ [_, _, _] _).at (by simp)
  have M := Lib.hid (m.below E.out)
  have hn : Hid (n = l.length) := m.len
  have hsm : n ≤ 140737488355328 := m.small
  have hcap : Hid (n ≤ c ∧ c ≤ maxLen ∧ (A = none → c = 0)) := m.cap
  have hB := m.le
  have hW2' := Lib.hid hW2
  clear hW2 m
  have hszc := Lib.hid size_clk
  have hunc : Hid (Try.prog.underlying 24 = _) := Try.underlying24
  have hszr := Lib.hid size_rdg
  have hunr : Hid (Try.prog.underlying 29 = _) := Try.underlying29
  have hszw := Lib.hid size_whn
  have hunw : Hid (Try.prog.underlying 27 = _) := Try.underlying27
  have hunY : Hid (Try.prog.underlying 46 = _) := Try.underlying46
  have CC := Lib.hid (fun W (h : ClkM W B ⟨rate, A, n, c, l⟩) => rCheck14_any _ W h)
  dsimp only at CC
  have CR := Lib.hid (fun W => read_any ⟨L, a, b⟩ W)
  dsimp only at CR
  by_cases h : chkK rate l = 0
  rotate_left
  · have hs := Lib.hid (sy_bad (r := ⟨L, a, b⟩) h)
    obtain ⟨z, hz⟩ : ∃ z, chkK rate l = z := ⟨_, rfl⟩
    rw [hz] at CC h hs
    have tz : (z == 0) = false := by simpa using h
    have hH := Lib.hid h
    clear hz h
    go_enter Try.func17, Try.ntmps17
    go_upto_region 1 with fail
    generalize hgg : ((w.alloc _).alloc _).alloc _ = Wg
    have hgW : W2 = Wg := by rw [← hgg, hW2'.out]
    clear hgg hW2'
    subst hgW
    go_wp2_with (refine wpList_blk_load rfl 24 _ rfl 0 rfl X1.out [_, _] rfl _ hunc.out rfl hszc.out ?_)
    refine (CC.out _ M.out).mono ?_
    rintro e w3 ⟨rfl, hb⟩
    replace E : Hid (Below w.heap.size w w3) := E.out.trans (hb.mono E.out.size)
    replace X1 := Lib.hid (X1.out.below hb X1.out.lt)
    replace X2 := Lib.hid (X2.out.below hb X2.out.lt)
    replace X3 := Lib.hid (X3.out.below hb X3.out.lt)
    replace M := Lib.hid (M.out.below hb)
    clear hb CC
    go_wp2_with (first | (refine wpList_row_store rfl 46 _ _ rfl [.int .i64 0, .slice none 0 0, .int .i64 (z)] rfl rfl X3.out size_syn rfl (oneS _ _ _ _ _) ?_; intro w9 hw9 ho9) | fail)
    exact bodyPost_ret (ret_blk rfl _ w9 (g := w.heap.size + 1 + 1) rfl hw9.out _ hunY.out rfl size_syn) rfl ⟨⟨0, none, 0, 0, []⟩, z, rfl, SyEnd.bad hs.out hH.out (E.out.trans (ho9.below (by omega)))⟩
  rw [h] at CC
  obtain ⟨k0, k1, k2, k3, k4⟩ := chk_facts h
  have h16 : n ≤ 16 := by rw [hn.out]; exact k2
  cases hor : okR ⟨L, a, b⟩ with
  | false =>
    have hs := Lib.hid (sy_arg h hor)
    rw [hor] at CR
    clear h hor k3 k4
    go_enter Try.func17, Try.ntmps17
    go_upto_region 1 with fail
    generalize hgg : ((w.alloc _).alloc _).alloc _ = Wg
    have hgW : W2 = Wg := by rw [← hgg, hW2'.out]
    clear hgg hW2'
    subst hgW
    go_wp2_with (refine wpList_blk_load rfl 24 _ rfl 0 rfl X1.out [_, _] rfl _ hunc.out rfl hszc.out ?_)
    refine (CC.out _ M.out).mono ?_
    rintro e w3 ⟨rfl, hb⟩
    replace E : Hid (Below w.heap.size w w3) := E.out.trans (hb.mono E.out.size)
    replace X1 := Lib.hid (X1.out.below hb X1.out.lt)
    replace X2 := Lib.hid (X2.out.below hb X2.out.lt)
    replace X3 := Lib.hid (X3.out.below hb X3.out.lt)
    replace M := Lib.hid (M.out.below hb)
    clear hb CC
    go_wp2_with (refine wpList_blk_load rfl 29 _ rfl 0 rfl X2.out [_, _, _] rfl _ hunr.out rfl hszr.out ?_)
    refine (CR.out _).mono ?_
    rintro e w4 ⟨rfl, hb⟩
    replace E : Hid (Below w.heap.size w w4) := E.out.trans (hb.mono E.out.size)
    replace X1 := Lib.hid (X1.out.below hb X1.out.lt)
    replace X2 := Lib.hid (X2.out.below hb X2.out.lt)
    replace X3 := Lib.hid (X3.out.below hb X3.out.lt)
    replace M := Lib.hid (M.out.below hb)
    clear hb
    go_wp2_with (first | (refine wpList_row_store rfl 46 _ _ rfl [.int .i64 0, .slice none 0 0, .int .i64 (3)] rfl rfl X3.out size_syn rfl (oneS _ _ _ _ _) ?_; intro w9 hw9 ho9) | fail)
    exact bodyPost_ret (ret_blk rfl _ w9 (g := w.heap.size + 1 + 1) rfl hw9.out _ hunY.out rfl size_syn) rfl ⟨⟨0, none, 0, 0, []⟩, 3, rfl, SyEnd.bad hs.out (by decide) (E.out.trans (ho9.below (by omega)))⟩
  | true =>
    rw [hor] at CR
    obtain ⟨sb, hsb⟩ : ∃ sb, stB l ⟨L, a, b⟩ = sb := ⟨_, rfl⟩
    have hlast : Hid ((n = 0 ∧ sb = false) ∨ ∃ (j : Nat) (z : Rdg), n = j + 1 ∧ sb = decide (L ≤ z.L) ∧ l[j]? = some z) := by
      rcases Nat.eq_zero_or_pos n with hz | hz
      · exact .inl ⟨hz, by rw [← hsb]; exact stB_nil (by rw [← hn.out]; exact hz)⟩
      · obtain ⟨z, hx⟩ : ∃ x, l[n - 1]? = some x := ⟨_, List.getElem?_eq_getElem (by have := hn.out; omega)⟩
        exact .inr ⟨n - 1, z, by omega, by rw [← hsb]; exact stB_last (by rw [← hn.out]; omega) hx, hx⟩
    cases sb with
    | true =>
      have hs := Lib.hid (sy_stale h hor hsb)
      clear h hor hsb k3 k4
      rcases hlast.out with ⟨_, hh⟩ | ⟨j, z, hjn0, hd, hlz⟩
      · cases hh
      have hjn := Lib.hid hjn0
      have hdH := Lib.hid hd
      clear hlast hjn0 hd
      go_enter Try.func17, Try.ntmps17
      go_upto_region 1 with fail
      generalize hgg : ((w.alloc _).alloc _).alloc _ = Wg
      have hgW : W2 = Wg := by rw [← hgg, hW2'.out]
      clear hgg hW2'
      subst hgW
      go_wp2_with (refine wpList_blk_load rfl 24 _ rfl 0 rfl X1.out [_, _] rfl _ hunc.out rfl hszc.out ?_)
      refine (CC.out _ M.out).mono ?_
      rintro e w3 ⟨rfl, hb⟩
      replace E : Hid (Below w.heap.size w w3) := E.out.trans (hb.mono E.out.size)
      replace X1 := Lib.hid (X1.out.below hb X1.out.lt)
      replace X2 := Lib.hid (X2.out.below hb X2.out.lt)
      replace X3 := Lib.hid (X3.out.below hb X3.out.lt)
      replace M := Lib.hid (M.out.below hb)
      clear hb CC
      go_wp2_with (refine wpList_blk_load rfl 29 _ rfl 0 rfl X2.out [_, _, _] rfl _ hunr.out rfl hszr.out ?_)
      refine (CR.out _).mono ?_
      rintro e w4 ⟨rfl, hb⟩
      replace E : Hid (Below w.heap.size w w4) := E.out.trans (hb.mono E.out.size)
      replace X1 := Lib.hid (X1.out.below hb X1.out.lt)
      replace X2 := Lib.hid (X2.out.below hb X2.out.lt)
      replace X3 := Lib.hid (X3.out.below hb X3.out.lt)
      replace M := Lib.hid (M.out.below hb)
      clear hb CR
      have p1 := X1.out.cell (j := 1) rfl
      have p2 := X2.out.cell (j := 0) rfl
      obtain ⟨ad, hA, hbb, hcl0⟩ := M.out.rd3 hlz
      dsimp only at hA
      have hA' := Lib.hid hA
      subst hA
      have c0 : w4.cell? (ad.add (j * 3)) = some (.int .i64 z.L) := by
        have := hcl0 0 _ rfl
        rw [add_twice] at this
        exact this
      have hjn0 := hjn.out
      have e1 : (n : Int) - 1 = (j : Int) := by omega
      have hw1 : IntKind.i64.wrap ((n : Int) - 1) = (j : Int) := by rw [IntKind.wrap_i64]; omega
      have j0 : 0 ≤ (j : Int) := by omega
      have j1 : (j : Int) < (n : Int) := by omega
      have b3 : decide (0 < (n : Int)) = true := decide_eq_true (by omega)
      have b4 : decide (0 < n) = true := decide_eq_true (by omega)
      have b3' : (0 : Int) < (n : Int) := by omega
      clear hcl0 hbb hA' hlz hjn0
      have tb : decide (L ≤ z.L) = true := hdH.out.symm
      have tb' : L ≤ z.L := of_decide_eq_true tb
      go_wp2_with fail
      go_quiet (fail)
      generalize hq : w4.drewN _ = w5
      have hb : Below w4.heap.size w4 w5 := by rw [← hq]; exact below_drewN (Below.refl _ _) _
      replace E : Hid (Below w.heap.size w w5) := E.out.trans (hb.mono E.out.size)
      replace X1 := Lib.hid (X1.out.below hb X1.out.lt)
      replace X2 := Lib.hid (X2.out.below hb X2.out.lt)
      replace X3 := Lib.hid (X3.out.below hb X3.out.lt)
      replace M := Lib.hid (M.out.below hb)
      clear hb hq p1 p2
      go_wp2_with (first | (refine wpList_row_store rfl 46 _ _ rfl [.int .i64 0, .slice none 0 0, .int .i64 (15)] rfl rfl X3.out size_syn rfl (oneS _ _ _ _ _) ?_; intro w9 hw9 ho9) | fail)
      exact bodyPost_ret (ret_blk rfl _ w9 (g := w.heap.size + 1 + 1) rfl hw9.out _ hunY.out rfl size_syn) rfl ⟨⟨0, none, 0, 0, []⟩, 15, rfl, SyEnd.bad hs.out (by decide) (E.out.trans (ho9.below (by omega)))⟩
    | false =>
      have CN := Lib.hid (fun W (h : ClkM W B ⟨rate, A, n, c, l⟩) => rNow_any _ L W h)
      dsimp only at CN
      have hsN := Lib.hid (fun h4 => sy_now (r := ⟨L, a, b⟩) h hor hsb h4)
      have hsJ := Lib.hid (fun h4 => sy_join (r := ⟨L, a, b⟩) h hor hsb h4)
      have hsR := Lib.hid (sy_okR (rate := rate) (l := l) hor)
      have k3' := Lib.hid k3
      have hrf : Wm.Fits rate := by unfold Wm.Fits; omega
      have hrf' := Lib.hid hrf
      have hsyL : Hid (syE rate l ⟨L, a, b⟩ = 0 → syL rate l ⟨L, a, b⟩ = (if n = 16 then l.drop 1 else l) ++ [syN rate l ⟨L, a, b⟩] ∧ syR rate l ⟨L, a, b⟩ = rate) := fun hh => by unfold syL syR; rw [if_pos hh, if_pos hh, ← hn.out]; exact ⟨rfl, rfl⟩
      have hsn : Hid (syN rate l ⟨L, a, b⟩ = ⟨L, jnLo a b (nwLo rate l L) (nwHi rate l L), jnHi a b (nwLo rate l L) (nwHi rate l L)⟩) := rfl
      have CJ := Lib.hid (fun W => rJoin_any a b (nwLo rate l L) (nwHi rate l L) W)
      dsimp only at hsN hsJ hsR
      obtain ⟨nu, hnu⟩ : ∃ y, nwLo rate l L = y := ⟨_, rfl⟩
      obtain ⟨nv, hnv⟩ : ∃ y, nwHi rate l L = y := ⟨_, rfl⟩
      obtain ⟨ne, hne⟩ : ∃ y, nwE rate l L = y := ⟨_, rfl⟩
      rw [hnu, hnv, hne] at CN
      rw [hne] at hsN hsJ
      rw [hnu, hnv] at hsJ CJ hsR hsn
      obtain ⟨ju, hju⟩ : ∃ y, jnLo a b nu nv = y := ⟨_, rfl⟩
      obtain ⟨jv, hjv⟩ : ∃ y, jnHi a b nu nv = y := ⟨_, rfl⟩
      obtain ⟨je, hje⟩ : ∃ y, jnE a b nu nv = y := ⟨_, rfl⟩
      rw [hju, hjv, hje] at CJ
      rw [hje] at hsJ hsR
      rw [hju, hjv] at hsn
      clear h hor hsb hrf k3 k4 hnu hnv hne hju hjv hje
      rcases hlast.out with ⟨hn0, _⟩ | ⟨j, z, hjn0, hd, hlz⟩
      · have b3 : decide (0 < (n : Int)) = false := decide_eq_false (by omega)
        have b4 : decide (0 < n) = false := decide_eq_false (by omega)
        have b3' : ¬ (0 : Int) < (n : Int) := by omega
        have hn0' := Lib.hid hn0
        clear hlast hn0
        go_enter Try.func17, Try.ntmps17
        go_upto_region 1 with fail
        generalize hgg : ((w.alloc _).alloc _).alloc _ = Wg
        have hgW : W2 = Wg := by rw [← hgg, hW2'.out]
        clear hgg hW2'
        subst hgW
        go_wp2_with (refine wpList_blk_load rfl 24 _ rfl 0 rfl X1.out [_, _] rfl _ hunc.out rfl hszc.out ?_)
        refine (CC.out _ M.out).mono ?_
        rintro e w3 ⟨rfl, hb⟩
        replace E : Hid (Below w.heap.size w w3) := E.out.trans (hb.mono E.out.size)
        replace X1 := Lib.hid (X1.out.below hb X1.out.lt)
        replace X2 := Lib.hid (X2.out.below hb X2.out.lt)
        replace X3 := Lib.hid (X3.out.below hb X3.out.lt)
        replace M := Lib.hid (M.out.below hb)
        clear hb CC
        go_wp2_with (refine wpList_blk_load rfl 29 _ rfl 0 rfl X2.out [_, _, _] rfl _ hunr.out rfl hszr.out ?_)
        refine (CR.out _).mono ?_
        rintro e w4 ⟨rfl, hb⟩
        replace E : Hid (Below w.heap.size w w4) := E.out.trans (hb.mono E.out.size)
        replace X1 := Lib.hid (X1.out.below hb X1.out.lt)
        replace X2 := Lib.hid (X2.out.below hb X2.out.lt)
        replace X3 := Lib.hid (X3.out.below hb X3.out.lt)
        replace M := Lib.hid (M.out.below hb)
        clear hb CR
        have p1 := X1.out.cell (j := 1) rfl
        have p2 := X2.out.cell (j := 0) rfl
        go_wp2_with fail
        go_quiet (fail)
        generalize hq : w4.drewN _ = w5
        have hb : Below w4.heap.size w4 w5 := by rw [← hq]; exact below_drewN (Below.refl _ _) _
        replace E : Hid (Below w.heap.size w w5) := E.out.trans (hb.mono E.out.size)
        replace X1 := Lib.hid (X1.out.below hb X1.out.lt)
        replace X2 := Lib.hid (X2.out.below hb X2.out.lt)
        replace X3 := Lib.hid (X3.out.below hb X3.out.lt)
        replace M := Lib.hid (M.out.below hb)
        clear hb hq p1 p2
        have p2 := X2.out.cell (j := 0) rfl
        go_upto_region 10 with fail
        go_wp2_with (refine wpList_blk_load rfl 24 _ rfl 0 rfl X1.out [_, _] rfl _ hunc.out rfl hszc.out ?_)
        refine (CN.out _ M.out).mono ?_
        rintro e w6 ⟨rfl, hb⟩
        replace E : Hid (Below w.heap.size w w6) := E.out.trans (hb.mono E.out.size)
        replace X1 := Lib.hid (X1.out.below hb X1.out.lt)
        replace X2 := Lib.hid (X2.out.below hb X2.out.lt)
        replace X3 := Lib.hid (X3.out.below hb X3.out.lt)
        replace M := Lib.hid (M.out.below hb)
        clear hb CN p2
        have X5 : Hid (Blk (w6.alloc (.cells #[.int .i64 nu, .int .i64 nv, .int .i64 ne] 41)) w6.heap.size [.int .i64 nu, .int .i64 nv, .int .i64 ne] 41) := Blk.new w6 [_, _, _] _
        have hb : Below w6.heap.size w6 (w6.alloc (.cells #[.int .i64 nu, .int .i64 nv, .int .i64 ne] 41)) := (Below.refl _ _).alloc (Nat.le_refl _) _
        replace E : Hid (Below w.heap.size w (w6.alloc (.cells #[.int .i64 nu, .int .i64 nv, .int .i64 ne] 41))) := E.out.trans (hb.mono E.out.size)
        replace X1 := Lib.hid (X1.out.below hb X1.out.lt)
        replace X2 := Lib.hid (X2.out.below hb X2.out.lt)
        replace X3 := Lib.hid (X3.out.below hb X3.out.lt)
        replace M := Lib.hid (M.out.below hb)
        clear hb
        have q2 := X5.out.cell (j := 2) rfl
        by_cases hne0 : ne = 0
        rotate_left
        · have tz : (ne == 0) = false := by simpa using hne0
          have hh := Lib.hid (hsN.out hne0)
          have hH := Lib.hid hne0
          clear hne0
          go_wp2_with (first | (refine wpList_row_store rfl 46 _ _ rfl [.int .i64 0, .slice none 0 0, .int .i64 (ne)] rfl rfl X3.out size_syn rfl (oneS _ _ _ _ _) ?_; intro w9 hw9 ho9) | fail)
          exact bodyPost_ret (ret_blk rfl _ w9 (g := w.heap.size + 1 + 1) rfl hw9.out _ hunY.out rfl size_syn) rfl ⟨⟨0, none, 0, 0, []⟩, ne, rfl, SyEnd.bad hh.out hH.out (E.out.trans (ho9.below (by omega)))⟩
        have hsE := Lib.hid (hsJ.out hne0)
        subst hne0
        clear hsN hsJ
        go_upto_region 13 with fail
        clear q2
        go_wp2_with (first | (refine wpList_blk_load rfl 27 _ rfl 1 rfl X2.out [.int .i64 a, .int .i64 b] rfl _ hunw.out rfl hszw.out ?_) | (refine wpList_blk_load rfl 27 _ rfl 0 rfl X5.out [.int .i64 nu, .int .i64 nv] rfl _ hunw.out rfl hszw.out ?_) | fail)
        refine (CJ.out _).mono ?_
        rintro e w7 ⟨rfl, hb⟩
        replace E : Hid (Below w.heap.size w w7) := E.out.trans (hb.mono E.out.size)
        replace X1 := Lib.hid (X1.out.below hb X1.out.lt)
        replace X2 := Lib.hid (X2.out.below hb X2.out.lt)
        replace X3 := Lib.hid (X3.out.below hb X3.out.lt)
        replace M := Lib.hid (M.out.below hb)
        clear hb CJ X5
        have X6 : Hid (Blk (w7.alloc (.cells #[.int .i64 ju, .int .i64 jv, .int .i64 je] 41)) w7.heap.size [.int .i64 ju, .int .i64 jv, .int .i64 je] 41) := Blk.new w7 [_, _, _] _
        have hb : Below w7.heap.size w7 (w7.alloc (.cells #[.int .i64 ju, .int .i64 jv, .int .i64 je] 41)) := (Below.refl _ _).alloc (Nat.le_refl _) _
        replace E : Hid (Below w.heap.size w (w7.alloc (.cells #[.int .i64 ju, .int .i64 jv, .int .i64 je] 41))) := E.out.trans (hb.mono E.out.size)
        replace X1 := Lib.hid (X1.out.below hb X1.out.lt)
        replace X2 := Lib.hid (X2.out.below hb X2.out.lt)
        replace X3 := Lib.hid (X3.out.below hb X3.out.lt)
        replace M := Lib.hid (M.out.below hb)
        clear hb
        have q2 := X6.out.cell (j := 2) rfl
        by_cases hje0 : je = 0
        rotate_left
        · have tz : (je == 0) = false := by simpa using hje0
          have hH := Lib.hid hje0
          clear hje0
          go_wp2_with (first | (refine wpList_row_store rfl 46 _ _ rfl [.int .i64 0, .slice none 0 0, .int .i64 (je)] rfl rfl X3.out size_syn rfl (oneS _ _ _ _ _) ?_; intro w9 hw9 ho9) | fail)
          exact bodyPost_ret (ret_blk rfl _ w9 (g := w.heap.size + 1 + 1) rfl hw9.out _ hunY.out rfl size_syn) rfl ⟨⟨0, none, 0, 0, []⟩, je, rfl, SyEnd.bad hsE.out hH.out (E.out.trans (ho9.below (by omega)))⟩
        have hoN := hsR.out hje0
        subst hje0
        have hsL := Lib.hid (hsyL.out hsE.out)
        clear hsR hsyL
        obtain ⟨hL1, hL2⟩ := hsL.out
        rw [hsn.out] at hL1 hoN
        have hoN' := Lib.hid hoN
        have hL1' := Lib.hid hL1
        clear hsL hsn hoN hL1
        go_upto_region 16 with fail
        clear q2
        have hlt7 : Hid (w7.heap.size < (w7.alloc (.cells #[.int .i64 ju, .int .i64 jv, .int .i64 0] 41)).heap.size) := by show _ < _; simp
        generalize w7.alloc _ = w8 at *
        obtain ⟨g9, hg9⟩ : ∃ y, y = w7.heap.size := ⟨_, rfl⟩
        rw [← hg9] at X6 hlt7 ⊢
        clear hg9
        have s8 : Hid (w.heap.size + 3 ≤ w8.heap.size) := by show _ ≤ _; have := X3.out.lt; omega
        have p1 := (X1.out.alloc (.cells #[] 29)).cell (j := 1) rfl
        have hO0 := Lib.hid (ownK_made w8 w8.heap.size (Nat.le_refl _))
        have b8 : Hid (Below w8.heap.size w8 (w8.alloc (.cells #[] 29))) := (Below.refl _ _).alloc (Nat.le_refl _) _
        have hr8 : Hid (Rds (w8.alloc (.cells #[] 29)) B A (rdf l)) := M.out.r.below (b8.out.mono M.out.le)
        have hll8 : Hid (([] : List Rdg).length + l.length ≤ 1000000000000) := by show _ ≤ _; have := hn.out; simp; omega
        have hsz8 : Hid (w8.heap.size ≤ (w8.alloc (.cells #[] 29)).heap.size) := b8.out.size
        go_upto_region 17 with (refine push_rdgs rfl _ _ rfl w8.heap.size _ [] l _ A n c hn.out hcap.out.2.2 rfl rfl hr8.out hO0.out hll8.out hsz8.out ?_; intro v10 u1 ho1 hb1 hgr1 hob1)
        rw [List.nil_append] at ho1
        have HO := Lib.hid ho1
        have F1 : Hid (Below w8.heap.size w8 u1) := b8.out.trans hb1
        clear ho1 hb1 hgr1 hob1 p1 hO0 b8 hr8 hll8 hsz8
        have t16 : ((n : Int) == 16) = false := by have := hn0'.out; simp only [beq_eq_false_iff_ne, ne_eq]; omega
        have t16' : (n == 16) = false := by have := hn0'.out; simp only [beq_eq_false_iff_ne, ne_eq]; omega
        have hL1 := hL1'.out
        rw [if_neg (by have := hn0'.out; omega)] at hL1
        have hL1H := Lib.hid hL1
        clear hL1 hL1'
        have hn2 : Hid (n = l.length) := hn
        have hf2 : Hid (∀ x ∈ l, okR x = true) := k3'
        go_upto_region 19 with fail
        have hlen2 : Hid (l.length ≤ 16) := by show _ ≤ _; have := hn2.out; omega
        have F0 : Hid (Below w8.heap.size w8 u1.drew) := F1.out.trans (((Below.refl _ _).drew).mono F1.out.size)
        have HO0 := Lib.hid (HO.out.keep (Below.refl _ u1).drew)
        have P0 : ∀ q : ROf (Below w8.heap.size) u1.drew, q.world.cell? ⟨w.heap.size, 0, none⟩ = some (.int .i64 rate) := fun q => (X1.out.below (F0.out.trans q.rel) X1.out.lt).cell (j := 0) rfl
        have P2 : ∀ q : ROf (Below w8.heap.size) u1.drew, q.world.cell? ⟨w.heap.size + 1, 0, none⟩ = some (.int .i64 L) := fun q => (X2.out.below (F0.out.trans q.rel) X2.out.lt).cell (j := 0) rfl
        refine wp_region_planR (R := Below w8.heap.size) (fun w => Below.refl _ w) (fun _ _ _ h k => h.trans k) [12] [(true, 0), (true, 1), (true, 2), (true, 3), (true, 4), (true, 5), (true, 6), (true, 7), (false, 8), (false, 9), (true, 10), (true, 11), (false, 12)] (by decide) (by kernel_rfl) (by kernel_rfl) (by decide) (by intro c a d v w h; cases d <;> exact h) ?_
        change wpPlanR _ _ _ _ _ _ _ u1.drew
        have hnn : Nonempty (ROf (Below w8.heap.size) u1.drew) := ⟨⟨u1.drew, Below.refl _ _⟩⟩
        iterate 6 (refine wpPlanR_plain rfl (fun K hK => ?_); go_simp; refine hK _ ?_; clear hK K)
        refine wpPlanR_runW rfl (by rfl) _ (fun q => load_run 27 _ rfl g9 0 rfl [.int .i64 ju, .int .i64 jv] _ hunw.out rfl hszw.out q.world ((Blk.below X6.out (F0.out.trans q.rel) X6.out.lt).range 0 _ rfl)) ?_
        iterate 1 (refine wpPlanR_plain rfl (fun K hK => ?_); go_simp; refine hK _ ?_; clear hK K)
        clear hnn P0 P2 HO
        generalize u1.drew = u3 at F0 HO0 ⊢
        have hb : Below u3.heap.size u3 (u3.alloc (.cells #[.int .i64 L, .int .i64 ju, .int .i64 jv] 29)) := (Below.refl _ _).alloc (Nat.le_refl _) _
        have hbR : Below w8.heap.size u3 (u3.alloc (.cells #[.int .i64 L, .int .i64 ju, .int .i64 jv] 29)) := hb.mono F0.out.size
        obtain ⟨gB, hgBe⟩ : ∃ x, x = u3.heap.size := ⟨_, rfl⟩
        have RB : Hid (Rds (u3.alloc (.cells #[.int .i64 L, .int .i64 ju, .int .i64 jv] 29)) (gB + 1) (some ⟨gB, 0, none⟩) (rdf [⟨L, ju, jv⟩])) := by show Rds _ _ _ _; rw [hgBe]; exact Rds.new u3 [.int .i64 L, .int .i64 ju, .int .i64 jv] _
        have HO2 := Lib.hid (HO0.out.keep hb)
        have F4 : Hid (Below w8.heap.size w8 (u3.alloc (.cells #[.int .i64 L, .int .i64 ju, .int .i64 jv] 29))) := F0.out.trans hbR
        have hbs := run_build_rdg L ju jv u3
        rw [← hgBe] at hbs
        refine wpPlanR_call rfl (fun K hK => ?_)
        go_wp2_with (refine wpList_buildSlice_one rfl 22 _ rfl (.agg #[.int .i64 L, .int .i64 ju, .int .i64 jv]) _ rfl hbs ?_)
        refine planPostR_normal ⟨.inr hbR, hK _ _ ?_⟩
        clear hK K hb hbR hgBe hbs HO0 F0
        generalize u3.alloc _ = u4 at *
        have hll : Hid (l.length + [(⟨L, ju, jv⟩ : Rdg)].length ≤ 1000000000000) := by show _ ≤ _; have := hlen2.out; simp; omega
        have hF := F4.out.size
        refine wpPlanR_call rfl (fun K hK => ?_)
        refine push_rdgs rfl _ _ rfl w8.heap.size _ l [⟨L, ju, jv⟩] (gB + 1) (some ⟨gB, 0, none⟩) 1 1 rfl (fun h => by cases h) rfl rfl RB.out HO2.out hll.out hF ?_
        intro v' u5 ho5 hb5 hgr5 hob5
        obtain ⟨kk, hv', hkr, hkl, _, _⟩ := own_clk ho5 hrf'.out (by rw [List.length_append]; have := hlen2.out; simp; omega) (fun x hx => by rcases List.mem_append.1 hx with h | h; exact hf2.out x h; rw [List.mem_singleton.1 h]; exact hoN'.out)
        have F5 : Hid (Below w8.heap.size w8 u5) := F4.out.trans hb5
        have X35 : Hid (Blk u5 (w.heap.size + 1 + 1) [.int .i64 0, .slice none 0 0, .int .i64 0] 46) := X3.out.below F5.out X3.out.lt
        have HO5 := Lib.hid ho5
        have hb5' := Lib.hid hb5
        rw [hv'] at HO5 ⊢
        refine wpList_end (planPostR_normal ⟨.inr hb5'.out, hK _ _ ?_⟩)
        clear hK K ho5 hb5 hgr5 hob5 hv' hkl HO2 RB F4 hF hll hkr hb5'
        have hnn : Nonempty (ROf (Below w8.heap.size) u5) := ⟨⟨u5, Below.refl _ _⟩⟩
        iterate 2 (refine wpPlanR_plain rfl (fun K hK => ?_); go_simp; refine hK _ ?_; clear hK K)
        clear hnn
        refine wpPlanR_call rfl (fun K hK => ?_)
        refine wpList_row_store rfl 46 _ _ rfl [.int .i64 rate, .slice kk.A kk.n kk.c, .int .i64 0] rfl rfl X35.out size_syn rfl (oneS _ _ _ _ _) ?_
        intro u6 hw6 ho6
        have s8' := s8.out
        have F6 : Hid (Below (w.heap.size + 2) w8 u6) := (F5.out.mono (by omega)).trans (ho6.below (Nat.le_refl _))
        have HO6 := Lib.hid (HO5.out.only ho6 (by omega))
        refine wpList_end (planPostR_normal ⟨.inl (by first | trivial | simp), hK _ _ ?_⟩)
        clear hK K
        refine wpPlanR_nil ?_
        go_wp2_with fail
        obtain ⟨k2, hv2, hr2', hl2, ha2, m2⟩ := own_clk HO6.out hrf'.out (by rw [List.length_append]; have := hlen2.out; simp; omega) (fun x hx => by rcases List.mem_append.1 hx with h | h; exact hf2.out x h; rw [List.mem_singleton.1 h]; exact hoN'.out)
        exact bodyPost_ret (ret_blk rfl _ u6 (g := w.heap.size + 1 + 1) rfl hw6.out _ hunY.out rfl size_syn) rfl ⟨k2, 0, by rw [hr2']; have := hv2; injection this with a1 a2 a3; rw [a1, a2, a3], ⟨by rw [hr2', hL2], by rw [hl2, hL1H.out], hsE.out.symm, m2, (fun ad h => Nat.le_trans E.out.size (ha2 ad h)), E.out.trans (F6.out.mono (by omega))⟩⟩
      · have hjn := Lib.hid hjn0
        have hdH := Lib.hid hd
        clear hlast hjn0 hd
        go_enter Try.func17, Try.ntmps17
        go_upto_region 1 with fail
        generalize hgg : ((w.alloc _).alloc _).alloc _ = Wg
        have hgW : W2 = Wg := by rw [← hgg, hW2'.out]
        clear hgg hW2'
        subst hgW
        go_wp2_with (refine wpList_blk_load rfl 24 _ rfl 0 rfl X1.out [_, _] rfl _ hunc.out rfl hszc.out ?_)
        refine (CC.out _ M.out).mono ?_
        rintro e w3 ⟨rfl, hb⟩
        replace E : Hid (Below w.heap.size w w3) := E.out.trans (hb.mono E.out.size)
        replace X1 := Lib.hid (X1.out.below hb X1.out.lt)
        replace X2 := Lib.hid (X2.out.below hb X2.out.lt)
        replace X3 := Lib.hid (X3.out.below hb X3.out.lt)
        replace M := Lib.hid (M.out.below hb)
        clear hb CC
        go_wp2_with (refine wpList_blk_load rfl 29 _ rfl 0 rfl X2.out [_, _, _] rfl _ hunr.out rfl hszr.out ?_)
        refine (CR.out _).mono ?_
        rintro e w4 ⟨rfl, hb⟩
        replace E : Hid (Below w.heap.size w w4) := E.out.trans (hb.mono E.out.size)
        replace X1 := Lib.hid (X1.out.below hb X1.out.lt)
        replace X2 := Lib.hid (X2.out.below hb X2.out.lt)
        replace X3 := Lib.hid (X3.out.below hb X3.out.lt)
        replace M := Lib.hid (M.out.below hb)
        clear hb CR
        have p1 := X1.out.cell (j := 1) rfl
        have p2 := X2.out.cell (j := 0) rfl
        obtain ⟨ad, hA, hbb, hcl0⟩ := M.out.rd3 hlz
        dsimp only at hA
        have hA' := Lib.hid hA
        subst hA
        have c0 : w4.cell? (ad.add (j * 3)) = some (.int .i64 z.L) := by
          have := hcl0 0 _ rfl
          rw [add_twice] at this
          exact this
        have hjn0 := hjn.out
        have e1 : (n : Int) - 1 = (j : Int) := by omega
        have hw1 : IntKind.i64.wrap ((n : Int) - 1) = (j : Int) := by rw [IntKind.wrap_i64]; omega
        have j0 : 0 ≤ (j : Int) := by omega
        have j1 : (j : Int) < (n : Int) := by omega
        have b3 : decide (0 < (n : Int)) = true := decide_eq_true (by omega)
        have b4 : decide (0 < n) = true := decide_eq_true (by omega)
        have b3' : (0 : Int) < (n : Int) := by omega
        clear hcl0 hbb hA' hlz hjn0
        have tb : decide (L ≤ z.L) = false := hdH.out.symm
        have tb' : ¬ L ≤ z.L := of_decide_eq_false tb
        go_wp2_with fail
        go_quiet (fail)
        generalize hq : w4.drewN _ = w5
        have hb : Below w4.heap.size w4 w5 := by rw [← hq]; exact below_drewN (Below.refl _ _) _
        replace E : Hid (Below w.heap.size w w5) := E.out.trans (hb.mono E.out.size)
        replace X1 := Lib.hid (X1.out.below hb X1.out.lt)
        replace X2 := Lib.hid (X2.out.below hb X2.out.lt)
        replace X3 := Lib.hid (X3.out.below hb X3.out.lt)
        replace M := Lib.hid (M.out.below hb)
        clear hb hq p1 p2
        clear c0
        have p2 := X2.out.cell (j := 0) rfl
        go_upto_region 10 with fail
        go_wp2_with (refine wpList_blk_load rfl 24 _ rfl 0 rfl X1.out [_, _] rfl _ hunc.out rfl hszc.out ?_)
        refine (CN.out _ M.out).mono ?_
        rintro e w6 ⟨rfl, hb⟩
        replace E : Hid (Below w.heap.size w w6) := E.out.trans (hb.mono E.out.size)
        replace X1 := Lib.hid (X1.out.below hb X1.out.lt)
        replace X2 := Lib.hid (X2.out.below hb X2.out.lt)
        replace X3 := Lib.hid (X3.out.below hb X3.out.lt)
        replace M := Lib.hid (M.out.below hb)
        clear hb CN p2
        have X5 : Hid (Blk (w6.alloc (.cells #[.int .i64 nu, .int .i64 nv, .int .i64 ne] 41)) w6.heap.size [.int .i64 nu, .int .i64 nv, .int .i64 ne] 41) := Blk.new w6 [_, _, _] _
        have hb : Below w6.heap.size w6 (w6.alloc (.cells #[.int .i64 nu, .int .i64 nv, .int .i64 ne] 41)) := (Below.refl _ _).alloc (Nat.le_refl _) _
        replace E : Hid (Below w.heap.size w (w6.alloc (.cells #[.int .i64 nu, .int .i64 nv, .int .i64 ne] 41))) := E.out.trans (hb.mono E.out.size)
        replace X1 := Lib.hid (X1.out.below hb X1.out.lt)
        replace X2 := Lib.hid (X2.out.below hb X2.out.lt)
        replace X3 := Lib.hid (X3.out.below hb X3.out.lt)
        replace M := Lib.hid (M.out.below hb)
        clear hb
        have q2 := X5.out.cell (j := 2) rfl
        by_cases hne0 : ne = 0
        rotate_left
        · have tz : (ne == 0) = false := by simpa using hne0
          have hh := Lib.hid (hsN.out hne0)
          have hH := Lib.hid hne0
          clear hne0
          go_wp2_with (first | (refine wpList_row_store rfl 46 _ _ rfl [.int .i64 0, .slice none 0 0, .int .i64 (ne)] rfl rfl X3.out size_syn rfl (oneS _ _ _ _ _) ?_; intro w9 hw9 ho9) | fail)
          exact bodyPost_ret (ret_blk rfl _ w9 (g := w.heap.size + 1 + 1) rfl hw9.out _ hunY.out rfl size_syn) rfl ⟨⟨0, none, 0, 0, []⟩, ne, rfl, SyEnd.bad hh.out hH.out (E.out.trans (ho9.below (by omega)))⟩
        have hsE := Lib.hid (hsJ.out hne0)
        subst hne0
        clear hsN hsJ
        go_upto_region 13 with fail
        clear q2
        go_wp2_with (first | (refine wpList_blk_load rfl 27 _ rfl 1 rfl X2.out [.int .i64 a, .int .i64 b] rfl _ hunw.out rfl hszw.out ?_) | (refine wpList_blk_load rfl 27 _ rfl 0 rfl X5.out [.int .i64 nu, .int .i64 nv] rfl _ hunw.out rfl hszw.out ?_) | fail)
        refine (CJ.out _).mono ?_
        rintro e w7 ⟨rfl, hb⟩
        replace E : Hid (Below w.heap.size w w7) := E.out.trans (hb.mono E.out.size)
        replace X1 := Lib.hid (X1.out.below hb X1.out.lt)
        replace X2 := Lib.hid (X2.out.below hb X2.out.lt)
        replace X3 := Lib.hid (X3.out.below hb X3.out.lt)
        replace M := Lib.hid (M.out.below hb)
        clear hb CJ X5
        have X6 : Hid (Blk (w7.alloc (.cells #[.int .i64 ju, .int .i64 jv, .int .i64 je] 41)) w7.heap.size [.int .i64 ju, .int .i64 jv, .int .i64 je] 41) := Blk.new w7 [_, _, _] _
        have hb : Below w7.heap.size w7 (w7.alloc (.cells #[.int .i64 ju, .int .i64 jv, .int .i64 je] 41)) := (Below.refl _ _).alloc (Nat.le_refl _) _
        replace E : Hid (Below w.heap.size w (w7.alloc (.cells #[.int .i64 ju, .int .i64 jv, .int .i64 je] 41))) := E.out.trans (hb.mono E.out.size)
        replace X1 := Lib.hid (X1.out.below hb X1.out.lt)
        replace X2 := Lib.hid (X2.out.below hb X2.out.lt)
        replace X3 := Lib.hid (X3.out.below hb X3.out.lt)
        replace M := Lib.hid (M.out.below hb)
        clear hb
        have q2 := X6.out.cell (j := 2) rfl
        by_cases hje0 : je = 0
        rotate_left
        · have tz : (je == 0) = false := by simpa using hje0
          have hH := Lib.hid hje0
          clear hje0
          go_wp2_with (first | (refine wpList_row_store rfl 46 _ _ rfl [.int .i64 0, .slice none 0 0, .int .i64 (je)] rfl rfl X3.out size_syn rfl (oneS _ _ _ _ _) ?_; intro w9 hw9 ho9) | fail)
          exact bodyPost_ret (ret_blk rfl _ w9 (g := w.heap.size + 1 + 1) rfl hw9.out _ hunY.out rfl size_syn) rfl ⟨⟨0, none, 0, 0, []⟩, je, rfl, SyEnd.bad hsE.out hH.out (E.out.trans (ho9.below (by omega)))⟩
        have hoN := hsR.out hje0
        subst hje0
        have hsL := Lib.hid (hsyL.out hsE.out)
        clear hsR hsyL
        obtain ⟨hL1, hL2⟩ := hsL.out
        rw [hsn.out] at hL1 hoN
        have hoN' := Lib.hid hoN
        have hL1' := Lib.hid hL1
        clear hsL hsn hoN hL1
        go_upto_region 16 with fail
        clear q2
        have hlt7 : Hid (w7.heap.size < (w7.alloc (.cells #[.int .i64 ju, .int .i64 jv, .int .i64 0] 41)).heap.size) := by show _ < _; simp
        generalize w7.alloc _ = w8 at *
        obtain ⟨g9, hg9⟩ : ∃ y, y = w7.heap.size := ⟨_, rfl⟩
        rw [← hg9] at X6 hlt7 ⊢
        clear hg9
        have s8 : Hid (w.heap.size + 3 ≤ w8.heap.size) := by show _ ≤ _; have := X3.out.lt; omega
        have p1 := (X1.out.alloc (.cells #[] 29)).cell (j := 1) rfl
        have hO0 := Lib.hid (ownK_made w8 w8.heap.size (Nat.le_refl _))
        have b8 : Hid (Below w8.heap.size w8 (w8.alloc (.cells #[] 29))) := (Below.refl _ _).alloc (Nat.le_refl _) _
        have hr8 : Hid (Rds (w8.alloc (.cells #[] 29)) B (some ad) (rdf l)) := M.out.r.below (b8.out.mono M.out.le)
        have hll8 : Hid (([] : List Rdg).length + l.length ≤ 1000000000000) := by show _ ≤ _; have := hn.out; simp; omega
        have hsz8 : Hid (w8.heap.size ≤ (w8.alloc (.cells #[] 29)).heap.size) := b8.out.size
        go_upto_region 17 with (refine push_rdgs rfl _ _ rfl w8.heap.size _ [] l _ (some ad) n c hn.out (fun hh => by cases hh) rfl rfl hr8.out hO0.out hll8.out hsz8.out ?_; intro v10 u1 ho1 hb1 hgr1 hob1)
        rw [List.nil_append] at ho1
        have HO := Lib.hid ho1
        have F1 : Hid (Below w8.heap.size w8 u1) := b8.out.trans hb1
        clear ho1 hb1 hgr1 hob1 p1 hO0 b8 hr8 hll8 hsz8
        by_cases h16e : n = 16
        · subst h16e
          have hL1 := hL1'.out
          rw [if_pos rfl] at hL1
          have hL1H := Lib.hid hL1
          obtain ⟨L2, hL2e⟩ : ∃ L2, L2 = l.drop 1 := ⟨_, rfl⟩
          have hc16 : 16 ≤ c := hcap.out.1
          have hcn : ¬ c = 1 := by omega
          have hadd : ad.add 3 = ⟨ad.block, ad.off + 3, none⟩ := by unfold Addr.add; simp
          have b9 : Hid (Below w8.heap.size w8 (u1.alloc (.cells #[] 29))) := F1.out.trans (((Below.refl _ _).alloc (Nat.le_refl _) _).mono F1.out.size)
          have hr2 : Hid (Rds (u1.alloc (.cells #[] 29)) B (some ⟨ad.block, ad.off + 3, none⟩) (rdf L2)) := by
            have := rds_rest (c := c) M.out.r (by have := hn.out; show l.length ≤ c; omega)
            rw [if_neg hcn] at this
            show Rds _ _ _ _
            rw [hL2e, ← hadd]
            exact this.below (b9.out.mono M.out.le)
          have hn2 : Hid (15 = L2.length) := by show _ = _; rw [hL2e, List.length_drop, ← hn.out]
          have hf2 : Hid (∀ x ∈ L2, okR x = true) := fun x hx => k3'.out x (List.mem_of_mem_drop (by rw [← hL2e]; exact hx))
          rw [← hL2e] at hL1H
          clear hL2e hadd hcn hL1 hL1'
          have hO2 := Lib.hid ((ownK_made u1 u1.heap.size (Nat.le_refl _)).lower F1.out.size)
          have p1 := ((X1.out.below F1.out X1.out.lt).alloc (.cells #[] 29)).cell (j := 1) rfl
          have hll9 : Hid (([] : List Rdg).length + L2.length ≤ 1000000000000) := by show _ ≤ _; have := hn2.out; simp; omega
          have hsz9 := Lib.hid b9.out.size
          clear HO
          go_upto_region 19 with (refine push_rdgs rfl _ _ rfl w8.heap.size _ [] L2 _ (some ⟨ad.block, ad.off + 3, none⟩) 15 (c - 1) hn2.out (fun hh => by cases hh) rfl rfl hr2.out hO2.out hll9.out hsz9.out ?_; intro v11 u2 ho1 hb1 hgr1 hob1)
          rw [List.nil_append] at ho1
          have HO := Lib.hid ho1
          have F2 : Hid (Below w8.heap.size w8 u2) := b9.out.trans hb1
          clear ho1 hb1 hgr1 hob1 p1 hO2 b9 hr2 hll9 hsz9 F1
          have hlen2 : Hid (L2.length ≤ 16) := by show _ ≤ _; have := hn2.out; omega
          have F0 : Hid (Below w8.heap.size w8 u2.drew) := F2.out.trans (((Below.refl _ _).drew).mono F2.out.size)
          have HO0 := Lib.hid (HO.out.keep (Below.refl _ u2).drew)
          have P0 : ∀ q : ROf (Below w8.heap.size) u2.drew, q.world.cell? ⟨w.heap.size, 0, none⟩ = some (.int .i64 rate) := fun q => (X1.out.below (F0.out.trans q.rel) X1.out.lt).cell (j := 0) rfl
          have P2 : ∀ q : ROf (Below w8.heap.size) u2.drew, q.world.cell? ⟨w.heap.size + 1, 0, none⟩ = some (.int .i64 L) := fun q => (X2.out.below (F0.out.trans q.rel) X2.out.lt).cell (j := 0) rfl
          refine wp_region_planR (R := Below w8.heap.size) (fun w => Below.refl _ w) (fun _ _ _ h k => h.trans k) [12] [(true, 0), (true, 1), (true, 2), (true, 3), (true, 4), (true, 5), (true, 6), (true, 7), (false, 8), (false, 9), (true, 10), (true, 11), (false, 12)] (by decide) (by kernel_rfl) (by kernel_rfl) (by decide) (by intro c a d v w h; cases d <;> exact h) ?_
          change wpPlanR _ _ _ _ _ _ _ u2.drew
          have hnn : Nonempty (ROf (Below w8.heap.size) u2.drew) := ⟨⟨u2.drew, Below.refl _ _⟩⟩
          iterate 6 (refine wpPlanR_plain rfl (fun K hK => ?_); go_simp; refine hK _ ?_; clear hK K)
          refine wpPlanR_runW rfl (by rfl) _ (fun q => load_run 27 _ rfl g9 0 rfl [.int .i64 ju, .int .i64 jv] _ hunw.out rfl hszw.out q.world ((Blk.below X6.out (F0.out.trans q.rel) X6.out.lt).range 0 _ rfl)) ?_
          iterate 1 (refine wpPlanR_plain rfl (fun K hK => ?_); go_simp; refine hK _ ?_; clear hK K)
          clear hnn P0 P2 HO
          generalize u2.drew = u3 at F0 HO0 ⊢
          have hb : Below u3.heap.size u3 (u3.alloc (.cells #[.int .i64 L, .int .i64 ju, .int .i64 jv] 29)) := (Below.refl _ _).alloc (Nat.le_refl _) _
          have hbR : Below w8.heap.size u3 (u3.alloc (.cells #[.int .i64 L, .int .i64 ju, .int .i64 jv] 29)) := hb.mono F0.out.size
          obtain ⟨gB, hgBe⟩ : ∃ x, x = u3.heap.size := ⟨_, rfl⟩
          have RB : Hid (Rds (u3.alloc (.cells #[.int .i64 L, .int .i64 ju, .int .i64 jv] 29)) (gB + 1) (some ⟨gB, 0, none⟩) (rdf [⟨L, ju, jv⟩])) := by show Rds _ _ _ _; rw [hgBe]; exact Rds.new u3 [.int .i64 L, .int .i64 ju, .int .i64 jv] _
          have HO2 := Lib.hid (HO0.out.keep hb)
          have F4 : Hid (Below w8.heap.size w8 (u3.alloc (.cells #[.int .i64 L, .int .i64 ju, .int .i64 jv] 29))) := F0.out.trans hbR
          have hbs := run_build_rdg L ju jv u3
          rw [← hgBe] at hbs
          refine wpPlanR_call rfl (fun K hK => ?_)
          go_wp2_with (refine wpList_buildSlice_one rfl 22 _ rfl (.agg #[.int .i64 L, .int .i64 ju, .int .i64 jv]) _ rfl hbs ?_)
          refine planPostR_normal ⟨.inr hbR, hK _ _ ?_⟩
          clear hK K hb hbR hgBe hbs HO0 F0
          generalize u3.alloc _ = u4 at *
          have hll : Hid (L2.length + [(⟨L, ju, jv⟩ : Rdg)].length ≤ 1000000000000) := by show _ ≤ _; have := hlen2.out; simp; omega
          have hF := F4.out.size
          refine wpPlanR_call rfl (fun K hK => ?_)
          refine push_rdgs rfl _ _ rfl w8.heap.size _ L2 [⟨L, ju, jv⟩] (gB + 1) (some ⟨gB, 0, none⟩) 1 1 rfl (fun h => by cases h) rfl rfl RB.out HO2.out hll.out hF ?_
          intro v' u5 ho5 hb5 hgr5 hob5
          obtain ⟨kk, hv', hkr, hkl, _, _⟩ := own_clk ho5 hrf'.out (by rw [List.length_append]; have := hlen2.out; simp; omega) (fun x hx => by rcases List.mem_append.1 hx with h | h; exact hf2.out x h; rw [List.mem_singleton.1 h]; exact hoN'.out)
          have F5 : Hid (Below w8.heap.size w8 u5) := F4.out.trans hb5
          have X35 : Hid (Blk u5 (w.heap.size + 1 + 1) [.int .i64 0, .slice none 0 0, .int .i64 0] 46) := X3.out.below F5.out X3.out.lt
          have HO5 := Lib.hid ho5
          have hb5' := Lib.hid hb5
          rw [hv'] at HO5 ⊢
          refine wpList_end (planPostR_normal ⟨.inr hb5'.out, hK _ _ ?_⟩)
          clear hK K ho5 hb5 hgr5 hob5 hv' hkl HO2 RB F4 hF hll hkr hb5'
          have hnn : Nonempty (ROf (Below w8.heap.size) u5) := ⟨⟨u5, Below.refl _ _⟩⟩
          iterate 2 (refine wpPlanR_plain rfl (fun K hK => ?_); go_simp; refine hK _ ?_; clear hK K)
          clear hnn
          refine wpPlanR_call rfl (fun K hK => ?_)
          refine wpList_row_store rfl 46 _ _ rfl [.int .i64 rate, .slice kk.A kk.n kk.c, .int .i64 0] rfl rfl X35.out size_syn rfl (oneS _ _ _ _ _) ?_
          intro u6 hw6 ho6
          have s8' := s8.out
          have F6 : Hid (Below (w.heap.size + 2) w8 u6) := (F5.out.mono (by omega)).trans (ho6.below (Nat.le_refl _))
          have HO6 := Lib.hid (HO5.out.only ho6 (by omega))
          refine wpList_end (planPostR_normal ⟨.inl (by first | trivial | simp), hK _ _ ?_⟩)
          clear hK K
          refine wpPlanR_nil ?_
          go_wp2_with fail
          obtain ⟨k2, hv2, hr2', hl2, ha2, m2⟩ := own_clk HO6.out hrf'.out (by rw [List.length_append]; have := hlen2.out; simp; omega) (fun x hx => by rcases List.mem_append.1 hx with h | h; exact hf2.out x h; rw [List.mem_singleton.1 h]; exact hoN'.out)
          exact bodyPost_ret (ret_blk rfl _ u6 (g := w.heap.size + 1 + 1) rfl hw6.out _ hunY.out rfl size_syn) rfl ⟨k2, 0, by rw [hr2']; have := hv2; injection this with a1 a2 a3; rw [a1, a2, a3], ⟨by rw [hr2', hL2], by rw [hl2, hL1H.out], hsE.out.symm, m2, (fun ad h => Nat.le_trans E.out.size (ha2 ad h)), E.out.trans (F6.out.mono (by omega))⟩⟩
        have t16 : ((n : Int) == 16) = false := by simp only [beq_eq_false_iff_ne, ne_eq]; omega
        have t16' : (n == 16) = false := by simp only [beq_eq_false_iff_ne, ne_eq]; exact h16e
        have hL1 := hL1'.out
        rw [if_neg h16e] at hL1
        have hL1H := Lib.hid hL1
        clear hL1 hL1'
        have hn2 : Hid (n = l.length) := hn
        have hf2 : Hid (∀ x ∈ l, okR x = true) := k3'
        go_upto_region 19 with fail
        have hlen2 : Hid (l.length ≤ 16) := by show _ ≤ _; have := hn2.out; omega
        have F0 : Hid (Below w8.heap.size w8 u1.drew) := F1.out.trans (((Below.refl _ _).drew).mono F1.out.size)
        have HO0 := Lib.hid (HO.out.keep (Below.refl _ u1).drew)
        have P0 : ∀ q : ROf (Below w8.heap.size) u1.drew, q.world.cell? ⟨w.heap.size, 0, none⟩ = some (.int .i64 rate) := fun q => (X1.out.below (F0.out.trans q.rel) X1.out.lt).cell (j := 0) rfl
        have P2 : ∀ q : ROf (Below w8.heap.size) u1.drew, q.world.cell? ⟨w.heap.size + 1, 0, none⟩ = some (.int .i64 L) := fun q => (X2.out.below (F0.out.trans q.rel) X2.out.lt).cell (j := 0) rfl
        refine wp_region_planR (R := Below w8.heap.size) (fun w => Below.refl _ w) (fun _ _ _ h k => h.trans k) [12] [(true, 0), (true, 1), (true, 2), (true, 3), (true, 4), (true, 5), (true, 6), (true, 7), (false, 8), (false, 9), (true, 10), (true, 11), (false, 12)] (by decide) (by kernel_rfl) (by kernel_rfl) (by decide) (by intro c a d v w h; cases d <;> exact h) ?_
        change wpPlanR _ _ _ _ _ _ _ u1.drew
        have hnn : Nonempty (ROf (Below w8.heap.size) u1.drew) := ⟨⟨u1.drew, Below.refl _ _⟩⟩
        iterate 6 (refine wpPlanR_plain rfl (fun K hK => ?_); go_simp; refine hK _ ?_; clear hK K)
        refine wpPlanR_runW rfl (by rfl) _ (fun q => load_run 27 _ rfl g9 0 rfl [.int .i64 ju, .int .i64 jv] _ hunw.out rfl hszw.out q.world ((Blk.below X6.out (F0.out.trans q.rel) X6.out.lt).range 0 _ rfl)) ?_
        iterate 1 (refine wpPlanR_plain rfl (fun K hK => ?_); go_simp; refine hK _ ?_; clear hK K)
        clear hnn P0 P2 HO
        generalize u1.drew = u3 at F0 HO0 ⊢
        have hb : Below u3.heap.size u3 (u3.alloc (.cells #[.int .i64 L, .int .i64 ju, .int .i64 jv] 29)) := (Below.refl _ _).alloc (Nat.le_refl _) _
        have hbR : Below w8.heap.size u3 (u3.alloc (.cells #[.int .i64 L, .int .i64 ju, .int .i64 jv] 29)) := hb.mono F0.out.size
        obtain ⟨gB, hgBe⟩ : ∃ x, x = u3.heap.size := ⟨_, rfl⟩
        have RB : Hid (Rds (u3.alloc (.cells #[.int .i64 L, .int .i64 ju, .int .i64 jv] 29)) (gB + 1) (some ⟨gB, 0, none⟩) (rdf [⟨L, ju, jv⟩])) := by show Rds _ _ _ _; rw [hgBe]; exact Rds.new u3 [.int .i64 L, .int .i64 ju, .int .i64 jv] _
        have HO2 := Lib.hid (HO0.out.keep hb)
        have F4 : Hid (Below w8.heap.size w8 (u3.alloc (.cells #[.int .i64 L, .int .i64 ju, .int .i64 jv] 29))) := F0.out.trans hbR
        have hbs := run_build_rdg L ju jv u3
        rw [← hgBe] at hbs
        refine wpPlanR_call rfl (fun K hK => ?_)
        go_wp2_with (refine wpList_buildSlice_one rfl 22 _ rfl (.agg #[.int .i64 L, .int .i64 ju, .int .i64 jv]) _ rfl hbs ?_)
        refine planPostR_normal ⟨.inr hbR, hK _ _ ?_⟩
        clear hK K hb hbR hgBe hbs HO0 F0
        generalize u3.alloc _ = u4 at *
        have hll : Hid (l.length + [(⟨L, ju, jv⟩ : Rdg)].length ≤ 1000000000000) := by show _ ≤ _; have := hlen2.out; simp; omega
        have hF := F4.out.size
        refine wpPlanR_call rfl (fun K hK => ?_)
        refine push_rdgs rfl _ _ rfl w8.heap.size _ l [⟨L, ju, jv⟩] (gB + 1) (some ⟨gB, 0, none⟩) 1 1 rfl (fun h => by cases h) rfl rfl RB.out HO2.out hll.out hF ?_
        intro v' u5 ho5 hb5 hgr5 hob5
        obtain ⟨kk, hv', hkr, hkl, _, _⟩ := own_clk ho5 hrf'.out (by rw [List.length_append]; have := hlen2.out; simp; omega) (fun x hx => by rcases List.mem_append.1 hx with h | h; exact hf2.out x h; rw [List.mem_singleton.1 h]; exact hoN'.out)
        have F5 : Hid (Below w8.heap.size w8 u5) := F4.out.trans hb5
        have X35 : Hid (Blk u5 (w.heap.size + 1 + 1) [.int .i64 0, .slice none 0 0, .int .i64 0] 46) := X3.out.below F5.out X3.out.lt
        have HO5 := Lib.hid ho5
        have hb5' := Lib.hid hb5
        rw [hv'] at HO5 ⊢
        refine wpList_end (planPostR_normal ⟨.inr hb5'.out, hK _ _ ?_⟩)
        clear hK K ho5 hb5 hgr5 hob5 hv' hkl HO2 RB F4 hF hll hkr hb5'
        have hnn : Nonempty (ROf (Below w8.heap.size) u5) := ⟨⟨u5, Below.refl _ _⟩⟩
        iterate 2 (refine wpPlanR_plain rfl (fun K hK => ?_); go_simp; refine hK _ ?_; clear hK K)
        clear hnn
        refine wpPlanR_call rfl (fun K hK => ?_)
        refine wpList_row_store rfl 46 _ _ rfl [.int .i64 rate, .slice kk.A kk.n kk.c, .int .i64 0] rfl rfl X35.out size_syn rfl (oneS _ _ _ _ _) ?_
        intro u6 hw6 ho6
        have s8' := s8.out
        have F6 : Hid (Below (w.heap.size + 2) w8 u6) := (F5.out.mono (by omega)).trans (ho6.below (Nat.le_refl _))
        have HO6 := Lib.hid (HO5.out.only ho6 (by omega))
        refine wpList_end (planPostR_normal ⟨.inl (by first | trivial | simp), hK _ _ ?_⟩)
        clear hK K
        refine wpPlanR_nil ?_
        go_wp2_with fail
        obtain ⟨k2, hv2, hr2', hl2, ha2, m2⟩ := own_clk HO6.out hrf'.out (by rw [List.length_append]; have := hlen2.out; simp; omega) (fun x hx => by rcases List.mem_append.1 hx with h | h; exact hf2.out x h; rw [List.mem_singleton.1 h]; exact hoN'.out)
        exact bodyPost_ret (ret_blk rfl _ u6 (g := w.heap.size + 1 + 1) rfl hw6.out _ hunY.out rfl size_syn) rfl ⟨k2, 0, by rw [hr2']; have := hv2; injection this with a1 a2 a3; rw [a1, a2, a3], ⟨by rw [hr2', hL2], by rw [hl2, hL1H.out], hsE.out.symm, m2, (fun ad h => Nat.le_trans E.out.size (ha2 ad h)), E.out.trans (F6.out.mono (by omega))⟩⟩

end Go.Proofs.Ytpdalebnodgcdaa
