/-
  Stage 14 (clock): Sync: the maths; the program's. (Written by tools/genuo.py.)
-/
import Derived.Test.YtbkgbjimooobbaaUn
namespace Go.Proofs.Ytbkgbjimooobbaa
set_option linter.unusedVariables false
set_option linter.unusedSimpArgs false
open Go.RowKit

/-- Is there a reading that is not before r? -/
def stB (l : List Rdg) (r : Rdg) : Bool := match l.getLast? with | none => false | some z => decide (r.L ≤ z.L)
def syE (rate : Int) (l : List Rdg) (r : Rdg) : Int := if chkK rate l = 0 then (if okR r = true then (if stB l r = true then 15 else if nwE rate l r.L = 0 then jnE r.lo r.hi (nwLo rate l r.L) (nwHi rate l r.L) else nwE rate l r.L) else 3) else chkK rate l
def syN (rate : Int) (l : List Rdg) (r : Rdg) : Rdg := ⟨r.L, jnLo r.lo r.hi (nwLo rate l r.L) (nwHi rate l r.L), jnHi r.lo r.hi (nwLo rate l r.L) (nwHi rate l r.L)⟩
def syL (rate : Int) (l : List Rdg) (r : Rdg) : List Rdg := if syE rate l r = 0 then (if l.length = 16 then l.drop 1 else l) ++ [syN rate l r] else []
def syR (rate : Int) (l : List Rdg) (r : Rdg) : Int := if syE rate l r = 0 then rate else 0
theorem sy_err {rate : Int} {l : List Rdg} {r : Rdg} (h : ¬ syE rate l r = 0) : syL rate l r = [] ∧ syR rate l r = 0 := by
  unfold syL syR
  rw [if_neg h, if_neg h]
  exact ⟨rfl, rfl⟩
theorem sy_bad {rate : Int} {l : List Rdg} {r : Rdg} (h : ¬ chkK rate l = 0) : syE rate l r = chkK rate l := by unfold syE; rw [if_neg h]
theorem sy_arg {rate : Int} {l : List Rdg} {r : Rdg} (h : chkK rate l = 0) (h2 : okR r = false) : syE rate l r = 3 := by unfold syE; rw [if_pos h, if_neg (by rw [h2]; simp)]
theorem sy_stale {rate : Int} {l : List Rdg} {r : Rdg} (h : chkK rate l = 0) (h2 : okR r = true) (h3 : stB l r = true) : syE rate l r = 15 := by unfold syE; rw [if_pos h, if_pos h2, if_pos h3]
theorem sy_now {rate : Int} {l : List Rdg} {r : Rdg} (h : chkK rate l = 0) (h2 : okR r = true) (h3 : stB l r = false) (h4 : ¬ nwE rate l r.L = 0) : syE rate l r = nwE rate l r.L := by unfold syE; rw [if_pos h, if_pos h2, if_neg (by rw [h3]; simp), if_neg h4]
theorem sy_join {rate : Int} {l : List Rdg} {r : Rdg} (h : chkK rate l = 0) (h2 : okR r = true) (h3 : stB l r = false) (h4 : nwE rate l r.L = 0) : syE rate l r = jnE r.lo r.hi (nwLo rate l r.L) (nwHi rate l r.L) := by unfold syE; rw [if_pos h, if_pos h2, if_neg (by rw [h3]; simp), if_pos h4]
theorem jn_rng {a b c d : Int} (h : jnE a b c d = 0) : okW (jnLo a b c d) (jnHi a b c d) = true ∧ jnLo a b c d = max a c ∧ jnHi a b c d = min b d := by
  obtain ⟨h1, h2⟩ := jnE_ok.1 h
  obtain ⟨e1, e2, _⟩ := jn_okr h1
  obtain ⟨p, q⟩ := (Bool.and_eq_true _ _).mp h1
  have p' := okW_iff.1 p
  have q' := okW_iff.1 q
  rw [e1, e2]
  unfold ocLo ocHi
  rw [if_neg (by omega), if_neg (by omega)]
  exact ⟨okW_iff.2 ⟨⟨by omega, by omega⟩, ⟨by omega, by omega⟩, by omega⟩, rfl, rfl⟩
theorem sy_okR {rate : Int} {l : List Rdg} {r : Rdg} (h2 : okR r = true) (h : jnE r.lo r.hi (nwLo rate l r.L) (nwHi rate l r.L) = 0) : okR (syN rate l r) = true := by
  obtain ⟨h1, _, _⟩ := jn_rng h
  have h3 := (okR_iff.1 h2).1
  have h4 := okW_iff.1 h1
  exact okR_iff.2 ⟨h3, h4.1, h4.2.1, h4.2.2⟩
theorem fits_okR {r : Rdg} (h : okR r = true) : Wm.Fits r.L ∧ Wm.Fits r.lo ∧ Wm.Fits r.hi := by
  obtain ⟨a, b, c, d⟩ := okR_iff.1 h
  unfold Wm.Fits
  omega
theorem mem_keep {l : List Rdg} {x : Rdg} (h : x ∈ (if l.length = 16 then l.drop 1 else l)) : x ∈ l := by
  split at h
  · exact List.mem_of_mem_drop h
  · exact h
theorem stB_last {l : List Rdg} {r z : Rdg} {j : Nat} (hl : l.length = j + 1) (hz : l[j]? = some z) : stB l r = decide (r.L ≤ z.L) := by
  unfold stB
  rw [List.getLast?_eq_getElem?, hl, Nat.add_sub_cancel, hz]
theorem stB_nil {l : List Rdg} {r : Rdg} (hl : l.length = 0) : stB l r = false := by
  rw [List.eq_nil_of_length_eq_zero hl]
  rfl
/-- The zero clock. -/
theorem zero_clk (w : World) : ClkM w w.heap.size ⟨0, none, 0, 0, []⟩ := ⟨by show Rds _ _ _ (rdf []); unfold rdf; exact Rds.empty, rfl, ⟨Nat.le_refl _, Nat.zero_le _, fun _ => rfl⟩, Nat.zero_le _, Nat.le_refl _, by unfold Wm.Fits; decide, by simp⟩
theorem own_blk {w : World} {base : Nat} {ad : Addr} {n c : Nat} {L : List Rdg} (h : OwnK w base (.slice (some ad) n c) L) : base ≤ ad.block := by
  rcases h.2 with ⟨hv, _⟩ | ⟨g, cap, cur, hv, hb, _⟩
  · cases hv
  · injection hv with e
    injection e with e
    subst e
    exact hb
theorem own_clk {w : World} {base : Nat} {v : Value} {rate : Int} {L : List Rdg} (h : OwnK w base v L) (hr : Wm.Fits rate) (hs : L.length ≤ 1000) (hf : ∀ x ∈ L, okR x = true) : ∃ k : Clk, v = .slice k.A k.n k.c ∧ k.rate = rate ∧ k.l = L ∧ (∀ ad, k.A = some ad → base ≤ ad.block) ∧ ClkM w w.heap.size k := by
  obtain ⟨A, c, rfl, h1, h2, h3, h4⟩ := h.slice
  exact ⟨⟨rate, A, L.length, c, L⟩, rfl, rfl, rfl, (fun ad e => by dsimp only at e; subst e; exact own_blk h), ⟨h4, rfl, ⟨h1, h2, h3⟩, by show L.length ≤ _; omega, Nat.le_refl _, hr, fun x hx => fits_okR (hf x hx)⟩⟩
/-- How Sync ends. -/
def SyEnd (w : World) (rate : Int) (l : List Rdg) (r : Rdg) (k' : Clk) (e' : Int) (w' : World) : Prop :=
  k'.rate = syR rate l r ∧ k'.l = syL rate l r ∧ e' = syE rate l r ∧ ClkM w' w'.heap.size k' ∧ (∀ ad, k'.A = some ad → w.heap.size ≤ ad.block) ∧ Below w.heap.size w w'
theorem SyEnd.bad {w w' : World} {rate e : Int} {l : List Rdg} {r : Rdg} (h : syE rate l r = e) (he : ¬ e = 0) (hb : Below w.heap.size w w') : SyEnd w rate l r ⟨0, none, 0, 0, []⟩ e w' := by
  obtain ⟨e1, e2⟩ := sy_err (rate := rate) (l := l) (r := r) (by rw [h]; exact he)
  exact ⟨e2.symm, e1.symm, h.symm, zero_clk _, (fun ad h => by cases h), hb⟩
theorem oneC (a : Int) (A : Option Addr) (n c : Nat) : ∀ u ∈ [Value.int .i64 a, .slice A n c], u.oneCell' = true := by
  intro u hu
  simp only [List.mem_cons, List.not_mem_nil, or_false] at hu
  rcases hu with rfl | rfl <;> rfl
theorem run_build_rdg (L a b : Int) (w : World) : (Instr.buildSlice 28 1 #[(0, .agg #[.int .i64 L, .int .i64 a, .int .i64 b])]).run Try.prog w =
    .ok (.slice (some ⟨w.heap.size, 0, none⟩) 1 1) (w.alloc (.cells #[.int .i64 L, .int .i64 a, .int .i64 b] 48)) := by kernel_rfl
/-- 'l[1:]' of readings: the rest lies where it lay. -/
theorem rds_rest {w : World} {B : Nat} {A : Option Addr} {l : List Rdg} {c : Nat} (h : Rds w B A (rdf l)) (hc : l.length ≤ c) : Rds w B (if c = 1 then A else A.map (·.add 3)) (rdf (l.drop 1)) := by
  rw [rdf_drop]
  by_cases he : c = 1
  · rw [List.drop_eq_nil_of_le (by rw [rdf_len]; omega)]; exact Rds.empty
  · rw [if_neg he]; exact h.drop 3

set_option maxRecDepth 100000 in
set_option maxHeartbeats 4000000 in
theorem sync_any {B : Nat} (k : Clk) (r : Rdg) (w : World) (m : ClkM w B k) :
    Calls Try.prog 12 #[.agg #[.int .i64 k.rate, .slice k.A k.n k.c], .agg #[.int .i64 r.L, .int .i64 r.lo, .int .i64 r.hi]] w fun e w' => ∃ (k' : Clk) (e' : Int), e = .returned (.tuple #[.agg #[.int .i64 k'.rate, .slice k'.A k'.n k'.c], .int .i64 e']) ∧ SyEnd w k.rate k.l r k' e' w' := by
  rcases k with ⟨rate, A, n, c, l⟩
  rcases r with ⟨L, a, b⟩
  dsimp only at *
  obtain ⟨W2, hW2⟩ : ∃ W2, W2 = ((w.alloc (.cells #[.int .i64 rate, .slice A n c] 30)).alloc (.cells #[.int .i64 L, .int .i64 a, .int .i64 b] 48)).alloc (.cells #[.int .i64 0, .slice none 0 0] 30) := ⟨_, rfl⟩
  have E : Hid (Below w.heap.size w W2) := by show Below _ _ _; rw [hW2]; exact (((Below.refl _ _).alloc (Nat.le_refl _) _).alloc (by simp) _).alloc (by simp; omega) _
  have X1 : Hid (Blk W2 w.heap.size [.int .i64 rate, .slice A n c] 30) := by show Blk _ _ _ _; rw [hW2]; exact ((Blk.new w [_, _] _).alloc _).alloc _
  have X2 : Hid (Blk W2 (w.heap.size + 1) [.int .i64 L, .int .i64 a, .int .i64 b] 48) := by show Blk _ _ _ _; rw [hW2]; exact ((Blk.new _ [_, _, _] _).alloc _).at (by simp)
  have X3 : Hid (Blk W2 (w.heap.size + 1 + 1) [.int .i64 0, .slice none 0 0] 30) := by show Blk _ _ _ _; rw [hW2]; exact (Blk.new _ [_, _] _).at (by simp)
  have M := Lib.hid (m.below E.out)
  have hn : Hid (n = l.length) := m.len
  have hsm : n ≤ 140737488355328 := m.small
  have hcap : Hid (n ≤ c ∧ c ≤ maxLen ∧ (A = none → c = 0)) := m.cap
  have hB := m.le
  have hW2' := Lib.hid hW2
  clear hW2 m
  have hszc := Lib.hid size_clk
  have hunc : Hid (Try.prog.underlying 30 = _) := Try.underlying30
  have hszr := Lib.hid size_rdg
  have hunr : Hid (Try.prog.underlying 48 = _) := Try.underlying48
  have hszw := Lib.hid size_whn
  have hunw : Hid (Try.prog.underlying 45 = _) := Try.underlying45
  have CC := Lib.hid (fun W (h : ClkM W B ⟨rate, A, n, c, l⟩) => check14_any _ W h)
  dsimp only at CC
  have CR := Lib.hid (fun W => isReading_any ⟨L, a, b⟩ W)
  dsimp only at CR
  by_cases h : chkK rate l = 0
  rotate_left
  · have hs := Lib.hid (sy_bad (r := ⟨L, a, b⟩) h)
    obtain ⟨z, hz⟩ : ∃ z, chkK rate l = z := ⟨_, rfl⟩
    rw [hz] at CC h hs
    have tz : (z == 0) = false := by simpa using h
    have hH := Lib.hid h
    clear hz h
    go_enter Try.func12, Try.ntmps12
    go_upto_region 1 with fail
    generalize hgg : ((w.alloc _).alloc _).alloc _ = Wg
    have hgW : W2 = Wg := by rw [← hgg, hW2'.out]
    clear hgg hW2'
    subst hgW
    go_wp2_with (refine wpList_blk_load rfl 30 _ rfl 0 rfl X1.out [_, _] rfl _ hunc.out rfl hszc.out ?_)
    refine (CC.out _ M.out).mono ?_
    rintro e w3 ⟨rfl, hb⟩
    replace E : Hid (Below w.heap.size w w3) := E.out.trans (hb.mono E.out.size)
    replace X1 := Lib.hid (X1.out.below hb X1.out.lt)
    replace X2 := Lib.hid (X2.out.below hb X2.out.lt)
    replace X3 := Lib.hid (X3.out.below hb X3.out.lt)
    replace M := Lib.hid (M.out.below hb)
    clear hb CC
    go_wp2_with (first | (refine wpList_row_store rfl 30 _ _ rfl [.int .i64 0, .slice none 0 0] rfl rfl X3.out size_clk rfl (oneC _ _ _ _) ?_; intro w9 hw9 ho9) | fail)
    exact bodyPost_ret (ret_cellK rfl _ w9 (g := w.heap.size + 1 + 1) _ rfl rfl hw9.out _ hunc.out rfl hszc.out) rfl ⟨⟨0, none, 0, 0, []⟩, z, rfl, SyEnd.bad hs.out hH.out (E.out.trans (ho9.below (by omega)))⟩
  rw [h] at CC
  obtain ⟨k0, k1, k2, k3, k4⟩ := chk_facts h
  have h16 : n ≤ 16 := by rw [hn.out]; exact k2
  cases hor : okR ⟨L, a, b⟩ with
  | false =>
    have hs := Lib.hid (sy_arg h hor)
    rw [hor] at CR
    clear h hor k3 k4
    go_enter Try.func12, Try.ntmps12
    go_upto_region 1 with fail
    generalize hgg : ((w.alloc _).alloc _).alloc _ = Wg
    have hgW : W2 = Wg := by rw [← hgg, hW2'.out]
    clear hgg hW2'
    subst hgW
    go_wp2_with (refine wpList_blk_load rfl 30 _ rfl 0 rfl X1.out [_, _] rfl _ hunc.out rfl hszc.out ?_)
    refine (CC.out _ M.out).mono ?_
    rintro e w3 ⟨rfl, hb⟩
    replace E : Hid (Below w.heap.size w w3) := E.out.trans (hb.mono E.out.size)
    replace X1 := Lib.hid (X1.out.below hb X1.out.lt)
    replace X2 := Lib.hid (X2.out.below hb X2.out.lt)
    replace X3 := Lib.hid (X3.out.below hb X3.out.lt)
    replace M := Lib.hid (M.out.below hb)
    clear hb CC
    have p1 := X1.out.cell (j := 1) rfl
    go_wp2_with (refine wpList_blk_load rfl 48 _ rfl 0 rfl X2.out [_, _, _] rfl _ hunr.out rfl hszr.out ?_)
    refine (CR.out _).mono ?_
    rintro e w4 ⟨rfl, hb⟩
    replace E : Hid (Below w.heap.size w w4) := E.out.trans (hb.mono E.out.size)
    replace X1 := Lib.hid (X1.out.below hb X1.out.lt)
    replace X2 := Lib.hid (X2.out.below hb X2.out.lt)
    replace X3 := Lib.hid (X3.out.below hb X3.out.lt)
    replace M := Lib.hid (M.out.below hb)
    clear hb p1
    go_wp2_with (first | (refine wpList_row_store rfl 30 _ _ rfl [.int .i64 0, .slice none 0 0] rfl rfl X3.out size_clk rfl (oneC _ _ _ _) ?_; intro w9 hw9 ho9) | fail)
    exact bodyPost_ret (ret_cellK rfl _ w9 (g := w.heap.size + 1 + 1) _ rfl rfl hw9.out _ hunc.out rfl hszc.out) rfl ⟨⟨0, none, 0, 0, []⟩, 3, rfl, SyEnd.bad hs.out (by decide) (E.out.trans (ho9.below (by omega)))⟩
  | true =>
    rw [hor] at CR
    obtain ⟨sb, hsb⟩ : ∃ sb, stB l ⟨L, a, b⟩ = sb := ⟨_, rfl⟩
    have hlast : Hid ((n = 0 ∧ sb = false) ∨ ∃ (j : Nat) (z : Rdg), n = j + 1 ∧ sb = decide (L ≤ z.L) ∧ l[j]? = some z) := by
      rcases Nat.eq_zero_or_pos n with hz | hz
      · exact .inl ⟨hz, by rw [← hsb]; exact stB_nil (by rw [← hn.out]; exact hz)⟩
      · obtain ⟨z, hx⟩ : ∃ x, l[n - 1]? = some x := ⟨_, List.getElem?_eq_getElem (by have := hn.out; omega)⟩
        exact .inr ⟨n - 1, z, by omega, by rw [← hsb]; exact stB_last (by rw [← hn.out]; omega) hx, hx⟩
    cases sb with
    | true =>
      have hs := Lib.hid (sy_stale h hor hsb)
      clear h hor hsb k3 k4
      rcases hlast.out with ⟨_, hh⟩ | ⟨j, z, hjn0, hd, hlz⟩
      · cases hh
      have hjn := Lib.hid hjn0
      have hdH := Lib.hid hd
      clear hlast hjn0 hd
      go_enter Try.func12, Try.ntmps12
      go_upto_region 1 with fail
      generalize hgg : ((w.alloc _).alloc _).alloc _ = Wg
      have hgW : W2 = Wg := by rw [← hgg, hW2'.out]
      clear hgg hW2'
      subst hgW
      go_wp2_with (refine wpList_blk_load rfl 30 _ rfl 0 rfl X1.out [_, _] rfl _ hunc.out rfl hszc.out ?_)
      refine (CC.out _ M.out).mono ?_
      rintro e w3 ⟨rfl, hb⟩
      replace E : Hid (Below w.heap.size w w3) := E.out.trans (hb.mono E.out.size)
      replace X1 := Lib.hid (X1.out.below hb X1.out.lt)
      replace X2 := Lib.hid (X2.out.below hb X2.out.lt)
      replace X3 := Lib.hid (X3.out.below hb X3.out.lt)
      replace M := Lib.hid (M.out.below hb)
      clear hb CC
      have p1 := X1.out.cell (j := 1) rfl
      go_wp2_with (refine wpList_blk_load rfl 48 _ rfl 0 rfl X2.out [_, _, _] rfl _ hunr.out rfl hszr.out ?_)
      refine (CR.out _).mono ?_
      rintro e w4 ⟨rfl, hb⟩
      replace E : Hid (Below w.heap.size w w4) := E.out.trans (hb.mono E.out.size)
      replace X1 := Lib.hid (X1.out.below hb X1.out.lt)
      replace X2 := Lib.hid (X2.out.below hb X2.out.lt)
      replace X3 := Lib.hid (X3.out.below hb X3.out.lt)
      replace M := Lib.hid (M.out.below hb)
      clear hb p1 CR
      have p2 := X2.out.cell (j := 0) rfl
      obtain ⟨ad, hA, hbb, hcl0⟩ := M.out.rd3 hlz
      dsimp only at hA
      have hA' := Lib.hid hA
      subst hA
      have c0 : w4.cell? (ad.add (j * 3)) = some (.int .i64 z.L) := by
        have := hcl0 0 _ rfl
        rw [add_twice] at this
        exact this
      have hjn0 := hjn.out
      have e1 : (n : Int) - 1 = (j : Int) := by omega
      have hw1 : IntKind.i64.wrap ((n : Int) - 1) = (j : Int) := by rw [IntKind.wrap_i64]; omega
      have j0 : 0 ≤ (j : Int) := by omega
      have j1 : (j : Int) < (n : Int) := by omega
      have b3 : decide (0 < (n : Int)) = true := decide_eq_true (by omega)
      have b4 : decide (0 < n) = true := decide_eq_true (by omega)
      have b3' : (0 : Int) < (n : Int) := by omega
      clear hcl0 hbb hA' hlz hjn0
      have tb : decide (L ≤ z.L) = true := hdH.out.symm
      have tb' : L ≤ z.L := of_decide_eq_true tb
      go_wp2_with fail
      go_quiet (fail)
      generalize hq : w4.drewN _ = w5
      have hb : Below w4.heap.size w4 w5 := by rw [← hq]; exact below_drewN (Below.refl _ _) _
      replace E : Hid (Below w.heap.size w w5) := E.out.trans (hb.mono E.out.size)
      replace X1 := Lib.hid (X1.out.below hb X1.out.lt)
      replace X2 := Lib.hid (X2.out.below hb X2.out.lt)
      replace X3 := Lib.hid (X3.out.below hb X3.out.lt)
      replace M := Lib.hid (M.out.below hb)
      clear hb hq p2
      go_wp2_with (first | (refine wpList_row_store rfl 30 _ _ rfl [.int .i64 0, .slice none 0 0] rfl rfl X3.out size_clk rfl (oneC _ _ _ _) ?_; intro w9 hw9 ho9) | fail)
      exact bodyPost_ret (ret_cellK rfl _ w9 (g := w.heap.size + 1 + 1) _ rfl rfl hw9.out _ hunc.out rfl hszc.out) rfl ⟨⟨0, none, 0, 0, []⟩, 15, rfl, SyEnd.bad hs.out (by decide) (E.out.trans (ho9.below (by omega)))⟩
    | false =>
      have CN := Lib.hid (fun W (h : ClkM W B ⟨rate, A, n, c, l⟩) => now_any _ L W h)
      dsimp only at CN
      have hsN := Lib.hid (fun h4 => sy_now (r := ⟨L, a, b⟩) h hor hsb h4)
      have hsJ := Lib.hid (fun h4 => sy_join (r := ⟨L, a, b⟩) h hor hsb h4)
      have hsR := Lib.hid (sy_okR (rate := rate) (l := l) hor)
      have k3' := Lib.hid k3
      have hrf : Wm.Fits rate := by unfold Wm.Fits; omega
      have hrf' := Lib.hid hrf
      have hsyL : Hid (syE rate l ⟨L, a, b⟩ = 0 → syL rate l ⟨L, a, b⟩ = (if n = 16 then l.drop 1 else l) ++ [syN rate l ⟨L, a, b⟩] ∧ syR rate l ⟨L, a, b⟩ = rate) := fun hh => by unfold syL syR; rw [if_pos hh, if_pos hh, ← hn.out]; exact ⟨rfl, rfl⟩
      have hsn : Hid (syN rate l ⟨L, a, b⟩ = ⟨L, jnLo a b (nwLo rate l L) (nwHi rate l L), jnHi a b (nwLo rate l L) (nwHi rate l L)⟩) := rfl
      have CJ := Lib.hid (fun W => join_any a b (nwLo rate l L) (nwHi rate l L) W)
      dsimp only at hsN hsJ hsR
      obtain ⟨nu, hnu⟩ : ∃ y, nwLo rate l L = y := ⟨_, rfl⟩
      obtain ⟨nv, hnv⟩ : ∃ y, nwHi rate l L = y := ⟨_, rfl⟩
      obtain ⟨ne, hne⟩ : ∃ y, nwE rate l L = y := ⟨_, rfl⟩
      rw [hnu, hnv, hne] at CN
      rw [hne] at hsN hsJ
      rw [hnu, hnv] at hsJ CJ hsR hsn
      obtain ⟨ju, hju⟩ : ∃ y, jnLo a b nu nv = y := ⟨_, rfl⟩
      obtain ⟨jv, hjv⟩ : ∃ y, jnHi a b nu nv = y := ⟨_, rfl⟩
      obtain ⟨je, hje⟩ : ∃ y, jnE a b nu nv = y := ⟨_, rfl⟩
      rw [hju, hjv, hje] at CJ
      rw [hje] at hsJ hsR
      rw [hju, hjv] at hsn
      clear h hor hsb hrf k3 k4 hnu hnv hne hju hjv hje
      rcases hlast.out with ⟨hn0, _⟩ | ⟨j, z, hjn0, hd, hlz⟩
      · have b3 : decide (0 < (n : Int)) = false := decide_eq_false (by omega)
        have b4 : decide (0 < n) = false := decide_eq_false (by omega)
        have b3' : ¬ (0 : Int) < (n : Int) := by omega
        have hn0' := Lib.hid hn0
        clear hlast hn0
        go_enter Try.func12, Try.ntmps12
        go_upto_region 1 with fail
        generalize hgg : ((w.alloc _).alloc _).alloc _ = Wg
        have hgW : W2 = Wg := by rw [← hgg, hW2'.out]
        clear hgg hW2'
        subst hgW
        go_wp2_with (refine wpList_blk_load rfl 30 _ rfl 0 rfl X1.out [_, _] rfl _ hunc.out rfl hszc.out ?_)
        refine (CC.out _ M.out).mono ?_
        rintro e w3 ⟨rfl, hb⟩
        replace E : Hid (Below w.heap.size w w3) := E.out.trans (hb.mono E.out.size)
        replace X1 := Lib.hid (X1.out.below hb X1.out.lt)
        replace X2 := Lib.hid (X2.out.below hb X2.out.lt)
        replace X3 := Lib.hid (X3.out.below hb X3.out.lt)
        replace M := Lib.hid (M.out.below hb)
        clear hb CC
        have p1 := X1.out.cell (j := 1) rfl
        go_wp2_with (refine wpList_blk_load rfl 48 _ rfl 0 rfl X2.out [_, _, _] rfl _ hunr.out rfl hszr.out ?_)
        refine (CR.out _).mono ?_
        rintro e w4 ⟨rfl, hb⟩
        replace E : Hid (Below w.heap.size w w4) := E.out.trans (hb.mono E.out.size)
        replace X1 := Lib.hid (X1.out.below hb X1.out.lt)
        replace X2 := Lib.hid (X2.out.below hb X2.out.lt)
        replace X3 := Lib.hid (X3.out.below hb X3.out.lt)
        replace M := Lib.hid (M.out.below hb)
        clear hb p1 CR
        have p2 := X2.out.cell (j := 0) rfl
        go_wp2_with fail
        go_quiet (fail)
        generalize hq : w4.drewN _ = w5
        have hb : Below w4.heap.size w4 w5 := by rw [← hq]; exact below_drewN (Below.refl _ _) _
        replace E : Hid (Below w.heap.size w w5) := E.out.trans (hb.mono E.out.size)
        replace X1 := Lib.hid (X1.out.below hb X1.out.lt)
        replace X2 := Lib.hid (X2.out.below hb X2.out.lt)
        replace X3 := Lib.hid (X3.out.below hb X3.out.lt)
        replace M := Lib.hid (M.out.below hb)
        clear hb hq p2
        skip
        have p2 := X2.out.cell (j := 0) rfl
        have hal : Hid (∀ W : World, Below W.heap.size W (W.alloc (.cells #[.int .i64 nu, .int .i64 nv] 45))) := fun W => (Below.refl _ _).alloc (Nat.le_refl _) _
        go_upto_region 10 with fail
        go_wp2_with (refine wpList_blk_load rfl 30 _ rfl 0 rfl X1.out [_, _] rfl _ hunc.out rfl hszc.out ?_)
        refine (CN.out _ M.out).mono ?_
        rintro e w6 ⟨rfl, hb⟩
        replace E : Hid (Below w.heap.size w w6) := E.out.trans (hb.mono E.out.size)
        replace X1 := Lib.hid (X1.out.below hb X1.out.lt)
        replace X2 := Lib.hid (X2.out.below hb X2.out.lt)
        replace X3 := Lib.hid (X3.out.below hb X3.out.lt)
        replace M := Lib.hid (M.out.below hb)
        clear hb CN p2
        have X5 : Hid (Blk (w6.alloc (.cells #[.int .i64 nu, .int .i64 nv] 45)) w6.heap.size [.int .i64 nu, .int .i64 nv] 45) := Blk.new w6 [_, _] _
        have hb : Below w6.heap.size w6 (w6.alloc (.cells #[.int .i64 nu, .int .i64 nv] 45)) := hal.out w6
        replace E : Hid (Below w.heap.size w (w6.alloc (.cells #[.int .i64 nu, .int .i64 nv] 45))) := E.out.trans (hb.mono E.out.size)
        replace X1 := Lib.hid (X1.out.below hb X1.out.lt)
        replace X2 := Lib.hid (X2.out.below hb X2.out.lt)
        replace X3 := Lib.hid (X3.out.below hb X3.out.lt)
        replace M := Lib.hid (M.out.below hb)
        clear hb hal
        by_cases hne0 : ne = 0
        rotate_left
        · have tz : (ne == 0) = false := by simpa using hne0
          have hh := Lib.hid (hsN.out hne0)
          have hH := Lib.hid hne0
          clear hne0
          go_wp2_with (first | (refine wpList_row_store rfl 30 _ _ rfl [.int .i64 0, .slice none 0 0] rfl rfl X3.out size_clk rfl (oneC _ _ _ _) ?_; intro w9 hw9 ho9) | fail)
          exact bodyPost_ret (ret_cellK rfl _ w9 (g := w.heap.size + 1 + 1) _ rfl rfl hw9.out _ hunc.out rfl hszc.out) rfl ⟨⟨0, none, 0, 0, []⟩, ne, rfl, SyEnd.bad hh.out hH.out (E.out.trans (ho9.below (by omega)))⟩
        have hsE := Lib.hid (hsJ.out hne0)
        subst hne0
        clear hsN hsJ
        go_upto_region 13 with fail
        go_wp2_with (first | (refine wpList_blk_load rfl 45 _ rfl 1 rfl X2.out [.int .i64 a, .int .i64 b] rfl _ hunw.out rfl hszw.out ?_) | (refine wpList_blk_load rfl 45 _ rfl 0 rfl X5.out [_, _] rfl _ hunw.out rfl hszw.out ?_) | fail)
        refine (CJ.out _).mono ?_
        rintro e w7 ⟨rfl, hb⟩
        replace E : Hid (Below w.heap.size w w7) := E.out.trans (hb.mono E.out.size)
        replace X1 := Lib.hid (X1.out.below hb X1.out.lt)
        replace X2 := Lib.hid (X2.out.below hb X2.out.lt)
        replace X3 := Lib.hid (X3.out.below hb X3.out.lt)
        replace M := Lib.hid (M.out.below hb)
        clear hb CJ X5
        skip
        go_upto_region 14 with (refine wpList_blk_store rfl 45 _ _ rfl 1 (.agg #[.int .i64 ju, .int .i64 jv]) rfl rfl X2.out hszw.out (Nat.le_of_ble_eq_true rfl) (one_two _ _) ?_; intro w8 hw8 ho8)
        have Y2 : Hid (Blk w8 (w.heap.size + 1) [.int .i64 L, .int .i64 ju, .int .i64 jv] 48) := hw8.out
        have b8 : Hid (Below (w.heap.size + 1) w7 w8) := ho8.below (Nat.le_refl _)
        have Y1 : Hid (Blk w8 w.heap.size [.int .i64 rate, .slice A n c] 30) := X1.out.below b8.out (by omega)
        have Y3 : Hid (Blk w8 (w.heap.size + 1 + 1) [.int .i64 0, .slice none 0 0] 30) := by show Blk _ _ _ _; exact (ho8.block _ (by omega)).trans X3.out
        have M8 := Lib.hid (M.out.keep (b8.out.mono (by omega)))
        replace E : Hid (Below w.heap.size w w8) := E.out.trans (b8.out.mono (by omega))
        have s8 : Hid (w.heap.size + 3 ≤ w8.heap.size) := by show _ ≤ _; have := Y3.out.lt; omega
        clear hw8 ho8 b8 X1 X2 X3 M
        have X1 := Y1
        have X2 := Y2
        have X3 := Y3
        have M := M8
        clear Y1 Y2 Y3 M8
        by_cases hje0 : je = 0
        rotate_left
        · have tz : (je == 0) = false := by simpa using hje0
          have hH := Lib.hid hje0
          clear hje0
          go_wp2_with (first | (refine wpList_row_store rfl 30 _ _ rfl [.int .i64 0, .slice none 0 0] rfl rfl X3.out size_clk rfl (oneC _ _ _ _) ?_; intro w9 hw9 ho9) | fail)
          exact bodyPost_ret (ret_cellK rfl _ w9 (g := w.heap.size + 1 + 1) _ rfl rfl hw9.out _ hunc.out rfl hszc.out) rfl ⟨⟨0, none, 0, 0, []⟩, je, rfl, SyEnd.bad hsE.out hH.out (E.out.trans (ho9.below (by omega)))⟩
        have hoN := hsR.out hje0
        subst hje0
        have hsL := Lib.hid (hsyL.out hsE.out)
        clear hsR hsyL
        obtain ⟨hL1, hL2⟩ := hsL.out
        rw [hsn.out] at hL1 hoN
        have hoN' := Lib.hid hoN
        clear hsL hsn hoN
        have t16 : ((n : Int) == 16) = false := by have := hn0'.out; simp only [beq_eq_false_iff_ne, ne_eq]; omega
        have t16' : (n == 16) = false := by have := hn0'.out; simp only [beq_eq_false_iff_ne, ne_eq]; omega
        rw [if_neg (by have := hn0'.out; omega)] at hL1
        have hr2 : Hid (Rds w8 B A (rdf l)) := M.out.r
        have hn2 : Hid (n = l.length) := hn
        have hf2 : Hid (∀ x ∈ l, okR x = true) := k3'
        have CK := Lib.hid (fun W (hW : Below w8.heap.size w8 W) => cloneK_any (B := B) l A n c W hn2.out (hr2.out.below (hW.mono M.out.le)) (Nat.le_trans M.out.le hW.size) hcap.out.2.2 (by omega))
        go_upto_region 18 with fail
        have hlen2 : Hid (l.length ≤ 16) := by show _ ≤ _; have := hn2.out; omega
        have F0 : Hid (Below w8.heap.size w8 w8.drew) := (Below.refl _ _).drew
        have hS0 : Below (w.heap.size + 2) w8 w8.drew := (Below.refl _ _).drew
        have s8' := s8.out
        refine wp_region_planH (fun W => Below (w.heap.size + 2) w8 W) [0, 1, 2, 4] 6 (by kernel_rfl) (by kernel_rfl) (by kernel_rfl) (by kernel_rfl) (by intro c a d v w h; cases d <;> exact h) hS0 ?_
        change wpPlanH _ _ _ _ _ _ _ _ _ w8.drew
        have hne : Nonempty (SOf fun W => Below (w.heap.size + 2) w8 W) := ⟨⟨w8, Below.refl _ _⟩⟩
        have P0 : ∀ q : SOf (fun W => Below (w.heap.size + 2) w8 W), q.world.cell? ⟨w.heap.size, 0, none⟩ = some (.int .i64 rate) := fun q => (X1.out.below q.meets (by omega)).cell (j := 0) rfl
        iterate 3 (refine wpPlanH_plain rfl (fun K hK => ?_); go_simp; refine hK _ ?_; clear hK K)
        refine wpPlanH_runW rfl (by rfl) _ (fun q => load_run 48 _ rfl (w.heap.size + 1) 0 rfl [.int .i64 L, .int .i64 ju, .int .i64 jv] _ hunr.out rfl hszr.out q.world ((Blk.below X2.out q.meets (by omega)).range 0 _ (take_all0 _))) ?_
        clear hne P0 hS0
        have BX0 : Hid (Blk w8.drew (w.heap.size + 1 + 1) [.int .i64 0, .slice none 0 0] 30) := X3.out.drew
        generalize w8.drew = u0 at F0 BX0 ⊢
        refine wpAnyH_each (rs := [3, 5]) (by kernel_rfl) (by decide) (fun K hK i hi => ?_)
        simp only [List.mem_cons, List.not_mem_nil, or_false] at hi
        rcases hi with rfl | rfl
        · have hle0 : Hid (w8.heap.size ≤ u0.heap.size) := F0.out.size
          refine wpOp_listed rfl ?_
          go_wp2_with fail
          refine (CK.out u0 F0.out).mono ?_
          rintro e u1 ⟨vv, rfl, ho, hb⟩
          replace F0 : Hid (Below w8.heap.size w8 u1) := F0.out.trans (hb.mono F0.out.size)
          replace BX0 := Lib.hid (BX0.out.below hb BX0.out.lt)
          have HO : Hid (OwnK u1 w8.heap.size vv l) := ho.lower hle0.out
          clear ho
          go_wp2_with fail
          refine postH_normal (hK _ _ _ (F0.out.mono (by omega)) ?_)
          clear hK K hb hle0
          refine wpAnyH_each (rs := [5]) (by kernel_rfl) (by decide) (fun K hK i hi => ?_)
          obtain rfl := List.mem_singleton.1 hi
          refine wpOp_listed rfl ?_
          obtain ⟨gB, hgBe⟩ : ∃ x, x = u1.heap.size := ⟨_, rfl⟩
          have hb : Below u1.heap.size u1 (u1.alloc (.cells #[.int .i64 L, .int .i64 ju, .int .i64 jv] 48)) := (Below.refl _ _).alloc (Nat.le_refl _) _
          have RB : Hid (Rds (u1.alloc (.cells #[.int .i64 L, .int .i64 ju, .int .i64 jv] 48)) (gB + 1) (some ⟨gB, 0, none⟩) (rdf [⟨L, ju, jv⟩])) := by show Rds _ _ _ _; rw [hgBe]; exact Rds.new u1 [.int .i64 L, .int .i64 ju, .int .i64 jv] _
          have hgB : Hid (gB + 1 ≤ (u1.alloc (.cells #[.int .i64 L, .int .i64 ju, .int .i64 jv] 48)).heap.size) := by show _ ≤ _; rw [hgBe]; simp
          replace F0 : Hid (Below w8.heap.size w8 (u1.alloc (.cells #[.int .i64 L, .int .i64 ju, .int .i64 jv] 48))) := F0.out.trans (hb.mono F0.out.size)
          replace BX0 := Lib.hid (BX0.out.below hb BX0.out.lt)
          replace HO := Lib.hid (HO.out.keep hb)
          have hbs := run_build_rdg L ju jv u1
          rw [← hgBe] at hbs
          go_wp2_with (refine wpList_buildSlice_one rfl 28 _ rfl (.agg #[.int .i64 L, .int .i64 ju, .int .i64 jv]) _ rfl hbs ?_)
          refine postH_normal (hK _ _ _ (F0.out.mono (by omega)) ?_)
          clear hK K hb hgBe hbs
          generalize u1.alloc _ = u2 at *
          refine wpAnyH_each (rs := [6]) (by kernel_rfl) (by decide) (fun K hK i hi => ?_)
          obtain rfl := List.mem_singleton.1 hi
          refine wpOp_listed rfl ?_
          have hll : Hid (l.length + [(⟨L, ju, jv⟩ : Rdg)].length ≤ 1000000000000) := by show _ ≤ _; have := hlen2.out; simp; omega
          have hF := F0.out.size
          refine push_rdgs rfl _ _ rfl w8.heap.size _ l [⟨L, ju, jv⟩] (gB + 1) (some ⟨gB, 0, none⟩) 1 1 rfl (fun h => by cases h) rfl rfl RB.out HO.out hll.out hF ?_
          intro v' u5 ho5 hb5 hgr5 hob5
          obtain ⟨kk, hv', hkr, hkl, _, _⟩ := own_clk ho5 hrf'.out (by rw [List.length_append]; have := hlen2.out; simp; omega) (fun x hx => by rcases List.mem_append.1 hx with h | h; exact hf2.out x h; rw [List.mem_singleton.1 h]; exact hoN'.out)
          have F5 : Hid (Below w8.heap.size w8 u5) := F0.out.trans hb5
          have BX5 : Hid (Blk u5 (w.heap.size + 1 + 1) [.int .i64 0, .slice none 0 0] 30) := BX0.out.below hb5 (by omega)
          have HO5 := Lib.hid ho5
          rw [hv'] at HO5 ⊢
          have hkrH := Lib.hid hkr
          refine wpList_end (postH_normal (hK _ _ _ (F5.out.mono (by omega)) ?_))
          clear hK K ho5 hb5 hgr5 hob5 hv' hkl HO RB F0 BX0 hF hll hgB hkr
          refine wpAnyH_each (rs := [7]) (by kernel_rfl) (by decide) (fun K hK i hi => ?_)
          obtain rfl := List.mem_singleton.1 hi
          refine wpOp_listed rfl ?_
          go_wp2_with fail
          refine postH_normal (hK _ _ _ (F5.out.mono (by omega)) ?_)
          clear hK K
          refine wpAnyH_each (rs := [8]) (by kernel_rfl) (by decide) (fun K hK i hi => ?_)
          obtain rfl := List.mem_singleton.1 hi
          refine wpOp_listed rfl ?_
          refine wpList_row_store rfl 30 _ _ rfl [.int .i64 rate, .slice kk.A kk.n kk.c] rfl rfl BX5.out hszc.out rfl (oneC _ _ _ _) ?_
          intro u6 hw6 ho6
          have F6 : Hid (Below (w.heap.size + 2) w8 u6) := (F5.out.mono (by omega)).trans (ho6.below (Nat.le_refl _))
          have HO6 := Lib.hid (HO5.out.only ho6 (by omega))
          refine wpList_end (postH_normal (hK _ _ _ F6.out ?_))
          clear hK K
          refine wpAnyH_each (rs := [9]) (by kernel_rfl) (by decide) (fun K hK i hi => ?_)
          obtain rfl := List.mem_singleton.1 hi
          refine wpOp_listed rfl ?_
          go_wp2_with fail
          refine postH_normal (hK _ _ _ F6.out ?_)
          clear hK K
          refine wpAnyH_done (by kernel_rfl) ?_ _
          go_wp2_with fail
          obtain ⟨k2, hv2, hr2', hl2, ha2, m2⟩ := own_clk HO6.out hrf'.out (by rw [List.length_append]; have := hlen2.out; simp; omega) (fun x hx => by rcases List.mem_append.1 hx with h | h; exact hf2.out x h; rw [List.mem_singleton.1 h]; exact hoN'.out)
          exact bodyPost_ret (ret_cellK rfl _ u6 (g := w.heap.size + 1 + 1) _ rfl rfl hw6.out _ hunc.out rfl hszc.out) rfl ⟨k2, 0, by rw [hr2', ← hv2]; rfl, ⟨by rw [hr2', hL2], by rw [hl2, hL1], hsE.out.symm, m2, (fun ad h => Nat.le_trans E.out.size (ha2 ad h)), E.out.trans (F6.out.mono (by omega))⟩⟩
        · skip
          refine wpOp_listed rfl ?_
          obtain ⟨gB, hgBe⟩ : ∃ x, x = u0.heap.size := ⟨_, rfl⟩
          have hb : Below u0.heap.size u0 (u0.alloc (.cells #[.int .i64 L, .int .i64 ju, .int .i64 jv] 48)) := (Below.refl _ _).alloc (Nat.le_refl _) _
          have RB : Hid (Rds (u0.alloc (.cells #[.int .i64 L, .int .i64 ju, .int .i64 jv] 48)) (gB + 1) (some ⟨gB, 0, none⟩) (rdf [⟨L, ju, jv⟩])) := by show Rds _ _ _ _; rw [hgBe]; exact Rds.new u0 [.int .i64 L, .int .i64 ju, .int .i64 jv] _
          have hgB : Hid (gB + 1 ≤ (u0.alloc (.cells #[.int .i64 L, .int .i64 ju, .int .i64 jv] 48)).heap.size) := by show _ ≤ _; rw [hgBe]; simp
          replace F0 : Hid (Below w8.heap.size w8 (u0.alloc (.cells #[.int .i64 L, .int .i64 ju, .int .i64 jv] 48))) := F0.out.trans (hb.mono F0.out.size)
          replace BX0 := Lib.hid (BX0.out.below hb BX0.out.lt)
          have hbs := run_build_rdg L ju jv u0
          rw [← hgBe] at hbs
          go_wp2_with (refine wpList_buildSlice_one rfl 28 _ rfl (.agg #[.int .i64 L, .int .i64 ju, .int .i64 jv]) _ rfl hbs ?_)
          refine postH_normal (hK _ _ _ (F0.out.mono (by omega)) ?_)
          clear hK K hb hgBe hbs
          generalize u0.alloc _ = u1 at *
          have hle0 : Hid (w8.heap.size ≤ u1.heap.size) := F0.out.size
          refine wpAnyH_each (rs := [3]) (by kernel_rfl) (by decide) (fun K hK i hi => ?_)
          obtain rfl := List.mem_singleton.1 hi
          refine wpOp_listed rfl ?_
          go_wp2_with fail
          refine (CK.out u1 F0.out).mono ?_
          rintro e u2 ⟨vv, rfl, ho, hb⟩
          replace F0 : Hid (Below w8.heap.size w8 u2) := F0.out.trans (hb.mono F0.out.size)
          replace BX0 := Lib.hid (BX0.out.below hb BX0.out.lt)
          have HO : Hid (OwnK u2 w8.heap.size vv l) := ho.lower hle0.out
          replace RB := Lib.hid (RB.out.below (hb.mono hgB.out))
          replace hgB : Hid (gB + 1 ≤ u2.heap.size) := Nat.le_trans hgB.out hb.size
          clear ho
          go_wp2_with fail
          refine postH_normal (hK _ _ _ (F0.out.mono (by omega)) ?_)
          clear hK K hb hle0
          refine wpAnyH_each (rs := [6]) (by kernel_rfl) (by decide) (fun K hK i hi => ?_)
          obtain rfl := List.mem_singleton.1 hi
          refine wpOp_listed rfl ?_
          have hll : Hid (l.length + [(⟨L, ju, jv⟩ : Rdg)].length ≤ 1000000000000) := by show _ ≤ _; have := hlen2.out; simp; omega
          have hF := F0.out.size
          refine push_rdgs rfl _ _ rfl w8.heap.size _ l [⟨L, ju, jv⟩] (gB + 1) (some ⟨gB, 0, none⟩) 1 1 rfl (fun h => by cases h) rfl rfl RB.out HO.out hll.out hF ?_
          intro v' u5 ho5 hb5 hgr5 hob5
          obtain ⟨kk, hv', hkr, hkl, _, _⟩ := own_clk ho5 hrf'.out (by rw [List.length_append]; have := hlen2.out; simp; omega) (fun x hx => by rcases List.mem_append.1 hx with h | h; exact hf2.out x h; rw [List.mem_singleton.1 h]; exact hoN'.out)
          have F5 : Hid (Below w8.heap.size w8 u5) := F0.out.trans hb5
          have BX5 : Hid (Blk u5 (w.heap.size + 1 + 1) [.int .i64 0, .slice none 0 0] 30) := BX0.out.below hb5 (by omega)
          have HO5 := Lib.hid ho5
          rw [hv'] at HO5 ⊢
          have hkrH := Lib.hid hkr
          refine wpList_end (postH_normal (hK _ _ _ (F5.out.mono (by omega)) ?_))
          clear hK K ho5 hb5 hgr5 hob5 hv' hkl HO RB F0 BX0 hF hll hgB hkr
          refine wpAnyH_each (rs := [7]) (by kernel_rfl) (by decide) (fun K hK i hi => ?_)
          obtain rfl := List.mem_singleton.1 hi
          refine wpOp_listed rfl ?_
          go_wp2_with fail
          refine postH_normal (hK _ _ _ (F5.out.mono (by omega)) ?_)
          clear hK K
          refine wpAnyH_each (rs := [8]) (by kernel_rfl) (by decide) (fun K hK i hi => ?_)
          obtain rfl := List.mem_singleton.1 hi
          refine wpOp_listed rfl ?_
          refine wpList_row_store rfl 30 _ _ rfl [.int .i64 rate, .slice kk.A kk.n kk.c] rfl rfl BX5.out hszc.out rfl (oneC _ _ _ _) ?_
          intro u6 hw6 ho6
          have F6 : Hid (Below (w.heap.size + 2) w8 u6) := (F5.out.mono (by omega)).trans (ho6.below (Nat.le_refl _))
          have HO6 := Lib.hid (HO5.out.only ho6 (by omega))
          refine wpList_end (postH_normal (hK _ _ _ F6.out ?_))
          clear hK K
          refine wpAnyH_each (rs := [9]) (by kernel_rfl) (by decide) (fun K hK i hi => ?_)
          obtain rfl := List.mem_singleton.1 hi
          refine wpOp_listed rfl ?_
          go_wp2_with fail
          refine postH_normal (hK _ _ _ F6.out ?_)
          clear hK K
          refine wpAnyH_done (by kernel_rfl) ?_ _
          go_wp2_with fail
          obtain ⟨k2, hv2, hr2', hl2, ha2, m2⟩ := own_clk HO6.out hrf'.out (by rw [List.length_append]; have := hlen2.out; simp; omega) (fun x hx => by rcases List.mem_append.1 hx with h | h; exact hf2.out x h; rw [List.mem_singleton.1 h]; exact hoN'.out)
          exact bodyPost_ret (ret_cellK rfl _ u6 (g := w.heap.size + 1 + 1) _ rfl rfl hw6.out _ hunc.out rfl hszc.out) rfl ⟨k2, 0, by rw [hr2', ← hv2]; rfl, ⟨by rw [hr2', hL2], by rw [hl2, hL1], hsE.out.symm, m2, (fun ad h => Nat.le_trans E.out.size (ha2 ad h)), E.out.trans (F6.out.mono (by omega))⟩⟩
      · have hjn := Lib.hid hjn0
        have hdH := Lib.hid hd
        clear hlast hjn0 hd
        go_enter Try.func12, Try.ntmps12
        go_upto_region 1 with fail
        generalize hgg : ((w.alloc _).alloc _).alloc _ = Wg
        have hgW : W2 = Wg := by rw [← hgg, hW2'.out]
        clear hgg hW2'
        subst hgW
        go_wp2_with (refine wpList_blk_load rfl 30 _ rfl 0 rfl X1.out [_, _] rfl _ hunc.out rfl hszc.out ?_)
        refine (CC.out _ M.out).mono ?_
        rintro e w3 ⟨rfl, hb⟩
        replace E : Hid (Below w.heap.size w w3) := E.out.trans (hb.mono E.out.size)
        replace X1 := Lib.hid (X1.out.below hb X1.out.lt)
        replace X2 := Lib.hid (X2.out.below hb X2.out.lt)
        replace X3 := Lib.hid (X3.out.below hb X3.out.lt)
        replace M := Lib.hid (M.out.below hb)
        clear hb CC
        have p1 := X1.out.cell (j := 1) rfl
        go_wp2_with (refine wpList_blk_load rfl 48 _ rfl 0 rfl X2.out [_, _, _] rfl _ hunr.out rfl hszr.out ?_)
        refine (CR.out _).mono ?_
        rintro e w4 ⟨rfl, hb⟩
        replace E : Hid (Below w.heap.size w w4) := E.out.trans (hb.mono E.out.size)
        replace X1 := Lib.hid (X1.out.below hb X1.out.lt)
        replace X2 := Lib.hid (X2.out.below hb X2.out.lt)
        replace X3 := Lib.hid (X3.out.below hb X3.out.lt)
        replace M := Lib.hid (M.out.below hb)
        clear hb p1 CR
        have p2 := X2.out.cell (j := 0) rfl
        obtain ⟨ad, hA, hbb, hcl0⟩ := M.out.rd3 hlz
        dsimp only at hA
        have hA' := Lib.hid hA
        subst hA
        have c0 : w4.cell? (ad.add (j * 3)) = some (.int .i64 z.L) := by
          have := hcl0 0 _ rfl
          rw [add_twice] at this
          exact this
        have hjn0 := hjn.out
        have e1 : (n : Int) - 1 = (j : Int) := by omega
        have hw1 : IntKind.i64.wrap ((n : Int) - 1) = (j : Int) := by rw [IntKind.wrap_i64]; omega
        have j0 : 0 ≤ (j : Int) := by omega
        have j1 : (j : Int) < (n : Int) := by omega
        have b3 : decide (0 < (n : Int)) = true := decide_eq_true (by omega)
        have b4 : decide (0 < n) = true := decide_eq_true (by omega)
        have b3' : (0 : Int) < (n : Int) := by omega
        clear hcl0 hbb hA' hlz hjn0
        have tb : decide (L ≤ z.L) = false := hdH.out.symm
        have tb' : ¬ L ≤ z.L := of_decide_eq_false tb
        go_wp2_with fail
        go_quiet (fail)
        generalize hq : w4.drewN _ = w5
        have hb : Below w4.heap.size w4 w5 := by rw [← hq]; exact below_drewN (Below.refl _ _) _
        replace E : Hid (Below w.heap.size w w5) := E.out.trans (hb.mono E.out.size)
        replace X1 := Lib.hid (X1.out.below hb X1.out.lt)
        replace X2 := Lib.hid (X2.out.below hb X2.out.lt)
        replace X3 := Lib.hid (X3.out.below hb X3.out.lt)
        replace M := Lib.hid (M.out.below hb)
        clear hb hq p2
        clear c0
        skip
        have p2 := X2.out.cell (j := 0) rfl
        have hal : Hid (∀ W : World, Below W.heap.size W (W.alloc (.cells #[.int .i64 nu, .int .i64 nv] 45))) := fun W => (Below.refl _ _).alloc (Nat.le_refl _) _
        go_upto_region 10 with fail
        go_wp2_with (refine wpList_blk_load rfl 30 _ rfl 0 rfl X1.out [_, _] rfl _ hunc.out rfl hszc.out ?_)
        refine (CN.out _ M.out).mono ?_
        rintro e w6 ⟨rfl, hb⟩
        replace E : Hid (Below w.heap.size w w6) := E.out.trans (hb.mono E.out.size)
        replace X1 := Lib.hid (X1.out.below hb X1.out.lt)
        replace X2 := Lib.hid (X2.out.below hb X2.out.lt)
        replace X3 := Lib.hid (X3.out.below hb X3.out.lt)
        replace M := Lib.hid (M.out.below hb)
        clear hb CN p2
        have X5 : Hid (Blk (w6.alloc (.cells #[.int .i64 nu, .int .i64 nv] 45)) w6.heap.size [.int .i64 nu, .int .i64 nv] 45) := Blk.new w6 [_, _] _
        have hb : Below w6.heap.size w6 (w6.alloc (.cells #[.int .i64 nu, .int .i64 nv] 45)) := hal.out w6
        replace E : Hid (Below w.heap.size w (w6.alloc (.cells #[.int .i64 nu, .int .i64 nv] 45))) := E.out.trans (hb.mono E.out.size)
        replace X1 := Lib.hid (X1.out.below hb X1.out.lt)
        replace X2 := Lib.hid (X2.out.below hb X2.out.lt)
        replace X3 := Lib.hid (X3.out.below hb X3.out.lt)
        replace M := Lib.hid (M.out.below hb)
        clear hb hal
        by_cases hne0 : ne = 0
        rotate_left
        · have tz : (ne == 0) = false := by simpa using hne0
          have hh := Lib.hid (hsN.out hne0)
          have hH := Lib.hid hne0
          clear hne0
          go_wp2_with (first | (refine wpList_row_store rfl 30 _ _ rfl [.int .i64 0, .slice none 0 0] rfl rfl X3.out size_clk rfl (oneC _ _ _ _) ?_; intro w9 hw9 ho9) | fail)
          exact bodyPost_ret (ret_cellK rfl _ w9 (g := w.heap.size + 1 + 1) _ rfl rfl hw9.out _ hunc.out rfl hszc.out) rfl ⟨⟨0, none, 0, 0, []⟩, ne, rfl, SyEnd.bad hh.out hH.out (E.out.trans (ho9.below (by omega)))⟩
        have hsE := Lib.hid (hsJ.out hne0)
        subst hne0
        clear hsN hsJ
        go_upto_region 13 with fail
        go_wp2_with (first | (refine wpList_blk_load rfl 45 _ rfl 1 rfl X2.out [.int .i64 a, .int .i64 b] rfl _ hunw.out rfl hszw.out ?_) | (refine wpList_blk_load rfl 45 _ rfl 0 rfl X5.out [_, _] rfl _ hunw.out rfl hszw.out ?_) | fail)
        refine (CJ.out _).mono ?_
        rintro e w7 ⟨rfl, hb⟩
        replace E : Hid (Below w.heap.size w w7) := E.out.trans (hb.mono E.out.size)
        replace X1 := Lib.hid (X1.out.below hb X1.out.lt)
        replace X2 := Lib.hid (X2.out.below hb X2.out.lt)
        replace X3 := Lib.hid (X3.out.below hb X3.out.lt)
        replace M := Lib.hid (M.out.below hb)
        clear hb CJ X5
        skip
        go_upto_region 14 with (refine wpList_blk_store rfl 45 _ _ rfl 1 (.agg #[.int .i64 ju, .int .i64 jv]) rfl rfl X2.out hszw.out (Nat.le_of_ble_eq_true rfl) (one_two _ _) ?_; intro w8 hw8 ho8)
        have Y2 : Hid (Blk w8 (w.heap.size + 1) [.int .i64 L, .int .i64 ju, .int .i64 jv] 48) := hw8.out
        have b8 : Hid (Below (w.heap.size + 1) w7 w8) := ho8.below (Nat.le_refl _)
        have Y1 : Hid (Blk w8 w.heap.size [.int .i64 rate, .slice (some ad) n c] 30) := X1.out.below b8.out (by omega)
        have Y3 : Hid (Blk w8 (w.heap.size + 1 + 1) [.int .i64 0, .slice none 0 0] 30) := by show Blk _ _ _ _; exact (ho8.block _ (by omega)).trans X3.out
        have M8 := Lib.hid (M.out.keep (b8.out.mono (by omega)))
        replace E : Hid (Below w.heap.size w w8) := E.out.trans (b8.out.mono (by omega))
        have s8 : Hid (w.heap.size + 3 ≤ w8.heap.size) := by show _ ≤ _; have := Y3.out.lt; omega
        clear hw8 ho8 b8 X1 X2 X3 M
        have X1 := Y1
        have X2 := Y2
        have X3 := Y3
        have M := M8
        clear Y1 Y2 Y3 M8
        by_cases hje0 : je = 0
        rotate_left
        · have tz : (je == 0) = false := by simpa using hje0
          have hH := Lib.hid hje0
          clear hje0
          go_wp2_with (first | (refine wpList_row_store rfl 30 _ _ rfl [.int .i64 0, .slice none 0 0] rfl rfl X3.out size_clk rfl (oneC _ _ _ _) ?_; intro w9 hw9 ho9) | fail)
          exact bodyPost_ret (ret_cellK rfl _ w9 (g := w.heap.size + 1 + 1) _ rfl rfl hw9.out _ hunc.out rfl hszc.out) rfl ⟨⟨0, none, 0, 0, []⟩, je, rfl, SyEnd.bad hsE.out hH.out (E.out.trans (ho9.below (by omega)))⟩
        have hoN := hsR.out hje0
        subst hje0
        have hsL := Lib.hid (hsyL.out hsE.out)
        clear hsR hsyL
        obtain ⟨hL1, hL2⟩ := hsL.out
        rw [hsn.out] at hL1 hoN
        have hoN' := Lib.hid hoN
        clear hsL hsn hoN
        by_cases h16e : n = 16
        · subst h16e
          rw [if_pos rfl] at hL1
          obtain ⟨L2, hL2e⟩ : ∃ L2, L2 = l.drop 1 := ⟨_, rfl⟩
          have hc16 : 16 ≤ c := hcap.out.1
          have hcn : ¬ c = 1 := by omega
          have hadd : ad.add 3 = ⟨ad.block, ad.off + 3, none⟩ := by unfold Addr.add; simp
          have hr2 : Hid (Rds w8 B (some ⟨ad.block, ad.off + 3, none⟩) (rdf L2)) := by
            have := rds_rest (c := c) M.out.r (by have := hn.out; show l.length ≤ c; omega)
            rw [if_neg hcn] at this
            show Rds _ _ _ _
            rw [hL2e, ← hadd]
            exact this
          have hn2 : Hid (15 = L2.length) := by show _ = _; rw [hL2e, List.length_drop, ← hn.out]
          have hf2 : Hid (∀ x ∈ L2, okR x = true) := fun x hx => k3'.out x (List.mem_of_mem_drop (by rw [← hL2e]; exact hx))
          rw [← hL2e] at hL1
          clear hL2e hadd hcn
          have CK := Lib.hid (fun W (hW : Below w8.heap.size w8 W) => cloneK_any (B := B) L2 (some ⟨ad.block, ad.off + 3, none⟩) 15 (c - 1) W hn2.out (hr2.out.below (hW.mono M.out.le)) (Nat.le_trans M.out.le hW.size) (fun hh => by cases hh) (by omega))
          go_upto_region 18 with fail
          have hlen2 : Hid (L2.length ≤ 16) := by show _ ≤ _; have := hn2.out; omega
          have F0 : Hid (Below w8.heap.size w8 w8.drew) := (Below.refl _ _).drew
          have hS0 : Below (w.heap.size + 2) w8 w8.drew := (Below.refl _ _).drew
          have s8' := s8.out
          refine wp_region_planH (fun W => Below (w.heap.size + 2) w8 W) [0, 1, 2, 4] 6 (by kernel_rfl) (by kernel_rfl) (by kernel_rfl) (by kernel_rfl) (by intro c a d v w h; cases d <;> exact h) hS0 ?_
          change wpPlanH _ _ _ _ _ _ _ _ _ w8.drew
          have hne : Nonempty (SOf fun W => Below (w.heap.size + 2) w8 W) := ⟨⟨w8, Below.refl _ _⟩⟩
          have P0 : ∀ q : SOf (fun W => Below (w.heap.size + 2) w8 W), q.world.cell? ⟨w.heap.size, 0, none⟩ = some (.int .i64 rate) := fun q => (X1.out.below q.meets (by omega)).cell (j := 0) rfl
          iterate 3 (refine wpPlanH_plain rfl (fun K hK => ?_); go_simp; refine hK _ ?_; clear hK K)
          refine wpPlanH_runW rfl (by rfl) _ (fun q => load_run 48 _ rfl (w.heap.size + 1) 0 rfl [.int .i64 L, .int .i64 ju, .int .i64 jv] _ hunr.out rfl hszr.out q.world ((Blk.below X2.out q.meets (by omega)).range 0 _ (take_all0 _))) ?_
          clear hne P0 hS0
          have BX0 : Hid (Blk w8.drew (w.heap.size + 1 + 1) [.int .i64 0, .slice none 0 0] 30) := X3.out.drew
          generalize w8.drew = u0 at F0 BX0 ⊢
          refine wpAnyH_each (rs := [3, 5]) (by kernel_rfl) (by decide) (fun K hK i hi => ?_)
          simp only [List.mem_cons, List.not_mem_nil, or_false] at hi
          rcases hi with rfl | rfl
          · have hle0 : Hid (w8.heap.size ≤ u0.heap.size) := F0.out.size
            refine wpOp_listed rfl ?_
            go_wp2_with fail
            refine (CK.out u0 F0.out).mono ?_
            rintro e u1 ⟨vv, rfl, ho, hb⟩
            replace F0 : Hid (Below w8.heap.size w8 u1) := F0.out.trans (hb.mono F0.out.size)
            replace BX0 := Lib.hid (BX0.out.below hb BX0.out.lt)
            have HO : Hid (OwnK u1 w8.heap.size vv L2) := ho.lower hle0.out
            clear ho
            go_wp2_with fail
            refine postH_normal (hK _ _ _ (F0.out.mono (by omega)) ?_)
            clear hK K hb hle0
            refine wpAnyH_each (rs := [5]) (by kernel_rfl) (by decide) (fun K hK i hi => ?_)
            obtain rfl := List.mem_singleton.1 hi
            refine wpOp_listed rfl ?_
            obtain ⟨gB, hgBe⟩ : ∃ x, x = u1.heap.size := ⟨_, rfl⟩
            have hb : Below u1.heap.size u1 (u1.alloc (.cells #[.int .i64 L, .int .i64 ju, .int .i64 jv] 48)) := (Below.refl _ _).alloc (Nat.le_refl _) _
            have RB : Hid (Rds (u1.alloc (.cells #[.int .i64 L, .int .i64 ju, .int .i64 jv] 48)) (gB + 1) (some ⟨gB, 0, none⟩) (rdf [⟨L, ju, jv⟩])) := by show Rds _ _ _ _; rw [hgBe]; exact Rds.new u1 [.int .i64 L, .int .i64 ju, .int .i64 jv] _
            have hgB : Hid (gB + 1 ≤ (u1.alloc (.cells #[.int .i64 L, .int .i64 ju, .int .i64 jv] 48)).heap.size) := by show _ ≤ _; rw [hgBe]; simp
            replace F0 : Hid (Below w8.heap.size w8 (u1.alloc (.cells #[.int .i64 L, .int .i64 ju, .int .i64 jv] 48))) := F0.out.trans (hb.mono F0.out.size)
            replace BX0 := Lib.hid (BX0.out.below hb BX0.out.lt)
            replace HO := Lib.hid (HO.out.keep hb)
            have hbs := run_build_rdg L ju jv u1
            rw [← hgBe] at hbs
            go_wp2_with (refine wpList_buildSlice_one rfl 28 _ rfl (.agg #[.int .i64 L, .int .i64 ju, .int .i64 jv]) _ rfl hbs ?_)
            refine postH_normal (hK _ _ _ (F0.out.mono (by omega)) ?_)
            clear hK K hb hgBe hbs
            generalize u1.alloc _ = u2 at *
            refine wpAnyH_each (rs := [6]) (by kernel_rfl) (by decide) (fun K hK i hi => ?_)
            obtain rfl := List.mem_singleton.1 hi
            refine wpOp_listed rfl ?_
            have hll : Hid (L2.length + [(⟨L, ju, jv⟩ : Rdg)].length ≤ 1000000000000) := by show _ ≤ _; have := hlen2.out; simp; omega
            have hF := F0.out.size
            refine push_rdgs rfl _ _ rfl w8.heap.size _ L2 [⟨L, ju, jv⟩] (gB + 1) (some ⟨gB, 0, none⟩) 1 1 rfl (fun h => by cases h) rfl rfl RB.out HO.out hll.out hF ?_
            intro v' u5 ho5 hb5 hgr5 hob5
            obtain ⟨kk, hv', hkr, hkl, _, _⟩ := own_clk ho5 hrf'.out (by rw [List.length_append]; have := hlen2.out; simp; omega) (fun x hx => by rcases List.mem_append.1 hx with h | h; exact hf2.out x h; rw [List.mem_singleton.1 h]; exact hoN'.out)
            have F5 : Hid (Below w8.heap.size w8 u5) := F0.out.trans hb5
            have BX5 : Hid (Blk u5 (w.heap.size + 1 + 1) [.int .i64 0, .slice none 0 0] 30) := BX0.out.below hb5 (by omega)
            have HO5 := Lib.hid ho5
            rw [hv'] at HO5 ⊢
            have hkrH := Lib.hid hkr
            refine wpList_end (postH_normal (hK _ _ _ (F5.out.mono (by omega)) ?_))
            clear hK K ho5 hb5 hgr5 hob5 hv' hkl HO RB F0 BX0 hF hll hgB hkr
            refine wpAnyH_each (rs := [7]) (by kernel_rfl) (by decide) (fun K hK i hi => ?_)
            obtain rfl := List.mem_singleton.1 hi
            refine wpOp_listed rfl ?_
            go_wp2_with fail
            refine postH_normal (hK _ _ _ (F5.out.mono (by omega)) ?_)
            clear hK K
            refine wpAnyH_each (rs := [8]) (by kernel_rfl) (by decide) (fun K hK i hi => ?_)
            obtain rfl := List.mem_singleton.1 hi
            refine wpOp_listed rfl ?_
            refine wpList_row_store rfl 30 _ _ rfl [.int .i64 rate, .slice kk.A kk.n kk.c] rfl rfl BX5.out hszc.out rfl (oneC _ _ _ _) ?_
            intro u6 hw6 ho6
            have F6 : Hid (Below (w.heap.size + 2) w8 u6) := (F5.out.mono (by omega)).trans (ho6.below (Nat.le_refl _))
            have HO6 := Lib.hid (HO5.out.only ho6 (by omega))
            refine wpList_end (postH_normal (hK _ _ _ F6.out ?_))
            clear hK K
            refine wpAnyH_each (rs := [9]) (by kernel_rfl) (by decide) (fun K hK i hi => ?_)
            obtain rfl := List.mem_singleton.1 hi
            refine wpOp_listed rfl ?_
            go_wp2_with fail
            refine postH_normal (hK _ _ _ F6.out ?_)
            clear hK K
            refine wpAnyH_done (by kernel_rfl) ?_ _
            go_wp2_with fail
            obtain ⟨k2, hv2, hr2', hl2, ha2, m2⟩ := own_clk HO6.out hrf'.out (by rw [List.length_append]; have := hlen2.out; simp; omega) (fun x hx => by rcases List.mem_append.1 hx with h | h; exact hf2.out x h; rw [List.mem_singleton.1 h]; exact hoN'.out)
            exact bodyPost_ret (ret_cellK rfl _ u6 (g := w.heap.size + 1 + 1) _ rfl rfl hw6.out _ hunc.out rfl hszc.out) rfl ⟨k2, 0, by rw [hr2', ← hv2]; rfl, ⟨by rw [hr2', hL2], by rw [hl2, hL1], hsE.out.symm, m2, (fun ad h => Nat.le_trans E.out.size (ha2 ad h)), E.out.trans (F6.out.mono (by omega))⟩⟩
          · skip
            refine wpOp_listed rfl ?_
            obtain ⟨gB, hgBe⟩ : ∃ x, x = u0.heap.size := ⟨_, rfl⟩
            have hb : Below u0.heap.size u0 (u0.alloc (.cells #[.int .i64 L, .int .i64 ju, .int .i64 jv] 48)) := (Below.refl _ _).alloc (Nat.le_refl _) _
            have RB : Hid (Rds (u0.alloc (.cells #[.int .i64 L, .int .i64 ju, .int .i64 jv] 48)) (gB + 1) (some ⟨gB, 0, none⟩) (rdf [⟨L, ju, jv⟩])) := by show Rds _ _ _ _; rw [hgBe]; exact Rds.new u0 [.int .i64 L, .int .i64 ju, .int .i64 jv] _
            have hgB : Hid (gB + 1 ≤ (u0.alloc (.cells #[.int .i64 L, .int .i64 ju, .int .i64 jv] 48)).heap.size) := by show _ ≤ _; rw [hgBe]; simp
            replace F0 : Hid (Below w8.heap.size w8 (u0.alloc (.cells #[.int .i64 L, .int .i64 ju, .int .i64 jv] 48))) := F0.out.trans (hb.mono F0.out.size)
            replace BX0 := Lib.hid (BX0.out.below hb BX0.out.lt)
            have hbs := run_build_rdg L ju jv u0
            rw [← hgBe] at hbs
            go_wp2_with (refine wpList_buildSlice_one rfl 28 _ rfl (.agg #[.int .i64 L, .int .i64 ju, .int .i64 jv]) _ rfl hbs ?_)
            refine postH_normal (hK _ _ _ (F0.out.mono (by omega)) ?_)
            clear hK K hb hgBe hbs
            generalize u0.alloc _ = u1 at *
            have hle0 : Hid (w8.heap.size ≤ u1.heap.size) := F0.out.size
            refine wpAnyH_each (rs := [3]) (by kernel_rfl) (by decide) (fun K hK i hi => ?_)
            obtain rfl := List.mem_singleton.1 hi
            refine wpOp_listed rfl ?_
            go_wp2_with fail
            refine (CK.out u1 F0.out).mono ?_
            rintro e u2 ⟨vv, rfl, ho, hb⟩
            replace F0 : Hid (Below w8.heap.size w8 u2) := F0.out.trans (hb.mono F0.out.size)
            replace BX0 := Lib.hid (BX0.out.below hb BX0.out.lt)
            have HO : Hid (OwnK u2 w8.heap.size vv L2) := ho.lower hle0.out
            replace RB := Lib.hid (RB.out.below (hb.mono hgB.out))
            replace hgB : Hid (gB + 1 ≤ u2.heap.size) := Nat.le_trans hgB.out hb.size
            clear ho
            go_wp2_with fail
            refine postH_normal (hK _ _ _ (F0.out.mono (by omega)) ?_)
            clear hK K hb hle0
            refine wpAnyH_each (rs := [6]) (by kernel_rfl) (by decide) (fun K hK i hi => ?_)
            obtain rfl := List.mem_singleton.1 hi
            refine wpOp_listed rfl ?_
            have hll : Hid (L2.length + [(⟨L, ju, jv⟩ : Rdg)].length ≤ 1000000000000) := by show _ ≤ _; have := hlen2.out; simp; omega
            have hF := F0.out.size
            refine push_rdgs rfl _ _ rfl w8.heap.size _ L2 [⟨L, ju, jv⟩] (gB + 1) (some ⟨gB, 0, none⟩) 1 1 rfl (fun h => by cases h) rfl rfl RB.out HO.out hll.out hF ?_
            intro v' u5 ho5 hb5 hgr5 hob5
            obtain ⟨kk, hv', hkr, hkl, _, _⟩ := own_clk ho5 hrf'.out (by rw [List.length_append]; have := hlen2.out; simp; omega) (fun x hx => by rcases List.mem_append.1 hx with h | h; exact hf2.out x h; rw [List.mem_singleton.1 h]; exact hoN'.out)
            have F5 : Hid (Below w8.heap.size w8 u5) := F0.out.trans hb5
            have BX5 : Hid (Blk u5 (w.heap.size + 1 + 1) [.int .i64 0, .slice none 0 0] 30) := BX0.out.below hb5 (by omega)
            have HO5 := Lib.hid ho5
            rw [hv'] at HO5 ⊢
            have hkrH := Lib.hid hkr
            refine wpList_end (postH_normal (hK _ _ _ (F5.out.mono (by omega)) ?_))
            clear hK K ho5 hb5 hgr5 hob5 hv' hkl HO RB F0 BX0 hF hll hgB hkr
            refine wpAnyH_each (rs := [7]) (by kernel_rfl) (by decide) (fun K hK i hi => ?_)
            obtain rfl := List.mem_singleton.1 hi
            refine wpOp_listed rfl ?_
            go_wp2_with fail
            refine postH_normal (hK _ _ _ (F5.out.mono (by omega)) ?_)
            clear hK K
            refine wpAnyH_each (rs := [8]) (by kernel_rfl) (by decide) (fun K hK i hi => ?_)
            obtain rfl := List.mem_singleton.1 hi
            refine wpOp_listed rfl ?_
            refine wpList_row_store rfl 30 _ _ rfl [.int .i64 rate, .slice kk.A kk.n kk.c] rfl rfl BX5.out hszc.out rfl (oneC _ _ _ _) ?_
            intro u6 hw6 ho6
            have F6 : Hid (Below (w.heap.size + 2) w8 u6) := (F5.out.mono (by omega)).trans (ho6.below (Nat.le_refl _))
            have HO6 := Lib.hid (HO5.out.only ho6 (by omega))
            refine wpList_end (postH_normal (hK _ _ _ F6.out ?_))
            clear hK K
            refine wpAnyH_each (rs := [9]) (by kernel_rfl) (by decide) (fun K hK i hi => ?_)
            obtain rfl := List.mem_singleton.1 hi
            refine wpOp_listed rfl ?_
            go_wp2_with fail
            refine postH_normal (hK _ _ _ F6.out ?_)
            clear hK K
            refine wpAnyH_done (by kernel_rfl) ?_ _
            go_wp2_with fail
            obtain ⟨k2, hv2, hr2', hl2, ha2, m2⟩ := own_clk HO6.out hrf'.out (by rw [List.length_append]; have := hlen2.out; simp; omega) (fun x hx => by rcases List.mem_append.1 hx with h | h; exact hf2.out x h; rw [List.mem_singleton.1 h]; exact hoN'.out)
            exact bodyPost_ret (ret_cellK rfl _ u6 (g := w.heap.size + 1 + 1) _ rfl rfl hw6.out _ hunc.out rfl hszc.out) rfl ⟨k2, 0, by rw [hr2', ← hv2]; rfl, ⟨by rw [hr2', hL2], by rw [hl2, hL1], hsE.out.symm, m2, (fun ad h => Nat.le_trans E.out.size (ha2 ad h)), E.out.trans (F6.out.mono (by omega))⟩⟩
        have t16 : ((n : Int) == 16) = false := by simp only [beq_eq_false_iff_ne, ne_eq]; omega
        have t16' : (n == 16) = false := by simp only [beq_eq_false_iff_ne, ne_eq]; exact h16e
        rw [if_neg h16e] at hL1
        have hr2 : Hid (Rds w8 B (some ad) (rdf l)) := M.out.r
        have hn2 : Hid (n = l.length) := hn
        have hf2 : Hid (∀ x ∈ l, okR x = true) := k3'
        have CK := Lib.hid (fun W (hW : Below w8.heap.size w8 W) => cloneK_any (B := B) l (some ad) n c W hn2.out (hr2.out.below (hW.mono M.out.le)) (Nat.le_trans M.out.le hW.size) (fun hh => by cases hh) (by omega))
        go_upto_region 18 with fail
        have hlen2 : Hid (l.length ≤ 16) := by show _ ≤ _; have := hn2.out; omega
        have F0 : Hid (Below w8.heap.size w8 w8.drew) := (Below.refl _ _).drew
        have hS0 : Below (w.heap.size + 2) w8 w8.drew := (Below.refl _ _).drew
        have s8' := s8.out
        refine wp_region_planH (fun W => Below (w.heap.size + 2) w8 W) [0, 1, 2, 4] 6 (by kernel_rfl) (by kernel_rfl) (by kernel_rfl) (by kernel_rfl) (by intro c a d v w h; cases d <;> exact h) hS0 ?_
        change wpPlanH _ _ _ _ _ _ _ _ _ w8.drew
        have hne : Nonempty (SOf fun W => Below (w.heap.size + 2) w8 W) := ⟨⟨w8, Below.refl _ _⟩⟩
        have P0 : ∀ q : SOf (fun W => Below (w.heap.size + 2) w8 W), q.world.cell? ⟨w.heap.size, 0, none⟩ = some (.int .i64 rate) := fun q => (X1.out.below q.meets (by omega)).cell (j := 0) rfl
        iterate 3 (refine wpPlanH_plain rfl (fun K hK => ?_); go_simp; refine hK _ ?_; clear hK K)
        refine wpPlanH_runW rfl (by rfl) _ (fun q => load_run 48 _ rfl (w.heap.size + 1) 0 rfl [.int .i64 L, .int .i64 ju, .int .i64 jv] _ hunr.out rfl hszr.out q.world ((Blk.below X2.out q.meets (by omega)).range 0 _ (take_all0 _))) ?_
        clear hne P0 hS0
        have BX0 : Hid (Blk w8.drew (w.heap.size + 1 + 1) [.int .i64 0, .slice none 0 0] 30) := X3.out.drew
        generalize w8.drew = u0 at F0 BX0 ⊢
        refine wpAnyH_each (rs := [3, 5]) (by kernel_rfl) (by decide) (fun K hK i hi => ?_)
        simp only [List.mem_cons, List.not_mem_nil, or_false] at hi
        rcases hi with rfl | rfl
        · have hle0 : Hid (w8.heap.size ≤ u0.heap.size) := F0.out.size
          refine wpOp_listed rfl ?_
          go_wp2_with fail
          refine (CK.out u0 F0.out).mono ?_
          rintro e u1 ⟨vv, rfl, ho, hb⟩
          replace F0 : Hid (Below w8.heap.size w8 u1) := F0.out.trans (hb.mono F0.out.size)
          replace BX0 := Lib.hid (BX0.out.below hb BX0.out.lt)
          have HO : Hid (OwnK u1 w8.heap.size vv l) := ho.lower hle0.out
          clear ho
          go_wp2_with fail
          refine postH_normal (hK _ _ _ (F0.out.mono (by omega)) ?_)
          clear hK K hb hle0
          refine wpAnyH_each (rs := [5]) (by kernel_rfl) (by decide) (fun K hK i hi => ?_)
          obtain rfl := List.mem_singleton.1 hi
          refine wpOp_listed rfl ?_
          obtain ⟨gB, hgBe⟩ : ∃ x, x = u1.heap.size := ⟨_, rfl⟩
          have hb : Below u1.heap.size u1 (u1.alloc (.cells #[.int .i64 L, .int .i64 ju, .int .i64 jv] 48)) := (Below.refl _ _).alloc (Nat.le_refl _) _
          have RB : Hid (Rds (u1.alloc (.cells #[.int .i64 L, .int .i64 ju, .int .i64 jv] 48)) (gB + 1) (some ⟨gB, 0, none⟩) (rdf [⟨L, ju, jv⟩])) := by show Rds _ _ _ _; rw [hgBe]; exact Rds.new u1 [.int .i64 L, .int .i64 ju, .int .i64 jv] _
          have hgB : Hid (gB + 1 ≤ (u1.alloc (.cells #[.int .i64 L, .int .i64 ju, .int .i64 jv] 48)).heap.size) := by show _ ≤ _; rw [hgBe]; simp
          replace F0 : Hid (Below w8.heap.size w8 (u1.alloc (.cells #[.int .i64 L, .int .i64 ju, .int .i64 jv] 48))) := F0.out.trans (hb.mono F0.out.size)
          replace BX0 := Lib.hid (BX0.out.below hb BX0.out.lt)
          replace HO := Lib.hid (HO.out.keep hb)
          have hbs := run_build_rdg L ju jv u1
          rw [← hgBe] at hbs
          go_wp2_with (refine wpList_buildSlice_one rfl 28 _ rfl (.agg #[.int .i64 L, .int .i64 ju, .int .i64 jv]) _ rfl hbs ?_)
          refine postH_normal (hK _ _ _ (F0.out.mono (by omega)) ?_)
          clear hK K hb hgBe hbs
          generalize u1.alloc _ = u2 at *
          refine wpAnyH_each (rs := [6]) (by kernel_rfl) (by decide) (fun K hK i hi => ?_)
          obtain rfl := List.mem_singleton.1 hi
          refine wpOp_listed rfl ?_
          have hll : Hid (l.length + [(⟨L, ju, jv⟩ : Rdg)].length ≤ 1000000000000) := by show _ ≤ _; have := hlen2.out; simp; omega
          have hF := F0.out.size
          refine push_rdgs rfl _ _ rfl w8.heap.size _ l [⟨L, ju, jv⟩] (gB + 1) (some ⟨gB, 0, none⟩) 1 1 rfl (fun h => by cases h) rfl rfl RB.out HO.out hll.out hF ?_
          intro v' u5 ho5 hb5 hgr5 hob5
          obtain ⟨kk, hv', hkr, hkl, _, _⟩ := own_clk ho5 hrf'.out (by rw [List.length_append]; have := hlen2.out; simp; omega) (fun x hx => by rcases List.mem_append.1 hx with h | h; exact hf2.out x h; rw [List.mem_singleton.1 h]; exact hoN'.out)
          have F5 : Hid (Below w8.heap.size w8 u5) := F0.out.trans hb5
          have BX5 : Hid (Blk u5 (w.heap.size + 1 + 1) [.int .i64 0, .slice none 0 0] 30) := BX0.out.below hb5 (by omega)
          have HO5 := Lib.hid ho5
          rw [hv'] at HO5 ⊢
          have hkrH := Lib.hid hkr
          refine wpList_end (postH_normal (hK _ _ _ (F5.out.mono (by omega)) ?_))
          clear hK K ho5 hb5 hgr5 hob5 hv' hkl HO RB F0 BX0 hF hll hgB hkr
          refine wpAnyH_each (rs := [7]) (by kernel_rfl) (by decide) (fun K hK i hi => ?_)
          obtain rfl := List.mem_singleton.1 hi
          refine wpOp_listed rfl ?_
          go_wp2_with fail
          refine postH_normal (hK _ _ _ (F5.out.mono (by omega)) ?_)
          clear hK K
          refine wpAnyH_each (rs := [8]) (by kernel_rfl) (by decide) (fun K hK i hi => ?_)
          obtain rfl := List.mem_singleton.1 hi
          refine wpOp_listed rfl ?_
          refine wpList_row_store rfl 30 _ _ rfl [.int .i64 rate, .slice kk.A kk.n kk.c] rfl rfl BX5.out hszc.out rfl (oneC _ _ _ _) ?_
          intro u6 hw6 ho6
          have F6 : Hid (Below (w.heap.size + 2) w8 u6) := (F5.out.mono (by omega)).trans (ho6.below (Nat.le_refl _))
          have HO6 := Lib.hid (HO5.out.only ho6 (by omega))
          refine wpList_end (postH_normal (hK _ _ _ F6.out ?_))
          clear hK K
          refine wpAnyH_each (rs := [9]) (by kernel_rfl) (by decide) (fun K hK i hi => ?_)
          obtain rfl := List.mem_singleton.1 hi
          refine wpOp_listed rfl ?_
          go_wp2_with fail
          refine postH_normal (hK _ _ _ F6.out ?_)
          clear hK K
          refine wpAnyH_done (by kernel_rfl) ?_ _
          go_wp2_with fail
          obtain ⟨k2, hv2, hr2', hl2, ha2, m2⟩ := own_clk HO6.out hrf'.out (by rw [List.length_append]; have := hlen2.out; simp; omega) (fun x hx => by rcases List.mem_append.1 hx with h | h; exact hf2.out x h; rw [List.mem_singleton.1 h]; exact hoN'.out)
          exact bodyPost_ret (ret_cellK rfl _ u6 (g := w.heap.size + 1 + 1) _ rfl rfl hw6.out _ hunc.out rfl hszc.out) rfl ⟨k2, 0, by rw [hr2', ← hv2]; rfl, ⟨by rw [hr2', hL2], by rw [hl2, hL1], hsE.out.symm, m2, (fun ad h => Nat.le_trans E.out.size (ha2 ad h)), E.out.trans (F6.out.mono (by omega))⟩⟩
        · skip
          refine wpOp_listed rfl ?_
          obtain ⟨gB, hgBe⟩ : ∃ x, x = u0.heap.size := ⟨_, rfl⟩
          have hb : Below u0.heap.size u0 (u0.alloc (.cells #[.int .i64 L, .int .i64 ju, .int .i64 jv] 48)) := (Below.refl _ _).alloc (Nat.le_refl _) _
          have RB : Hid (Rds (u0.alloc (.cells #[.int .i64 L, .int .i64 ju, .int .i64 jv] 48)) (gB + 1) (some ⟨gB, 0, none⟩) (rdf [⟨L, ju, jv⟩])) := by show Rds _ _ _ _; rw [hgBe]; exact Rds.new u0 [.int .i64 L, .int .i64 ju, .int .i64 jv] _
          have hgB : Hid (gB + 1 ≤ (u0.alloc (.cells #[.int .i64 L, .int .i64 ju, .int .i64 jv] 48)).heap.size) := by show _ ≤ _; rw [hgBe]; simp
          replace F0 : Hid (Below w8.heap.size w8 (u0.alloc (.cells #[.int .i64 L, .int .i64 ju, .int .i64 jv] 48))) := F0.out.trans (hb.mono F0.out.size)
          replace BX0 := Lib.hid (BX0.out.below hb BX0.out.lt)
          have hbs := run_build_rdg L ju jv u0
          rw [← hgBe] at hbs
          go_wp2_with (refine wpList_buildSlice_one rfl 28 _ rfl (.agg #[.int .i64 L, .int .i64 ju, .int .i64 jv]) _ rfl hbs ?_)
          refine postH_normal (hK _ _ _ (F0.out.mono (by omega)) ?_)
          clear hK K hb hgBe hbs
          generalize u0.alloc _ = u1 at *
          have hle0 : Hid (w8.heap.size ≤ u1.heap.size) := F0.out.size
          refine wpAnyH_each (rs := [3]) (by kernel_rfl) (by decide) (fun K hK i hi => ?_)
          obtain rfl := List.mem_singleton.1 hi
          refine wpOp_listed rfl ?_
          go_wp2_with fail
          refine (CK.out u1 F0.out).mono ?_
          rintro e u2 ⟨vv, rfl, ho, hb⟩
          replace F0 : Hid (Below w8.heap.size w8 u2) := F0.out.trans (hb.mono F0.out.size)
          replace BX0 := Lib.hid (BX0.out.below hb BX0.out.lt)
          have HO : Hid (OwnK u2 w8.heap.size vv l) := ho.lower hle0.out
          replace RB := Lib.hid (RB.out.below (hb.mono hgB.out))
          replace hgB : Hid (gB + 1 ≤ u2.heap.size) := Nat.le_trans hgB.out hb.size
          clear ho
          go_wp2_with fail
          refine postH_normal (hK _ _ _ (F0.out.mono (by omega)) ?_)
          clear hK K hb hle0
          refine wpAnyH_each (rs := [6]) (by kernel_rfl) (by decide) (fun K hK i hi => ?_)
          obtain rfl := List.mem_singleton.1 hi
          refine wpOp_listed rfl ?_
          have hll : Hid (l.length + [(⟨L, ju, jv⟩ : Rdg)].length ≤ 1000000000000) := by show _ ≤ _; have := hlen2.out; simp; omega
          have hF := F0.out.size
          refine push_rdgs rfl _ _ rfl w8.heap.size _ l [⟨L, ju, jv⟩] (gB + 1) (some ⟨gB, 0, none⟩) 1 1 rfl (fun h => by cases h) rfl rfl RB.out HO.out hll.out hF ?_
          intro v' u5 ho5 hb5 hgr5 hob5
          obtain ⟨kk, hv', hkr, hkl, _, _⟩ := own_clk ho5 hrf'.out (by rw [List.length_append]; have := hlen2.out; simp; omega) (fun x hx => by rcases List.mem_append.1 hx with h | h; exact hf2.out x h; rw [List.mem_singleton.1 h]; exact hoN'.out)
          have F5 : Hid (Below w8.heap.size w8 u5) := F0.out.trans hb5
          have BX5 : Hid (Blk u5 (w.heap.size + 1 + 1) [.int .i64 0, .slice none 0 0] 30) := BX0.out.below hb5 (by omega)
          have HO5 := Lib.hid ho5
          rw [hv'] at HO5 ⊢
          have hkrH := Lib.hid hkr
          refine wpList_end (postH_normal (hK _ _ _ (F5.out.mono (by omega)) ?_))
          clear hK K ho5 hb5 hgr5 hob5 hv' hkl HO RB F0 BX0 hF hll hgB hkr
          refine wpAnyH_each (rs := [7]) (by kernel_rfl) (by decide) (fun K hK i hi => ?_)
          obtain rfl := List.mem_singleton.1 hi
          refine wpOp_listed rfl ?_
          go_wp2_with fail
          refine postH_normal (hK _ _ _ (F5.out.mono (by omega)) ?_)
          clear hK K
          refine wpAnyH_each (rs := [8]) (by kernel_rfl) (by decide) (fun K hK i hi => ?_)
          obtain rfl := List.mem_singleton.1 hi
          refine wpOp_listed rfl ?_
          refine wpList_row_store rfl 30 _ _ rfl [.int .i64 rate, .slice kk.A kk.n kk.c] rfl rfl BX5.out hszc.out rfl (oneC _ _ _ _) ?_
          intro u6 hw6 ho6
          have F6 : Hid (Below (w.heap.size + 2) w8 u6) := (F5.out.mono (by omega)).trans (ho6.below (Nat.le_refl _))
          have HO6 := Lib.hid (HO5.out.only ho6 (by omega))
          refine wpList_end (postH_normal (hK _ _ _ F6.out ?_))
          clear hK K
          refine wpAnyH_each (rs := [9]) (by kernel_rfl) (by decide) (fun K hK i hi => ?_)
          obtain rfl := List.mem_singleton.1 hi
          refine wpOp_listed rfl ?_
          go_wp2_with fail
          refine postH_normal (hK _ _ _ F6.out ?_)
          clear hK K
          refine wpAnyH_done (by kernel_rfl) ?_ _
          go_wp2_with fail
          obtain ⟨k2, hv2, hr2', hl2, ha2, m2⟩ := own_clk HO6.out hrf'.out (by rw [List.length_append]; have := hlen2.out; simp; omega) (fun x hx => by rcases List.mem_append.1 hx with h | h; exact hf2.out x h; rw [List.mem_singleton.1 h]; exact hoN'.out)
          exact bodyPost_ret (ret_cellK rfl _ u6 (g := w.heap.size + 1 + 1) _ rfl rfl hw6.out _ hunc.out rfl hszc.out) rfl ⟨k2, 0, by rw [hr2', ← hv2]; rfl, ⟨by rw [hr2', hL2], by rw [hl2, hL1], hsE.out.symm, m2, (fun ad h => Nat.le_trans E.out.size (ha2 ad h)), E.out.trans (F6.out.mono (by omega))⟩⟩

end Go.Proofs.Ytbkgbjimooobbaa
