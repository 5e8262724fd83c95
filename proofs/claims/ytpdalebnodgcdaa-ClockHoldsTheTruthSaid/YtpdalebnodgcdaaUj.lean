/-
  Stage 14 (clock): the specification's Bounds; checkAt, wrong; Now of both. (Written by tools/genuj.py.)
-/
import Derived.Test.YtpdalebnodgcdaaUi
import Derived.Test.YtpdalebnodgcdaaRws
import Derived.Deep.CutRange
namespace Go.Proofs.Ytpdalebnodgcdaa
set_option linter.unusedVariables false
set_option linter.unusedSimpArgs false
open Go.RowKit

/-- How the region of Bounds that calls allowed ends. -/
def RbR (w : World) (a b : Int) (v : Value) (W : World) : Prop := ∃ g, v = .pointer (some ⟨g, 0, none⟩) ∧ w.heap.size ≤ g ∧ Blk W g [.int .i64 a, .int .i64 b] 27 ∧ Below w.heap.size w W

set_option maxRecDepth 100000 in
set_option maxHeartbeats 8000000 in
theorem rBounds_any {B : Nat} (k : Clk) (x : Int) (w : World) (m : ClkM w B k) (h0 : 0 ≤ k.rate) (h1 : k.rate ≤ 100000) (hok : ∀ r ∈ k.l, okR r = true) (x0 : 0 ≤ x) (x1 : x ≤ 3600000000) :
    Calls Try.prog 42 #[.agg #[.int .i64 k.rate, .slice k.A k.n k.c], .int .i64 x] w fun e w' => e = .returned (.agg #[.int .i64 (bndLo k.rate k.l x), .int .i64 (bndHi k.rate k.l x)]) ∧ Below w.heap.size w w' := by
  rcases k with ⟨rate, A, n, c, l⟩
  dsimp only at *
  obtain ⟨W2, hW2⟩ : ∃ W2, W2 = ((w.alloc (.cells #[.int .i64 rate, .slice A n c] 24)).alloc (.cells #[.int .i64 0, .int .i64 0] 27)).alloc (.cells #[.int .i64 0, .int .i64 3600000000] 27) := ⟨_, rfl⟩
  have E : Hid (Below w.heap.size w W2) := by show Below _ _ _; rw [hW2]; exact (((Below.refl _ _).alloc (Nat.le_refl _) _).alloc (by simp) _).alloc (by simp; omega) _
  have X1 : Hid (Blk W2 w.heap.size [.int .i64 rate, .slice A n c] 24) := by show Blk _ _ _ _; rw [hW2]; exact ((Blk.new w [.int .i64 rate, .slice A n c] _).alloc _).alloc _
  have X2 : Hid (Blk W2 (w.heap.size + 1) [.int .i64 0, .int .i64 0] 27) := by show Blk _ _ _ _; rw [hW2]; exact ((Blk.new _ [_, _] _).alloc _).at (by simp)
  have X3 : Hid (Blk W2 (w.heap.size + 1 + 1) [.int .i64 0, .int .i64 3600000000] 27) := by show Blk _ _ _ _; rw [hW2]; exact (Blk.new _ [_, _] _).at (by simp)
  have hs2 : Hid (w.heap.size + 3 ≤ W2.heap.size) := by show _ ≤ _; rw [hW2]; simp
  have M := Lib.hid (m.below E.out)
  have hn : Hid (n = l.length) := m.len
  have hsm : n ≤ 140737488355328 := m.small
  have hB := m.le
  have hok' := Lib.hid hok
  have hW2' := Lib.hid hW2
  clear hW2 m hok
  have hsz := Lib.hid size_rdg
  have hun : Hid (Try.prog.underlying 29 = _) := Try.underlying29
  have hszw := Lib.hid size_whn
  have hunw : Hid (Try.prog.underlying 27 = _) := Try.underlying27
  obtain ⟨U, hU⟩ : ∃ y, y = bndLo rate l x := ⟨_, rfl⟩
  obtain ⟨V, hV⟩ : ∃ y, y = bndHi rate l x := ⟨_, rfl⟩
  rw [← hU, ← hV]
  have hUH : Hid (U = bLo rate x l 0) := hU
  have hVH : Hid (V = bHi rate x l 3600000000) := hV
  clear hU hV
  go_enter Try.func42, Try.ntmps42
  go_upto_region 2 with fail
  generalize hgg : ((w.alloc _).alloc _).alloc _ = Wg
  have hgW : W2 = Wg := by rw [← hgg, hW2'.out]
  clear hgg hW2'
  subst hgW
  go_wp2_with fail
  obtain ⟨wo, hwo⟩ : ∃ wo, wo = W2 := ⟨_, rfl⟩
  go_loopg [6] n (fun g s6 wx => ∃ (k : Nat) (u v : Int), k + g = n ∧ s6 = .int .i64 k ∧ Hid (Below w.heap.size w wx) ∧ Hid (w.heap.size + 3 ≤ wx.heap.size) ∧ Hid (Blk wx w.heap.size [.int .i64 rate, .slice A n c] 24) ∧ Hid (Blk wx (w.heap.size + 1) [.int .i64 0, .int .i64 0] 27) ∧ Hid (Blk wx (w.heap.size + 1 + 1) [.int .i64 u, .int .i64 v] 27) ∧ Hid (U = bLo rate x (l.drop k) u) ∧ Hid (V = bHi rate x (l.drop k) v))
  case atStart => exact ⟨0, 0, 3600000000, by omega, rfl, E, hs2, X1, X2, X3, hUH, hVH⟩
  case round =>
    clear X1 X2 X3 hUH hVH hs2
    obtain ⟨k, u, v, hkg, rfl, E4, sz, X1, X2, X3, hU, hV⟩ := hrel
    have p1 := X1.out.cell (j := 1) rfl
    cases gk with
    | zero =>
      have hkz : ¬ ((k : Int) < (n : Int)) := by omega
      have hz : Hid (U = u ∧ V = v) := by
        show _ ∧ _
        rw [hU.out, hV.out, List.drop_eq_nil_of_le (by have := hn.out; omega)]
        exact ⟨rfl, rfl⟩
      go_wp2_with (first | (refine wpList_blk_load rfl 27 _ rfl 0 rfl X3.out [_, _] rfl _ hunw.out rfl hszw.out ?_) | (refine wpList_row_store rfl 27 _ _ rfl [.int .i64 u, .int .i64 v] rfl rfl X2.out hszw.out rfl (one2 _ _) ?_; intro w9 hw9 ho9) | fail)
      exact bodyPost_ret (ret_blk rfl _ w9 (g := w.heap.size + 1) rfl hw9.out _ hunw.out rfl hszw.out) rfl ⟨(by rw [hz.out.1, hz.out.2]), E4.out.trans (ho9.below (by omega))⟩
    | succ gk =>
      have hkz : (k : Int) < (n : Int) := by omega
      have hk0 : 0 ≤ (k : Int) := by omega
      obtain ⟨r, hx⟩ : ∃ x, l[k]? = some x := ⟨_, List.getElem?_eq_getElem (by have := hn.out; omega)⟩
      have hdrop : l.drop k = r :: l.drop (k + 1) := by rw [List.drop_eq_getElem_cons (List.getElem?_eq_some_iff.1 hx).1, (List.getElem?_eq_some_iff.1 hx).2]
      have hor := hok'.out r (List.mem_of_getElem? hx)
      have hU2 : Hid (U = bLo rate x (l.drop (k + 1)) (max u (alLo rate r x))) := by show _ = _; rw [hU.out, hdrop]; rfl
      have hV2 : Hid (V = bHi rate x (l.drop (k + 1)) (min v (alHi rate r x))) := by show _ = _; rw [hV.out, hdrop]; rfl
      obtain ⟨ad, hA, hbb, hcl0⟩ := M.out.rd3 hx
      dsimp only at hA
      subst hA
      have hcl : Hid (∀ i y, ([.int .i64 r.L, .int .i64 r.lo, .int .i64 r.hi] : List Value)[i]? = some y → ∀ W, Below wr.heap.size wr W → W.cell? ((ad.add (k * 3)).add i) = some y) := fun i y hi W hW => by
        have h1 : ((ad.add (k * 3)).add i).block < w.heap.size := by rw [add_block, add_block]; omega
        exact (hW.cell (Nat.lt_of_lt_of_le h1 E4.out.size)).trans ((E4.out.cell h1).trans ((E.out.cell h1).symm.trans (hcl0 i y hi)))
      have HA := Lib.hid (fun W => rAllowed_any rate x r W h0 h1 hor x0 x1)
      have hszk := sz.out
      clear hx hdrop hU hV hcl0 hor
      generalize alLo rate r x = a at *
      generalize alHi rate r x = b at *
      go_wp2_with fail
      have P0 : ∀ q : SOf (fun W => Below wr.heap.size wr W), q.world.cell? ⟨w.heap.size, 0, none⟩ = some (.int .i64 rate) := fun q => (X1.out.below q.meets X1.out.lt).cell (j := 0) rfl
      have P1 : ∀ q : SOf (fun W => Below wr.heap.size wr W), q.world.cell? ⟨w.heap.size, 1, none⟩ = some (.slice (some ad) n c) := fun q => (X1.out.below q.meets X1.out.lt).cell (j := 1) rfl
      go_cut [7] from 16 to 24 (fun v W => Hid (RbR wr a b v W))
      case first J KK hJ hKK =>
        refine wp_region_planH (fun W => Below wr.heap.size wr W) [0, 1, 2, 3, 4, 5, 6, 7] 3 (by kernel_rfl) (by kernel_rfl) (by kernel_rfl) (by kernel_rfl) (by intro c a d v w h; cases d <;> exact h) ((Below.refl _ _).drew) ?_
        change wpPlanH _ _ _ _ _ _ _ _ _ wr.drew
        have hne : Nonempty (SOf fun W => Below wr.heap.size wr W) := ⟨⟨wr, Below.refl _ _⟩⟩
        iterate 6 (refine wpPlanH_plain rfl (fun K hK => ?_); go_simp; refine hK _ ?_; clear hK K)
        refine wpPlanH_runW rfl (by rfl) _ (fun q => load_at_runK 29 _ rfl (ad.add (k * 3)) rfl [.int .i64 r.L, .int .i64 r.lo, .int .i64 r.hi] _ hun.out rfl hsz.out q.world (fun i y hi => hcl.out i y hi _ q.meets)) ?_
        iterate 1 (refine wpPlanH_plain rfl (fun K hK => ?_); go_simp; refine hK _ ?_; clear hK K)
        clear hne P0 P1 p1
        have F0 : Hid (Below wr.heap.size wr wr.drew) := (Below.refl _ _).drew
        generalize wr.drew = u0 at F0 ⊢
        refine wpAnyH_each (rs := [8, 9]) (by kernel_rfl) (by decide) (fun K hK i hi => ?_)
        simp only [List.mem_cons, List.not_mem_nil, or_false] at hi
        rcases hi with rfl | rfl
        · skip
          refine wpOp_listed rfl ?_
          go_wp2_with fail
          refine (HA.out _).mono ?_
          rintro e u1 ⟨rfl, hb⟩
          replace F0 : Hid (Below wr.heap.size wr u1) := F0.out.trans (hb.mono F0.out.size)
          go_wp2_with fail
          refine postH_normal (hK _ _ _ F0.out ?_)
          clear hK K hb
          refine wpAnyH_each (rs := [9]) (by kernel_rfl) (by decide) (fun K hK i hi => ?_)
          obtain rfl := List.mem_singleton.1 hi
          refine wpOp_listed rfl ?_
          go_wp2_with fail
          obtain ⟨gL, hgL⟩ : ∃ x, x = u1.heap.size := ⟨_, rfl⟩
          have hb : Below u1.heap.size u1 (u1.alloc (.cells #[.int .i64 0, .int .i64 0] 27)) := (Below.refl _ _).alloc (Nat.le_refl _) _
          have BX : Hid (Blk (u1.alloc (.cells #[.int .i64 0, .int .i64 0] 27)) gL [.int .i64 0, .int .i64 0] 27) := by show Blk _ _ _ _; rw [hgL]; exact Blk.new _ [_, _] _
          have hgl : Hid (wr.heap.size ≤ gL) := by show _ ≤ _; rw [hgL]; exact F0.out.size
          replace F0 : Hid (Below wr.heap.size wr (u1.alloc (.cells #[.int .i64 0, .int .i64 0] 27))) := F0.out.trans (hb.mono F0.out.size)
          rw [← hgL]
          refine postH_normal (hK _ _ _ F0.out ?_)
          clear hK K hb hgL
          generalize u1.alloc _ = u2 at F0 BX ⊢
          refine wpAnyH_each (rs := [10]) (by kernel_rfl) (by decide) (fun K hK i hi => ?_)
          obtain rfl := List.mem_singleton.1 hi
          refine wpOp_listed rfl ?_
          refine wpList_row_store rfl 27 _ _ rfl [.int .i64 a, .int .i64 b] rfl rfl BX.out hszw.out rfl (one2 _ _) ?_
          intro u9 hw6 ho6
          replace F0 : Hid (Below wr.heap.size wr u9) := F0.out.trans (ho6.below hgl.out)
          refine wpList_end (postH_normal (hK _ _ _ F0.out ?_))
          clear hK K
          refine wpAnyH_done (by kernel_rfl) ?_ _
          try go_wp2_with fail
          go_meet
          exact ⟨gL, by first | rfl | (go_simp; done), hgl.out, hw6.out, F0.out⟩
        · skip
          refine wpOp_listed rfl ?_
          go_wp2_with fail
          obtain ⟨gL, hgL⟩ : ∃ x, x = u0.heap.size := ⟨_, rfl⟩
          have hb : Below u0.heap.size u0 (u0.alloc (.cells #[.int .i64 0, .int .i64 0] 27)) := (Below.refl _ _).alloc (Nat.le_refl _) _
          have BX : Hid (Blk (u0.alloc (.cells #[.int .i64 0, .int .i64 0] 27)) gL [.int .i64 0, .int .i64 0] 27) := by show Blk _ _ _ _; rw [hgL]; exact Blk.new _ [_, _] _
          have hgl : Hid (wr.heap.size ≤ gL) := by show _ ≤ _; rw [hgL]; exact F0.out.size
          replace F0 : Hid (Below wr.heap.size wr (u0.alloc (.cells #[.int .i64 0, .int .i64 0] 27))) := F0.out.trans (hb.mono F0.out.size)
          rw [← hgL]
          refine postH_normal (hK _ _ _ F0.out ?_)
          clear hK K hb hgL
          generalize u0.alloc _ = u1 at F0 BX ⊢
          refine wpAnyH_each (rs := [8]) (by kernel_rfl) (by decide) (fun K hK i hi => ?_)
          obtain rfl := List.mem_singleton.1 hi
          refine wpOp_listed rfl ?_
          go_wp2_with fail
          refine (HA.out _).mono ?_
          rintro e u2 ⟨rfl, hb⟩
          replace F0 : Hid (Below wr.heap.size wr u2) := F0.out.trans (hb.mono F0.out.size)
          replace BX := Lib.hid (BX.out.below hb BX.out.lt)
          go_wp2_with fail
          refine postH_normal (hK _ _ _ F0.out ?_)
          clear hK K hb
          refine wpAnyH_each (rs := [10]) (by kernel_rfl) (by decide) (fun K hK i hi => ?_)
          obtain rfl := List.mem_singleton.1 hi
          refine wpOp_listed rfl ?_
          refine wpList_row_store rfl 27 _ _ rfl [.int .i64 a, .int .i64 b] rfl rfl BX.out hszw.out rfl (one2 _ _) ?_
          intro u9 hw6 ho6
          replace F0 : Hid (Below wr.heap.size wr u9) := F0.out.trans (ho6.below hgl.out)
          refine wpList_end (postH_normal (hK _ _ _ F0.out ?_))
          clear hK K
          refine wpAnyH_done (by kernel_rfl) ?_ _
          try go_wp2_with fail
          go_meet
          exact ⟨gL, by first | rfl | (go_simp; done), hgl.out, hw6.out, F0.out⟩
      case rest =>
        obtain ⟨gL, rfl, hgl, BX, F0⟩ := hcut.out
        have E6 : Hid (Below w.heap.size w wc) := E4.out.trans (F0.mono E4.out.size)
        have Y1 := Lib.hid (X1.out.below F0 X1.out.lt)
        have Y2 := Lib.hid (X2.out.below F0 X2.out.lt)
        have Y3 := Lib.hid (X3.out.below F0 X3.out.lt)
        have s6 : Hid (w.heap.size + 3 ≤ wc.heap.size) := Nat.le_trans sz.out F0.size
        have r0 := Y3.out.cell (j := 0) rfl
        have r1 := Y3.out.cell (j := 1) rfl
        have t0 := BX.cell (j := 0) rfl
        have t1 := BX.cell (j := 1) rfl
        have hgl' : w.heap.size + 2 < gL := by omega
        clear hcut p1 P0 P1 X1 X2 X3 BX F0 HA hcl E E4 sz hgl
        go_wp2_with (first | (refine wpList_row_store rfl 27 _ _ rfl [.int .i64 (max u a), .int .i64 (min v b)] rfl rfl Y3.out hszw.out rfl (one2 _ _) ?_; intro w7 hw7 ho7) | fail)
        have b7 : Hid (Below (w.heap.size + 2) wc w7) := ho7.below (by omega)
        have E7 : Hid (Below w.heap.size w w7) := E6.out.trans (b7.out.mono (by omega))
        have Z1 : Hid (Blk w7 w.heap.size [.int .i64 rate, .slice (some ad) n c] 24) := Y1.out.below b7.out (by omega)
        have Z2 : Hid (Blk w7 (w.heap.size + 1) [.int .i64 0, .int .i64 0] 27) := Y2.out.below b7.out (by omega)
        have Z3 : Hid (Blk w7 (w.heap.size + 1 + 1) [.int .i64 (max u a), .int .i64 (min v b)] 27) := hw7.out
        have s7 : Hid (w.heap.size + 3 ≤ w7.heap.size) := by show _ ≤ _; rw [ho7.size]; exact s6.out
        go_roundg gk
        case measure => omega
        case rel => exact ⟨k + 1, max u a, min v b, by omega, by go_num, E7, s7, Z1, Z2, Z3, hU2, hV2⟩

/-- The error of a clock and of a number. -/
def chkA (rate : Int) (l : List Rdg) (x : Int) : Int := if chkK rate l = 0 then (if inst x = true then 0 else 3) else chkK rate l
theorem chkA_ok {rate x : Int} {l : List Rdg} : chkA rate l x = 0 ↔ chkK rate l = 0 ∧ inst x = true := by
  unfold chkA
  by_cases h : chkK rate l = 0
  · rw [if_pos h]
    cases inst x <;> simp [h]
  · rw [if_neg h]
    simp [h]
theorem chk_facts {rate : Int} {l : List Rdg} (h : chkK rate l = 0) : 0 ≤ rate ∧ rate ≤ 100000 ∧ l.length ≤ 16 ∧ (∀ r ∈ l, okR r = true) ∧ AscR l (-1) := by
  obtain ⟨h1, h2, h3⟩ := chkK_ok.1 h
  exact ⟨(okRate_iff.1 h1).1, (okRate_iff.1 h1).2, h2, h3.ok, h3⟩

set_option maxRecDepth 100000 in
set_option maxHeartbeats 2000000 in
theorem checkAt_any {B : Nat} (k : Clk) (x : Int) (w : World) (m : ClkM w B k) :
    Calls Try.prog 39 #[.agg #[.int .i64 k.rate, .slice k.A k.n k.c], .int .i64 x] w fun e w' => e = .returned (.int .i64 (chkA k.rate k.l x)) ∧ Below w.heap.size w w' := by
  rcases k with ⟨rate, A, n, c, l⟩
  dsimp only at *
  obtain ⟨W2, hW2⟩ : ∃ W2, W2 = w.alloc (.cells #[.int .i64 rate, .slice A n c] 24) := ⟨_, rfl⟩
  have E : Hid (Below w.heap.size w W2) := by show Below _ _ _; rw [hW2]; exact (Below.refl _ _).alloc (Nat.le_refl _) _
  have X1 : Hid (Blk W2 w.heap.size [.int .i64 rate, .slice A n c] 24) := by show Blk _ _ _ _; rw [hW2]; exact Blk.new w [.int .i64 rate, .slice A n c] _
  skip
  have M := Lib.hid (m.below E.out)
  have hW2' := Lib.hid hW2
  clear hW2 m
  have hszc := Lib.hid size_clk
  have hunc : Hid (Try.prog.underlying 24 = _) := Try.underlying24
  have CC := Lib.hid (fun W (h : ClkM W B ⟨rate, A, n, c, l⟩) => check14_any _ W h)
  dsimp only at CC
  have CI := Lib.hid (fun W => isInstant_any x W)
  obtain ⟨R, hR⟩ : ∃ R, R = chkA rate l x := ⟨_, rfl⟩
  rw [← hR]
  unfold chkA at hR
  obtain ⟨z, hz⟩ : ∃ z, chkK rate l = z := ⟨_, rfl⟩
  obtain ⟨y, hy⟩ : ∃ y, inst x = y := ⟨_, rfl⟩
  rw [hz] at CC hR
  rw [hy] at CI hR
  clear hz hy
  by_cases h : z = 0
  · rw [if_pos h] at hR
    subst h
    cases y with
    | false =>
      rw [if_neg (by simp)] at hR
      subst hR
      go_enter Try.func39, Try.ntmps39
      go_upto_region 1 with fail
      generalize hgg : w.alloc _ = Wg
      have hgW : W2 = Wg := by rw [← hgg, hW2'.out]
      clear hgg hW2'
      subst hgW
      go_wp2_with (refine wpList_blk_load rfl 24 _ rfl 0 rfl X1.out [_, _] rfl _ hunc.out rfl hszc.out ?_)
      refine (CC.out _ M.out).mono ?_
      rintro e w3 ⟨rfl, hb⟩
      replace E : Hid (Below w.heap.size w w3) := E.out.trans (hb.mono E.out.size)
      clear hb
      go_wp2_with fail
      refine (CI.out _).mono ?_
      rintro e w' ⟨rfl, rfl⟩
      go_wp2_with fail
      go_ret
      exact ⟨rfl, E.out⟩
    | true =>
      rw [if_pos rfl] at hR
      subst hR
      go_enter Try.func39, Try.ntmps39
      go_upto_region 1 with fail
      generalize hgg : w.alloc _ = Wg
      have hgW : W2 = Wg := by rw [← hgg, hW2'.out]
      clear hgg hW2'
      subst hgW
      go_wp2_with (refine wpList_blk_load rfl 24 _ rfl 0 rfl X1.out [_, _] rfl _ hunc.out rfl hszc.out ?_)
      refine (CC.out _ M.out).mono ?_
      rintro e w3 ⟨rfl, hb⟩
      replace E : Hid (Below w.heap.size w w3) := E.out.trans (hb.mono E.out.size)
      clear hb
      go_wp2_with fail
      refine (CI.out _).mono ?_
      rintro e w' ⟨rfl, rfl⟩
      go_wp2_with fail
      go_ret
      exact ⟨rfl, E.out⟩
  · rw [if_neg h] at hR
    subst hR
    have tz : (R == 0) = false := by simpa using h
    go_enter Try.func39, Try.ntmps39
    go_upto_region 1 with fail
    generalize hgg : w.alloc _ = Wg
    have hgW : W2 = Wg := by rw [← hgg, hW2'.out]
    clear hgg hW2'
    subst hgW
    go_wp2_with (refine wpList_blk_load rfl 24 _ rfl 0 rfl X1.out [_, _] rfl _ hunc.out rfl hszc.out ?_)
    refine (CC.out _ M.out).mono ?_
    rintro e w3 ⟨rfl, hb⟩
    replace E : Hid (Below w.heap.size w w3) := E.out.trans (hb.mono E.out.size)
    clear hb
    go_wp2_with fail
    go_ret
    exact ⟨rfl, E.out⟩

set_option maxRecDepth 100000 in
set_option maxHeartbeats 2000000 in
theorem wrong_any {B : Nat} (k : Clk) (x : Int) (w : World) (m : ClkM w B k) :
    Calls Try.prog 51 #[.agg #[.int .i64 k.rate, .slice k.A k.n k.c], .int .i64 x] w fun e w' => e = .returned (.int .i64 (chkA k.rate k.l x)) ∧ Below w.heap.size w w' := by
  rcases k with ⟨rate, A, n, c, l⟩
  dsimp only at *
  obtain ⟨W2, hW2⟩ : ∃ W2, W2 = w.alloc (.cells #[.int .i64 rate, .slice A n c] 24) := ⟨_, rfl⟩
  have E : Hid (Below w.heap.size w W2) := by show Below _ _ _; rw [hW2]; exact (Below.refl _ _).alloc (Nat.le_refl _) _
  have X1 : Hid (Blk W2 w.heap.size [.int .i64 rate, .slice A n c] 24) := by show Blk _ _ _ _; rw [hW2]; exact Blk.new w [.int .i64 rate, .slice A n c] _
  skip
  have M := Lib.hid (m.below E.out)
  have hW2' := Lib.hid hW2
  clear hW2 m
  have hszc := Lib.hid size_clk
  have hunc : Hid (Try.prog.underlying 24 = _) := Try.underlying24
  have CC := Lib.hid (fun W (h : ClkM W B ⟨rate, A, n, c, l⟩) => rCheck14_any _ W h)
  dsimp only at CC
  have CI := Lib.hid (fun W => rInstant_any x W)
  obtain ⟨R, hR⟩ : ∃ R, R = chkA rate l x := ⟨_, rfl⟩
  rw [← hR]
  unfold chkA at hR
  obtain ⟨z, hz⟩ : ∃ z, chkK rate l = z := ⟨_, rfl⟩
  obtain ⟨y, hy⟩ : ∃ y, inst x = y := ⟨_, rfl⟩
  rw [hz] at CC hR
  rw [hy] at CI hR
  clear hz hy
  by_cases h : z = 0
  · rw [if_pos h] at hR
    subst h
    cases y with
    | false =>
      rw [if_neg (by simp)] at hR
      subst hR
      go_enter Try.func51, Try.ntmps51
      go_upto_region 1 with fail
      generalize hgg : w.alloc _ = Wg
      have hgW : W2 = Wg := by rw [← hgg, hW2'.out]
      clear hgg hW2'
      subst hgW
      go_wp2_with (refine wpList_blk_load rfl 24 _ rfl 0 rfl X1.out [_, _] rfl _ hunc.out rfl hszc.out ?_)
      refine (CC.out _ M.out).mono ?_
      rintro e w3 ⟨rfl, hb⟩
      replace E : Hid (Below w.heap.size w w3) := E.out.trans (hb.mono E.out.size)
      clear hb
      go_wp2_with fail
      refine (CI.out _).mono ?_
      rintro e w' ⟨rfl, rfl⟩
      go_wp2_with fail
      go_ret
      exact ⟨rfl, E.out⟩
    | true =>
      rw [if_pos rfl] at hR
      subst hR
      go_enter Try.func51, Try.ntmps51
      go_upto_region 1 with fail
      generalize hgg : w.alloc _ = Wg
      have hgW : W2 = Wg := by rw [← hgg, hW2'.out]
      clear hgg hW2'
      subst hgW
      go_wp2_with (refine wpList_blk_load rfl 24 _ rfl 0 rfl X1.out [_, _] rfl _ hunc.out rfl hszc.out ?_)
      refine (CC.out _ M.out).mono ?_
      rintro e w3 ⟨rfl, hb⟩
      replace E : Hid (Below w.heap.size w w3) := E.out.trans (hb.mono E.out.size)
      clear hb
      go_wp2_with fail
      refine (CI.out _).mono ?_
      rintro e w' ⟨rfl, rfl⟩
      go_wp2_with fail
      go_ret
      exact ⟨rfl, E.out⟩
  · rw [if_neg h] at hR
    subst hR
    have tz : (R == 0) = false := by simpa using h
    go_enter Try.func51, Try.ntmps51
    go_upto_region 1 with fail
    generalize hgg : w.alloc _ = Wg
    have hgW : W2 = Wg := by rw [← hgg, hW2'.out]
    clear hgg hW2'
    subst hgW
    go_wp2_with (refine wpList_blk_load rfl 24 _ rfl 0 rfl X1.out [_, _] rfl _ hunc.out rfl hszc.out ?_)
    refine (CC.out _ M.out).mono ?_
    rintro e w3 ⟨rfl, hb⟩
    replace E : Hid (Below w.heap.size w w3) := E.out.trans (hb.mono E.out.size)
    clear hb
    go_wp2_with fail
    go_ret
    exact ⟨rfl, E.out⟩

/-- What Now returns. -/
def nwLo (rate : Int) (l : List Rdg) (x : Int) : Int := if chkA rate l x = 0 then ocLo (bndLo rate l x) (bndHi rate l x) else 0
def nwHi (rate : Int) (l : List Rdg) (x : Int) : Int := if chkA rate l x = 0 then ocHi (bndLo rate l x) (bndHi rate l x) else 0
def nwE (rate : Int) (l : List Rdg) (x : Int) : Int := if chkA rate l x = 0 then ocE (bndLo rate l x) (bndHi rate l x) else chkA rate l x
theorem nw_ok {rate x : Int} {l : List Rdg} (h : chkA rate l x = 0) : nwLo rate l x = ocLo (bndLo rate l x) (bndHi rate l x) ∧ nwHi rate l x = ocHi (bndLo rate l x) (bndHi rate l x) ∧ nwE rate l x = ocE (bndLo rate l x) (bndHi rate l x) := by
  unfold nwLo nwHi nwE
  rw [if_pos h, if_pos h, if_pos h]
  exact ⟨rfl, rfl, rfl⟩
theorem nw_no {rate x : Int} {l : List Rdg} (h : ¬ chkA rate l x = 0) : nwLo rate l x = 0 ∧ nwHi rate l x = 0 ∧ nwE rate l x = chkA rate l x := by
  unfold nwLo nwHi nwE
  rw [if_neg h, if_neg h, if_neg h]
  exact ⟨rfl, rfl, rfl⟩

set_option maxRecDepth 100000 in
set_option maxHeartbeats 4000000 in
theorem now_any {B : Nat} (k : Clk) (x : Int) (w : World) (m : ClkM w B k) :
    Calls Try.prog 14 #[.agg #[.int .i64 k.rate, .slice k.A k.n k.c], .int .i64 x] w fun e w' => e = .returned (.tuple #[.agg #[.int .i64 (nwLo k.rate k.l x), .int .i64 (nwHi k.rate k.l x)], .int .i64 (nwE k.rate k.l x)]) ∧ Below w.heap.size w w' := by
  rcases k with ⟨rate, A, n, c, l⟩
  dsimp only at *
  obtain ⟨W2, hW2⟩ : ∃ W2, W2 = (w.alloc (.cells #[.int .i64 rate, .slice A n c] 24)).alloc (.cells #[.int .i64 0, .int .i64 0] 27) := ⟨_, rfl⟩
  have E : Hid (Below w.heap.size w W2) := by show Below _ _ _; rw [hW2]; exact ((Below.refl _ _).alloc (Nat.le_refl _) _).alloc (by simp) _
  have X1 : Hid (Blk W2 w.heap.size [.int .i64 rate, .slice A n c] 24) := by show Blk _ _ _ _; rw [hW2]; exact (Blk.new w [.int .i64 rate, .slice A n c] _).alloc _
  have X2 : Hid (Blk W2 (w.heap.size + 1) [.int .i64 0, .int .i64 0] 27) := by show Blk _ _ _ _; rw [hW2]; exact (Blk.new _ [_, _] _).at (by simp)
  have M := Lib.hid (m.below E.out)
  have hW2' := Lib.hid hW2
  clear hW2 m
  have hszc := Lib.hid size_clk
  have hunc : Hid (Try.prog.underlying 24 = _) := Try.underlying24
  have hszw := Lib.hid size_whn
  have hunw : Hid (Try.prog.underlying 27 = _) := Try.underlying27
  have CC := Lib.hid (fun W (h : ClkM W B ⟨rate, A, n, c, l⟩) => checkAt_any _ x W h)
  dsimp only at CC
  obtain ⟨z, hz⟩ : ∃ z, chkA rate l x = z := ⟨_, rfl⟩
  rw [hz] at CC
  by_cases h : z = 0
  · subst h
    obtain ⟨hk, hi⟩ := chkA_ok.1 hz
    obtain ⟨k0, k1, k2, k3, k4⟩ := chk_facts hk
    obtain ⟨i0, i1⟩ := inst_iff.1 hi
    obtain ⟨e1, e2, e3⟩ := nw_ok hz
    rw [e1, e2, e3]
    have CB := Lib.hid (fun W (h : ClkM W B ⟨rate, A, n, c, l⟩) => bounds_any _ x W h k0 k1 k3 i0 i1)
    dsimp only at CB
    clear hk hi e1 e2 e3 hz k4 k3
    obtain ⟨u, hu⟩ : ∃ u, bndLo rate l x = u := ⟨_, rfl⟩
    obtain ⟨v, hv⟩ : ∃ v, bndHi rate l x = v := ⟨_, rfl⟩
    rw [hu, hv] at CB ⊢
    clear hu hv
    have CO := Lib.hid (fun W => orConflict_any u v W)
    generalize ocLo u v = u' at *
    generalize ocHi u v = v' at *
    generalize ocE u v = e' at *
    go_enter Try.func14, Try.ntmps14
    go_upto_region 1 with fail
    generalize hgg : (w.alloc _).alloc _ = Wg
    have hgW : W2 = Wg := by rw [← hgg, hW2'.out]
    clear hgg hW2'
    subst hgW
    go_wp2_with (refine wpList_blk_load rfl 24 _ rfl 0 rfl X1.out [_, _] rfl _ hunc.out rfl hszc.out ?_)
    refine (CC.out _ M.out).mono ?_
    rintro e w3 ⟨rfl, hb⟩
    replace E : Hid (Below w.heap.size w w3) := E.out.trans (hb.mono E.out.size)
    replace X1 := Lib.hid (X1.out.below hb X1.out.lt)
    replace X2 := Lib.hid (X2.out.below hb X2.out.lt)
    replace M := Lib.hid (M.out.below hb)
    clear hb CC
    go_wp2_with (refine wpList_blk_load rfl 24 _ rfl 0 rfl X1.out [_, _] rfl _ hunc.out rfl hszc.out ?_)
    refine (CB.out _ M.out).mono ?_
    rintro e w4 ⟨rfl, hb⟩
    replace E : Hid (Below w.heap.size w w4) := E.out.trans (hb.mono E.out.size)
    replace X2 := Lib.hid (X2.out.below hb X2.out.lt)
    clear hb
    go_wp2_with fail
    refine (CO.out _).mono ?_
    rintro e w5 ⟨rfl, hb⟩
    replace E : Hid (Below w.heap.size w w5) := E.out.trans (hb.mono E.out.size)
    replace X2 := Lib.hid (X2.out.below hb X2.out.lt)
    clear hb
    go_wp2_with (refine wpList_row_store rfl 27 _ _ rfl [.int .i64 u', .int .i64 v'] rfl rfl X2.out size_whn rfl (one2 _ _) ?_; intro w9 hw9 ho9)
    exact bodyPost_ret (ret_cellK rfl _ w9 (g := w.heap.size + 1) _ rfl rfl hw9.out _ hunw.out rfl hszw.out) rfl ⟨rfl, E.out.trans (ho9.below (by omega))⟩
  · obtain ⟨e1, e2, e3⟩ := nw_no (by rw [hz]; exact h)
    rw [e1, e2, e3, hz]
    have tz : (z == 0) = false := by simpa using h
    clear e1 e2 e3 hz
    go_enter Try.func14, Try.ntmps14
    go_upto_region 1 with fail
    generalize hgg : (w.alloc _).alloc _ = Wg
    have hgW : W2 = Wg := by rw [← hgg, hW2'.out]
    clear hgg hW2'
    subst hgW
    go_wp2_with (refine wpList_blk_load rfl 24 _ rfl 0 rfl X1.out [_, _] rfl _ hunc.out rfl hszc.out ?_)
    refine (CC.out _ M.out).mono ?_
    rintro e w3 ⟨rfl, hb⟩
    replace E : Hid (Below w.heap.size w w3) := E.out.trans (hb.mono E.out.size)
    replace X1 := Lib.hid (X1.out.below hb X1.out.lt)
    replace X2 := Lib.hid (X2.out.below hb X2.out.lt)
    replace M := Lib.hid (M.out.below hb)
    clear hb CC
    go_wp2_with (refine wpList_row_store rfl 27 _ _ rfl [.int .i64 0, .int .i64 0] rfl rfl X2.out size_whn rfl (one2 _ _) ?_; intro w9 hw9 ho9)
    exact bodyPost_ret (ret_cellK rfl _ w9 (g := w.heap.size + 1) _ rfl rfl hw9.out _ hunw.out rfl hszw.out) rfl ⟨rfl, E.out.trans (ho9.below (by omega))⟩

set_option maxRecDepth 100000 in
set_option maxHeartbeats 4000000 in
theorem rNow_any {B : Nat} (k : Clk) (x : Int) (w : World) (m : ClkM w B k) :
    Calls Try.prog 15 #[.agg #[.int .i64 k.rate, .slice k.A k.n k.c], .int .i64 x] w fun e w' => e = .returned (.agg #[.int .i64 (nwLo k.rate k.l x), .int .i64 (nwHi k.rate k.l x), .int .i64 (nwE k.rate k.l x)]) ∧ Below w.heap.size w w' := by
  rcases k with ⟨rate, A, n, c, l⟩
  dsimp only at *
  obtain ⟨W2, hW2⟩ : ∃ W2, W2 = (w.alloc (.cells #[.int .i64 rate, .slice A n c] 24)).alloc (.cells #[.int .i64 0, .int .i64 0, .int .i64 0] 41) := ⟨_, rfl⟩
  have E : Hid (Below w.heap.size w W2) := by show Below _ _ _; rw [hW2]; exact ((Below.refl _ _).alloc (Nat.le_refl _) _).alloc (by simp) _
  have X1 : Hid (Blk W2 w.heap.size [.int .i64 rate, .slice A n c] 24) := by show Blk _ _ _ _; rw [hW2]; exact (Blk.new w [.int .i64 rate, .slice A n c] _).alloc _
  have X2 : Hid (Blk W2 (w.heap.size + 1) [.int .i64 0, .int .i64 0, .int .i64 0] 41) := by show Blk _ _ _ _; rw [hW2]; exact (Blk.new _ [_, _, _] _).at (by simp)
  have M := Lib.hid (m.below E.out)
  have hW2' := Lib.hid hW2
  clear hW2 m
  have hszc := Lib.hid size_clk
  have hunc : Hid (Try.prog.underlying 24 = _) := Try.underlying24
  have hszw := Lib.hid size_whn
  have hunw : Hid (Try.prog.underlying 27 = _) := Try.underlying27
  have hung : Hid (Try.prog.underlying 41 = _) := Try.underlying41
  have CC := Lib.hid (fun W (h : ClkM W B ⟨rate, A, n, c, l⟩) => rCheck14_any _ W h)
  dsimp only at CC
  have CI := Lib.hid (fun W => rInstant_any x W)
  by_cases h : chkK rate l = 0
  · rw [h] at CC
    by_cases hi : inst x = true
    · rw [hi] at CI
      obtain ⟨k0, k1, k2, k3, k4⟩ := chk_facts h
      obtain ⟨i0, i1⟩ := inst_iff.1 hi
      obtain ⟨e1, e2, e3⟩ := nw_ok (chkA_ok.2 ⟨h, hi⟩)
      rw [e1, e2, e3]
      have CB := Lib.hid (fun W (h : ClkM W B ⟨rate, A, n, c, l⟩) => rBounds_any _ x W h k0 k1 k3 i0 i1)
      dsimp only at CB
      clear h hi e1 e2 e3 k4 k3
      obtain ⟨u, hu⟩ : ∃ u, bndLo rate l x = u := ⟨_, rfl⟩
      obtain ⟨v, hv⟩ : ∃ v, bndHi rate l x = v := ⟨_, rfl⟩
      rw [hu, hv] at CB ⊢
      clear hu hv
      unfold ocLo ocHi ocE
      by_cases hc : v < u
      · rw [if_pos hc, if_pos hc, if_pos hc]
        go_enter Try.func15, Try.ntmps15
        go_upto_region 1 with fail
        generalize hgg : (w.alloc _).alloc _ = Wg
        have hgW : W2 = Wg := by rw [← hgg, hW2'.out]
        clear hgg hW2'
        subst hgW
        go_wp2_with (refine wpList_blk_load rfl 24 _ rfl 0 rfl X1.out [_, _] rfl _ hunc.out rfl hszc.out ?_)
        refine (CC.out _ M.out).mono ?_
        rintro e w3 ⟨rfl, hb⟩
        replace E : Hid (Below w.heap.size w w3) := E.out.trans (hb.mono E.out.size)
        replace X1 := Lib.hid (X1.out.below hb X1.out.lt)
        replace X2 := Lib.hid (X2.out.below hb X2.out.lt)
        replace M := Lib.hid (M.out.below hb)
        clear hb CC
        go_wp2_with fail
        refine (CI.out _).mono ?_
        rintro e w' ⟨rfl, rfl⟩
        go_wp2_with (refine wpList_blk_load rfl 24 _ rfl 0 rfl X1.out [_, _] rfl _ hunc.out rfl hszc.out ?_)
        refine (CB.out _ M.out).mono ?_
        rintro e w4 ⟨rfl, hb⟩
        replace E : Hid (Below w.heap.size w w4) := E.out.trans (hb.mono E.out.size)
        replace X2 := Lib.hid (X2.out.below hb X2.out.lt)
        clear hb CB CI
        have X4 : Hid (Blk (w4.alloc (.cells #[.int .i64 u, .int .i64 v] 27)) w4.heap.size [.int .i64 u, .int .i64 v] 27) := Blk.new w4 [.int .i64 u, .int .i64 v] _
        have hb : Below w4.heap.size w4 (w4.alloc (.cells #[.int .i64 u, .int .i64 v] 27)) := (Below.refl _ _).alloc (Nat.le_refl _) _
        replace E : Hid (Below w.heap.size w (w4.alloc (.cells #[.int .i64 u, .int .i64 v] 27))) := E.out.trans (hb.mono E.out.size)
        replace X2 := Lib.hid (X2.out.below hb X2.out.lt)
        clear hb
        have r0 := X4.out.cell (j := 0) rfl
        have r1 := X4.out.cell (j := 1) rfl
        go_wp2_with (first | (refine wpList_blk_load rfl 27 _ rfl 0 rfl X4.out [_, _] rfl _ hunw.out rfl hszw.out ?_) | (refine wpList_row_store rfl 41 _ _ rfl [.int .i64 0, .int .i64 0, .int .i64 24] rfl rfl X2.out size_rgd rfl (one3 _ _ _) ?_; intro w9 hw9 ho9) | fail)
        exact bodyPost_ret (ret_blk rfl _ w9 (g := w.heap.size + 1) rfl hw9.out _ hung.out rfl size_rgd) rfl ⟨rfl, E.out.trans (ho9.below (by omega))⟩
      · rw [if_neg hc, if_neg hc, if_neg hc]
        go_enter Try.func15, Try.ntmps15
        go_upto_region 1 with fail
        generalize hgg : (w.alloc _).alloc _ = Wg
        have hgW : W2 = Wg := by rw [← hgg, hW2'.out]
        clear hgg hW2'
        subst hgW
        go_wp2_with (refine wpList_blk_load rfl 24 _ rfl 0 rfl X1.out [_, _] rfl _ hunc.out rfl hszc.out ?_)
        refine (CC.out _ M.out).mono ?_
        rintro e w3 ⟨rfl, hb⟩
        replace E : Hid (Below w.heap.size w w3) := E.out.trans (hb.mono E.out.size)
        replace X1 := Lib.hid (X1.out.below hb X1.out.lt)
        replace X2 := Lib.hid (X2.out.below hb X2.out.lt)
        replace M := Lib.hid (M.out.below hb)
        clear hb CC
        go_wp2_with fail
        refine (CI.out _).mono ?_
        rintro e w' ⟨rfl, rfl⟩
        go_wp2_with (refine wpList_blk_load rfl 24 _ rfl 0 rfl X1.out [_, _] rfl _ hunc.out rfl hszc.out ?_)
        refine (CB.out _ M.out).mono ?_
        rintro e w4 ⟨rfl, hb⟩
        replace E : Hid (Below w.heap.size w w4) := E.out.trans (hb.mono E.out.size)
        replace X2 := Lib.hid (X2.out.below hb X2.out.lt)
        clear hb CB CI
        have X4 : Hid (Blk (w4.alloc (.cells #[.int .i64 u, .int .i64 v] 27)) w4.heap.size [.int .i64 u, .int .i64 v] 27) := Blk.new w4 [.int .i64 u, .int .i64 v] _
        have hb : Below w4.heap.size w4 (w4.alloc (.cells #[.int .i64 u, .int .i64 v] 27)) := (Below.refl _ _).alloc (Nat.le_refl _) _
        replace E : Hid (Below w.heap.size w (w4.alloc (.cells #[.int .i64 u, .int .i64 v] 27))) := E.out.trans (hb.mono E.out.size)
        replace X2 := Lib.hid (X2.out.below hb X2.out.lt)
        clear hb
        have r0 := X4.out.cell (j := 0) rfl
        have r1 := X4.out.cell (j := 1) rfl
        go_wp2_with (first | (refine wpList_blk_load rfl 27 _ rfl 0 rfl X4.out [_, _] rfl _ hunw.out rfl hszw.out ?_) | (refine wpList_row_store rfl 41 _ _ rfl [.int .i64 u, .int .i64 v, .int .i64 0] rfl rfl X2.out size_rgd rfl (one3 _ _ _) ?_; intro w9 hw9 ho9) | fail)
        exact bodyPost_ret (ret_blk rfl _ w9 (g := w.heap.size + 1) rfl hw9.out _ hung.out rfl size_rgd) rfl ⟨rfl, E.out.trans (ho9.below (by omega))⟩
    · rw [Bool.not_eq_true] at hi
      have hA : chkA rate l x = 3 := by unfold chkA; rw [if_pos h, hi]; rfl
      obtain ⟨e1, e2, e3⟩ := nw_no (rate := rate) (l := l) (x := x) (by rw [hA]; decide)
      rw [e1, e2, e3, hA]
      rw [hi] at CI
      clear e1 e2 e3 hA h hi
      go_enter Try.func15, Try.ntmps15
      go_upto_region 1 with fail
      generalize hgg : (w.alloc _).alloc _ = Wg
      have hgW : W2 = Wg := by rw [← hgg, hW2'.out]
      clear hgg hW2'
      subst hgW
      go_wp2_with (refine wpList_blk_load rfl 24 _ rfl 0 rfl X1.out [_, _] rfl _ hunc.out rfl hszc.out ?_)
      refine (CC.out _ M.out).mono ?_
      rintro e w3 ⟨rfl, hb⟩
      replace E : Hid (Below w.heap.size w w3) := E.out.trans (hb.mono E.out.size)
      replace X1 := Lib.hid (X1.out.below hb X1.out.lt)
      replace X2 := Lib.hid (X2.out.below hb X2.out.lt)
      replace M := Lib.hid (M.out.below hb)
      clear hb CC
      go_wp2_with fail
      refine (CI.out _).mono ?_
      rintro e w' ⟨rfl, rfl⟩
      go_wp2_with (refine wpList_row_store rfl 41 _ _ rfl [.int .i64 0, .int .i64 0, .int .i64 3] rfl rfl X2.out size_rgd rfl (one3 _ _ _) ?_; intro w9 hw9 ho9)
      exact bodyPost_ret (ret_blk rfl _ w9 (g := w.heap.size + 1) rfl hw9.out _ hung.out rfl size_rgd) rfl ⟨rfl, E.out.trans (ho9.below (by omega))⟩
  · have hA : chkA rate l x = chkK rate l := by unfold chkA; rw [if_neg h]
    obtain ⟨e1, e2, e3⟩ := nw_no (rate := rate) (l := l) (x := x) (by rw [hA]; exact h)
    rw [e1, e2, e3, hA]
    obtain ⟨z, hz⟩ : ∃ z, chkK rate l = z := ⟨_, rfl⟩
    rw [hz] at CC h ⊢
    have tz : (z == 0) = false := by simpa using h
    clear e1 e2 e3 hA hz
    go_enter Try.func15, Try.ntmps15
    go_upto_region 1 with fail
    generalize hgg : (w.alloc _).alloc _ = Wg
    have hgW : W2 = Wg := by rw [← hgg, hW2'.out]
    clear hgg hW2'
    subst hgW
    go_wp2_with (refine wpList_blk_load rfl 24 _ rfl 0 rfl X1.out [_, _] rfl _ hunc.out rfl hszc.out ?_)
    refine (CC.out _ M.out).mono ?_
    rintro e w3 ⟨rfl, hb⟩
    replace E : Hid (Below w.heap.size w w3) := E.out.trans (hb.mono E.out.size)
    replace X1 := Lib.hid (X1.out.below hb X1.out.lt)
    replace X2 := Lib.hid (X2.out.below hb X2.out.lt)
    replace M := Lib.hid (M.out.below hb)
    clear hb CC
    go_wp2_with (refine wpList_row_store rfl 41 _ _ rfl [.int .i64 0, .int .i64 0, .int .i64 z] rfl rfl X2.out size_rgd rfl (one3 _ _ _) ?_; intro w9 hw9 ho9)
    exact bodyPost_ret (ret_blk rfl _ w9 (g := w.heap.size + 1) rfl hw9.out _ hung.out rfl size_rgd) rfl ⟨rfl, E.out.trans (ho9.below (by omega))⟩

end Go.Proofs.Ytpdalebnodgcdaa
