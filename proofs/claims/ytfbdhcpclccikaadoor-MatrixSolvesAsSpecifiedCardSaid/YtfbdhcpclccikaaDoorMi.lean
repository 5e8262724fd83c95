/-
  Contracts of stage 5: Inverse.
-/
import Derived.Test.YtfbdhcpclccikaaDoorMx
import Derived.Test.YtfbdhcpclccikaaDoorMch
namespace Go.Proofs.YtfbdhcpclccikaaDoor
set_option linter.unusedVariables false
set_option linter.unusedSimpArgs false
open Go.RowKit

/-- The matrix beside which the first k rows of the identity stand. -/
def augK (M : List (List UInt8)) (n k : Nat) : List (List UInt8) := M.mapIdx fun i m => m ++ (if i < k then (List.replicate n 0).set i 1 else List.replicate n 0)
theorem augK_len (M : List (List UInt8)) (n k : Nat) : (augK M n k).length = M.length := by simp [augK]
theorem augK_get (M : List (List UInt8)) (n k i : Nat) : (augK M n k)[i]? = (M[i]?).map fun m => m ++ (if i < k then (List.replicate n 0).set i 1 else List.replicate n 0) := by
  unfold augK; rw [List.getElem?_mapIdx]
theorem augK_zero (M : List (List UInt8)) (n : Nat) : augK M n 0 = wid M n := by
  apply List.ext_getElem?
  intro i
  rw [augK_get]
  unfold wid pad0
  rw [List.getElem?_map]
  cases M[i]? <;> simp
theorem augK_next (M : List (List UInt8)) (n k : Nat) (m : List UInt8) (hm : M[k]? = some m) : (augK M n k).set k (m ++ (List.replicate n 0).set k 1) = augK M n (k + 1) := by
  have hl := (List.getElem?_eq_some_iff.1 hm).1
  apply List.ext_getElem?
  intro i
  by_cases h : k = i
  · subst h
    rw [List.getElem?_set_self (by rw [augK_len]; exact hl), augK_get, hm]
    simp
  · rw [List.getElem?_set_ne h, augK_get, augK_get]
    cases M[i]? with
    | none => rfl
    | some x =>
      simp only [Option.map_some]
      by_cases h1 : i < k
      · have : i < k + 1 := by omega
        simp [h1, this]
      · have : ¬ i < k + 1 := by omega
        simp [h1, this]
theorem augK_rect {M : List (List UInt8)} {c : Nat} (h : Rect M c) (n k : Nat) : Rect (augK M n k) (c + n) := fun x hx => by
  obtain ⟨i, hi⟩ := List.getElem?_of_mem hx
  rw [augK_get] at hi
  cases hr : M[i]? with
  | none => simp [hr] at hi
  | some r =>
    simp only [hr, Option.map_some, Option.some.injEq] at hi
    rw [← hi, List.length_append, h.at hr]
    split <;> simp
def augM (M : List (List UInt8)) : List (List UInt8) := augK M M.length M.length
/-- What Inverse answers. -/
def invE (M : List (List UInt8)) : Int := if chk M ≠ 0 then chk M else if cols M ≠ M.length then 1 else if (red (augM M) M.length).2.length < M.length then 8 else 0
def invM (M : List (List UInt8)) : List (List UInt8) := if invE M = 0 then matF (fun i j => el (red (augM M) M.length).1 i (M.length + j)) M.length M.length else []

set_option maxRecDepth 100000 in
theorem inverse1_any {B : Nat} (Mr : List (List UInt8)) (A : Option Addr) (rows c tb nb n i j cc : Nat) (w : World) (h : Mat w B A Mr) (hrect : Rect Mr cc) (hrows : rows = Mr.length) (h1 : w.cell? ⟨tb, 0, none⟩ = some (.slice A rows c)) (h2 : w.cell? ⟨nb, 0, none⟩ = some (.int .i64 n)) (hi : i < rows) (hj : n + j < cc) (hc : cc ≤ 1000000) :
    Calls Tryd.prog 82 #[.int .i64 i, .int .i64 j, .pointer (some ⟨tb, 0, none⟩), .pointer (some ⟨nb, 0, none⟩)] w fun e w' => e = .returned (bv (el Mr i (n + j))) ∧ ∃ k, w' = w.drewN k := by
  obtain ⟨m, hm0⟩ : ∃ m, Mr[i]? = some m := ⟨_, List.getElem?_eq_getElem (by omega)⟩
  have hml : m.length = cc := hrect.at hm0
  obtain ⟨q, hq⟩ : ∃ q, q = n + j := ⟨_, rfl⟩
  rw [← hq] at hj ⊢
  obtain ⟨x, hx0⟩ : ∃ x, m[q]? = some x := ⟨_, List.getElem?_eq_getElem (by omega)⟩
  obtain ⟨ad, a, c', rfl, _, hcb, _, hcx⟩ := h.head hm0 hx0
  rw [el_of hm0 hx0]
  rw [hml] at hcb
  have t1 : (i : Int) < (rows : Int) := by omega
  have t2 : 0 ≤ (i : Int) := by omega
  have t3 : (q : Int) < (cc : Int) := by omega
  have t4 : 0 ≤ (q : Int) := by omega
  have e1 : (n : Int) + (j : Int) = (q : Int) := by omega
  unfold bv at hcx ⊢
  clear h hrect hrows hi hj hm0 hx0 hml hq
  go_enter Tryd.func82, Tryd.ntmps82
  go_wp2_with fail
  go_quiet (fail)
  go_wp2_with fail
  go_ret
  exact ⟨rfl, _, rfl⟩

set_option maxRecDepth 100000 in
set_option maxHeartbeats 8000000 in
theorem inverse_any (M : List (List UInt8)) (A : Option Addr) (c : Nat) (w : World) (h : Mat w w.heap.size A M) (hl : M.length ≤ 100000) (ht : PTab 0 w) (hg0 : 0 < w.heap.size) :
    Calls Tryd.prog 30 #[.slice A M.length c] w (MatRet w (invM M) (invE M)) := by
  obtain ⟨E, hE0⟩ : ∃ E, E = invE M := ⟨_, rfl⟩
  obtain ⟨X, hX0⟩ : ∃ E, E = invM M := ⟨_, rfl⟩
  rw [← hE0, ← hX0]
  have CK := Lib.hid (check_any M A c w h (by omega))
  have hM := Lib.hid h
  have hT := Lib.hid ht
  have hg := Lib.hid hg0
  obtain ⟨r, hr0⟩ : ∃ r, r = chk M := ⟨_, rfl⟩
  rw [← hr0] at CK
  have hr := Lib.hid hr0
  have hE := Lib.hid hE0
  have hX := Lib.hid hX0
  have hnone : Hid (E ≠ 0 → X = []) := fun hne => by
    rw [hE0] at hne
    rw [hX0]
    unfold invM
    rw [if_neg hne]
  have hmf : ∀ (fn : Fn) (first cap : Array Value) (w : World), (Instr.makeFunc fn first cap).run Tryd.prog w = .ok (.func fn first cap) w := fun _ _ _ _ => rfl
  clear h ht hg0 hr0 hE0 hX0
  go_enter Tryd.func30, Tryd.ntmps30
  go_wp2_with fail
  refine CK.out.mono ?_
  rintro e w2 ⟨rfl, hb2⟩
  have hB2 := Lib.hid hb2
  clear hb2
  by_cases h0 : r = 0
  rotate_left
  · have hE' : E = r := by rw [hE.out]; unfold invE; rw [← hr.out, if_pos h0]
    have hXe := hnone.out (by rw [hE']; exact h0)
    subst hXe
    subst hE'
    have t : (E == 0) = false := by simpa using h0
    have hfin := Lib.hid (MatRet.nothing (E := E) hB2.out)
    go_wp2_with fail
    go_ret2
    exact hfin.out
  have hok := Lib.hid (ok_of (by rw [← hr.out]; exact h0))
  subst h0
  obtain ⟨n, hn0⟩ : ∃ n, n = M.length := ⟨_, rfl⟩
  have hn := Lib.hid hn0
  have hn48 : n ≤ 48 := by rw [hn0]; exact hok.out.rows
  obtain ⟨W3, hW3⟩ : ∃ W3, W3 = w2.alloc (.cells #[.int .i64 n] 3) := ⟨_, rfl⟩
  have hN3 : Hid (Nu w2 W3) := by show Nu _ _; rw [hW3]; exact (Below.refl _ _).alloc (Nat.le_refl _) _
  have hnb3 : Hid (Blk W3 w2.heap.size [.int .i64 n] 3) := by show Blk _ _ _ _; rw [hW3]; exact Blk.new _ [_] _
  have hs3 : Hid (W3.heap.size = w2.heap.size + 1) := by show _ = _; rw [hW3]; simp
  have hB3 : Hid (Below w.heap.size w W3) := hB2.out.trans (Below.mono hN3.out hB2.out.size)
  have COL := Lib.hid (fun k => columns_any M A c (W3.drewN k) (B := w.heap.size) (hM.out.below hB3.out).drewN)
  obtain ⟨q, hq0⟩ : ∃ q, q = cols M := ⟨_, rfl⟩
  have hq := Lib.hid hq0
  rw [← hq0] at COL
  have hW3' := Lib.hid hW3
  rw [← hn0] at COL ⊢
  clear hW3 hq0 hn0
  have c3 : W3.cell? ⟨w2.heap.size, 0, none⟩ = some (.int .i64 n) := hnb3.out.cell rfl
  by_cases hqn : q = n
  rotate_left
  · have hE' : E = 1 := by rw [hE.out]; unfold invE; rw [← hr.out, if_neg (by simp), if_pos (by rw [← hq.out, ← hn.out]; exact hqn)]
    have hXe := hnone.out (by rw [hE']; decide)
    subst hXe
    subst hE'
    have t : ((q : Int) != (n : Int)) = true := by simp only [bne_iff_ne, ne_eq]; omega
    have hfin := Lib.hid (fun k => MatRet.nothing (E := 1) (below_drewN hB3.out k))
    clear hqn
    go_wp2_with fail
    generalize hgg : World.alloc _ _ = Wg
    have hgW : W3 = Wg := by rw [← hgg, hW3'.out]
    clear hgg hW3'
    subst hgW
    go_quiet (refine Calls.quiet_of_same ((COL.out _).mono fun e w' hh => hh))
    go_wp2_with fail
    go_ret2
    exact hfin.out _
  subst hqn
  have hqM := Lib.hid hq.out
  go_wp2_with fail
  generalize hgg : World.alloc _ _ = Wg
  have hgW : W3 = Wg := by rw [← hgg, hW3'.out]
  clear hgg hW3'
  subst hgW
  go_quiet (refine Calls.quiet_of_same ((COL.out _).mono fun e w' hh => hh))
  obtain ⟨w4, hw4⟩ : ∃ w4, w4 = W3.drewN nq := ⟨_, rfl⟩
  have hB4 : Hid (Below w.heap.size w w4) := by show Below _ _ _; rw [hw4]; exact below_drewN hB3.out nq
  have hnb4 : Hid (Blk w4 w2.heap.size [.int .i64 q] 3) := by show Blk _ _ _ _; rw [hw4]; exact hnb3.out
  have hs4 : Hid (w2.heap.size < w4.heap.size) := by show _ < _; rw [hw4]; show _ < W3.heap.size; rw [hs3.out]; omega
  have WID := Lib.hid (widened_any M A c q w4 (hM.out.below hB4.out) hB4.out.size (by omega) (fun m hm => by have := hok.out.cols48 m hm; omega) (by omega))
  have c4 : w4.cell? ⟨w2.heap.size, 0, none⟩ = some (.int .i64 q) := hnb4.out.cell rfl
  rw [← hw4]
  rw [← hn.out] at WID
  clear hw4 c3 COL
  go_wp2_with fail
  refine WID.out.mono ?_
  rintro e w5 ⟨⟨g, bs, rfl, hO50⟩, hb5⟩
  have hN5 := Lib.hid (show Nu w4 w5 from hb5)
  have hO5 : Hid (Om w5 w4.heap.size g bs (augK M q 0) []) := by show Om _ _ _ _ _ _; rw [augK_zero]; exact hO50
  obtain ⟨W6, hW6⟩ : ∃ W6, W6 = w5.alloc (.cells #[.slice (some ⟨g, 0, none⟩) q q] 22) := ⟨_, rfl⟩
  have hN6 : Hid (Nu w5 W6) := by show Nu _ _; rw [hW6]; exact (Below.refl _ _).alloc (Nat.le_refl _) _
  have hbb6 : Hid (Blk W6 w5.heap.size [.slice (some ⟨g, 0, none⟩) q q] 22) := by show Blk _ _ _ _; rw [hW6]; exact Blk.new _ [_] _
  have hO6 := Lib.hid (hO5.out.keep hN6.out)
  have hnb6 : Hid (Blk W6 w2.heap.size [.int .i64 q] 3) := (hnb4.out.below hN5.out hnb4.out.lt).below hN6.out (Nat.lt_of_lt_of_le hnb4.out.lt hN5.out.size)
  have hB6 : Hid (Below w.heap.size w W6) := hB4.out.trans (Below.mono (Nu.trans _ _ _ hN5.out hN6.out) hB4.out.size)
  have hgsb : Hid (∀ x ∈ g :: bs, w4.heap.size ≤ x ∧ x < w5.heap.size) := fun x hx => by
    rcases List.mem_cons.1 hx with rfl | hx
    · exact ⟨hO50.low, hO50.out.lt⟩
    · obtain ⟨i, hi⟩ := List.getElem?_of_mem hx
      have hil := (List.getElem?_eq_some_iff.1 hi).1
      exact ⟨hO50.lows x hx, (hO50.row i x _ hi (List.getElem?_eq_getElem (by rw [← hO50.len]; exact hil))).lt⟩
  have hW6' := Lib.hid hW6
  have c6 : W6.cell? ⟨w5.heap.size, 0, none⟩ = some (.slice (some ⟨g, 0, none⟩) q q) := hbb6.out.cell rfl
  clear hW6 hO50 hb5 c4
  go_wp2_with fail
  generalize hgg : World.alloc _ _ = Wg
  have hgW : W6 = Wg := by rw [← hgg, hW6'.out]
  clear hgg hW6'
  subst hgW
  go_wp2_with fail
  clear c6
  go_loopw [24] (fun v wr => ∃ k : Nat, k ≤ q ∧ v = .int .i64 k ∧ Chg (g :: bs) W6 wr ∧ Om wr w4.heap.size g bs (augK M q k) []) (fun v _ => q - (intOf v).toNat)
  case atStart => exact ⟨0, by omega, rfl, Chg.refl _ _, hO6.out⟩
  case round =>
    obtain ⟨k, hk, rfl, hC0, hO0⟩ := hrel
    have hC := Lib.hid hC0
    have hO := Lib.hid hO0
    clear hC0 hO0
    have hBr : Hid (Below w.heap.size w wr) := hB6.out.trans (hC.out.below (fun x hx => Nat.le_trans hB4.out.size (hgsb.out x hx).1) hB6.out.size)
    have hbbr : Hid (Blk wr w5.heap.size [.slice (some ⟨g, 0, none⟩) q q] 22) := hC.out.blk hbb6.out (fun hh => by have := (hgsb.out _ hh).2; omega)
    have hnbr : Hid (Blk wr w2.heap.size [.int .i64 q] 3) := hC.out.blk hnb6.out (fun hh => by have := (hgsb.out _ hh).1; have := hs4.out; omega)
    by_cases hlk : k < q
    · have tk : (k : Int) < (q : Int) := by omega
      have tk0 : 0 ≤ (k : Int) := by omega
      obtain ⟨p, hp0⟩ : ∃ p, p = q + k := ⟨_, rfl⟩
      have ep : (q : Int) + (k : Int) = (p : Int) := by omega
      have hp := Lib.hid hp0
      have tp0 : 0 ≤ (p : Int) := by omega
      have ew : IntKind.i64.wrap (p : Int) = (p : Int) := by rw [IntKind.wrap_i64]; omega
      obtain ⟨q2, hq20⟩ : ∃ p, p = q + q := ⟨_, rfl⟩
      have hq2 := Lib.hid hq20
      have tp : (p : Int) < (q2 : Int) := by omega
      obtain ⟨m, hm0⟩ : ∃ m, M[k]? = some m := ⟨_, List.getElem?_eq_getElem (by have := hn.out; omega)⟩
      have hml : Hid (m.length = q) := by show _ = _; rw [hqM.out]; exact hok.out.same m (List.mem_of_getElem? hm0)
      have hmg := Lib.hid hm0
      have hsg : Hid ((augK M q k)[k]? = some (m ++ List.replicate q 0)) := by show _ = _; rw [augK_get, hm0]; simp
      obtain ⟨bi, hbi0, _, _, hci, hki0⟩ := hO.out.at hsg.out
      have hbi := Lib.hid hbi0
      have hki := Lib.hid hki0
      have hmll : Hid ((m ++ List.replicate q (0 : UInt8)).length = q2) := by show _ = _; rw [List.length_append, hml.out, List.length_replicate]; exact hq2.out.symm
      rw [hmll.out] at hci
      have zi : ∀ z : ExtOf wr.drew, z.world.cell? ⟨g, k, none⟩ = some (.slice (some ⟨bi, 0, none⟩) q2 q2) := fun z => (Below.cell (p := ⟨g, k, none⟩) (z.ext) hO.out.out.lt).trans hci
      have zb : ∀ z : ExtOf wr.drew, z.world.cell? ⟨w5.heap.size, 0, none⟩ = some (.slice (some ⟨g, 0, none⟩) q q) := fun z => (hbbr.out.drew.below z.ext hbbr.out.drew.lt).cell rfl
      have zn : ∀ z : ExtOf wr.drew, z.world.cell? ⟨w2.heap.size, 0, none⟩ = some (.int .i64 q) := fun z => (hnbr.out.drew.below z.ext hnbr.out.drew.lt).cell rfl
      have hfit : Hid (p + 1 ≤ ((m ++ List.replicate q (0 : UInt8)).map bv).length) := by show _ ≤ _; rw [List.length_map, hmll.out]; have := hq2.out; have := hp.out; omega
      clear hm0 hbi0 hki0 hci hp0 hq20
      go_wp2_with fail
      refine wp_region_planL 8 [(true, 0), (true, 1), (true, 2), (true, 3), (true, 4), (true, 5), (true, 6), (true, 7), (false, 8)] (by kernel_rfl) (by decide) (by kernel_rfl) (by kernel_rfl) (by kernel_rfl) (by decide) (by intro c a d v w h; cases d <;> exact h) ?_
      change wpPlanL _ _ _ _ _ _ wr.drew
      iterate 8 (refine wpPlanL_plain rfl (fun K hK => ?_); go_simp; refine hK _ ?_; clear hK K)
      clear zi zb zn
      refine wpPlanL_call rfl (fun K hK => ?_)
      refine wpList_blk_store rfl 5 _ _ rfl p (bv 1) rfl rfl hki.out.drew size_u8 hfit.out (one_u8b 1) ?_
      intro w7 hw7 ho7
      refine wpList_end (planPostL_normal ⟨.inl rfl, hK _ _ ?_⟩)
      clear hK K
      refine wpPlanL_nil ?_
      have hkn : Hid (Blk w7 bi ((m ++ (List.replicate q (0 : UInt8)).set k 1).map bv) 5) := by
        show Blk _ _ _ _
        have hh := hw7.out
        rw [show (bv 1).cells.toList = [bv 1] from rfl, splice_set _ _ _ hfit.out, ← List.map_set, List.set_append_right _ _ (by rw [hml.out, hp.out]; omega), hml.out, hp.out, show q + k - q = k by omega] at hh
        exact hh
      have ho7' : Only bi wr w7 := ⟨ho7.os, ho7.tape, ho7.output, ho7.size, ho7.block⟩
      have hO7 : Hid (Om w7 w4.heap.size g bs (augK M q (k + 1)) []) := by
        show Om _ _ _ _ _ _
        have hh := hO.out.setRow hbi.out hsg.out ho7' hkn.out (by simp)
        rw [augK_next M q k m hmg.out] at hh
        exact hh
      have hC7 : Hid (Chg (g :: bs) W6 w7) := hC.out.trans (Chg.only ho7' (List.mem_cons_of_mem _ (List.mem_of_getElem? hbi.out)))
      clear hw7 ho7 ho7'
      go_wp2_with fail
      go_roundw
      case rel => exact ⟨k + 1, by omega, by go_num, hC7.out, hO7.out⟩
      case measure => simp [intOf]; omega
    · have tk : ¬ (k : Int) < (q : Int) := by omega
      have hOs : Hid (Om wr w4.heap.size g bs (augM M) []) := by
        show Om _ _ _ _ _ _
        unfold augM
        rw [← hn.out, show q = k by omega]
        rw [show q = k by omega] at hO
        exact hO.out
      have hrs : Hid (Rect (augM M) (q + q)) := by
        show Rect _ _
        unfold augM
        have hh := augK_rect hok.out.rect M.length M.length
        rw [← hqM.out, ← hn.out] at hh
        rw [← hn.out]
        exact hh
      have hsl : Hid ((augM M).length = q) := by show _ = _; unfold augM; rw [augK_len]; exact hn.out.symm
      have RED := Lib.hid (reduce_any (augM M) bs g w4.heap.size q (q + q) wr.drew (hOs.out.keep ((Below.refl wr.heap.size wr).drew)) hrs.out (by omega) (by omega) (by rw [hsl.out]; omega) (hT.out.on hBr.out.drew) (Nat.lt_of_lt_of_le hg.out hB4.out.size))
      rw [hsl.out] at RED
      have hpl : (red (augM M) q).2.length ≤ q := by rw [← hsl.out]; exact red_piv_le hrs.out _
      have hrl : Hid ((red (augM M) q).1.length = q) := by show _ = _; rw [red_len hrs.out]; exact hsl.out
      have hrr := Lib.hid (red_rect hrs.out q)
      have hEE : Hid (E = if (red (augM M) q).2.length < q then 8 else 0) := by
        show _ = _
        rw [hE.out]
        unfold invE
        rw [← hr.out, if_neg (by simp), if_neg (by rw [← hqM.out, ← hn.out]; simp), ← hn.out]
      have hXX : Hid (E = 0 → X = matF (fun i j => el (red (augM M) q).1 i (q + j)) q q) := fun h0 => by
        rw [hX.out]
        unfold invM
        rw [if_pos (by rw [← hE.out]; exact h0), ← hn.out]
      have RED2 : Hid (Calls Tryd.prog 71 #[.slice (some ⟨g, 0, none⟩) q q, .int .i64 q] wr.drew fun e w' => ∃ vp bs', e = .returned vp ∧ OwnP w' wr.drew.heap.size vp (red (augM M) q).2 ∧ Om w' w4.heap.size g bs' (red (augM M) q).1 [] ∧ bs'.Perm bs ∧ Chg (g :: bs) wr.drew w') := RED.out
      generalize (red (augM M) q).1 = Mr at RED2 hrl hrr hXX
      generalize (red (augM M) q).2 = piv at RED2 hpl hEE
      obtain ⟨pl, hpl0⟩ : ∃ k, k = piv.length := ⟨_, rfl⟩
      have hpl' := Lib.hid hpl0
      rw [← hpl0] at hpl hEE
      obtain ⟨SP, hSP⟩ : ∃ SP : World → Prop, ∀ W, (SP W ↔ W.cell? ⟨w5.heap.size, 0, none⟩ = some (.slice (some ⟨g, 0, none⟩) q q) ∧ W.cell? ⟨w2.heap.size, 0, none⟩ = some (.int .i64 q)) := ⟨_, fun W => Iff.rfl⟩
      have g0 : ∀ x : SOf SP, x.world.cell? ⟨w5.heap.size, 0, none⟩ = some (.slice (some ⟨g, 0, none⟩) q q) := fun x => ((hSP _).1 x.meets).1
      have g1 : ∀ x : SOf SP, x.world.cell? ⟨w2.heap.size, 0, none⟩ = some (.int .i64 q) := fun x => ((hSP _).1 x.meets).2
      have hS0 : Hid (SP wr.drew) := (hSP _).2 ⟨hbbr.out.drew.cell rfl, hnbr.out.drew.cell rfl⟩
      have hSS := Lib.hid (fun W (h1 : Blk W w5.heap.size [.slice (some ⟨g, 0, none⟩) q q] 22) (h2 : Blk W w2.heap.size [.int .i64 q] 3) => (hSP W).2 ⟨h1.cell rfl, h2.cell rfl⟩)
      have hne : Nonempty (SOf SP) := ⟨⟨_, hS0.out⟩⟩
      clear hSP RED hpl0
      go_wp2_with fail
      refine wp_region_planH SP [0, 1, 4] 3 (by kernel_rfl) (by kernel_rfl) (by kernel_rfl) (by kernel_rfl) (by intro c a d v w h; cases d <;> exact h) hS0.out ?_
      change wpPlanH _ _ _ _ _ _ _ _ _ wr.drew
      iterate 3 (refine wpPlanH_plain rfl (fun K hK => ?_); go_simp; refine hK _ ?_; clear hK K)
      clear g0 g1 hne
      refine wpAnyH_each (rs := [2]) (by kernel_rfl) (by decide) (fun K hK i hi => ?_)
      obtain rfl := List.mem_singleton.1 hi
      refine wpOp_listed rfl ?_
      go_wp2_with fail
      refine RED2.out.mono ?_
      rintro e w8 ⟨vp, bs8, rfl, hv8, hO80, hp8, hC8⟩
      have hbb8 : Hid (Blk w8 w5.heap.size [.slice (some ⟨g, 0, none⟩) q q] 22) := hC8.blk hbbr.out.drew (fun hh => by have := (hgsb.out _ hh).2; omega)
      have hnb8 : Hid (Blk w8 w2.heap.size [.int .i64 q] 3) := hC8.blk hnbr.out.drew (fun hh => by have := (hgsb.out _ hh).1; have := hs4.out; omega)
      have hB8 : Hid (Below w.heap.size w w8) := hBr.out.drew.trans (hC8.below (fun x hx => Nat.le_trans hB4.out.size (hgsb.out x hx).1) hBr.out.drew.size)
      have hO8 := Lib.hid hO80
      obtain ⟨Ap, cp, hvp, _, _, _, _⟩ := own_form hv8
      rw [← hpl'.out] at hvp
      subst hvp
      clear hv8 hO80 hp8 hC8
      go_wp2_with fail
      refine postH_normal (hK _ _ _ (hSS.out _ hbb8.out hnb8.out) ?_)
      clear hK K
      refine wpAnyH_each (rs := [3]) (by kernel_rfl) (by decide) (fun K hK i hi => ?_)
      obtain rfl := List.mem_singleton.1 hi
      refine wpOp_listed rfl ?_
      go_wp2_with fail
      refine postH_normal (hK _ _ _ (hSS.out _ hbb8.out hnb8.out) ?_)
      clear hK K
      refine wpAnyH_each (rs := [5]) (by kernel_rfl) (by decide) (fun K hK i hi => ?_)
      obtain rfl := List.mem_singleton.1 hi
      refine wpOp_listed rfl ?_
      go_wp2_with fail
      refine postH_normal (hK _ _ _ (hSS.out _ hbb8.out hnb8.out) ?_)
      clear hK K
      refine wpAnyH_done (by kernel_rfl) ?_ _
      by_cases hpq : pl < q
      · have hE' : E = 8 := by rw [hEE.out, if_pos hpq]
        have hXe := hnone.out (by rw [hE']; decide)
        subst hXe
        subst hE'
        have tpq : (pl : Int) < (q : Int) := by omega
        have hfin := Lib.hid (MatRet.nothing (E := 8) hB8.out)
        go_wp2_with fail
        go_ret2
        exact hfin.out
      · have hE' : Hid (E = 0) := by show _ = _; rw [hEE.out, if_neg hpq]
        have tpq : ¬ (pl : Int) < (q : Int) := by omega
        have hX' := Lib.hid (hXX.out hE'.out)
        have BB := Lib.hid (build_of 82 [.pointer (some ⟨w5.heap.size, 0, none⟩), .pointer (some ⟨w2.heap.size, 0, none⟩)] (fun i j => el Mr i (q + j)) q q w8 (by omega) (by omega) (enter_of Tryd.func82 (by kernel_rfl) (by kernel_rfl)) (fun i j hi hj W hB => inverse1_any Mr (some ⟨g, 0, none⟩) q q w5.heap.size w2.heap.size q i j (q + q) W ((hO8.out.mat).below hB) hrr.out hrl.out.symm ((hbb8.out.below hB hbb8.out.lt).cell rfl) ((hnb8.out.below hB hnb8.out.lt).cell rfl) hi (by omega) (by omega)))
        rw [← hX'.out] at BB
        have hXl : Hid (X.length = q) := by show _ = _; rw [hX'.out]; exact matF_len _ _ _
        have cc1 : w8.cell? ⟨w5.heap.size, 0, none⟩ = some (.slice (some ⟨g, 0, none⟩) q q) := hbb8.out.cell rfl
        have cc2 : w8.cell? ⟨w2.heap.size, 0, none⟩ = some (.int .i64 q) := hnb8.out.cell rfl
        have hql : Hid (q ≤ 1000000) := by show _ ≤ _; omega
        clear hpq
        go_wp2_with fail
        refine BB.out.mono ?_
        rintro e w9 ⟨⟨g9, bs9, rfl, hO9⟩, hb9⟩
        have hfin : Hid (MatRet w X E (.returned (.tuple #[.slice (some ⟨g9, 0, none⟩) q q, .int .i64 0])) w9) := by
          show MatRet _ _ _ _ _
          rw [hE'.out]
          exact MatRet.own (W := w) hXl.out hO9 (hB8.out.trans (hb9.mono hB8.out.size)) hql.out
        clear hO9 hb9
        go_wp2_with fail
        go_ret2
        exact hfin.out
end Go.Proofs.YtfbdhcpclccikaaDoor
