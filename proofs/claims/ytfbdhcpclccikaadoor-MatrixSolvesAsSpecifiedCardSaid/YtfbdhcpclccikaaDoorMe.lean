/-
  Contracts of stage 5: Product.
-/
import Derived.Test.YtfbdhcpclccikaaDoorMd
import Derived.Test.YtfbdhcpclccikaaDoorGfw
import Derived.Deep.QuietTactic
import Derived.BigQuiet
namespace Go.Proofs.YtfbdhcpclccikaaDoor
set_option linter.unusedVariables false
set_option linter.unusedSimpArgs false
open Go.RowKit

theorem combAt_snoc (r : List UInt8) (Bm : List (List UInt8)) (k j : Nat) (x : UInt8) (p : List UInt8) (hx : r[j]? = some x) (hp : Bm[j]? = some p) : Gf.combAt (r.take (j + 1)) Bm k = Gf.combAt (r.take j) Bm k ^^^ Gf.mul x (p.getD k 0) := by
  have hz : (r.take (j + 1)).zip Bm = (r.take j).zip Bm ++ [(x, p)] := by
    have hzz : ∀ a : List UInt8, a.zip Bm = List.zipWith Prod.mk a Bm := fun _ => rfl
    rw [hzz, hzz]
    apply List.ext_getElem?
    intro i
    have hjr := (List.getElem?_eq_some_iff.1 hx).1
    have hjB := (List.getElem?_eq_some_iff.1 hp).1
    rcases Nat.lt_trichotomy i j with h | h | h
    · rw [List.getElem?_append_left (by rw [List.length_zipWith, List.length_take]; omega), List.getElem?_zipWith, List.getElem?_zipWith, List.getElem?_take_of_lt (by omega), List.getElem?_take_of_lt h]
    · subst h
      rw [List.getElem?_append_right (by rw [List.length_zipWith, List.length_take]; omega), List.getElem?_zipWith, List.getElem?_take_of_lt (by omega), hx, hp, List.length_zipWith, List.length_take, show i - min (min i r.length) Bm.length = 0 by omega]
      rfl
    · rw [List.getElem?_eq_none (by rw [List.length_zipWith, List.length_take]; omega), List.getElem?_eq_none (by rw [List.length_append, List.length_zipWith, List.length_take, List.length_singleton]; omega)]
  unfold Gf.combAt
  rw [hz, List.foldl_append]
  rfl

set_option maxRecDepth 100000 in
set_option maxHeartbeats 1000000 in
theorem prod1_any {B : Nat} (M1 M2 : List (List UInt8)) (A1 A2 : Option Addr) (n1 n2 c1 c2 ab bb i k : Nat) (w : World) (h1 : Mat w B A1 M1) (h2 : Mat w B A2 M2) (o1 : Ok M1) (o2 : Ok M2) (e1 : n1 = M1.length) (e2 : n2 = M2.length)
    (ha : w.cell? ⟨ab, 0, none⟩ = some (.slice A1 n1 c1)) (hb : w.cell? ⟨bb, 0, none⟩ = some (.slice A2 n2 c2)) (hi : i < M1.length) (hk : k < cols M2) (hm : cols M1 = M2.length) (ht : PTab 0 w) :
    Calls Tryd.prog 84 #[.int .i64 i, .int .i64 k, .pointer (some ⟨ab, 0, none⟩), .pointer (some ⟨bb, 0, none⟩)] w fun e w' => e = .returned (bv (Gf.combAt (M1.getD i []) M2 k)) ∧ ∃ n, w' = w.drewN n := by
  obtain ⟨r, hr, hrl⟩ := o1.get hi
  have hrD : M1.getD i [] = r := by rw [List.getD_eq_getElem?_getD, hr]; rfl
  rw [hrD]
  obtain ⟨ad, v, rfl, _, hcv, a, c', rfl, _, _, _, hrr⟩ := h1.at hr
  have t1 : (i : Int) < (n1 : Int) := by omega
  have t2 : 0 ≤ (i : Int) := by omega
  have t3 : 0 ≤ (k : Int) := by omega
  obtain ⟨q, hq⟩ : ∃ q, q = r.length := ⟨_, rfl⟩
  have hql : Hid (q = r.length ∧ q = M2.length) := ⟨hq, by omega⟩
  have hq48 : q ≤ 48 := by have := o1.cols_le; omega
  rw [← hq] at hcv
  have h2' := Lib.hid h2
  have hrr' := Lib.hid hrr
  have o2' := Lib.hid o2
  have ht' := Lib.hid ht
  have hk' := Lib.hid hk
  obtain ⟨Z, hZ⟩ : ∃ Z, Z = Gf.combAt r M2 k := ⟨_, rfl⟩
  have hZ' := Lib.hid hZ
  have e2' := Lib.hid e2
  rw [← hZ]
  clear hrD hr h1 h2 o1 o2 hrr hq hrl hm ht hZ hi hk e2
  go_enter Tryd.func84, Tryd.ntmps84
  go_wp2_with fail
  go_loopw [7, 15] (fun s j wr => ∃ (l n : Nat) (S : UInt8), l ≤ q ∧ j = .int .i64 l ∧ s = .int .u8 S.toNat ∧ Hid (S = Gf.combAt (r.take l) M2 k) ∧ wr = w.drewN n) (fun _ j _ => q - (intOf j).toNat)
  case atStart => exact ⟨0, 0, 0, by omega, rfl, rfl, rfl, rfl⟩
  case round =>
    obtain ⟨l, n, S, hl, rfl, rfl, hS, rfl⟩ := hrel
    by_cases hlt : l < q
    · obtain ⟨x, hx⟩ : ∃ x, r[l]? = some x := ⟨_, List.getElem?_eq_getElem (by have := hql.out.1; omega)⟩
      obtain ⟨p, hp, hpl⟩ := o2'.out.get (i := l) (by have := hql.out.2; omega)
      obtain ⟨y, hy⟩ : ∃ y, p[k]? = some y := ⟨_, List.getElem?_eq_getElem (by have := hk'.out; omega)⟩
      have hyD : p.getD k 0 = y := by rw [List.getD_eq_getElem?_getD, hy]; rfl
      have hn := combAt_snoc r M2 k l x p hx hp
      rw [hyD, ← hS.out] at hn
      obtain ⟨a', ha', _, hcx⟩ := hrr'.out.look (k := l) (u := bv x) (by rw [List.getElem?_map, hx]; rfl)
      subst ha'
      obtain ⟨ad2, a2, c2', hA2, _, hc3, _, hc4⟩ := h2'.out.head hp hy
      subst hA2
      have H := Lib.hid (mul_any x y (w.drewN n) ht'.out)
      have hxo := u8_xor_bv S (Gf.mul x y)
      generalize Gf.mul x y = z at H hn hxo
      have hn' := Lib.hid hn
      have d1 : (w.drewN n).cell? (a'.add l) = some (bv x) := hcx
      have d2 : (w.drewN n).cell? (ad2.add l) = some (.slice (some a2) p.length c2') := hc3
      have d3 : (w.drewN n).cell? (a2.add k) = some (bv y) := hc4
      have d4 : (w.drewN n).cell? ⟨bb, 0, none⟩ = some (.slice (some ad2) n2 c2) := hb
      have b1 : (l : Int) < (q : Int) := by omega
      have b2 : (l : Int) < (n2 : Int) := by have := hql.out.2; have := e2'.out; omega
      have b3 : (k : Int) < (p.length : Int) := by have := hk'.out; omega
      have b4 : 0 ≤ (l : Int) := by omega
      generalize p.length = pl at d2 b3
      unfold bv at H d1 d3
      clear hn hx hp hpl hy hyD hcx hc3 hc4
      go_wp2_with fail
      refine H.out.mono ?_
      rintro e w' ⟨rfl, n', rfl⟩
      go_wp2_with fail
      go_roundw
      case rel => exact ⟨l + 1, _, S ^^^ z, by omega, by go_num, rfl, hn'.out.symm, rfl⟩
      case measure => simp [intOf]; omega
    · have t : ¬ (l : Int) < (q : Int) := by omega
      have hfin : Hid (S = Z) := by
        show _ = _
        rw [hZ'.out, hS.out, List.take_of_length_le (by have := hql.out.1; omega)]
      go_wp2_with fail
      go_ret
      exact ⟨by rw [← hfin.out]; rfl, n, rfl⟩

/-- The product. -/
def prd (M1 M2 : List (List UInt8)) : List (List UInt8) := matF (fun i k => Gf.combAt (M1.getD i []) M2 k) M1.length (cols M2)
/-- The error of Product. -/
def prdE (M1 M2 : List (List UInt8)) : Int := if chk M1 ≠ 0 then chk M1 else if chk M2 ≠ 0 then chk M2 else if cols M1 ≠ M2.length then 1 else 0
theorem prdE_ok {M1 M2 : List (List UInt8)} (h : prdE M1 M2 = 0) : chk M1 = 0 ∧ chk M2 = 0 ∧ cols M1 = M2.length := by
  unfold prdE at h
  split at h
  · rename_i h1; exact absurd h h1
  · rename_i h1
    split at h
    · rename_i h2; exact absurd h h2
    · rename_i h2
      split at h
      · cases h
      · rename_i h3
        exact ⟨by simpa using h1, by simpa using h2, by simpa using h3⟩

set_option maxRecDepth 100000 in
set_option maxHeartbeats 2000000 in
theorem product_any (M1 M2 : List (List UInt8)) (A1 A2 : Option Addr) (c1 c2 : Nat) (w : World) (h1 : Mat w w.heap.size A1 M1) (h2 : Mat w w.heap.size A2 M2) (l1 : M1.length ≤ 1000000) (l2 : M2.length ≤ 1000000) (ht : PTab 0 w) :
    Calls Tryd.prog 35 #[.slice A1 M1.length c1, .slice A2 M2.length c2] w (MatRet w (if prdE M1 M2 = 0 then prd M1 M2 else []) (prdE M1 M2)) := by
  obtain ⟨R, hR0⟩ : ∃ R, R = if prdE M1 M2 = 0 then prd M1 M2 else [] := ⟨_, rfl⟩
  obtain ⟨E, hE0⟩ : ∃ E, E = prdE M1 M2 := ⟨_, rfl⟩
  rw [← hR0, ← hE0]
  obtain ⟨W1, hW1⟩ : ∃ W1, W1 = (w.alloc (.cells #[.slice A1 M1.length c1] 22)).alloc (.cells #[.slice A2 M2.length c2] 22) := ⟨_, rfl⟩
  have hB1 : Hid (Below w.heap.size w W1) := by show Below _ _ _; rw [hW1]; exact ((Below.refl _ _).alloc (Nat.le_refl _) _).alloc (by simp) _
  have hK1 : Hid (Blk W1 w.heap.size [.slice A1 M1.length c1] 22) := by show Blk _ _ _ _; rw [hW1]; exact (Blk.new w [_] _).alloc _
  have hL1 : Hid (Blk W1 (w.heap.size + 1) [.slice A2 M2.length c2] 22) := by show Blk _ _ _ _; rw [hW1]; exact (Blk.new _ [_] _).at (by simp)
  have HM : Hid (∀ W, Below w.heap.size w W → Mat W w.heap.size A1 M1 ∧ Mat W w.heap.size A2 M2 ∧ PTab 0 W) := fun W hB => ⟨h1.below hB, h2.below hB, ht.on hB⟩
  have C1 : Hid (∀ W, Below w.heap.size w W → Calls Tryd.prog 23 #[.slice A1 M1.length c1] W fun e w' => e = .returned (.int .i64 (chk M1)) ∧ Below W.heap.size W w') := fun W hB => check_any M1 A1 c1 W ((h1.below hB).more hB.size) (by omega)
  have C2 : Hid (∀ W, Below w.heap.size w W → Calls Tryd.prog 23 #[.slice A2 M2.length c2] W fun e w' => e = .returned (.int .i64 (chk M2)) ∧ Below W.heap.size W w') := fun W hB => check_any M2 A2 c2 W ((h2.below hB).more hB.size) (by omega)
  have hW1' := Lib.hid hW1
  have q1 : W1.cell? ⟨w.heap.size, 0, none⟩ = some (.slice A1 M1.length c1) := hK1.out.cell rfl
  have hmf : ∀ (fn : Fn) (first cap : Array Value) (w : World), (Instr.makeFunc fn first cap).run Tryd.prog w = .ok (.func fn first cap) w := fun _ _ _ _ => rfl
  obtain ⟨r1, hr1⟩ : ∃ r, r = chk M1 := ⟨_, rfl⟩
  obtain ⟨r2, hr2⟩ : ∃ r, r = chk M2 := ⟨_, rfl⟩
  rw [← hr1] at C1
  rw [← hr2] at C2
  have hr := Lib.hid (And.intro hr1 hr2)
  have hR := Lib.hid hR0
  have hE := Lib.hid hE0
  clear hW1 h1 h2 ht hR0 hE0 hr1 hr2
  go_enter Tryd.func35, Tryd.ntmps35
  go_wp2_with fail
  generalize hg : (w.alloc _).alloc _ = Wg
  have hgW : W1 = Wg := by rw [← hg, hW1'.out]
  clear hg hW1'
  subst hgW
  refine (C1.out _ hB1.out).mono ?_
  rintro e w2 ⟨rfl, hb2⟩
  have hB2 : Hid (Below w.heap.size w w2) := hB1.out.trans (hb2.mono hB1.out.size)
  have hK2 : Hid (Blk w2 w.heap.size [.slice A1 M1.length c1] 22) := hK1.out.below hb2 hK1.out.lt
  have hL2 : Hid (Blk w2 (w.heap.size + 1) [.slice A2 M2.length c2] 22) := hL1.out.below hb2 hL1.out.lt
  clear hb2 q1
  by_cases h0 : r1 = 0
  · subst h0
    have q2 : w2.cell? ⟨w.heap.size + 1, 0, none⟩ = some (.slice A2 M2.length c2) := hL2.out.cell rfl
    go_wp2_with fail
    refine (C2.out _ hB2.out).mono ?_
    rintro e w3 ⟨rfl, hb3⟩
    have hB3 : Hid (Below w.heap.size w w3) := hB2.out.trans (hb3.mono hB2.out.size)
    have hK3 : Hid (Blk w3 w.heap.size [.slice A1 M1.length c1] 22) := hK2.out.below hb3 hK2.out.lt
    have hL3 : Hid (Blk w3 (w.heap.size + 1) [.slice A2 M2.length c2] 22) := hL2.out.below hb3 hL2.out.lt
    clear hb3 q2
    by_cases h0 : r2 = 0
    · subst h0
      have ok1 := Lib.hid (ok_of hr.out.1.symm)
      have ok2 := Lib.hid (ok_of hr.out.2.symm)
      have CC := Lib.hid (fun W (hB : Below w.heap.size w W) => columns_any M1 A1 c1 W (B := w.heap.size) (HM.out W hB).1)
      have CD := Lib.hid (fun W (hB : Below w.heap.size w W) => columns_any M2 A2 c2 W (B := w.heap.size) (HM.out W hB).2.1)
      obtain ⟨q, hq⟩ : ∃ q, q = cols M1 := ⟨_, rfl⟩
      rw [← hq] at CC
      have hq' := Lib.hid hq
      have hb0 : w3.cell? ⟨w.heap.size, 0, none⟩ = some (.slice A1 M1.length c1) := hK3.out.cell rfl
      have hb1 : w3.cell? ⟨w.heap.size + 1, 0, none⟩ = some (.slice A2 M2.length c2) := hL3.out.cell rfl
      clear hq
      by_cases hqm : q = M2.length
      · have t : ((q : Int) != (M2.length : Int)) = false := by simp only [bne_eq_false_iff_eq]; omega
        have hE' : Hid (E = 0) := by
          show _ = _
          rw [hE.out]
          unfold prdE
          rw [← hr.out.1, ← hr.out.2, if_neg (by simp), if_neg (by simp), if_neg (by rw [← hq'.out]; simpa using hqm)]
        have hRT : Hid (R = prd M1 M2) := by
          show _ = _
          rw [hR.out, if_pos (by rw [← hE.out]; exact hE'.out)]
        go_wp2_with fail
        go_quiet (refine Calls.quiet_of_same ((CC.out _ (below_drewN hB3.out _)).mono fun e w' hh => hh))
        go_wp2_with fail
        obtain ⟨w5, hw5⟩ : ∃ w5, w5 = w3.drewN nq := ⟨_, rfl⟩
        have hB5 : Hid (Below w.heap.size w w5) := by show Below _ _ _; rw [hw5]; exact below_drewN hB3.out nq
        have hK5 : Hid (Blk w5 w.heap.size [.slice A1 M1.length c1] 22) := by show Blk _ _ _ _; rw [hw5]; exact hK3.out
        have hL5 : Hid (Blk w5 (w.heap.size + 1) [.slice A2 M2.length c2] 22) := by show Blk _ _ _ _; rw [hw5]; exact hL3.out
        rw [← hw5]
        clear hw5 hb0 hb1 hK3 hL3 hB3 t
        have z1 : ∀ z : ExtOf w5.drew, z.world.cell? ⟨w.heap.size, 0, none⟩ = some (.slice A1 M1.length c1) := fun z => (hK5.out.drew.below z.ext hK5.out.drew.lt).cell rfl
        have z2 : ∀ z : ExtOf w5.drew, z.world.cell? ⟨w.heap.size + 1, 0, none⟩ = some (.slice A2 M2.length c2) := fun z => (hL5.out.drew.below z.ext hL5.out.drew.lt).cell rfl
        have CC2 := Lib.hid (CD.out w5.drew hB5.out.drew)
        have hle : Hid (M1.length ≤ 1000000 ∧ cols M2 ≤ 1000000) := ⟨l1, by have := ok2.out.cols_le; omega⟩
        have hqc : Hid (cols M1 = M2.length) := by show _ = _; rw [← hq'.out]; exact hqm
        have BB := Lib.hid (build_of 84 [.pointer (some ⟨w.heap.size, 0, none⟩), .pointer (some ⟨w.heap.size + 1, 0, none⟩)] (fun i k => Gf.combAt (M1.getD i []) M2 k) M1.length (cols M2) w5.drew hle.out.1 hle.out.2 (enter_of Tryd.func84 (by kernel_rfl) (by kernel_rfl)) (fun i k hi hk W hB => by
          have hBW := hB5.out.drew.trans (hB.mono hB5.out.drew.size)
          obtain ⟨m1, m2, m3⟩ := HM.out W hBW
          exact prod1_any M1 M2 A1 A2 M1.length M2.length c1 c2 w.heap.size (w.heap.size + 1) i k W m1 m2 ok1.out ok2.out rfl rfl ((hK5.out.drew.below hB hK5.out.drew.lt).cell rfl) ((hL5.out.drew.below hB hL5.out.drew.lt).cell rfl) hi hk hqc.out m3))
        have htl : Hid ((prd M1 M2).length = M1.length) := matF_len _ _ _
        have hT : Hid (matF (fun i k => Gf.combAt (M1.getD i []) M2 k) M1.length (cols M2) = prd M1 M2) := rfl
        rw [hT.out, ← hRT.out] at BB
        rw [← hRT.out] at htl
        have hl1 := Lib.hid l1
        generalize cols M2 = q2 at CC2 BB
        refine wp_region_planL 99 [(true, 0), (true, 1), (true, 2), (true, 4), (false, 3), (false, 5), (true, 6), (true, 7)] (by kernel_rfl) (by decide) (by kernel_rfl) (by kernel_rfl) (by kernel_rfl) (by decide) (by intro c a d v w h; cases d <;> exact h) ?_
        change wpPlanL _ _ _ _ _ _ w5.drew
        iterate 4 (refine wpPlanL_plain rfl (fun K hK => ?_); go_simp; refine hK _ ?_; clear hK K)
        clear z1 z2
        refine wpPlanL_call rfl (fun K hK => ?_)
        go_wp2_with fail
        refine CC2.out.mono ?_
        rintro e w6 ⟨rfl, rfl⟩
        go_wp2_with fail
        refine planPostL_normal ⟨.inr (Ext.refl _), hK _ _ ?_⟩
        clear hK K
        refine wpPlanL_call rfl (fun K hK => ?_)
        go_wp2_with fail
        refine BB.out.mono ?_
        rintro e w7 ⟨⟨g, bs, rfl, hO7⟩, hb7⟩
        go_wp2_with fail
        refine planPostL_normal ⟨.inr hb7, hK _ _ ?_⟩
        clear hK K
        iterate 2 (refine wpPlanL_plain rfl (fun K hK => ?_); go_simp; refine hK _ ?_; clear hK K)
        refine wpPlanL_nil ?_
        have hfin : Hid (MatRet w R E (.returned (.tuple #[.slice (some ⟨g, 0, none⟩) M1.length M1.length, .int .i64 0])) w7) := by
          show MatRet _ _ _ _ _
          rw [hE'.out]
          exact MatRet.own (W := w) htl.out hO7 (hB5.out.drew.trans (hb7.mono hB5.out.drew.size)) hl1.out
        clear hO7 hb7
        go_wp2_with fail
        go_ret2
        exact hfin.out
      · have t : ((q : Int) != (M2.length : Int)) = true := by simp only [bne_iff_ne, ne_eq]; omega
        have hE' : E = 1 := by
          rw [hE.out]
          unfold prdE
          rw [← hr.out.1, ← hr.out.2, if_neg (by simp), if_neg (by simp), if_pos (by rw [← hq'.out]; exact hqm)]
        have hRT : R = [] := by rw [hR.out, if_neg (by rw [← hE.out, hE']; decide)]
        subst hRT
        subst hE'
        have hfin := Lib.hid (fun n => MatRet.nothing (E := 1) (below_drewN hB3.out n))
        go_wp2_with fail
        go_quiet (refine Calls.quiet_of_same ((CC.out _ (below_drewN hB3.out _)).mono fun e w' hh => hh))
        go_wp2_with fail
        go_ret2
        exact hfin.out _
    · have t : (r2 == 0) = false := by simpa using h0
      have hE' : E = r2 := by
        rw [hE.out]
        unfold prdE
        rw [← hr.out.1, ← hr.out.2, if_neg (by simp), if_pos h0]
      have hRT : R = [] := by rw [hR.out, if_neg (by rw [← hE.out, hE']; exact h0)]
      subst hRT
      subst hE'
      have hfin := Lib.hid (MatRet.nothing (E := E) hB3.out)
      go_wp2_with fail
      go_ret2
      exact hfin.out
  · have t : (r1 == 0) = false := by simpa using h0
    have hE' : E = r1 := by
      rw [hE.out]
      unfold prdE
      rw [← hr.out.1, if_pos h0]
    have hRT : R = [] := by rw [hR.out, if_neg (by rw [← hE.out, hE']; exact h0)]
    subst hRT
    subst hE'
    have hfin := Lib.hid (MatRet.nothing (E := E) hB2.out)
    go_wp2_with fail
    go_ret2
    exact hfin.out
end Go.Proofs.YtfbdhcpclccikaaDoor
