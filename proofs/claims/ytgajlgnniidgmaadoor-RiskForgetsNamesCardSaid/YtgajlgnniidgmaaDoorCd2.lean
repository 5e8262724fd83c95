/-
  Contracts of stage 7: (*stairs).lower. Contracts of stage 7: parities. Contracts of stage 7: fit. Contracts of stage 7: In, Bit, Count, Has of the specification. Contracts of stage 7: row of the specification. Contracts of stage 7: Few, SameTexts of the specification. Contracts of stage 7: less of the specification.
-/
import Derived.Test.YtgajlgnniidgmaaDoorCd1
import Derived.Test.YtgajlgnniidgmaaDoorGfa
import Derived.Test.YtgajlgnniidgmaaDoorMcd
import Derived.Test.YtgajlgnniidgmaaDoorGfr
import Derived.Deep.QuietTactic
import Derived.BigQuiet
import Derived.ChangeKeysEq
import Derived.Laws.StructEq
namespace Go.Proofs.YtgajlgnniidgmaaDoor
set_option linter.unusedVariables false
set_option linter.unusedSimpArgs false
open Go.RowKit

theorem set_row {r : List UInt8} {rest : List Value} {j : Nat} {z : UInt8} (hj : j < r.length) : splice (r.map bv ++ rest) j (bv z).cells.toList = (r.set j z).map bv ++ rest := by
  show splice _ j [bv z] = _
  rw [splice_set _ _ _ (by simp; omega), List.set_append_left _ _ (by rw [List.length_map]; exact hj), List.map_set]
theorem row_cell {r : List UInt8} {rest : List Value} {j : Nat} (hj : j < r.length) : (r.map bv ++ rest)[j]? = some (bv (r.getD j 0)) := by
  rw [List.getElem?_append_left (by rw [List.length_map]; exact hj), List.getElem?_map, List.getElem?_eq_getElem hj, List.getD_eq_getElem?_getD, List.getElem?_eq_getElem hj]
  rfl
set_option maxRecDepth 100000 in
set_option maxHeartbeats 8000000 in
theorem lower_any (st : Nat → List UInt8) (gs gr wd f c : Nat) (L : List Value) (sA : Nat → Option Addr) (sc : Nat → Nat) (r : List UInt8) (rest : List Value) (w : World)
    (hB : Blk w gs L 100) (h0 : L[0]? = some (.int .i64 wd)) (hs : ∀ k, k < wd → L[2 + k]? = some (.slice (sA k) (st k).length (sc k))) (hne : gs ≠ gr) (hR : Blk w gr (r.map bv ++ rest) 5)
    (hl : ∀ k, f ≤ k → k < wd → (st k).length ≤ r.length) (hrd : ∀ k, f ≤ k → k < wd → ∀ W, Chg [gr] w W → Rds W W.heap.size (sA k) ((st k).map bv)) (hw : wd ≤ r.length) (hw16 : wd ≤ 16) (hf : f ≤ wd) (hr5 : r.length ≤ 1000000) (ht : ∀ W, Chg [gr] w W → PTab 2 W) :
    Calls Tryd.prog 89 #[.pointer (some ⟨gs, 0, none⟩), .slice (some ⟨gr, 0, none⟩) r.length c, .int .i64 f] w fun e w' => e = .returned (.tuple #[]) ∧ Blk w' gr ((low st r f (wd - f)).map bv ++ rest) 5 ∧ Chg [gr] w w' := by
  have hBs : Hid (∀ W, Chg [gr] w W → Blk W gs L 100) := fun W h => h.blk hB (by simpa using hne)
  have hr0 : Hid (Blk w gr ((low st r f 0).map bv ++ rest) 5) := hR
  have hc0 : Hid (Chg [gr] w w) := Chg.refl _ _
  have hsH := Lib.hid hs
  have h0H := Lib.hid h0
  have hlH := Lib.hid hl
  have hrH := Lib.hid hrd
  have htH := Lib.hid ht
  have HM : Hid (∀ a b W, PTab 2 W → Calls Tryd.prog 93 #[bv a, bv b] W fun e w' => e = .returned (bv (Gf.mul a b)) ∧ ∃ n, w' = W.drewN n) := fun a b W h => mul_any a b W h
  obtain ⟨n, hn⟩ : ∃ n, n = r.length := ⟨_, rfl⟩
  have hnH := Lib.hid hn
  rw [← hn] at hw hr5 ⊢
  clear hB h0 hs hR hl hrd ht hn hne
  go_enter Tryd.func89, Tryd.ntmps89
  go_wp2_with fail
  go_loopw [6] (fun v wr => ∃ i : Nat, v = .int .i64 ((f + i : Nat) : Int) ∧ f + i ≤ wd ∧ Hid (Blk wr gr ((low st r f i).map bv ++ rest) 5) ∧ Hid (Chg [gr] w wr)) (fun v _ => wd - (intOf v).toNat)
  case atStart => exact ⟨0, rfl, by omega, hr0, hc0⟩
  case round =>
    obtain ⟨i, rfl, hi, hrow, hch⟩ := hrel
    clear hr0 hc0
    obtain ⟨k, hk⟩ : ∃ k, k = f + i := ⟨_, rfl⟩
    rw [← hk]
    have hkH := Lib.hid hk
    have hkw : k ≤ wd := by omega
    clear hk hi
    have p0 : wr.cell? ⟨gs, 0, none⟩ = some (.int .i64 wd) := (hBs.out _ hch.out).cell (j := 0) h0H.out
    by_cases hlt : k < wd
    · have tk : (k : Int) < (wd : Int) := by omega
      have tkn : (k : Int) < (n : Int) := by omega
      obtain ⟨R, hRr⟩ : ∃ R, R = low st r f i := ⟨_, rfl⟩
      have hRl : R.length = n := by rw [hRr, low_len, hnH.out]
      rw [← hRr] at hrow
      have hRH := Lib.hid hRr
      have hRlH := Lib.hid hRl
      obtain ⟨y, hy⟩ : ∃ y, y = R.getD k 0 := ⟨_, rfl⟩
      have p1 : wr.cell? ⟨gr, k, none⟩ = some (.int .u8 y.toNat) := by
        rw [hy]; exact hrow.out.cell (row_cell (by omega))
      have hyH := Lib.hid hy
      clear hRr hy hRl
      by_cases hy0 : y = 0
      · have zy : ((y.toNat : Int) == 0) = true := by rw [hy0]; rfl
        have hnext : Hid (Blk wr gr ((low st r f (i + 1)).map bv ++ rest) 5) := by
          show Blk _ _ _ _
          rw [low_next, ← hRH.out, ← hkH.out]
          unfold lowS
          rw [← hyH.out, hy0, addR_zero]
          exact hrow.out
        clear hy0
        go_wp2_with fail
        go_roundw
        case rel => exact ⟨i + 1, by rw [hkH.out]; go_num, by have := hkH.out; omega, hnext, hch⟩
        case measure => simp [intOf]; omega
      · have zy : ((y.toNat : Int) == 0) = false := by
          have : y.toNat ≠ 0 := fun h => hy0 (UInt8.toNat_inj.1 h)
          simp; omega
        have p2 : wr.cell? ⟨gs, 2 + k, none⟩ = some (.slice (sA k) (st k).length (sc k)) := (hBs.out _ hch.out).cell (hsH.out k hlt)
        have tk16 : (k : Int) < 16 := by omega
        have hfk : f ≤ k := by have := hkH.out; omega
        have hpl := hlH.out k hfk hlt
        have hrk := Lib.hid (hrH.out k hfk hlt)
        have hlow : Hid (low st r f (i + 1) = addR y (st k) R) := by
          show _ = _
          rw [low_next, ← hRH.out, ← hkH.out]
          unfold lowS
          rw [← hyH.out]
        generalize sA k = A at p2 hrk
        generalize sc k = cp at p2
        obtain ⟨p, hp⟩ : ∃ p, p = st k := ⟨_, rfl⟩
        rw [← hp] at p2 hpl hrk hlow
        obtain ⟨np, hnp⟩ : ∃ n, n = p.length := ⟨_, rfl⟩
        have hnpH := Lib.hid hnp
        rw [← hnp] at p2 hpl
        have hpR : Hid (p.length ≤ R.length) := by show _ ≤ _; rw [← hnp, hRlH.out, hnH.out]; exact hpl
        have hq0 : Hid (Blk wr gr ((addR y (p.take 0) R).map bv ++ rest) 5) := by
          show Blk _ _ _ _
          rw [List.take_zero, addR_none]
          exact hrow.out
        have hnp5 : np ≤ 1000000 := by have := hnH.out; omega
        clear hp hnp hy0 hpl
        go_wp2_with fail
        go_loopw [32] (fun v wq => ∃ j : Nat, v = .int .i64 j ∧ j ≤ np ∧ Hid (Blk wq gr ((addR y (p.take j) R).map bv ++ rest) 5) ∧ Hid (Chg [gr] w wq)) (fun v _ => np - (intOf v).toNat)
        case atStart => exact ⟨0, rfl, by omega, hq0, hch⟩
        case round =>
          obtain ⟨j, rfl, hj, hrw, hcq⟩ := hrel
          clear hq0 p0 p1 p2
          by_cases hjl : j < np
          · have tj : (j : Int) < (np : Int) := by omega
            obtain ⟨x, hx⟩ : ∃ x, p[j]? = some x := ⟨_, List.getElem?_eq_getElem (by have := hnpH.out; omega)⟩
            have hjn : j < n := by have h1 := hpR.out; have h2 := hnpH.out; have h3 := hRlH.out; omega
            have tjn : (j : Int) < (n : Int) := by omega
            have hnx := addR_next (c := y) hx hpR.out
            obtain ⟨ad, hA, _, hcx⟩ := (hrk.out _ hcq.out).look (k := j) (u := bv x) (by rw [List.getElem?_map, hx]; rfl)
            subst hA
            have p3 : wr.cell? (ad.add j) = some (.int .u8 x.toNat) := hcx
            obtain ⟨z, hz⟩ : ∃ z, z = (addR y (p.take j) R).getD j 0 := ⟨_, rfl⟩
            obtain ⟨g, hg⟩ : ∃ g, g = Gf.mul y x := ⟨_, rfl⟩
            obtain ⟨u, hu⟩ : ∃ u, u = z ^^^ g := ⟨_, rfl⟩
            have hxr : bits .xor .u8 (z.toNat : Int) (g.toNat : Int) = (u.toNat : Int) := by rw [hu]; exact u8_xor_bv z g
            have hset : Hid ((addR y (p.take j) R).set j u = addR y (p.take (j + 1)) R) := by
              show _ = _
              rw [hu, hz, hg]; exact hnx.1
            have hln : (addR y (p.take j) R).length = n := by rw [addR_len, hRlH.out]
            have hlnH := Lib.hid hln
            have hfit : Hid (j + (bv u).cells.size ≤ ((addR y (p.take j) R).map bv ++ rest).length) := by
              show j + 1 ≤ _
              rw [List.length_append, List.length_map, hln]; omega
            have p4 : ∀ q : ExtOf wr.drew, q.world.cell? ⟨gr, j, none⟩ = some (.int .u8 z.toNat) := fun q => by
              rw [hz]
              exact (hrw.out.below (q.below (Nat.le_refl _)) hrw.out.lt).cell (row_cell (by rw [hln]; exact hjn))
            have HX : Hid (∀ W, PTab 2 W → Calls Tryd.prog 93 #[bv y, bv x] W fun e w' => e = .returned (bv g) ∧ ∃ n, w' = W.drewN n) := fun W h => by rw [hg]; exact HM.out y x W h
            unfold bv at HX
            clear hnx hcx hz hg hu hx hln
            go_wp2_with fail
            refine wp_region_planM [9] [(true, 0), (true, 1), (true, 2), (true, 3), (true, 4), (true, 5), (false, 6), (true, 7), (true, 8), (false, 9)] (by decide) (by kernel_rfl) (by kernel_rfl) (by decide) (by intro c a d v w h; cases d <;> exact h) ?_
            change wpPlanM _ _ _ _ _ _ wr.drew
            iterate 6 (refine wpPlanM_plain rfl (fun K hK => ?_); go_simp; refine hK _ ?_; clear hK K)
            refine wpPlanM_call rfl (fun K hK => ?_)
            go_wp2_with fail
            refine (HX.out _ (htH.out _ (hcq.out.on ((Below.refl _ _).drew)))).mono ?_
            rintro e w2 ⟨rfl, m2, hw2⟩
            have hb2 : Below wr.drew.heap.size wr.drew w2 := by rw [hw2]; exact below_drewN (Below.refl _ _) m2
            have hbk : Hid (Blk w2 gr ((addR y (p.take j) R).map bv ++ rest) 5) := by show Blk _ _ _ _; rw [hw2]; exact hrw.out
            have hch2 : Hid (Chg [gr] w w2) := hcq.out.on ((((Below.refl wr.heap.size wr).drew).trans hb2).mono hcq.out.size)
            clear hw2
            go_wp2_with fail
            refine planPostL_normal ⟨.inr hb2, hK _ _ ?_⟩
            clear hb2
            clear hK K p4
            iterate 2 (refine wpPlanM_plain rfl (fun K hK => ?_); go_simp; refine hK _ ?_; clear hK K)
            refine wpPlanM_call rfl (fun K hK => ?_)
            refine wpList_blk_store rfl 5 _ _ rfl j (bv u) rfl rfl hbk.out size_u8 hfit.out (one_u8b u) ?_
            intro w5 hw5 ho5
            refine wpList_end (planPostL_normal ⟨.inl (by simp), hK _ _ ?_⟩)
            clear hK K
            refine wpPlanM_nil ?_
            have f1 : Hid (Blk w5 gr ((addR y (p.take (j + 1)) R).map bv ++ rest) 5) := by
              have h := hw5.out
              rw [set_row (by rw [hlnH.out]; exact hjn), hset.out] at h
              exact h
            have f2 : Hid (Chg [gr] w w5) := hch2.out.trans (Chg.only ho5 (List.mem_singleton.2 rfl))
            clear hw5 ho5 hbk
            go_wp2_with fail
            go_roundw
            case rel => exact ⟨j + 1, by go_num, by omega, f1, f2⟩
            case measure => simp [intOf]; omega
          · have tj : ¬ (j : Int) < (np : Int) := by omega
            have hnext : Hid (Blk wr gr ((low st r f (i + 1)).map bv ++ rest) 5) := by
              show Blk _ _ _ _
              rw [hlow.out]
              have h := hrw.out
              rw [List.take_of_length_le (by have := hnpH.out; omega)] at h
              exact h
            clear hrw hjl
            go_wp2_with fail
            go_roundw
            case rel => exact ⟨i + 1, by rw [hkH.out]; go_num, by have := hkH.out; omega, hnext, hcq⟩
            case measure => simp [intOf]; omega
    · have tk : ¬ (k : Int) < (wd : Int) := by omega
      have hfin : Hid (Blk wr gr ((low st r f (wd - f)).map bv ++ rest) 5) := by
        show Blk _ _ _ _
        rw [show wd - f = i by have := hkH.out; omega]
        exact hrow.out
      go_wp2_with fail
      exact bodyPost_end (results_none rfl _ _ _) rfl ⟨rfl, hfin.out, hch.out⟩
end Go.Proofs.YtgajlgnniidgmaaDoor

namespace Go.Proofs.YtgajlgnniidgmaaDoor
set_option linter.unusedVariables false
set_option linter.unusedSimpArgs false
open Go.RowKit

/-- N rows, given by a function. -/
def PM (f : Nat → List UInt8) (N : Nat) : List (List UInt8) := (List.range N).map f
theorem PM_len (f : Nat → List UInt8) (N : Nat) : (PM f N).length = N := by simp [PM]
theorem PM_get (f : Nat → List UInt8) {N k : Nat} (h : k < N) : (PM f N)[k]? = some (f k) := by simp [PM, h]
theorem PM_set (f g : Nat → List UInt8) (N k : Nat) (r : List UInt8) (hk : g k = r) (h : ∀ t, t ≠ k → g t = f t) : (PM f N).set k r = PM g N := by
  apply List.ext_getElem?
  intro t
  by_cases ht : t < N
  · rw [PM_get g ht, List.getElem?_set]
    by_cases e : k = t
    · subst e; rw [if_pos rfl, if_pos (by rw [PM_len]; exact ht), hk]
    · rw [if_neg e, PM_get f ht, h t (fun hh => e hh.symm)]
  · rw [List.getElem?_eq_none (by rw [List.length_set, PM_len]; omega), List.getElem?_eq_none (by rw [PM_len]; omega)]
theorem PM_congr {f g : Nat → List UInt8} {N : Nat} (h : ∀ t, t < N → f t = g t) : PM f N = PM g N := by
  unfold PM
  exact List.map_congr_left fun t ht => h t (List.mem_range.1 ht)
theorem PM_zeros (Z : List UInt8) (N : Nat) : List.replicate N Z = PM (fun _ => Z) N := by
  apply List.ext_getElem?
  intro t
  by_cases ht : t < N
  · rw [PM_get _ ht, List.getElem?_replicate, if_pos ht]
  · rw [List.getElem?_eq_none (by rw [List.length_replicate]; omega), List.getElem?_eq_none (by rw [PM_len]; omega)]
/-- The row of a group; the row of a global parity, whose first m elements have been set. -/
def parG (D : Nat) (g : List Int) : List UInt8 := rowF (fun i => if (i : Int) ∈ g then 1 else 0) D
def parE (D j m : Nat) : List UInt8 := rowF (fun i => if i < m then Gf.exi ((i * (j + 1) : Nat) : Int) else 0) D
theorem parG_nil (D : Nat) : parG D [] = List.replicate D 0 := by
  unfold parG rowF
  apply List.ext_getElem?
  intro t
  by_cases h : t < D
  · simp [h]
  · simp [h]
theorem parE_zero (D j : Nat) : parE D j 0 = List.replicate D 0 := by
  unfold parE rowF
  apply List.ext_getElem?
  intro t
  by_cases h : t < D
  · simp [h]
  · simp [h]
theorem parG_set {D m i : Nat} {g : List Int} (hg : g[m]? = some (i : Int)) (hi : i < D) : (parG D (g.take m)).set i 1 = parG D (g.take (m + 1)) := by
  obtain ⟨h1, h2⟩ := List.getElem?_eq_some_iff.1 hg
  rw [List.take_succ_eq_append_getElem h1, h2]
  apply List.ext_getElem?
  intro t
  rw [List.getElem?_set]
  by_cases ht : t < D
  · by_cases e : i = t
    · subst e
      rw [if_pos rfl, if_pos (by rw [parG, rowF_len]; exact ht), parG, rowF_get _ ht, if_pos (by simp)]
    · rw [if_neg e, parG, rowF_get _ ht, parG, rowF_get _ ht]
      have : ((t : Int) ∈ g.take m ++ [(i : Int)]) ↔ (t : Int) ∈ g.take m := by
        rw [List.mem_append, List.mem_singleton]
        exact ⟨fun h => h.resolve_right (by omega), .inl⟩
      by_cases hm : (t : Int) ∈ g.take m
      · rw [if_pos hm, if_pos (this.2 hm)]
      · rw [if_neg hm, if_neg (fun h => hm (this.1 h))]
  · rw [if_neg (by omega), List.getElem?_eq_none (by rw [parG, rowF_len]; omega), List.getElem?_eq_none (by rw [parG, rowF_len]; omega)]
theorem parE_set {D j m : Nat} (hm : m < D) : (parE D j m).set m (Gf.exi ((m * (j + 1) : Nat) : Int)) = parE D j (m + 1) := by
  apply List.ext_getElem?
  intro t
  rw [List.getElem?_set]
  by_cases ht : t < D
  · by_cases e : m = t
    · subst e
      rw [if_pos rfl, if_pos (by rw [parE, rowF_len]; exact ht), parE, rowF_get _ ht, if_pos (by omega)]
    · rw [if_neg e, parE, rowF_get _ ht, parE, rowF_get _ ht]
      by_cases h : t < m
      · rw [if_pos h, if_pos (by omega)]
      · rw [if_neg h, if_neg (by omega)]
  · rw [if_neg (by omega), List.getElem?_eq_none (by rw [parE, rowF_len]; omega), List.getElem?_eq_none (by rw [parE, rowF_len]; omega)]
/-- The rows of the parities on the way: k groups and m members of the next one; all groups, j global ones and m elements of the next one. -/
def par2 (D : Nat) (Gs : List (List Int)) (k m t : Nat) : List UInt8 := if t < k then parG D (Gs.getD t []) else if t = k then parG D ((Gs.getD k []).take m) else parG D []
def par3 (D n : Nat) (Gs : List (List Int)) (j m t : Nat) : List UInt8 := if t < n then parG D (Gs.getD t []) else if t < n + j then parE D (t - n) D else if t = n + j then parE D j m else parG D []
/-- The rows of the parities. -/
def par (D : Nat) (Gs : List (List Int)) (t : Nat) : List UInt8 := if t < Gs.length then parG D (Gs.getD t []) else parE D (t - Gs.length) D
theorem par2_zero (D : Nat) (Gs : List (List Int)) : par2 D Gs 0 0 = fun _ => List.replicate D 0 := by
  funext t
  unfold par2
  rw [if_neg (by omega), List.take_zero, parG_nil]
  split <;> rfl
theorem par2_next {D k : Nat} {Gs : List (List Int)} {g : List Int} (hg : Gs[k]? = some g) : par2 D Gs k g.length = par2 D Gs (k + 1) 0 := by
  have h0 : Gs.getD k [] = g := by rw [List.getD_eq_getElem?_getD, hg]; rfl
  funext t
  unfold par2
  rw [h0, List.take_length, List.take_zero]
  by_cases h1 : t < k
  · rw [if_pos h1, if_pos (by omega)]
  · by_cases h2 : t = k
    · rw [if_neg h1, if_pos h2, if_pos (by omega), h2, h0]
    · rw [if_neg h1, if_neg h2, if_neg (by omega)]
      split <;> rfl
theorem par3_zero {D n : Nat} {Gs : List (List Int)} (hn : n = Gs.length) : par2 D Gs n 0 = par3 D n Gs 0 0 := by
  funext t
  unfold par2 par3
  rw [List.take_zero, parE_zero, ← parG_nil]
  by_cases h1 : t < n
  · rw [if_pos h1, if_pos h1]
  · rw [if_neg h1, if_neg h1, if_neg (show ¬ t < n + 0 by omega)]
    rfl
theorem par3_next {D n j : Nat} {Gs : List (List Int)} : par3 D n Gs j D = par3 D n Gs (j + 1) 0 := by
  funext t
  unfold par3
  rw [parE_zero, ← parG_nil]
  by_cases h1 : t < n
  · rw [if_pos h1, if_pos h1]
  · rw [if_neg h1, if_neg h1]
    by_cases h2 : t < n + j
    · rw [if_pos h2, if_pos (by omega)]
    · by_cases h3 : t = n + j
      · rw [if_neg h2, if_pos h3, if_pos (by omega), h3, show n + j - n = j by omega]
      · rw [if_neg h2, if_neg h3, if_neg (by omega)]
        split <;> rfl
theorem par3_end {D n G : Nat} {Gs : List (List Int)} (hn : n = Gs.length) : PM (par3 D n Gs G 0) (n + G) = PM (par D Gs) (n + G) := PM_congr fun t ht => by
  unfold par3 par
  rw [← hn]
  by_cases h1 : t < n
  · rw [if_pos h1, if_pos h1]
  · rw [if_neg h1, if_neg h1, if_pos ht]
theorem parG_len (D : Nat) (g : List Int) : (parG D g).length = D := rowF_len _ _
theorem parE_len (D j m : Nat) : (parE D j m).length = D := rowF_len _ _
set_option maxRecDepth 100000 in
set_option maxHeartbeats 8000000 in
theorem parities_any {B : Nat} (D n c G : Nat) (Gs : List (List Int)) (A : Option Addr) (w : World) (hM : CodM w B D A n c G Gs) (hD : D ≤ 16) (hG : G ≤ 4) (hn : n ≤ 24) (hin : ∀ g ∈ Gs, ∀ v ∈ g, 0 ≤ v ∧ v < (D : Int)) (ht : PTab 2 w) :
    Calls Tryd.prog 70 #[cdv D A n c G] w fun e w' => (∃ g bs, e = .returned (.slice (some ⟨g, 0, none⟩) (n + G) (n + G)) ∧ Om w' w.heap.size g bs (PM (par D Gs) (n + G)) []) ∧ Below w.heap.size w w' := by
  obtain ⟨N, hN⟩ : ∃ N, N = n + G := ⟨_, rfl⟩
  have hNH := Lib.hid hN
  have e1 : (n : Int) + (G : Int) = (N : Int) := by omega
  have f1 : IntKind.i64.wrap (N : Int) = (N : Int) := by rw [IntKind.wrap_i64]; omega
  rw [← hN]
  obtain ⟨W2, hW2⟩ : ∃ W2, W2 = (w.alloc (.cells #[.int .i64 D, .slice A n c, .int .i64 G] 24)).alloc (.cells (madeCells #[.slice none 0 0] N) 52) := ⟨_, rfl⟩
  have hB2 : Hid (Below w.heap.size w W2) := by show Below _ _ _; rw [hW2]; exact ((Below.refl _ _).alloc (Nat.le_refl _) _).alloc (by simp) _
  have hs2 : W2.heap.size = w.heap.size + 2 := by rw [hW2]; simp
  have hC2 : Hid (Blk W2 w.heap.size [.int .i64 D, .slice A n c, .int .i64 G] 24) := by show Blk _ _ _ _; rw [hW2]; exact (Blk.new _ [_, _, _] _).alloc _
  have hO2 : Hid (Om W2 (w.heap.size + 1) (w.heap.size + 1) [] (List.replicate 0 (List.replicate D (0 : UInt8))) (List.replicate N (.slice none 0 0))) := by
    show Om _ _ _ _ _ _
    refine Om.fresh (by omega) ?_
    rw [hW2, made_nils]
    exact (Blk.new _ _ _).at (by simp)
  have hk1 : Blk (w.alloc (.cells #[.int .i64 D, .slice A n c, .int .i64 G] 24)) w.heap.size [.int .i64 D, .slice A n c, .int .i64 G] 24 := Blk.new _ [_, _, _] _
  have p1 := hk1.cell (j := 1) rfl
  have p2 := hk1.cell (j := 2) rfl
  have hmk := run_make_row' (P := Tryd.prog) 84 52 (.slice none 0 0) 24 Tryd.underlying84 infoRow rfl .i64 .i64 N (by omega) (by omega) (w.alloc (.cells #[.int .i64 D, .slice A n c, .int .i64 G] 24))
  rw [← hW2] at hmk
  have hs1 : (w.alloc (.cells #[.int .i64 D, .slice A n c, .int .i64 G] 24)).heap.size = w.heap.size + 1 := by simp
  rw [hs1] at hmk
  have hs2' := Lib.hid hs2
  have hMH := Lib.hid hM
  have htH := Lib.hid ht
  have hinH := Lib.hid hin
  have hnH : Hid (n = Gs.length) := hM.len
  unfold cdv
  clear hs1 hs2 hW2 hN hk1 hM ht hin
  go_enter Tryd.func70, Tryd.ntmps70
  go_wp2_with fail
  clear hmk p1 p2
  go_loopw [21] (fun i wr => ∃ (k : Nat) (bs : List Nat), k ≤ N ∧ i = .int .i64 k ∧ Hid (Below w.heap.size w wr) ∧ Hid (Blk wr w.heap.size [.int .i64 D, .slice A n c, .int .i64 G] 24) ∧ Hid (Om wr (w.heap.size + 1) (w.heap.size + 1) bs (List.replicate k (List.replicate D (0 : UInt8))) (List.replicate (N - k) (.slice none 0 0)))) (fun i _ => N - (intOf i).toNat)
  case atStart => exact ⟨0, [], by omega, rfl, hB2, hC2, hO2⟩
  case round =>
    obtain ⟨k, bs, hk, rfl, hB, hC, hO⟩ := hrel
    clear hC2 hO2
    have p0 := hC.out.cell (j := 0) rfl
    by_cases hlt : k < N
    · have tk : (k : Int) < (N : Int) := by omega
      obtain ⟨W5, hW5⟩ : ∃ W5, W5 = wr.alloc (.cells (madeCells #[.int .u8 0] D) 5) := ⟨_, rfl⟩
      have hb5 : Hid (Below wr.heap.size wr W5) := by show Below _ _ _; rw [hW5]; exact (Below.refl _ _).alloc (Nat.le_refl _) _
      have hZ5 : Hid (Blk W5 wr.heap.size ((List.replicate D (0 : UInt8)).map bv) 5) := by
        show Blk _ _ _ _
        rw [hW5, made_zeros, zeros_row]
        exact Blk.new _ _ _
      have hmk2 := run_make_row' (P := Tryd.prog) 52 5 (.int .u8 0) 1 Tryd.underlying52 infoByte rfl .i64 .i64 D (by omega) (by omega) wr
      rw [← hW5] at hmk2
      have hO5 := Lib.hid (hO.out.keep hb5.out)
      have hC5 := Lib.hid (hC.out.below hb5.out hC.out.lt)
      have hlen5 : Hid (k + 1 ≤ (rvals bs (List.replicate k (List.replicate D (0 : UInt8))) ++ List.replicate (N - k) (Value.slice none 0 0)).length) := by
        show _ ≤ _
        rw [List.length_append, rvals_len hO.out.len, List.length_replicate, List.length_replicate]
        omega
      have hbsl : Hid (∀ x ∈ bs, x < wr.heap.size) := fun x hx => by
        obtain ⟨j, hj⟩ := List.getElem?_of_mem hx
        have hjl := (List.getElem?_eq_some_iff.1 hj).1
        exact (hO.out.row j x _ hj (List.getElem?_eq_getElem (by rw [← hO.out.len]; exact hjl))).lt
      have hgl : Hid (w.heap.size + 1 < wr.heap.size) := hO.out.out.lt
      clear hW5
      go_wp2_with (refine wpList_blk_store rfl 52 _ _ rfl k (.slice (some ⟨wr.heap.size, 0, none⟩) D D) rfl rfl hO5.out.out size_row hlen5.out (one_slice _ _ _) ?_; intro W6 hW6 ho6)
      have hnin : wr.heap.size ∉ bs := fun hh => by have := hbsl.out _ hh; omega
      have hgne : wr.heap.size ≠ w.heap.size + 1 := by have := hgl.out; omega
      have hrep : List.replicate (N - k) (Value.slice none 0 0) = Value.slice none 0 0 :: List.replicate (N - (k + 1)) (.slice none 0 0) := by
        rw [show N - k = (N - (k + 1)) + 1 by omega, List.replicate_succ]
      have hO6 := Lib.hid (Om.push (b := wr.heap.size) (m := List.replicate D (0 : UInt8)) (by have := hO5.out; rw [hrep] at this; exact this) ho6 (by
        have := hW6.out
        rw [hrep] at this
        simpa [Value.cells, List.length_replicate] using this) (hZ5.out.only ho6 hgne) (by have := hgl.out; omega) hgne hnin (by rw [List.length_replicate]; unfold maxLen; omega))
      rw [← List.replicate_succ'] at hO6
      have hC6 := Lib.hid (hC5.out.only ho6 (by omega))
      have hB6 := Lib.hid (hB.out.trans ((hb5.out.mono hB.out.size).trans (ho6.below (by omega))))
      clear hW6 ho6 hmk2 hrep
      go_roundw
      case rel => exact ⟨k + 1, _, by omega, by go_num, hB6, hC6, hO6⟩
      case measure => simp [intOf]; omega
    · have tk : ¬ (k : Int) < (N : Int) := by omega
      obtain rfl : N = k := by omega
      have hOf : Hid (Om wr (w.heap.size + 1) (w.heap.size + 1) bs (PM (par2 D Gs 0 0) N) []) := by
        have h := hO.out
        rw [Nat.sub_self, PM_zeros] at h
        rw [par2_zero]
        exact h
      clear hO hlt tk p0
      obtain ⟨wS, rfl⟩ : ∃ x, x = wr := ⟨_, rfl⟩
      have p1 := hC.out.cell (j := 1) rfl
      go_wp2_with fail
      clear p1
      go_loopw [34] (fun i wr => ∃ k : Nat, k ≤ n ∧ i = .int .i64 k ∧ Hid (Below w.heap.size w wr) ∧ Hid (Blk wr w.heap.size [.int .i64 D, .slice A n c, .int .i64 G] 24) ∧ Hid (Om wr (w.heap.size + 1) (w.heap.size + 1) bs (PM (par2 D Gs k 0) N) [])) (fun i _ => n - (intOf i).toNat)
      case atStart => exact ⟨0, by omega, rfl, hB, hC, hOf⟩
      case round =>
        clear hB hC hOf
        obtain ⟨k, hkn, rfl, hB, hC, hO⟩ := hrel
        by_cases hlt : k < n
        · have tk : (k : Int) < (n : Int) := by omega
          have hkN : k < N := by have := hNH.out; omega
          obtain ⟨g, hg⟩ : ∃ g, Gs[k]? = some g := ⟨_, List.getElem?_eq_getElem (by have := hnH.out; omega)⟩
          obtain ⟨ad, v, hA, hab, hcv0, a, ca, rfl, hgl, hcl, hca, hrd⟩ := hMH.out.m.at hg
          have hcv : wr.cell? (ad.add k) = some (.slice a g.length ca) := ((hB.out.mono hMH.out.le).cell (by rw [add_block]; exact hab)).trans hcv0
          subst hA
          have hgin : Hid (∀ v ∈ g, 0 ≤ v ∧ v < (D : Int)) := hinH.out g (List.mem_of_getElem? hg)
          obtain ⟨l, hl⟩ : ∃ l, l = g.length := ⟨_, rfl⟩
          have hlH := Lib.hid hl
          rw [← hl] at hcv
          have hgH := Lib.hid hg
          have hrdH := Lib.hid hrd
          have hBle : Hid (B ≤ w.heap.size) := hMH.out.le
          have hl5 : l ≤ maxLen := by rw [hl]; omega
          unfold maxLen at hl5
          clear hl hg hrd hgl hcl hca hcv0
          obtain ⟨wT, rfl⟩ : ∃ x, x = wr := ⟨_, rfl⟩
          have hcell : Hid (∀ W m x, Below w.heap.size w W → g[m]? = some x → ∃ bd, a = some bd ∧ W.cell? (bd.add m) = some (.int .i64 x)) := fun W m x hW hx => by
            obtain ⟨bd, e1, _, e2⟩ := (hrdH.out.below (hW.mono hBle.out)).look (k := m) (u := iv x) (by rw [List.getElem?_map, hx]; rfl)
            exact ⟨bd, e1, e2⟩
          go_wp2_with fail
          go_loopw [41] (fun i wr => ∃ m : Nat, m ≤ l ∧ i = .int .i64 m ∧ Hid (Below w.heap.size w wr) ∧ Hid (Blk wr w.heap.size [.int .i64 D, .slice (some ad) n c, .int .i64 G] 24) ∧ Hid (Om wr (w.heap.size + 1) (w.heap.size + 1) bs (PM (par2 D Gs k m) N) [])) (fun i _ => l - (intOf i).toNat)
          case atStart => exact ⟨0, by omega, rfl, hB, hC, hO⟩
          case round =>
            clear hB hC hO
            obtain ⟨m, hml, rfl, hB, hC, hO⟩ := hrel
            by_cases hlt2 : m < l
            · have tm : (m : Int) < (l : Int) := by omega
              obtain ⟨x, hx⟩ : ∃ x, g[m]? = some x := ⟨_, List.getElem?_eq_getElem (by have := hlH.out; omega)⟩
              have hxr := hgin.out x (List.mem_of_getElem? hx)
              obtain ⟨i, rfl⟩ : ∃ i : Nat, x = i := ⟨x.toNat, by omega⟩
              have hiD : i < D := by omega
              have tiD : (i : Int) < (D : Int) := by omega
              obtain ⟨bd, hA, hcb⟩ := hcell.out _ m _ hB.out hx
              subst hA
              have hrowk : par2 D Gs k m k = parG D (g.take m) := by
                unfold par2
                rw [if_neg (by omega), if_pos rfl, List.getD_eq_getElem?_getD, hgH.out]; rfl
              obtain ⟨b, hbk, hbne, hbb, hcr, hkb⟩ := hO.out.at (PM_get (par2 D Gs k m) hkN)
              rw [hrowk] at hcr hkb
              rw [parG_len] at hcr
              have hkbH := Lib.hid hkb
              have hfit : Hid (i + (bv 1).cells.size ≤ ((parG D (g.take m)).map bv).length) := by
                show i + 1 ≤ _
                rw [List.length_map, parG_len]; exact hiD
              have tkN : (k : Int) < (N : Int) := by omega
              have hbkH := Lib.hid hbk
              have hxH := Lib.hid hx
              have hrowH := Lib.hid hrowk
              have hbbH := Lib.hid hbb
              clear hkb hbk hx hrowk hxr hlt2 hbb
              go_wp2_with (refine wpList_blk_store rfl 5 _ _ rfl i (bv 1) rfl rfl hkbH.out size_u8 hfit.out (one_u8b 1) ?_; intro w5 hw5 ho5)
              have h5 : Blk w5 b ((parG D (g.take (m + 1))).map bv) 5 := by
                have h := hw5.out
                have e := set_row (r := parG D (g.take m)) (rest := []) (z := 1) (j := i) (by rw [parG_len]; exact hiD)
                rw [List.append_nil, List.append_nil] at e
                rw [e, parG_set hxH.out hiD] at h
                exact h
              have hO5 : Hid (Om w5 (w.heap.size + 1) (w.heap.size + 1) bs (PM (par2 D Gs k (m + 1)) N) []) := by
                have h := hO.out.setRow hbkH.out (PM_get (par2 D Gs k m) hkN) ho5 h5 (by rw [hrowH.out, parG_len, parG_len])
                rw [PM_set (par2 D Gs k m) (par2 D Gs k (m + 1)) N k _ (by
                  unfold par2
                  rw [if_neg (by omega), if_pos rfl, List.getD_eq_getElem?_getD, hgH.out]; rfl) (fun t ht => by unfold par2; rw [if_neg ht, if_neg ht])] at h
                exact h
              have hC5 := Lib.hid (hC.out.only ho5 (by have := hbbH.out; omega))
              have hB5 := Lib.hid (hB.out.trans (ho5.below (by have := hbbH.out; omega)))
              clear hw5 ho5 h5
              go_roundw
              case rel => exact ⟨m + 1, by omega, by go_num, hB5, hC5, hO5⟩
              case measure => simp [intOf]; omega
            · have tm : ¬ (m : Int) < (l : Int) := by omega
              obtain rfl : l = m := by omega
              have hOn : Hid (Om wr (w.heap.size + 1) (w.heap.size + 1) bs (PM (par2 D Gs (k + 1) 0) N) []) := by
                have h := hO.out
                rw [hlH.out, par2_next hgH.out] at h
                exact h
              clear hO hlt2
              go_wp2_with fail
              go_roundw
              case rel => exact ⟨k + 1, by omega, by go_num, hB, hC, hOn⟩
              case measure => simp [intOf]; omega
        · have tk : ¬ (k : Int) < (n : Int) := by omega
          obtain rfl : n = k := by omega
          have hO3 : Hid (Om wr (w.heap.size + 1) (w.heap.size + 1) bs (PM (par3 D n Gs 0 0) N) []) := by
            have h := hO.out
            rw [par3_zero hnH.out] at h
            exact h
          clear hO hlt tk
          obtain ⟨wU, rfl⟩ : ∃ x, x = wr := ⟨_, rfl⟩
          have p1 := hC.out.cell (j := 1) rfl
          have s1 : (n : Int) ≤ (N : Int) := by have := hNH.out; omega
          have s2 : 0 ≤ (n : Int) := by omega
          have s3 : n ≤ N := by have := hNH.out; omega
          have s4 : N - n = G := by have := hNH.out; omega
          obtain ⟨A3, ha3⟩ : ∃ X, (if N = n then some (⟨w.heap.size + 1, 0, none⟩ : Addr) else some (⟨w.heap.size + 1, n, none⟩ : Addr)) = X := ⟨_, rfl⟩
          go_wp2_with fail
          have ha3H := Lib.hid ha3
          clear p1 ha3
          go_loopw [59] (fun i wr => ∃ j : Nat, j ≤ G ∧ i = .int .i64 j ∧ Hid (Below w.heap.size w wr) ∧ Hid (Om wr (w.heap.size + 1) (w.heap.size + 1) bs (PM (par3 D n Gs j 0) N) [])) (fun i _ => G - (intOf i).toNat)
          case atStart => exact ⟨0, by omega, rfl, hB, hO3⟩
          case round =>
            clear hB hO3
            obtain ⟨j, hjG, rfl, hB, hO⟩ := hrel
            by_cases hlt : j < G
            · have tj : (j : Int) < (G : Int) := by omega
              have hjN : n + j < N := by have := hNH.out; omega
              obtain rfl : A3 = some ⟨w.heap.size + 1, n, none⟩ := by rw [← ha3H.out, if_neg (by omega)]
              have hrowj : Hid (∀ m, par3 D n Gs j m (n + j) = parE D j m) := fun m => by
                unfold par3
                rw [if_neg (by omega), if_neg (by omega), if_pos rfl]
              obtain ⟨b, hbk, hbne, hbb, hcr, _⟩ := hO.out.at (PM_get (par3 D n Gs j 0) hjN)
              rw [hrowj.out, parE_len] at hcr
              have hbkH := Lib.hid hbk
              have hbbH := Lib.hid hbb
              obtain ⟨wV, rfl⟩ : ∃ x, x = wr := ⟨_, rfl⟩
              clear hbk hbb
              go_wp2_with fail
              clear hcr
              go_loopw [66] (fun i wr => ∃ m : Nat, m ≤ D ∧ i = .int .i64 m ∧ Hid (Below w.heap.size w wr) ∧ Hid (Om wr (w.heap.size + 1) (w.heap.size + 1) bs (PM (par3 D n Gs j m) N) [])) (fun i _ => D - (intOf i).toNat)
              case atStart => exact ⟨0, by omega, rfl, hB, hO⟩
              case round =>
                clear hB hO
                obtain ⟨m, hmD, rfl, hB, hO⟩ := hrel
                by_cases hlt2 : m < D
                · have tm : (m : Int) < (D : Int) := by omega
                  obtain ⟨q, hq⟩ : ∃ q, q = m * (j + 1) := ⟨_, rfl⟩
                  have hq64 : q ≤ 64 := by
                    rw [hq]
                    exact Nat.le_trans (Nat.mul_le_mul (show m ≤ 16 by omega) (show j + 1 ≤ 4 by omega)) (by omega)
                  have e5 : (m : Int) * ((j : Int) + 1) = (q : Int) := by rw [hq, Int.natCast_mul, Int.natCast_add]; rfl
                  have hkb := Lib.hid (by have h := hO.out.row (n + j) b _ hbkH.out (PM_get (par3 D n Gs j m) hjN); rw [hrowj.out] at h; exact h)
                  have hfit : Hid (∀ z, m + (bv z).cells.size ≤ ((parE D j m).map bv).length) := fun z => by
                    show m + 1 ≤ _
                    rw [List.length_map, parE_len]; exact hlt2
                  obtain ⟨z, hz⟩ : ∃ z, z = Gf.exi (q : Int) := ⟨_, rfl⟩
                  have EX := Lib.hid (exp_any (q : Int) wr (htH.out.on hB.out))
                  rw [← hz] at EX
                  unfold bv at EX
                  have hzH : Hid ((parE D j m).set m z = parE D j (m + 1)) := by show _ = _; rw [hz, hq]; exact parE_set hlt2
                  clear hq hz
                  obtain ⟨wX, rfl⟩ : ∃ x, x = wr := ⟨_, rfl⟩
                  go_wp2_with fail
                  refine EX.out.mono ?_
                  rintro e w4 ⟨rfl, rfl⟩
                  go_wp2_with (refine wpList_blk_store rfl 5 _ _ rfl m (bv z) rfl rfl hkb.out size_u8 (hfit.out z) (one_u8b z) ?_; intro w5 hw5 ho5)
                  have h5 : Blk w5 b ((parE D j (m + 1)).map bv) 5 := by
                    have h := hw5.out
                    have e := set_row (r := parE D j m) (rest := []) (z := z) (j := m) (by rw [parE_len]; exact hlt2)
                    rw [List.append_nil, List.append_nil] at e
                    rw [e, hzH.out] at h
                    exact h
                  have hO5 : Hid (Om w5 (w.heap.size + 1) (w.heap.size + 1) bs (PM (par3 D n Gs j (m + 1)) N) []) := by
                    have h := hO.out.setRow hbkH.out (PM_get (par3 D n Gs j m) hjN) ho5 h5 (by rw [hrowj.out, parE_len, parE_len])
                    rw [PM_set (par3 D n Gs j m) (par3 D n Gs j (m + 1)) N (n + j) _ (hrowj.out (m + 1)) (fun t ht => by unfold par3; rw [if_neg ht, if_neg ht])] at h
                    exact h
                  have hB5 := Lib.hid (hB.out.trans (ho5.below (by have := hbbH.out; omega)))
                  clear hw5 ho5 h5
                  go_roundw
                  case rel => exact ⟨m + 1, by omega, by go_num, hB5, hO5⟩
                  case measure => simp [intOf]; omega
                · have tm : ¬ (m : Int) < (D : Int) := by omega
                  obtain rfl : D = m := by omega
                  have hOn : Hid (Om wr (w.heap.size + 1) (w.heap.size + 1) bs (PM (par3 D n Gs (j + 1) 0) N) []) := by
                    have h := hO.out
                    rw [par3_next] at h
                    exact h
                  clear hO hlt2
                  go_wp2_with fail
                  go_roundw
                  case rel => exact ⟨j + 1, by omega, by go_num, hB, hOn⟩
                  case measure => simp [intOf]; omega
            · have tj : ¬ (j : Int) < (G : Int) := by omega
              obtain rfl : G = j := by omega
              have hfin : Hid (Om wr w.heap.size (w.heap.size + 1) bs (PM (par D Gs) N) []) := by
                have h := hO.out
                rw [hNH.out, par3_end hnH.out, ← hNH.out] at h
                exact ⟨h.len, h.out, h.row, by omega, fun b hb => by have := h.lows b hb; omega, h.ne, h.nodup, h.caps⟩
              clear hO hlt
              go_wp2_with fail
              go_ret
              first | exact ⟨⟨_, rfl, _, hfin.out⟩, hB.out⟩ | exact ⟨⟨_, hfin.out⟩, hB.out⟩ | exact ⟨⟨_, _, hfin.out⟩, hB.out⟩
end Go.Proofs.YtgajlgnniidgmaaDoor

namespace Go.Proofs.YtgajlgnniidgmaaDoor
set_option linter.unusedVariables false
set_option linter.unusedSimpArgs false
open Go.RowKit

/-- There is an entry for each piece, and those of a set are as long as they should be. -/
def FitP (cnt sz s : Nat) (ps : List (List UInt8)) : Prop := ps.length = cnt ∧ ∀ t, t < ps.length → s.testBit t = true → (ps.getD t []).length = sz
/-- What a call that answers such a question ends with. -/
def SayEnd (w : World) (Q : Prop) (e : Ending) (w' : World) : Prop := (∃ b, e = .returned (.bool b) ∧ (b = true ↔ Q)) ∧ Below w.heap.size w w'
end Go.Proofs.YtgajlgnniidgmaaDoor

namespace Go.Proofs.YtgajlgnniidgmaaDoor
set_option linter.unusedVariables false
set_option linter.unusedSimpArgs false
open Go.RowKit

theorem half_next (s i : Nat) : s / 2 ^ i / 2 = s / 2 ^ (i + 1) := by rw [Nat.div_div_eq_div_mul, Nat.pow_succ]
set_option maxRecDepth 100000 in
set_option maxHeartbeats 1000000 in
theorem in07_any (s k : Nat) (w : World) (hs : s ≤ 4611686018427387904) (hk : k ≤ 64) : Calls Tryd.prog 61 #[.int .i64 s, .int .i64 k] w fun e w' => e = .returned (.bool (s.testBit k)) ∧ w' = w := by
  obtain ⟨b, hb⟩ : ∃ b, b = s.testBit k := ⟨_, rfl⟩
  rw [← hb]
  have hbH := Lib.hid hb
  clear hb
  go_enter Tryd.func61, Tryd.ntmps61
  go_wp2_with fail
  go_loopw [0, 5] (fun v j wr => ∃ i t : Nat, i ≤ k ∧ v = .int .i64 t ∧ j = .int .i64 i ∧ Hid (t = s / 2 ^ i) ∧ t ≤ 4611686018427387904 ∧ wr = w) (fun _ j _ => k - (intOf j).toNat)
  case atStart => exact ⟨0, s, by omega, rfl, rfl, (by show _ = _; simp), hs, rfl⟩
  case round =>
    obtain ⟨i, t, hi, rfl, rfl, ht, ht2, rfl⟩ := hrel
    by_cases hlt : i < k
    · have ti : (i : Int) < (k : Int) := by omega
      have e1 : Int.tdiv (t : Int) 2 = ((t / 2 : Nat) : Int) := by rfl
      have hn : Hid (t / 2 = s / 2 ^ (i + 1)) := by show _ = _; rw [ht.out, half_next]
      go_wp2_with fail
      go_roundw
      case rel => exact ⟨i + 1, t / 2, by omega, by go_num, by go_num, hn, by omega, trivial⟩
      case measure => simp [intOf]; omega
    · have ti : ¬ (i : Int) < (k : Int) := by omega
      obtain rfl : k = i := by omega
      have e1 : Int.tmod (t : Int) 2 = ((t % 2 : Nat) : Int) := by rfl
      have hbt : b = decide (t % 2 = 1) := by rw [hbH.out, ht.out, Nat.testBit_eq_decide_div_mod_eq]
      by_cases h1 : t % 2 = 1
      · have hb : b = true := by rw [hbt]; exact decide_eq_true h1
        subst hb
        have z1 : ((t : Int) % 2 == 1) = true := by simp; omega
        clear hbt h1
        go_wp2_with fail
        go_ret
        exact ⟨by first | rfl | (go_simp; done), rfl⟩
      · have hb : b = false := by rw [hbt]; exact decide_eq_false h1
        subst hb
        have z1 : ((t : Int) % 2 == 1) = false := by simp; omega
        clear hbt h1
        go_wp2_with fail
        go_ret
        exact ⟨by first | rfl | (go_simp; done), rfl⟩
set_option maxRecDepth 100000 in
set_option maxHeartbeats 1000000 in
theorem bit07_any (k : Nat) (w : World) (hk : k ≤ 60) : Calls Tryd.prog 76 #[.int .i64 k] w fun e w' => e = .returned (.int .i64 ((2 ^ k : Nat) : Int)) ∧ w' = w := by
  obtain ⟨r, hr⟩ : ∃ r, r = 2 ^ k := ⟨_, rfl⟩
  rw [← hr]
  have hrH := Lib.hid hr
  clear hr
  go_enter Tryd.func76, Tryd.ntmps76
  go_wp2_with fail
  go_loopw [3, 4] (fun v j wr => ∃ i t : Nat, i ≤ k ∧ v = .int .i64 t ∧ j = .int .i64 i ∧ Hid (t = 2 ^ i) ∧ t ≤ 1152921504606846976 ∧ wr = w) (fun _ j _ => k - (intOf j).toNat)
  case atStart => exact ⟨0, 1, by omega, rfl, rfl, rfl, by omega, rfl⟩
  case round =>
    obtain ⟨i, t, hi, rfl, rfl, ht, ht2, rfl⟩ := hrel
    by_cases hlt : i < k
    · have ti : (i : Int) < (k : Int) := by omega
      have hn : Hid (2 * t = 2 ^ (i + 1)) := by show _ = _; rw [ht.out, Nat.pow_succ, Nat.mul_comm]
      have hb : 2 * t ≤ 1152921504606846976 := by
        rw [hn.out]
        exact Nat.le_trans (Nat.pow_le_pow_right (by omega) (show i + 1 ≤ 60 by omega)) (by decide)
      go_wp2_with fail
      go_roundw
      case rel => exact ⟨i + 1, 2 * t, by omega, by go_num, by go_num, hn, hb, trivial⟩
      case measure => simp [intOf]; omega
    · have ti : ¬ (i : Int) < (k : Int) := by omega
      obtain rfl : k = i := by omega
      obtain rfl : r = t := by rw [hrH.out, ht.out]
      go_wp2_with fail
      go_ret
      exact ⟨rfl, rfl⟩
/-- A question is answered, and nothing else has happened. -/
def SayW (w : World) (Q : Prop) (e : Ending) (w' : World) : Prop := (∃ b, e = .returned (.bool b) ∧ (b = true ↔ Q)) ∧ w' = w
/-- How many bits a number has. -/
def cnt7 (n : Nat) : Nat := if h : n = 0 then 0 else n % 2 + cnt7 (n / 2)
termination_by n
theorem cnt7_zero : cnt7 0 = 0 := by rw [cnt7]; rfl
theorem cnt7_pos {n : Nat} (h : 0 < n) : cnt7 n = n % 2 + cnt7 (n / 2) := by rw [cnt7, dif_neg (by omega)]
theorem cnt7_le : ∀ N n, n ≤ N → cnt7 n ≤ n
  | 0, n, h => by obtain rfl : n = 0 := by omega
                  rw [cnt7_zero]; omega
  | N + 1, n, h => by
    rcases Nat.eq_zero_or_pos n with h0 | h0
    · subst h0; rw [cnt7_zero]; omega
    · rw [cnt7_pos h0]
      have := cnt7_le N (n / 2) (by omega)
      omega
set_option maxRecDepth 100000 in
set_option maxHeartbeats 1000000 in
theorem has07_any {B : Nat} (g : List Int) (x : Int) (v : Value) (w : World) (hg : RowI w B v g) (hl : g.length ≤ 1000000) : Calls Tryd.prog 66 #[v, .int .i64 x] w (SayW w (x ∈ g)) := by
  obtain ⟨a, c, rfl, _, _, _, hr⟩ := hg
  obtain ⟨l, hl0⟩ : ∃ l, l = g.length := ⟨_, rfl⟩
  obtain ⟨Q, hQ⟩ : ∃ Q, Q = (x ∈ g) := ⟨_, rfl⟩
  rw [← hQ, ← hl0]
  rw [← hl0] at hl
  have hlH := Lib.hid hl0
  have hQH := Lib.hid hQ
  have hrH := Lib.hid hr
  have h0 : Hid (∀ t y, t < 0 → g[t]? = some y → y ≠ x) := fun t y ht => by omega
  clear hl0 hQ hr
  go_enter Tryd.func66, Tryd.ntmps66
  go_wp2_with fail
  go_loopw [5] (fun j wr => ∃ i : Nat, i ≤ l ∧ j = .int .i64 i ∧ Hid (∀ t y, t < i → g[t]? = some y → y ≠ x) ∧ w = wr) (fun j _ => l - (intOf j).toNat)
  case atStart => exact ⟨0, by omega, rfl, h0, rfl⟩
  case round =>
    obtain ⟨i, hi, rfl, hI, rfl⟩ := hrel
    clear h0
    by_cases hlt : i < l
    · have ti : (i : Int) < (l : Int) := by omega
      obtain ⟨y, hy⟩ : ∃ y, g[i]? = some y := ⟨_, List.getElem?_eq_getElem (by have := hlH.out; omega)⟩
      obtain ⟨ad, hA, _, hc0⟩ := hrH.out.look (k := i) (u := iv y) (by rw [List.getElem?_map, hy]; rfl)
      subst hA
      have hc : w.cell? (ad.add i) = some (.int .i64 y) := hc0
      have hyH := Lib.hid hy
      clear hc0 hy
      by_cases hxy : y = x
      · have z : (y == x) = true := by simp [hxy]
        have hyes : Hid Q := by show Q; rw [hQH.out, ← hxy]; exact List.mem_of_getElem? hyH.out
        clear hxy
        go_wp2_with fail
        go_ret
        exact ⟨⟨true, rfl, ⟨fun _ => hyes.out, fun _ => rfl⟩⟩, rfl⟩
      · have z : (y == x) = false := by simpa using hxy
        have hn : Hid (∀ t y, t < i + 1 → g[t]? = some y → y ≠ x) := fun t y' ht hh => by
          by_cases e : t = i
          · subst e
            rw [hyH.out] at hh
            obtain rfl := Option.some.inj hh
            exact hxy
          · exact hI.out t y' (by omega) hh
        clear hxy
        go_wp2_with fail
        go_roundw
        case rel => exact ⟨i + 1, by omega, by go_num, hn, trivial⟩
        case measure => simp [intOf]; omega
    · have ti : ¬ (i : Int) < (l : Int) := by omega
      obtain rfl : l = i := by omega
      have hno : Hid (¬ Q) := by
        show ¬ Q
        rw [hQH.out]
        intro hm
        obtain ⟨t, ht⟩ := List.getElem?_of_mem hm
        exact hI.out t x (by have := (List.getElem?_eq_some_iff.1 ht).1; have := hlH.out; omega) ht rfl
      clear hlt
      go_wp2_with fail
      go_ret
      exact ⟨⟨false, rfl, ⟨fun h => (by cases h), fun h => absurd h hno.out⟩⟩, rfl⟩
end Go.Proofs.YtgajlgnniidgmaaDoor

namespace Go.Proofs.YtgajlgnniidgmaaDoor
set_option linter.unusedVariables false
set_option linter.unusedSimpArgs false
open Go.RowKit

/-- The coefficients of a piece. -/
def cr (D : Nat) (Gs : List (List Int)) (k i : Nat) : UInt8 :=
  if k < D then (if i = k then 1 else 0)
  else if k < D + Gs.length then (if (i : Int) ∈ Gs.getD (k - D) [] then 1 else 0)
  else Gf.exi ((i * (k - D - Gs.length + 1) : Nat) : Int)
def crow (D : Nat) (Gs : List (List Int)) (k m : Nat) : List UInt8 := (List.range m).map (cr D Gs k)
theorem crow_len (D : Nat) (Gs : List (List Int)) (k m : Nat) : (crow D Gs k m).length = m := by simp [crow]
theorem crow_next (D : Nat) (Gs : List (List Int)) (k m : Nat) : crow D Gs k (m + 1) = crow D Gs k m ++ [cr D Gs k m] := by
  unfold crow
  rw [List.range_succ, List.map_append]; rfl
/-- The rows of the parities are those of the last pieces. -/
theorem par_cr (D : Nat) (Gs : List (List Int)) (t : Nat) : par D Gs t = crow D Gs (D + t) D := by
  unfold par crow
  by_cases h : t < Gs.length
  · rw [if_pos h]
    unfold parG rowF
    refine List.map_congr_left fun i hi => ?_
    unfold cr
    rw [if_neg (show ¬ D + t < D by omega), if_pos (show D + t < D + Gs.length by omega), show D + t - D = t by omega]
  · rw [if_neg h]
    unfold parE rowF
    refine List.map_congr_left fun i hi => ?_
    unfold cr
    rw [if_pos (List.mem_range.1 hi), if_neg (show ¬ D + t < D by omega), if_neg (show ¬ D + t < D + Gs.length by omega), show D + t - D - Gs.length = t - Gs.length by omega]
set_option maxRecDepth 100000 in
set_option maxHeartbeats 8000000 in
theorem row07_any {B : Nat} (D n c G k : Nat) (Gs : List (List Int)) (A : Option Addr) (w : World) (hM : CodM w B D A n c G Gs) (hD : D ≤ 16) (hn : n ≤ 24) (hk : k ≤ 50) (hgl : ∀ g ∈ Gs, g.length ≤ 1000000) :
    Calls Tryd.prog 62 #[cdv D A n c G, .int .i64 k] w fun e w' => ∃ v, (e = .returned v ∧ OwnB w' w.heap.size v (crow D Gs k D)) ∧ Below w.heap.size w w' := by
  obtain ⟨W1, hW1⟩ : ∃ W1, W1 = w.alloc (.cells #[.int .i64 D, .slice A n c, .int .i64 G] 24) := ⟨_, rfl⟩
  have hB : Hid (Below w.heap.size w W1) := by show Below _ _ _; rw [hW1]; exact (Below.refl _ _).alloc (Nat.le_refl _) _
  have hC : Hid (Blk W1 w.heap.size [.int .i64 D, .slice A n c, .int .i64 G] 24) := by show Blk _ _ _ _; rw [hW1]; exact Blk.new _ [_, _, _] _
  have hMH := Lib.hid hM
  have hnH : Hid (n = Gs.length) := hM.len
  have hglH := Lib.hid hgl
  have hW1' := Lib.hid hW1
  obtain ⟨gC, hgC⟩ : ∃ g, g = w.heap.size := ⟨_, rfl⟩
  have hgH := Lib.hid hgC
  rw [← hgC] at hC
  have KEEPC : Hid (∀ (a b : World) {v v' : Value} {l : List UInt8} {L : List Value}, Blk a gC L 24 → OwnB a (w.heap.size + 1) v l → Onto a v b v' → Blk b gC L 24) := fun a b v v' l L h ho hon => (hon.1.block gC h.lt (fun e => by have h1 := (ho.lt _ e.symm).1; have h2 := hgH.out; omega)).trans h
  have h0 : Hid (OwnB W1 (w.heap.size + 1) (.slice none 0 0) (crow D Gs k 0)) := ownB_nil _ _
  unfold cdv
  clear hW1 hM hgl hgC
  go_enter Tryd.func62, Tryd.ntmps62
  go_upto_region 1 with fail
  generalize hg : w.alloc _ = Wg
  have hgW : W1 = Wg := by rw [← hg, hW1'.out]
  clear hg hW1'
  subst hgW
  rw [← hgH.out]
  go_wp2_with fail
  go_loopw [5, 6] (fun v j wr => ∃ i : Nat, i ≤ D ∧ j = .int .i64 i ∧ Hid (OwnB wr (w.heap.size + 1) v (crow D Gs k i)) ∧ Hid (Below w.heap.size w wr) ∧ Hid (Blk wr gC [.int .i64 D, .slice A n c, .int .i64 G] 24)) (fun _ j _ => D - (intOf j).toNat)
  case atStart => exact ⟨0, by omega, rfl, h0, hB, hC⟩
  case round =>
    clear h0 hB hC
    obtain ⟨i, hi, rfl, hO, hB, hC⟩ := hrel
    have p0 := hC.out.cell (j := 0) rfl
    have p1 := hC.out.cell (j := 1) rfl
    have hsz : w.heap.size + 1 ≤ wr.heap.size := by have h1 := hC.out.lt; have h2 := hgH.out; omega
    have hln : (crow D Gs k i).length ≤ 140737488355300 := by rw [crow_len]; omega
    by_cases hlt : i < D
    · have ti : (i : Int) < (D : Int) := by omega
      obtain ⟨X, hX⟩ : ∃ X, X = crow D Gs k i := ⟨_, rfl⟩
      rw [← hX] at hO hln
      have hXH := Lib.hid hX
      clear hX
      by_cases h1 : k < D
      · have tk : (k : Int) < (D : Int) := by omega
        by_cases h2 : i = k
        · have e : ((i : Int) == (k : Int)) = true := by simp; omega
          have hx : Hid (crow D Gs k (i + 1) = X ++ [1]) := by
            show _ = _
            rw [crow_next, hXH.out]
            congr 2
            unfold cr
            rw [if_pos h1, if_pos h2]
          clear h1 h2
          go_wp2_with (at_builtin; refine push_byte rfl _ _ rfl (w.heap.size + 1) u5 X 1 (.int .u8 1) rfl rfl rfl hO.out hln hsz ?_; intro v' w6 ho6 hon6)
          have f1 : Hid (OwnB w6 (w.heap.size + 1) v' (crow D Gs k (i + 1))) := by show OwnB _ _ _ _; rw [hx.out]; exact ho6
          have hb6 := hon6.below hO.out hsz
          have f2 := Lib.hid (hB.out.trans (hb6.mono (Nat.le_succ _)))
          have f3 := Lib.hid (KEEPC.out _ _ hC.out hO.out hon6)
          clear ho6 hon6 hb6
          go_roundw
          case rel => exact ⟨i + 1, by omega, by go_num, f1, f2, f3⟩
          case measure => simp [intOf]; omega
        · have e : ((i : Int) == (k : Int)) = false := by simp; omega
          have hx : Hid (crow D Gs k (i + 1) = X ++ [0]) := by
            show _ = _
            rw [crow_next, hXH.out]
            congr 2
            unfold cr
            rw [if_pos h1, if_neg h2]
          clear h1 h2
          go_wp2_with (at_builtin; refine push_byte rfl _ _ rfl (w.heap.size + 1) u5 X 0 (.int .u8 0) rfl rfl rfl hO.out hln hsz ?_; intro v' w6 ho6 hon6)
          have f1 : Hid (OwnB w6 (w.heap.size + 1) v' (crow D Gs k (i + 1))) := by show OwnB _ _ _ _; rw [hx.out]; exact ho6
          have hb6 := hon6.below hO.out hsz
          have f2 := Lib.hid (hB.out.trans (hb6.mono (Nat.le_succ _)))
          have f3 := Lib.hid (KEEPC.out _ _ hC.out hO.out hon6)
          clear ho6 hon6 hb6
          go_roundw
          case rel => exact ⟨i + 1, by omega, by go_num, f1, f2, f3⟩
          case measure => simp [intOf]; omega
      have tk : ¬ (k : Int) < (D : Int) := by omega
      obtain ⟨S, hS⟩ : ∃ S, S = D + n := ⟨_, rfl⟩
      have e1 : (D : Int) + (n : Int) = (S : Int) := by omega
      have e0 : IntKind.i64.wrap (S : Int) = (S : Int) := by rw [IntKind.wrap_i64]; omega
      by_cases h2 : k < D + n
      · have tk2 : (k : Int) < (S : Int) := by omega
        obtain ⟨t, ht⟩ : ∃ t, t = k - D := ⟨_, rfl⟩
        have e2 : (k : Int) - (D : Int) = (t : Int) := by omega
        have tn : (t : Int) < (n : Int) := by omega
        obtain ⟨g, hg⟩ : ∃ g, Gs[t]? = some g := ⟨_, List.getElem?_eq_getElem (by have := hnH.out; omega)⟩
        obtain ⟨ad, v, hA, _, hcv, hrow⟩ := (hMH.out.keep hB.out).m.at hg
        subst hA
        have HA := Lib.hid (fun W (h : Below w.heap.size wr W) => has07_any g (i : Int) v W (hrow.below (h.mono hMH.out.le)) (hglH.out g (List.mem_of_getElem? hg)))
        have hgd : Hid (Gs.getD (k - D) [] = g) := by show _ = _; rw [← ht, List.getD_eq_getElem?_getD, hg]; rfl
        have hkD : Hid (¬ k < D ∧ k < D + Gs.length) := ⟨h1, by have := hnH.out; omega⟩
        obtain ⟨ga, gn, gc, rfl⟩ : ∃ a n c, v = .slice a n c := by obtain ⟨a, c, e, _⟩ := hrow; exact ⟨a, _, c, e⟩
        clear ht hg hrow h1 h2 hS
        go_wp2_with fail
        refine (HA.out _ (Below.refl _ _)).mono ?_
        rintro e w2 ⟨⟨b, rfl, hb⟩, rfl⟩
        have hbH := Lib.hid hb
        clear hb HA
        cases b with
        | true =>
          have hx : Hid (crow D Gs k (i + 1) = X ++ [1]) := by
            show _ = _
            rw [crow_next, hXH.out]
            congr 2
            unfold cr
            rw [if_neg hkD.out.1, if_pos hkD.out.2, hgd.out, if_pos (hbH.out.1 rfl)]
          go_wp2_with (at_builtin; refine push_byte rfl _ _ rfl (w.heap.size + 1) u5 X 1 (.int .u8 1) rfl rfl rfl hO.out hln hsz ?_; intro v' w6 ho6 hon6)
          have f1 : Hid (OwnB w6 (w.heap.size + 1) v' (crow D Gs k (i + 1))) := by show OwnB _ _ _ _; rw [hx.out]; exact ho6
          have hb6 := hon6.below hO.out hsz
          have f2 := Lib.hid (hB.out.trans (hb6.mono (Nat.le_succ _)))
          have f3 := Lib.hid (KEEPC.out _ _ hC.out hO.out hon6)
          clear ho6 hon6 hb6
          go_roundw
          case rel => exact ⟨i + 1, by omega, by go_num, f1, f2, f3⟩
          case measure => simp [intOf]; omega
        | false =>
          have hx : Hid (crow D Gs k (i + 1) = X ++ [0]) := by
            show _ = _
            rw [crow_next, hXH.out]
            congr 2
            unfold cr
            rw [if_neg hkD.out.1, if_pos hkD.out.2, hgd.out, if_neg (fun h => by have := hbH.out.2 h; cases this)]
          go_wp2_with (at_builtin; refine push_byte rfl _ _ rfl (w.heap.size + 1) u5 X 0 (.int .u8 0) rfl rfl rfl hO.out hln hsz ?_; intro v' w6 ho6 hon6)
          have f1 : Hid (OwnB w6 (w.heap.size + 1) v' (crow D Gs k (i + 1))) := by show OwnB _ _ _ _; rw [hx.out]; exact ho6
          have hb6 := hon6.below hO.out hsz
          have f2 := Lib.hid (hB.out.trans (hb6.mono (Nat.le_succ _)))
          have f3 := Lib.hid (KEEPC.out _ _ hC.out hO.out hon6)
          clear ho6 hon6 hb6
          go_roundw
          case rel => exact ⟨i + 1, by omega, by go_num, f1, f2, f3⟩
          case measure => simp [intOf]; omega
      have tk2 : ¬ (k : Int) < (S : Int) := by omega
      obtain ⟨t, ht⟩ : ∃ t, t = k - D - n := ⟨_, rfl⟩
      obtain ⟨t1, ht1⟩ : ∃ t, t = k - D := ⟨_, rfl⟩
      obtain ⟨q, hq⟩ : ∃ q, q = i * (t + 1) := ⟨_, rfl⟩
      have e2 : (k : Int) - (D : Int) = (t1 : Int) := by omega
      have e3 : (t1 : Int) - (n : Int) = (t : Int) := by omega
      have hq64 : q ≤ 1000 := by
        rw [hq]
        exact Nat.le_trans (Nat.mul_le_mul (show i ≤ 16 by omega) (show t + 1 ≤ 51 by omega)) (by omega)
      have e4 : (i : Int) * ((t : Int) + 1) = (q : Int) := by rw [hq, Int.natCast_mul, Int.natCast_add]; rfl
      obtain ⟨z, hz⟩ : ∃ z, z = Gf.exi (q : Int) := ⟨_, rfl⟩
      have EX := Lib.hid (fun W => refExp_any (q : Int) W)
      rw [← hz] at EX
      unfold bv at EX
      have hx : Hid (crow D Gs k (i + 1) = X ++ [z]) := by
        show _ = _
        rw [crow_next, hXH.out]
        congr 2
        unfold cr
        rw [if_neg h1, if_neg (by have := hnH.out; omega), hz, hq, ht, hnH.out]
      clear hz hq ht ht1 h1 h2 hS
      go_wp2_with fail
      refine (EX.out _).mono ?_
      rintro e w2 ⟨rfl, rfl⟩
      clear EX
      go_wp2_with (at_builtin; refine push_byte rfl _ _ rfl (w.heap.size + 1) u5 X z (.int .u8 z.toNat) rfl rfl rfl hO.out hln hsz ?_; intro v' w6 ho6 hon6)
      have f1 : Hid (OwnB w6 (w.heap.size + 1) v' (crow D Gs k (i + 1))) := by show OwnB _ _ _ _; rw [hx.out]; exact ho6
      have hb6 := hon6.below hO.out hsz
      have f2 := Lib.hid (hB.out.trans (hb6.mono (Nat.le_succ _)))
      have f3 := Lib.hid (KEEPC.out _ _ hC.out hO.out hon6)
      clear ho6 hon6 hb6
      go_roundw
      case rel => exact ⟨i + 1, by omega, by go_num, f1, f2, f3⟩
      case measure => simp [intOf]; omega
    · have ti : ¬ (i : Int) < (D : Int) := by omega
      obtain rfl : D = i := by omega
      clear hlt
      have hfin : Hid (OwnB wr w.heap.size u5 (crow D Gs k D)) := by
        have h := hO.out
        refine ⟨h.1, ?_⟩
        rcases h.2 with hn | ⟨g, cap, cur, hv, hg, rest⟩
        · exact .inl hn
        · exact .inr ⟨g, cap, cur, hv, by omega, rest⟩
      go_wp2_with fail
      go_ret
      first | exact ⟨_, ⟨rfl, hfin.out⟩, hB.out⟩ | exact ⟨⟨_, rfl, hfin.out⟩, hB.out⟩ | exact ⟨hfin.out, hB.out⟩
  end Go.Proofs.YtgajlgnniidgmaaDoor

namespace Go.Proofs.YtgajlgnniidgmaaDoor
set_option linter.unusedVariables false
set_option linter.unusedSimpArgs false
open Go.RowKit

/-- Few groups, none of them long. -/
def FewP (m : Int) (Gs : List (List Int)) : Prop := (Gs.length : Int) ≤ m ∧ ∀ g ∈ Gs, g.length ≤ 20
theorem take_snoc_eq {α : Type} {la lb : List α} {k : Nat} {x : α} (ha : la[k]? = some x) (hb : lb[k]? = some x) (h : la.take k = lb.take k) : la.take (k + 1) = lb.take (k + 1) := by
  obtain ⟨h1, e1⟩ := List.getElem?_eq_some_iff.1 ha
  obtain ⟨h2, e2⟩ := List.getElem?_eq_some_iff.1 hb
  rw [List.take_succ_eq_append_getElem h1, List.take_succ_eq_append_getElem h2, h, e1, e2]
end Go.Proofs.YtgajlgnniidgmaaDoor

namespace Go.Proofs.YtgajlgnniidgmaaDoor
set_option linter.unusedVariables false
set_option linter.unusedSimpArgs false
open Go.RowKit

/-- The first m elements of a row from which a multiple of another one was taken. -/
def lessF (r o : List UInt8) (a m : Nat) : List UInt8 := (List.range m).map fun j => r.getD j 0 ^^^ Gf.mul (Gf.mul (r.getD a 0) (Gf.inv (o.getD a 0))) (o.getD j 0)
theorem lessF_len (r o : List UInt8) (a m : Nat) : (lessF r o a m).length = m := by simp [lessF]
theorem lessF_next (r o : List UInt8) (a m : Nat) : lessF r o a (m + 1) = lessF r o a m ++ [r.getD m 0 ^^^ Gf.mul (Gf.mul (r.getD a 0) (Gf.inv (o.getD a 0))) (o.getD m 0)] := by
  unfold lessF
  rw [List.range_succ, List.map_append]; rfl
theorem row_at {w : World} {A : Option Addr} {r : List UInt8} (h : Rds w w.heap.size A (r.map bv)) (h0 : 0 < r.length) : ∃ ad, A = some ad ∧ ∀ W, Below w.heap.size w W → ∀ j, j < r.length → W.cell? (ad.add j) = some (bv (r.getD j 0)) := by
  obtain ⟨ad, e, _, _⟩ := h.look (k := 0) (u := bv (r.getD 0 0)) (by rw [List.getElem?_map, List.getElem?_eq_getElem h0, List.getD_eq_getElem?_getD, List.getElem?_eq_getElem h0]; rfl)
  refine ⟨ad, e, fun W hW j hj => ?_⟩
  obtain ⟨ad', e', _, hc⟩ := (h.below hW).look (k := j) (u := bv (r.getD j 0)) (by rw [List.getElem?_map, List.getElem?_eq_getElem hj, List.getD_eq_getElem?_getD, List.getElem?_eq_getElem hj]; rfl)
  rw [e] at e'
  injection e' with e'
  subst e'
  exact hc
set_option maxRecDepth 100000 in
set_option maxHeartbeats 8000000 in
theorem less07_any (r o : List UInt8) (a cr' co' : Nat) (A A' : Option Addr) (w : World) (hr : Rds w w.heap.size A (r.map bv)) (ho : Rds w w.heap.size A' (o.map bv)) (hl : r.length ≤ o.length) (ha : a < r.length) (h5 : r.length ≤ 1000000) (hne : o.getD a 0 ≠ 0) :
    Calls Tryd.prog 78 #[.slice A r.length cr', .slice A' o.length co', .int .i64 a] w fun e w' => ∃ v, (e = .returned v ∧ OwnB w' w.heap.size v (lessF r o a r.length)) ∧ Below w.heap.size w w' := by
  obtain ⟨ad, rfl, hR⟩ := row_at hr (by omega)
  obtain ⟨bd, rfl, hO⟩ := row_at ho (by omega)
  obtain ⟨n, hn⟩ : ∃ n, n = r.length := ⟨_, rfl⟩
  obtain ⟨n2, hn2⟩ : ∃ n, n = o.length := ⟨_, rfl⟩
  have hRH : Hid (∀ W, Below w.heap.size w W → ∀ j, j < n → W.cell? (ad.add j) = some (bv (r.getD j 0))) := by rw [hn]; exact hR
  have hOH : Hid (∀ W, Below w.heap.size w W → ∀ j, j < n → W.cell? (bd.add j) = some (bv (o.getD j 0))) := fun W hW j hj => hO W hW j (by omega)
  rw [← hn] at ha h5 ⊢
  rw [← hn2]
  have hnn : n ≤ n2 := by omega
  have ta : (a : Int) < (n : Int) := by omega
  have ta2 : (a : Int) < (n2 : Int) := by omega
  obtain ⟨x, hx⟩ : ∃ x, x = r.getD a 0 := ⟨_, rfl⟩
  obtain ⟨y, hy⟩ : ∃ y, y = o.getD a 0 := ⟨_, rfl⟩
  obtain ⟨yi, hyi⟩ : ∃ z, z = Gf.inv y := ⟨_, rfl⟩
  obtain ⟨f, hf⟩ : ∃ z, z = Gf.mul x yi := ⟨_, rfl⟩
  have hfH : Hid (f = Gf.mul (r.getD a 0) (Gf.inv (o.getD a 0))) := by show _ = _; rw [hf, hx, hyi, hy]
  have HI := Lib.hid (fun W => refInv_any y W (by rw [hy]; exact hne))
  have HM1 := Lib.hid (fun W => refMul_any x yi W)
  have HM := Lib.hid (fun a b W => refMul_any a b W)
  rw [← hyi] at HI
  rw [← hf] at HM1
  have p1 : ∀ q : ExtOf w.drew, q.world.cell? (ad.add a) = some (bv x) := fun q => by rw [hx]; exact hR q.world (q.below (Nat.le_refl _)) a (by omega)
  have p2 : ∀ q : ExtOf w.drew, q.world.cell? (bd.add a) = some (bv y) := fun q => by rw [hy]; exact hO q.world (q.below (Nat.le_refl _)) a (by omega)
  unfold bv at p1 p2 HI HM1
  clear hr ho hl hR hO hn hn2 hx hy hyi hf hne
  go_enter Tryd.func78, Tryd.ntmps78
  go_wp2_with fail
  refine wp_region_planM [] [(true, 0), (true, 1), (true, 2), (true, 3), (true, 4), (true, 5), (true, 6), (true, 7), (false, 8), (false, 9), (true, 10)] (by decide) (by kernel_rfl) (by kernel_rfl) (by decide) (by intro c a d v w h; cases d <;> exact h) ?_
  change wpPlanM _ _ _ _ _ _ w.drew
  iterate 8 (refine wpPlanM_plain rfl (fun K hK => ?_); go_simp; refine hK _ ?_; clear hK K)
  clear p1 p2
  refine wpPlanM_call rfl (fun K hK => ?_)
  go_wp2_with fail
  refine (HI.out _).mono ?_
  rintro e w2 ⟨rfl, rfl⟩
  go_wp2_with fail
  refine planPostL_normal ⟨.inr (Below.refl _ _), hK _ _ ?_⟩
  clear hK K
  refine wpPlanM_call rfl (fun K hK => ?_)
  go_wp2_with fail
  refine (HM1.out _).mono ?_
  rintro e w2 ⟨rfl, rfl⟩
  go_wp2_with fail
  refine planPostL_normal ⟨.inr (Below.refl _ _), hK _ _ ?_⟩
  clear hK K
  iterate 1 (refine wpPlanM_plain rfl (fun K hK => ?_); go_simp; refine hK _ ?_; clear hK K)
  refine wpPlanM_nil ?_
  have h0 : Hid (OwnB w.drew w.heap.size (.slice none 0 0) (lessF r o a 0)) := ownB_nil _ _
  have hB0 : Hid (Below w.heap.size w w.drew) := (Below.refl _ _).drew
  go_wp2_with fail
  go_loopw [8, 9] (fun v j wr => ∃ k : Nat, k ≤ n ∧ j = .int .i64 k ∧ Hid (OwnB wr w.heap.size v (lessF r o a k)) ∧ Hid (Below w.heap.size w wr)) (fun _ j _ => n - (intOf j).toNat)
  case atStart => exact ⟨0, by omega, rfl, h0, hB0⟩
  case round =>
    clear h0 hB0
    obtain ⟨k, hk, rfl, hO, hB⟩ := hrel
    by_cases hlt : k < n
    · have tk : (k : Int) < (n : Int) := by omega
      have tk2 : (k : Int) < (n2 : Int) := by omega
      obtain ⟨x, hx⟩ : ∃ x, x = r.getD k 0 := ⟨_, rfl⟩
      obtain ⟨y, hy⟩ : ∃ y, y = o.getD k 0 := ⟨_, rfl⟩
      obtain ⟨g, hg⟩ : ∃ g, g = Gf.mul f y := ⟨_, rfl⟩
      obtain ⟨u, hu⟩ : ∃ u, u = x ^^^ g := ⟨_, rfl⟩
      have hxr : bits .xor .u8 (x.toNat : Int) (g.toNat : Int) = (u.toNat : Int) := by rw [hu]; exact u8_xor_bv x g
      have hnx : Hid (lessF r o a (k + 1) = lessF r o a k ++ [u]) := by show _ = _; rw [lessF_next, hu, hx, hg, hy, hfH.out]
      have HX := Lib.hid (fun W => HM.out f y W)
      rw [← hg] at HX
      have p1 : ∀ q : ExtOf wr.drew, q.world.cell? (ad.add k) = some (bv x) := fun q => by rw [hx]; exact hRH.out q.world (hB.out.trans ((q.below (Nat.le_refl _)).mono hB.out.size)) k hlt
      have p2 : ∀ q : ExtOf wr.drew, q.world.cell? (bd.add k) = some (bv y) := fun q => by rw [hy]; exact hOH.out q.world (hB.out.trans ((q.below (Nat.le_refl _)).mono hB.out.size)) k hlt
      unfold bv at p1 p2 HX
      have hln : (lessF r o a k).length ≤ 140737488355300 := by rw [lessF_len]; omega
      have hOd : Hid (OwnB wr.drew w.heap.size u8 (lessF r o a k)) := hO.out
      have hBd : Hid (Below w.heap.size w wr.drew) := hB.out.drew
      have hsz : w.heap.size ≤ wr.drew.heap.size := hB.out.size
      obtain ⟨X, hX⟩ : ∃ X, X = lessF r o a k := ⟨_, rfl⟩
      rw [← hX] at hOd hln hnx
      clear hx hy hg hu hX hO hB
      go_wp2_with fail
      refine wp_region_planM [13] [(true, 0), (true, 1), (true, 2), (true, 3), (true, 4), (true, 5), (true, 6), (true, 7), (true, 8), (true, 9), (false, 10), (true, 11), (false, 12), (false, 13), (true, 14)] (by decide) (by kernel_rfl) (by kernel_rfl) (by decide) (by intro c a d v w h; cases d <;> exact h) ?_
      change wpPlanM _ _ _ _ _ _ wr.drew
      iterate 10 (refine wpPlanM_plain rfl (fun K hK => ?_); go_simp; refine hK _ ?_; clear hK K)
      clear p1 p2
      refine wpPlanM_call rfl (fun K hK => ?_)
      go_wp2_with fail
      refine (HX.out _).mono ?_
      rintro e w2 ⟨rfl, rfl⟩
      go_wp2_with fail
      refine planPostL_normal ⟨.inr (Below.refl _ _), hK _ _ ?_⟩
      clear hK K
      iterate 1 (refine wpPlanM_plain rfl (fun K hK => ?_); go_simp; refine hK _ ?_; clear hK K)
      generalize wr.drew = wd at hOd hBd hsz ⊢
      refine wpPlanM_call rfl (fun K hK => ?_)
      go_wp2_with fail
      refine planPostL_normal ⟨.inr ((Below.refl _ _).alloc (Nat.le_refl _) _), hK _ _ ?_⟩
      clear hK K
      refine wpPlanM_call rfl (fun K hK => ?_)
      refine push_byte rfl _ _ rfl w.heap.size u8 X u (.int .u8 u.toNat) rfl rfl rfl hOd.out hln hsz ?_
      intro v' w6 ho6 hon6
      refine wpList_end (planPostL_normal ⟨.inl (by simp), hK _ _ ?_⟩)
      clear hK K
      iterate 1 (refine wpPlanM_plain rfl (fun K hK => ?_); go_simp; refine hK _ ?_; clear hK K)
      refine wpPlanM_nil ?_
      have f1 : Hid (OwnB w6 w.heap.size v' (lessF r o a (k + 1))) := by show OwnB _ _ _ _; rw [hnx.out]; exact ho6
      have f2 := Lib.hid (hBd.out.trans (hon6.below hOd.out hsz))
      clear ho6 hon6
      go_wp2_with fail
      go_roundw
      case rel => exact ⟨k + 1, by omega, by go_num, f1, f2⟩
      case measure => simp [intOf]; omega
    · have tk : ¬ (k : Int) < (n : Int) := by omega
      obtain rfl : n = k := by omega
      clear hlt
      go_wp2_with fail
      go_ret
      first | exact ⟨_, ⟨rfl, hO.out⟩, hB.out⟩ | exact ⟨⟨_, rfl, hO.out⟩, hB.out⟩ | exact ⟨hO.out, hB.out⟩
end Go.Proofs.YtgajlgnniidgmaaDoor
