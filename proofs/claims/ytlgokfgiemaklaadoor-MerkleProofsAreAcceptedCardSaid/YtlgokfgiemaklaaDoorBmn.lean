/-
  Contracts of stage 3: ascending, and the search in a row of integers. Contracts of stage 3: Many, by a closure that calls itself. Contracts of stage 3: Many.
-/
import Derived.Test.YtlgokfgiemaklaaDoorInco
import Derived.Test.YtlgokfgiemaklaaDoorOpn
namespace Go.Proofs.YtlgokfgiemaklaaDoor
set_option linter.unusedVariables false
set_option linter.unusedSimpArgs false
open Go.RowKit

/-- Are these strictly ascending, from 'least' on and below n? -/
def ascGo (n : Int) : Int → List Int → Bool
  | _, [] => true
  | least, p :: ps => if p < least ∨ n ≤ p then false else ascGo n (p + 1) ps

set_option maxRecDepth 100000 in
set_option maxHeartbeats 1000000 in
theorem ascending_any (ps : List Int) (n : Int) (A : Option Addr) (c : Nat) (w : World) (hr : Rds w w.heap.size A (ps.map iv)) (hl : ps.length ≤ 1000000) (hn : n ≤ 1000000000000000) :
    Calls Tryd.prog 41 #[.slice A ps.length c, .int .i64 n] w fun e w' => e = .returned (.bool (ascGo n 0 ps)) ∧ w' = w := by
  obtain ⟨r, hr0⟩ : ∃ r, r = ascGo n 0 ps := ⟨_, rfl⟩
  have hR := Lib.hid hr0
  rw [← hr0]
  clear hr0
  go_enter Tryd.func41, Tryd.ntmps41
  go_wp2_with fail
  go_loopw [5, 10] (fun ls i wr => ∃ (k : Nat) (l : Int), k ≤ ps.length ∧ i = .int .i64 k ∧ ls = .int .i64 l ∧ 0 ≤ l ∧ ascGo n l (ps.drop k) = r ∧ wr = w) (fun _ i _ => ps.length - (intOf i).toNat)
  case atStart => exact ⟨0, 0, by omega, rfl, rfl, by omega, hR.out.symm, rfl⟩
  case round =>
    obtain ⟨k, l, hk, rfl, rfl, hl0, hg0, rfl⟩ := hrel
    have hg := Lib.hid hg0
    clear hg0
    by_cases hlt : k < ps.length
    · obtain ⟨p, hp⟩ : ∃ p, ps[k]? = some p := ⟨_, List.getElem?_eq_getElem hlt⟩
      obtain ⟨ad, rfl, hab, hcell⟩ := hr.look (k := k) (u := .int .i64 p) (by rw [List.getElem?_map, hp]; rfl)
      have hdr : ps.drop k = p :: ps.drop (k + 1) := by
        rw [List.drop_eq_getElem_cons hlt, (List.getElem?_eq_some_iff.1 hp).2]
      have t : (k : Int) < (ps.length : Int) := by omega
      rw [hdr] at hg
      clear hp hdr
      by_cases h1 : p < l
      · have hf : Hid (r = false) := by show _ = _; rw [← hg.out]; unfold ascGo; rw [if_pos (.inl h1)]
        go_wp2_with fail
        go_ret
        exact ⟨by rw [hf.out]; rfl, rfl⟩
      · by_cases h2 : n ≤ p
        · have hf : Hid (r = false) := by show _ = _; rw [← hg.out]; unfold ascGo; rw [if_pos (.inr h2)]
          go_wp2_with fail
          go_ret
          exact ⟨by rw [hf.out]; rfl, rfl⟩
        · have hf : Hid (ascGo n (p + 1) (ps.drop (k + 1)) = r) := by
            show _ = _
            rw [← hg.out]
            conv => rhs; unfold ascGo
            rw [if_neg (by omega)]
          have h2' : p < n := by omega
          clear hg
          go_wp2_with fail
          go_roundw
          case rel => exact ⟨k + 1, p + 1, by omega, by go_num, by go_num, by omega, hf.out, trivial⟩
          case measure => simp [intOf]; omega
    · have hk2 : k = ps.length := by omega
      have hf : Hid (r = true) := by show _ = _; rw [← hg.out, hk2, List.drop_length]; rfl
      have t : ¬ (k : Int) < (ps.length : Int) := by omega
      go_wp2_with fail
      go_ret
      exact ⟨by rw [hf.out]; rfl, rfl⟩

theorem nan_any (a : Int) (w : World) : Calls Tryd.prog 69 #[.int .i64 a] w fun e w' => e = .returned (.bool false) ∧ w' = w := by
  go_enter Tryd.func69, Tryd.ntmps69
  go_wp2_with fail
  go_ret
  exact ⟨by simp, rfl⟩
theorem nan2_any (a : Int) (w : World) : Calls Tryd.prog 85 #[.int .i64 a] w fun e w' => e = .returned (.bool false) ∧ w' = w := by
  go_enter Tryd.func85, Tryd.ntmps85
  go_wp2_with fail
  go_ret
  exact ⟨by simp, rfl⟩
theorem less_any (a b : Int) (r : Bool) (hr : decide (a < b) = r) (w : World) : Calls Tryd.prog 68 #[.int .i64 a, .int .i64 b] w fun e w' => e = .returned (.bool r) ∧ w' = w := by
  have H := Lib.hid (fun W => nan2_any a W)
  have hr' := Lib.hid hr
  go_enter Tryd.func68, Tryd.ntmps68
  go_wp2_with fail
  refine (H.out _).mono ?_
  rintro e w' ⟨rfl, rfl⟩
  go_wp2_with fail
  go_ret
  exact ⟨by rw [← hr'.out]; rfl, rfl⟩

/-- How many of a list are below t, from its beginning on. -/
def bel (ps : List Int) (t : Int) : Nat := (ps.takeWhile (· < t)).length
/-- The list is strictly ascending. -/
def Asc (ps : List Int) : Prop := ∀ (i j : Nat) (a b : Int), i < j → ps[i]? = some a → ps[j]? = some b → a < b
theorem bel_of {ps : List Int} {t : Int} {i : Nat} (hi : i ≤ ps.length) (h1 : ∀ k a, k < i → ps[k]? = some a → a < t) (h2 : ∀ a, ps[i]? = some a → ¬ a < t) : bel ps t = i := by
  unfold bel
  induction ps generalizing i with
  | nil => simp at hi; subst hi; rfl
  | cons p ps ih =>
    cases i with
    | zero =>
      have := h2 p rfl
      rw [List.takeWhile_cons, if_neg (by simpa using this)]
      rfl
    | succ i =>
      have h0 := h1 0 p (by omega) rfl
      rw [List.takeWhile_cons, if_pos (by simpa using h0), List.length_cons, ih (i := i) (by simpa using hi) (fun k a hk ha => h1 (k + 1) a (by omega) ha) (fun a ha => h2 a ha)]

/-- What the search returns. -/
def SrEnd (j : Nat) (w : World) (e : Ending) (w' : World) : Prop := (∃ b : Bool, e = .returned (.tuple #[.int .i64 j, .bool b])) ∧ w' = w

set_option maxRecDepth 100000 in
set_option maxHeartbeats 2000000 in
theorem search_any (ps : List Int) (t : Int) (A : Option Addr) (c : Nat) (w : World) (hr : Rds w w.heap.size A (ps.map iv)) (ha : Asc ps) (hl : ps.length ≤ 1000000) :
    Calls Tryd.prog 43 #[.slice A ps.length c, .int .i64 t] w (SrEnd (bel ps t) w) := by
  have HL : Hid (∀ (a : Int) (r : Bool), decide (a < t) = r → ∀ W, Calls Tryd.prog 68 #[.int .i64 a, .int .i64 t] W fun e w' => e = .returned (.bool r) ∧ w' = W) := fun a r h W => less_any a t r h W
  have HN := Lib.hid (fun a W => nan_any a W)
  have hA := Lib.hid ha
  obtain ⟨n, hn⟩ : ∃ n, n = ps.length := ⟨_, rfl⟩
  have hnl := Lib.hid hn
  rw [← hn] at hl ⊢
  clear hn ha
  go_enter Tryd.func43, Tryd.ntmps43
  go_wp2_with fail
  go_loopw [7, 8] (fun vi vj wr => ∃ i j : Nat, i ≤ j ∧ j ≤ n ∧ vi = .int .i64 i ∧ vj = .int .i64 j ∧ (∀ k a, k < i → ps[k]? = some a → a < t) ∧ (∀ k a, j ≤ k → ps[k]? = some a → t ≤ a) ∧ wr = w) (fun vi vj _ => (intOf vj).toNat - (intOf vi).toNat)
  case atStart => exact ⟨0, n, by omega, by omega, rfl, rfl, fun k a hk => by omega, fun k a hk h => by have := (List.getElem?_eq_some_iff.1 h).1; have := hnl.out; omega, rfl⟩
  case round =>
    obtain ⟨i, j, hij, hjn, rfl, rfl, hlo0, hhi0, rfl⟩ := hrel
    have hlo := Lib.hid hlo0
    have hhi := Lib.hid hhi0
    clear hlo0 hhi0
    by_cases hlt : i < j
    · obtain ⟨h, hh0⟩ : ∃ h, h = (i + j) / 2 := ⟨_, rfl⟩
      have hh1 : i ≤ h := by omega
      have hh2 : h < j := by omega
      obtain ⟨p, hp⟩ : ∃ p, ps[h]? = some p := ⟨_, List.getElem?_eq_getElem (by have := hnl.out; omega)⟩
      obtain ⟨ad, rfl, hab, hcell⟩ := hr.look (k := h) (u := .int .i64 p) (by rw [List.getElem?_map, hp]; rfl)
      have hP := Lib.hid hp
      have e1 : IntKind.u64.wrap ((i : Int) + j) = (i : Int) + j := by rw [IntKind.wrap_u64]; omega
      have e2 : ((i : Int) + j) / 2 = h := by omega
      have e3 : IntKind.i64.wrap (h : Int) = h := by rw [IntKind.wrap_i64]; omega
      have t0 : (i : Int) < (j : Int) := by omega
      have b2 : (h : Int) < (n : Int) := by omega
      clear hp hh0
      obtain ⟨r, hrl⟩ : ∃ r, decide (p < t) = r := ⟨_, rfl⟩
      go_wp2_with fail
      refine (HL.out p r hrl _).mono ?_
      rintro e w' ⟨rfl, rfl⟩
      cases r with
      | true =>
        have hlt' : p < t := by simpa using hrl
        clear hrl
        go_wp2_with fail
        go_roundw
        case rel =>
          refine ⟨h + 1, j, by omega, hjn, by go_num, rfl, fun k a hk hka => ?_, hhi.out, trivial⟩
          by_cases hkh : k = h
          · subst hkh; rw [hP.out] at hka; injection hka with hka; omega
          · have := hA.out k h a p (by omega) hka hP.out; omega
        case measure => simp [intOf]; omega
      | false =>
        have hlt' : ¬ p < t := by simpa using hrl
        clear hrl
        go_wp2_with fail
        go_roundw
        case rel =>
          refine ⟨i, h, hh1, by omega, rfl, by go_num, hlo.out, fun k a hk hka => ?_, trivial⟩
          by_cases hkh : k = h
          · subst hkh; rw [hP.out] at hka; injection hka with hka; omega
          · have := hA.out h k p a (by omega) hP.out hka; omega
        case measure => simp [intOf]; omega
    · obtain rfl : i = j := by omega
      have hb : Hid (bel ps t = i) := bel_of (by have := hnl.out; omega) hlo.out (fun a h => by have := hhi.out i a (Nat.le_refl _) h; omega)
      have t0 : ¬ (i : Int) < (i : Int) := by omega
      by_cases hin : i < n
      · obtain ⟨p, hp⟩ : ∃ p, ps[i]? = some p := ⟨_, List.getElem?_eq_getElem (by have := hnl.out; omega)⟩
        obtain ⟨ad, rfl, hab, hcell⟩ := hr.look (k := i) (u := .int .i64 p) (by rw [List.getElem?_map, hp]; rfl)
        have t1 : (i : Int) < (n : Int) := by omega
        clear hp
        by_cases hpt : p = t
        · have t2 : (p == t) = true := by simp [hpt]
          go_wp2_with fail
          go_ret2
          exact ⟨⟨_, by rw [hb.out]; rfl⟩, rfl⟩
        · have t2 : (p == t) = false := by simp [hpt]
          go_wp2_with fail
          refine (HN.out _ _).mono ?_
          rintro e w' ⟨rfl, rfl⟩
          go_wp2_with fail
          go_ret2
          exact ⟨⟨_, by rw [hb.out]; rfl⟩, rfl⟩
      · have t1 : ¬ (i : Int) < (n : Int) := by omega
        go_wp2_with fail
        go_ret2
        exact ⟨⟨_, by rw [hb.out]; rfl⟩, rfl⟩
end Go.Proofs.YtlgokfgiemaklaaDoor

namespace Go.Proofs.YtlgokfgiemaklaaDoor
set_option linter.unusedVariables false
set_option linter.unusedSimpArgs false
open Go.RowKit

/-- The proof for several places of a part that begins at a position. -/
def mny (o : Nat) (L : List (List UInt8)) (ps : List Int) : List (List UInt8) :=
  if ps = [] then [rt L]
  else if h : L.length ≤ 1 then []
  else mny o (L.take (Mk.ksz L.length)) (ps.take (bel ps ((o + Mk.ksz L.length : Nat) : Int))) ++ mny (o + Mk.ksz L.length) (L.drop (Mk.ksz L.length)) (ps.drop (bel ps ((o + Mk.ksz L.length : Nat) : Int)))
termination_by L.length
decreasing_by
  all_goals
    have h1 := Mk.ksz_lt (show 2 ≤ L.length by omega)
    have h2 := Mk.ksz_pos L.length
    simp only [List.length_take, List.length_drop]
    omega
theorem mny_nil (o : Nat) (L : List (List UInt8)) : mny o L [] = [rt L] := by rw [mny, if_pos rfl]
theorem mny_one (o : Nat) {L : List (List UInt8)} (h : L.length ≤ 1) {ps : List Int} (hp : ps ≠ []) : mny o L ps = [] := by rw [mny, if_neg hp, dif_pos h]
theorem mny_two (o : Nat) {L : List (List UInt8)} (h : 2 ≤ L.length) {ps : List Int} (hp : ps ≠ []) : mny o L ps = mny o (L.take (Mk.ksz L.length)) (ps.take (bel ps ((o + Mk.ksz L.length : Nat) : Int))) ++ mny (o + Mk.ksz L.length) (L.drop (Mk.ksz L.length)) (ps.drop (bel ps ((o + Mk.ksz L.length : Nat) : Int))) := by
  rw [mny, if_neg hp, dif_neg (by omega)]
theorem mny_len (N : Nat) : ∀ (o : Nat) (L : List (List UInt8)) (ps : List Int), L.length ≤ N → 1 ≤ L.length → (mny o L ps).length ≤ L.length := by
  induction N with
  | zero => intro o L ps h h1; omega
  | succ N ih =>
    intro o L ps h h1
    by_cases hp : ps = []
    · subst hp; rw [mny_nil]; simpa using h1
    · by_cases h2 : 2 ≤ L.length
      · have a := Mk.ksz_lt h2
        have b := Mk.ksz_pos L.length
        have i1 := ih o (L.take (Mk.ksz L.length)) (ps.take (bel ps ((o + Mk.ksz L.length : Nat) : Int))) (by rw [List.length_take]; omega) (by rw [List.length_take]; omega)
        have i2 := ih (o + Mk.ksz L.length) (L.drop (Mk.ksz L.length)) (ps.drop (bel ps ((o + Mk.ksz L.length : Nat) : Int))) (by rw [List.length_drop]; omega) (by rw [List.length_drop]; omega)
        rw [List.length_take] at i1
        rw [List.length_drop] at i2
        rw [mny_two o h2 hp, List.length_append]
        omega
      · rw [mny_one o (by omega) hp]; simp
theorem bel_le (ps : List Int) (t : Int) : bel ps t ≤ ps.length := by
  unfold bel
  exact (List.takeWhile_sublist _).length_le
theorem Asc.take {ps : List Int} (h : Asc ps) (j : Nat) : Asc (ps.take j) := fun i k a b hik ha hb => by
  rw [List.getElem?_take] at ha hb
  split at ha
  · split at hb
    · exact h i k a b hik ha hb
    · cases hb
  · cases ha
theorem Asc.drop {ps : List Int} (h : Asc ps) (j : Nat) : Asc (ps.drop j) := fun i k a b hik ha hb => by
  rw [List.getElem?_drop] at ha hb
  exact h (j + i) (j + k) a b (by omega) ha hb

set_option maxRecDepth 100000 in
set_option maxHeartbeats 4000000 in
theorem many_up (B0 B p q : Nat) (hp : B0 ≤ p) (hq : B0 ≤ q) (hpB : p < B) (hqB : q < B) (hpq : p ≠ q) (hg : 2 < B0) (N : Nat) : ∀ (o : Nat) (L : List (List UInt8)) (ad : Addr) (c : Nat) (ps : List Int) (Ap : Option Addr) (cp : Nat) (P : List (List UInt8)) (w : World), L.length ≤ N → 1 ≤ L.length → D16 L → L.length ≤ c → o + L.length ≤ 1000000 → P.length + L.length ≤ 1000000 → ps.length ≤ 1000000 → ps.length ≤ cp → Asc ps → Rds w B0 Ap (ps.map iv) → Rds w B0 (some ad) ((flat L).map bv) → Mkg w B p q (cl2 42 q p) 77 P → B0 ≤ w.heap.size → B ≤ w.heap.size → Tab 2 w →
    Calls Tryd.prog 42 #[.int .i64 o, .slice (some ad) L.length c, .slice Ap ps.length cp, .pointer (some ⟨q, 0, none⟩), .pointer (some ⟨p, 0, none⟩)] w fun e w' => e = .returned (.tuple #[]) ∧ Mkg w' B p q (cl2 42 q p) 77 (P ++ mny o L ps) ∧ Below B0 w w' := by
  induction N with
  | zero => intro o L ad c ps Ap cp P w hl h1; omega
  | succ N ih =>
    intro o L ad c ps Ap cp P w hl h1 hd hc h6 hP hps hcp hasc hrp hr hM hB0 hB ht
    have hpq' := Lib.hid hpq
    have hr' := Lib.hid hr
    have hgB : Hid (∀ W, Below B0 w W → Tab 2 W) := fun W hb => ht.below hb hg
    by_cases hnil : ps = []
    · subst hnil
      have hnl : Hid (mny o L [] = [rt L]) := mny_nil o L
      rw [hnl.out]
      have r2 := rt_len hd
      have HR := Lib.hid (fun W (h : Below B0 w W) hB0 => root_any L (some ad) c W hd hc (by omega) ((Rds.below hr h).more hB0) (hgB.out W h))
      generalize rt L = R at HR r2 ⊢
      have hPQ : P.length ≤ 1000000000000 := by omega
      obtain ⟨f3, v3, c3, o3⟩ := hM
      have f3' := Lib.hid f3
      have c3' := Lib.hid c3
      have o3' := Lib.hid o3
      have cq : ∀ x : ExtOf w.drew, x.world.cell? ⟨q, 0, none⟩ = some v3 := fun x => (c3.below (x.below (Nat.le_refl _)) c3.lt).cell rfl
      obtain ⟨n, hn⟩ : ∃ n, n = L.length := ⟨_, rfl⟩
      rw [← hn] at HR ⊢
      unfold av at HR
      clear hn f3 c3 o3 hd hr ht hl h1 hc h6 ih hrp hasc hps hcp
      go_enter Tryd.func42, Tryd.ntmps42
      go_wp2_with fail
      refine wp_region_planM [4, 5] [(true, 0), (true, 1), (false, 2), (false, 3), (false, 4), (false, 5)] (by decide) (by kernel_rfl) (by kernel_rfl) (by decide) (by intro c a d v w h; cases d <;> exact h) ?_
      change wpPlanM _ _ _ _ _ _ w.drew
      iterate 2 (refine wpPlanM_plain rfl (fun K hK => ?_); go_simp; refine hK _ ?_; clear hK K)
      refine wpPlanM_call rfl (fun K hK => ?_)
      go_wp2_with fail
      refine (HR.out _ ((Below.refl _ _).drew) hB0).mono ?_
      rintro e w4 ⟨rfl, hb4⟩
      go_wp2_with fail
      refine planPostL_normal ⟨.inr hb4, hK _ _ ?_⟩
      clear hK K
      have hb4 := drewBelow hb4
      have hB4 : Below B0 w w4 := hb4.mono hB0
      have hf4 := Lib.hid (f3'.out.below hb4 f3'.out.lt)
      have hc4 := Lib.hid (c3'.out.below hb4 c3'.out.lt)
      have ho4 := o3'.out.below hb4 (Nat.le_refl _)
      have hBw4 : B ≤ w4.heap.size := Nat.le_trans hB hB4.size
      clear hb4 f3' c3' o3' HR cq
      refine wpPlanM_call rfl (fun K hK => ?_)
      refine step_build_dg rfl _ rfl R r2 rfl ?_
      have hx5 : Ext w4 (w4.alloc (.cells (R.map bv).toArray 31)) := (Below.refl _ _).alloc (Nat.le_refl _) _
      refine wpList_end (planPostL_normal ⟨.inr hx5, hK _ _ ?_⟩)
      clear hK K hx5
      refine wpPlanM_call rfl (fun K hK => ?_)
      refine push_dg rfl _ _ rfl B v3 P R r2 rfl _ rfl rfl ho4 hPQ hBw4 ?_
      intro v5 w5 ho5 hb5
      refine wpList_end (planPostL_normal ⟨.inl (by decide), hK _ _ ?_⟩)
      clear hK K
      have hf5 := hf4.out.below hb5 hpB
      have hc5 := Lib.hid (hc4.out.below hb5 hqB)
      have hB5 : Below B0 w w5 := hB4.trans (hb5.mono (Nat.le_of_lt (Nat.lt_of_le_of_lt hp hpB)))
      obtain ⟨A5, c5, rfl, _, _, _, _⟩ := ho5.form
      have hso := slice_one A5 (P ++ [R]).length c5
      generalize (P ++ [R]).length = m5 at ho5 hso ⊢
      clear hb5 hf4 hc4 ho4
      refine wpPlanM_call rfl (fun K hK => ?_)
      refine wpList_blk_store rfl 22 _ _ rfl 0 (.slice A5 m5 c5) rfl rfl hc5.out size_slice (Nat.le_of_eq rfl) hso ?_
      intro w6 hc6 ho6
      refine wpList_end (planPostL_normal ⟨.inl (by decide), hK _ _ ?_⟩)
      clear hK K
      refine wpPlanM_nil ?_
      go_wp2_with fail
      exact bodyPost_ret (results_none rfl _ _ _) rfl ⟨rfl, ⟨hf5.only ho6 hpq'.out, ⟨_, hc6.out, ho5.only ho6 hqB⟩⟩, hB5.trans (ho6.below hq)⟩
    · obtain ⟨np, hnp⟩ : ∃ np, np = ps.length := ⟨_, rfl⟩
      have hnp0 : 0 < np := by rw [hnp]; exact List.length_pos_iff.2 hnil
      obtain ⟨pd, rfl, _, _⟩ := hrp.look (k := 0) (u := iv (ps.getD 0 0)) (by rw [List.getElem?_map, List.getElem?_eq_getElem (by omega), List.getD_eq_getElem?_getD, List.getElem?_eq_getElem (by omega)]; rfl)
      have tp : ((np : Int) == 0) = false := by simp; omega
      by_cases h2 : 2 ≤ L.length
      · obtain ⟨k, hk⟩ : ∃ k, k = Mk.ksz L.length := ⟨_, rfl⟩
        have hkn : k < L.length := by rw [hk]; exact Mk.ksz_lt h2
        have hkp : 0 < k := by rw [hk]; exact Mk.ksz_pos _
        have HP := Lib.hid (fun W => parts_any L.length k c ad W hk h2 (by omega) hc)
        have l1 : (L.take k).length = k := by rw [List.length_take]; omega
        have l2 : (L.drop k).length = L.length - k := List.length_drop ..
        have t0 : ((L.length : Int) == 1) = false := by simp; omega
        have hrA : Hid (∀ W, Below B0 w W → Rds W B0 (some ad) ((flat (L.take k)).map bv)) := fun W hb => rds_take (hr.below hb) hd k
        have hrB : Hid (∀ W, Below B0 w W → Rds W B0 (some (ad.add (16 * k))) ((flat (L.drop k)).map bv)) := fun W hb => rds_drop (hr.below hb) hd k
        obtain ⟨j, hj⟩ : ∃ j, j = bel ps ((o + k : Nat) : Int) := ⟨_, rfl⟩
        have hjn : j ≤ np := by rw [hj, hnp]; exact bel_le _ _
        have hinc : Hid (mny o L ps = mny o (L.take k) (ps.take j) ++ mny (o + k) (L.drop k) (ps.drop j)) := by show _ = _; rw [hj, hk]; exact mny_two o h2 hnil
        rw [hinc.out]
        have q1 := mny_len (L.take k).length o (L.take k) (ps.take j) (Nat.le_refl _) (by omega)
        have q2 := mny_len (L.drop k).length (o + k) (L.drop k) (ps.drop j) (Nat.le_refl _) (by omega)
        have j1 : (ps.take j).length = j := by rw [List.length_take]; omega
        have j2 : (ps.drop j).length = np - j := by rw [List.length_drop, hnp]
        have I1 := Lib.hid (fun W h => ih o (L.take k) ad k (ps.take j) (some pd) cp P W (by omega) (by omega) (hd.take k) (by omega) (by omega) (by omega) (by omega) (by omega) (hasc.take j) (by rw [List.map_take]; exact (hrp.below h).take j) (hrA.out W h))
        have I2 : ∀ A2, (cp = j ∨ A2 = some (pd.add j)) → Hid (∀ W (P : List (List UInt8)), P.length + (L.length - k) ≤ 1000000 → Below B0 w W → Mkg W B p q (cl2 42 q p) 77 P → B0 ≤ W.heap.size → B ≤ W.heap.size →
            Calls Tryd.prog 42 #[.int .i64 ((o + k : Nat) : Int), .slice (some (ad.add (16 * k))) (L.length - k) (L.length - k), .slice A2 (np - j) (cp - j), .pointer (some ⟨q, 0, none⟩), .pointer (some ⟨p, 0, none⟩)] W fun e w' => e = .returned (.tuple #[]) ∧ Mkg w' B p q (cl2 42 q p) 77 (P ++ mny (o + k) (L.drop k) (ps.drop j)) ∧ Below B0 W w') := fun A2 hA2 W P hPl h hM h0 h1 => by
          have hh := ih (o + k) (L.drop k) (ad.add (16 * k)) (L.length - k) (ps.drop j) A2 (cp - j) P W (by omega) (by omega) (hd.drop k) (by omega) (by omega) (by omega) (by omega) (by omega) (hasc.drop j) (by
            rcases hA2 with hA2 | rfl
            · rw [List.drop_eq_nil_of_le (by omega)]; exact Rds.empty
            · rw [List.map_drop]; exact (hrp.below h).drop j) (hrB.out W h) hM h0 h1 (hgB.out W h)
          rw [l2, j2] at hh
          exact hh
        have HS := Lib.hid (fun W (h : Below B0 w W) hB0 => search_any ps ((o + k : Nat) : Int) (some pd) cp W ((hrp.below h).more hB0) hasc (by omega))
        rw [l1, j1] at I1
        rw [← hj] at HS
        rw [← hnp] at HS ⊢
        have M1l : (mny o (L.take k) (ps.take j)).length ≤ k := by omega
        generalize mny o (L.take k) (ps.take j) = Q1 at I1 M1l ⊢
        generalize mny (o + k) (L.drop k) (ps.drop j) = Q2 at I2 ⊢
        obtain ⟨md, hmd⟩ : ∃ md, md = o + k := ⟨_, rfl⟩
        have e1 : (o : Int) + (k : Int) = (md : Int) := by omega
        rw [← hmd] at HS I2
        have hPQ : (P ++ Q1).length + (L.length - k) ≤ 1000000 := by rw [List.length_append]; omega
        have tj1 : j ≤ cp := by omega
        obtain ⟨n, hn⟩ : ∃ n, n = L.length := ⟨_, rfl⟩
        rw [← hn] at HP I2 t0 h6 hkn hPQ ⊢
        have hPQ' := Lib.hid hPQ
        clear hk hj hn l1 l2 j1 j2 q1 q2 hrA hrB hinc hd hr ht hl h1 hc h2 hnil hasc hnp hPQ M1l ih
        clear hmd
        by_cases hcj : cp = j
        · obtain rfl := hcj
          have I2' := I2 (some pd) (.inl rfl)
          simp only [Nat.sub_self] at I2'
          clear I2
          go_enter Tryd.func42, Tryd.ntmps42
          go_wp2_with fail
          refine (HP.out _).mono ?_
          rintro e w2 ⟨rfl, hb2⟩
          have M2 := Lib.hid (hM.on hb2)
          have hB2 : Below B0 w w2 := hb2.mono hB0
          clear hb2 hM HP
          go_wp2_with fail
          refine (HS.out _ hB2 (Nat.le_trans hB0 hB2.size)).mono ?_
          rintro e w3 ⟨⟨bb, rfl⟩, rfl⟩
          have cf : ∀ x : ExtOf w3.drew, x.world.cell? ⟨p, 0, none⟩ = some (cl2 42 q p) := fun x => (M2.out.fn.below (x.below (Nat.le_refl _)) M2.out.fn.lt).cell rfl
          unfold cl2 at cf
          go_wp2_with fail
          refine wp_region_planM [6] [(true, 0), (true, 1), (true, 2), (true, 3), (true, 4), (true, 5), (false, 6)] (by decide) (by kernel_rfl) (by kernel_rfl) (by decide) (by intro c a d v w h; cases d <;> exact h) ?_
          change wpPlanM _ _ _ _ _ _ w3.drew
          iterate 6 (refine wpPlanM_plain rfl (fun K hK => ?_); go_simp; refine hK _ ?_; clear hK K)
          refine wpPlanM_call rfl (fun K hK => ?_)
          go_wp2_with fail
          refine (I1.out _ hB2.drew (M2.out.on ((Below.refl _ _).drew)) (Nat.le_trans hB0 hB2.size) (Nat.le_trans hB hB2.size) (hgB.out _ hB2.drew)).mono ?_
          rintro e w4 ⟨rfl, M4, hb4⟩
          go_wp2_with fail
          refine planPostL_normal ⟨.inl (by first | trivial | simp), hK _ _ ?_⟩
          clear hK K
          refine wpPlanM_nil ?_
          have hB4 : Below B0 w w4 := hB2.drew.trans hb4
          have M4' := Lib.hid M4
          clear hB2 hb4 cf M2 M4 I1
          have cf : ∀ x : ExtOf w4.drew, x.world.cell? ⟨p, 0, none⟩ = some (cl2 42 q p) := fun x => (M4'.out.fn.below (x.below (Nat.le_refl _)) M4'.out.fn.lt).cell rfl
          unfold cl2 at cf
          go_wp2_with fail
          refine wp_region_planM [6] [(true, 0), (true, 1), (true, 2), (true, 3), (true, 4), (true, 5), (false, 6)] (by decide) (by kernel_rfl) (by kernel_rfl) (by decide) (by intro c a d v w h; cases d <;> exact h) ?_
          change wpPlanM _ _ _ _ _ _ w4.drew
          iterate 6 (refine wpPlanM_plain rfl (fun K hK => ?_); go_simp; refine hK _ ?_; clear hK K)
          refine wpPlanM_call rfl (fun K hK => ?_)
          go_wp2_with fail
          refine (I2'.out _ _ hPQ'.out hB4.drew (M4'.out.on ((Below.refl _ _).drew)) (Nat.le_trans hB0 hB4.size) (Nat.le_trans hB hB4.size)).mono ?_
          rintro e w5 ⟨rfl, M5, hb5⟩
          go_wp2_with fail
          refine planPostL_normal ⟨.inl (by first | trivial | simp), hK _ _ ?_⟩
          clear hK K
          refine wpPlanM_nil ?_
          rw [List.append_assoc] at M5
          go_wp2_with fail
          exact bodyPost_end (results_none rfl _ _ _) rfl ⟨rfl, M5, hB4.drew.trans hb5⟩
        · have I2' := I2 (some (pd.add j)) (.inr rfl)
          clear I2
          go_enter Tryd.func42, Tryd.ntmps42
          go_wp2_with fail
          refine (HP.out _).mono ?_
          rintro e w2 ⟨rfl, hb2⟩
          have M2 := Lib.hid (hM.on hb2)
          have hB2 : Below B0 w w2 := hb2.mono hB0
          clear hb2 hM HP
          go_wp2_with fail
          refine (HS.out _ hB2 (Nat.le_trans hB0 hB2.size)).mono ?_
          rintro e w3 ⟨⟨bb, rfl⟩, rfl⟩
          have cf : ∀ x : ExtOf w3.drew, x.world.cell? ⟨p, 0, none⟩ = some (cl2 42 q p) := fun x => (M2.out.fn.below (x.below (Nat.le_refl _)) M2.out.fn.lt).cell rfl
          unfold cl2 at cf
          go_wp2_with fail
          refine wp_region_planM [6] [(true, 0), (true, 1), (true, 2), (true, 3), (true, 4), (true, 5), (false, 6)] (by decide) (by kernel_rfl) (by kernel_rfl) (by decide) (by intro c a d v w h; cases d <;> exact h) ?_
          change wpPlanM _ _ _ _ _ _ w3.drew
          iterate 6 (refine wpPlanM_plain rfl (fun K hK => ?_); go_simp; refine hK _ ?_; clear hK K)
          refine wpPlanM_call rfl (fun K hK => ?_)
          go_wp2_with fail
          refine (I1.out _ hB2.drew (M2.out.on ((Below.refl _ _).drew)) (Nat.le_trans hB0 hB2.size) (Nat.le_trans hB hB2.size) (hgB.out _ hB2.drew)).mono ?_
          rintro e w4 ⟨rfl, M4, hb4⟩
          go_wp2_with fail
          refine planPostL_normal ⟨.inl (by first | trivial | simp), hK _ _ ?_⟩
          clear hK K
          refine wpPlanM_nil ?_
          have hB4 : Below B0 w w4 := hB2.drew.trans hb4
          have M4' := Lib.hid M4
          clear hB2 hb4 cf M2 M4 I1
          have cf : ∀ x : ExtOf w4.drew, x.world.cell? ⟨p, 0, none⟩ = some (cl2 42 q p) := fun x => (M4'.out.fn.below (x.below (Nat.le_refl _)) M4'.out.fn.lt).cell rfl
          unfold cl2 at cf
          go_wp2_with fail
          refine wp_region_planM [6] [(true, 0), (true, 1), (true, 2), (true, 3), (true, 4), (true, 5), (false, 6)] (by decide) (by kernel_rfl) (by kernel_rfl) (by decide) (by intro c a d v w h; cases d <;> exact h) ?_
          change wpPlanM _ _ _ _ _ _ w4.drew
          iterate 6 (refine wpPlanM_plain rfl (fun K hK => ?_); go_simp; refine hK _ ?_; clear hK K)
          refine wpPlanM_call rfl (fun K hK => ?_)
          go_wp2_with fail
          refine (I2'.out _ _ hPQ'.out hB4.drew (M4'.out.on ((Below.refl _ _).drew)) (Nat.le_trans hB0 hB4.size) (Nat.le_trans hB hB4.size)).mono ?_
          rintro e w5 ⟨rfl, M5, hb5⟩
          go_wp2_with fail
          refine planPostL_normal ⟨.inl (by first | trivial | simp), hK _ _ ?_⟩
          clear hK K
          refine wpPlanM_nil ?_
          rw [List.append_assoc] at M5
          go_wp2_with fail
          exact bodyPost_end (results_none rfl _ _ _) rfl ⟨rfl, M5, hB4.drew.trans hb5⟩
      · have hn : (L.length : Int) = 1 := by omega
        have hnl : Hid (mny o L ps = []) := mny_one o (by omega) hnil
        rw [hnl.out, List.append_nil, ← hnp]
        go_enter Tryd.func42, Tryd.ntmps42
        go_wp2_with fail
        exact bodyPost_ret (results_none rfl _ _ _) rfl ⟨rfl, hM, Below.refl _ _⟩
end Go.Proofs.YtlgokfgiemaklaaDoor

namespace Go.Proofs.YtlgokfgiemaklaaDoor
set_option linter.unusedVariables false
set_option linter.unusedSimpArgs false
open Go.RowKit

theorem ascGo_asc {n : Int} : ∀ {ps : List Int} {l : Int}, ascGo n l ps = true → Asc ps ∧ ∀ p ∈ ps, l ≤ p ∧ p < n
  | [], l, _ => ⟨fun i j a b _ h => by simp at h, fun p h => by simp at h⟩
  | p :: ps, l, h => by
    unfold ascGo at h
    split at h
    · cases h
    · rename_i hc
      obtain ⟨h1, h2⟩ := ascGo_asc h
      refine ⟨fun i j a b hij ha hb => ?_, fun x hx => ?_⟩
      · cases i with
        | zero =>
          cases j with
          | zero => omega
          | succ j =>
            simp only [List.getElem?_cons_zero, Option.some.injEq] at ha
            simp only [List.getElem?_cons_succ] at hb
            have := (h2 b (List.mem_of_getElem? hb)).1
            omega
        | succ i =>
          cases j with
          | zero => omega
          | succ j => exact h1 i j a b (by omega) (by simpa using ha) (by simpa using hb)
      · rcases List.mem_cons.1 hx with rfl | hx
        · omega
        · have := h2 x hx; omega

set_option maxRecDepth 100000 in
set_option maxHeartbeats 2000000 in
theorem many_ok (L : List (List UInt8)) (A : Option Addr) (c : Nat) (ps : List Int) (Ap : Option Addr) (cp : Nat) (w : World) (hd : D16 L) (hc : L.length ≤ c) (h6 : L.length ≤ 500000) (hl1 : 1 ≤ L.length) (hps : ps.length ≤ 1000000) (hcp : ps.length ≤ cp) (hrp : Rds w w.heap.size Ap (ps.map iv)) (hasc : ascGo (L.length : Int) 0 ps = true) (hA : Dg w A L) (ht : Tab 2 w) :
    Calls Tryd.prog 21 #[.slice A L.length c, .slice Ap ps.length cp] w (PfEnd (mny 0 L ps) w) := by
  obtain ⟨ad, rfl, hab, _⟩ := hA.look (k := 0) (u := bv ((flat L).getD 0 0)) (by
    have := flat_len L hd
    rw [List.getElem?_map, List.getElem?_eq_getElem (by omega), List.getD_eq_getElem?_getD, List.getElem?_eq_getElem (by omega)]
    rfl)
  have HC : Hid (∀ W, Mkg W (w.heap.size + 2) (w.heap.size + 1) w.heap.size (cl2 42 w.heap.size (w.heap.size + 1)) 77 [] → Below w.heap.size w W → w.heap.size + 2 ≤ W.heap.size →
      Calls Tryd.prog 42 #[.int .i64 0, .slice (some ad) L.length c, .slice Ap ps.length cp, .pointer (some ⟨w.heap.size, 0, none⟩), .pointer (some ⟨w.heap.size + 1, 0, none⟩)] W fun e w' => e = .returned (.tuple #[]) ∧ Mkg w' (w.heap.size + 2) (w.heap.size + 1) w.heap.size (cl2 42 w.heap.size (w.heap.size + 1)) 77 (mny 0 L ps) ∧ Below w.heap.size W w') := fun W hM hB hs => by
    have h := many_up w.heap.size (w.heap.size + 2) (w.heap.size + 1) w.heap.size (by omega) (Nat.le_refl _) (by omega) (by omega) (by omega) ht.1 L.length 0 L ad c ps Ap cp [] W (Nat.le_refl _) hl1 hd hc (by omega) (by simp; omega) hps hcp (ascGo_asc hasc).1 (hrp.below hB) (Rds.below hA hB) hM (by omega) (by omega) (ht.on hB)
    rw [List.nil_append] at h
    exact h
  have HAs := Lib.hid (fun W (hr : Rds W W.heap.size Ap (ps.map iv)) => ascending_any ps (L.length : Int) Ap cp W hr hps (by omega))
  rw [hasc] at HAs
  have hrp' := Lib.hid hrp
  have hmf : ∀ (fn : Fn) (first cap : Array Value) (w : World), (Instr.makeFunc fn first cap).run Tryd.prog w = .ok (.func fn first cap) w := fun _ _ _ _ => rfl
  have hN : Hid (Blk ((w.alloc (.cells #[.slice none 0 0] 22)).alloc (.cells #[.nilFunc] 77)) (w.heap.size + 1) [.nilFunc] 77) := (Blk.new _ [_] _).at (by simp)
  have hB2 : Hid (Below w.heap.size w ((w.alloc (.cells #[.slice none 0 0] 22)).alloc (.cells #[.nilFunc] 77))) := ((Below.refl _ _).alloc (Nat.le_refl _) _).alloc (by simp) _
  have hQ2 : Hid (Blk ((w.alloc (.cells #[.slice none 0 0] 22)).alloc (.cells #[.nilFunc] 77)) w.heap.size [.slice none 0 0] 22) := (Blk.new _ [_] _).alloc _
  have hs2 : Hid (((w.alloc (.cells #[.slice none 0 0] 22)).alloc (.cells #[.nilFunc] 77)).heap.size = w.heap.size + 2) := by show _ = _; simp
  have hsf : (Tryd.prog.info? 77).map (·.size) = some 1 := by kernel_rfl
  have hone : ∀ u ∈ (cl2 42 w.heap.size (w.heap.size + 1)).cells.toList, u.oneCell' = true := by
    intro u hu
    have hu' : u ∈ [cl2 42 w.heap.size (w.heap.size + 1)] := hu
    simp only [List.mem_singleton] at hu'
    subst hu'
    rfl
  obtain ⟨n, hn⟩ : ∃ n, n = L.length := ⟨_, rfl⟩
  rw [← hn] at HC HAs hl1 ⊢
  have t2 : ((n : Int) == 0) = false := by simp; omega
  obtain ⟨np, hnp⟩ : ∃ np, np = ps.length := ⟨_, rfl⟩
  rw [← hnp] at HC HAs ⊢
  clear hn hA hab ht hc h6 hd hasc hrp hps hcp hnp
  unfold cl2 at *
  go_enter Tryd.func21, Tryd.ntmps21
  go_wp2_with fail
  refine (HAs.out _ hrp'.out).mono ?_
  rintro e w1 ⟨rfl, hw1⟩
  have hw := hw1.symm
  subst hw
  go_wp2_with (refine wpList_blk_store rfl 77 _ _ rfl 0 _ rfl rfl hN.out hsf (Nat.le_of_eq rfl) hone ?_; intro W3 hf3 ho3; have cf := Blk.cell (j := 0) hf3.out rfl)
  have hB3 : Below w.heap.size w W3 := hB2.out.trans (ho3.below (by omega))
  have hq3 := hQ2.out.only ho3 (by omega)
  have hs3 : w.heap.size + 2 ≤ W3.heap.size := by rw [ho3.size, hs2.out]; exact Nat.le_refl _
  refine (HC.out _ ⟨hf3.out, _, hq3, ownD_nil _ _⟩ hB3 hs3).mono ?_
  rintro e w4 ⟨rfl, M4, hb4⟩
  obtain ⟨f4, v4, c4, o4⟩ := M4
  have cq := c4.cell (j := 0) rfl
  clear cf hq3 hs3
  go_wp2_with fail
  go_ret2
  refine ⟨v4, ⟨rfl, ?_⟩, hB3.trans hb4⟩
  exact ⟨o4.1, o4.2.imp id fun ⟨g, cap, cur, h1, h2, h3⟩ => ⟨g, cap, cur, h1, by omega, h3⟩⟩

set_option maxRecDepth 100000 in
set_option maxHeartbeats 1000000 in
theorem many_no (n : Nat) (A : Option Addr) (c : Nat) (ps : List Int) (Ap : Option Addr) (cp : Nat) (w : World) (hn : n ≤ 1000000) (hps : ps.length ≤ 1000000) (hrp : Rds w w.heap.size Ap (ps.map iv)) (h : ascGo (n : Int) 0 ps = false ∨ n = 0) :
    Calls Tryd.prog 21 #[.slice A n c, .slice Ap ps.length cp] w fun e w' => e = .returned (.tuple #[.slice none 0 0, .int .i64 (if ascGo (n : Int) 0 ps then 0 else 1)]) ∧ w' = w := by
  have HAs := Lib.hid (ascending_any ps (n : Int) Ap cp w hrp hps (by omega))
  generalize ascGo (n : Int) 0 ps = r at HAs h ⊢
  cases r with
  | false =>
    clear h
    go_enter Tryd.func21, Tryd.ntmps21
    go_wp2_with fail
    refine HAs.out.mono ?_
    rintro e w1 ⟨rfl, rfl⟩
    go_wp2_with fail
    go_ret2
    exact ⟨rfl, rfl⟩
  | true =>
    obtain rfl : n = 0 := by simpa using h
    clear h
    go_enter Tryd.func21, Tryd.ntmps21
    go_wp2_with fail
    refine HAs.out.mono ?_
    rintro e w1 ⟨rfl, rfl⟩
    go_wp2_with fail
    go_ret2
    exact ⟨rfl, rfl⟩
end Go.Proofs.YtlgokfgiemaklaaDoor
