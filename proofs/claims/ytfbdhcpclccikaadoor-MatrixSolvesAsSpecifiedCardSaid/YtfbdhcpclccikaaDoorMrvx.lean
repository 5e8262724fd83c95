/-
  Contracts of stage 5: the reference's Inverse; what it needs of the reduction of a matrix with an identity beside it. Contracts of stage 5: the reference's Inverse, the walk. Stage 5: what the reference's solutions need; a law of append that says which block may have changed.
-/
import Derived.Test.YtfbdhcpclccikaaDoorMrtu
import Derived.Test.YtfbdhcpclccikaaDoorMwk
import Derived.Test.YtfbdhcpclccikaaDoorMpr
namespace Go.Proofs.YtfbdhcpclccikaaDoor
set_option linter.unusedVariables false
set_option linter.unusedSimpArgs false
open Go.RowKit

theorem redGo_prefix : ∀ (cs : List Nat) (M : List (List UInt8)) (piv : List Nat), ∃ P2, (redGo M piv cs).2 = piv ++ P2 ∧ ∀ p ∈ P2, p ∈ cs
  | [], M, piv => ⟨[], (List.append_nil _).symm, fun p hp => by cases hp⟩
  | col :: cs, M, piv => by
    cases hf : findP M col piv.length with
    | none =>
      rw [redGo_none hf]
      obtain ⟨P, h1, h2⟩ := redGo_prefix cs M piv
      exact ⟨P, h1, fun p hp => List.mem_cons_of_mem _ (h2 p hp)⟩
    | some i =>
      rw [redGo_some hf]
      obtain ⟨P, h1, h2⟩ := redGo_prefix cs (pivStep M piv.length col i) (piv ++ [col])
      refine ⟨col :: P, by rw [h1, List.append_assoc]; rfl, fun p hp => ?_⟩
      rcases List.mem_cons.1 hp with rfl | hp
      · exact List.mem_cons_self ..
      · exact List.mem_cons_of_mem _ (h2 p hp)
theorem redGo_full : ∀ (cs : List Nat) (M : List (List UInt8)) (piv : List Nat), M.length ≤ piv.length → redGo M piv cs = (M, piv)
  | [], M, piv, _ => rfl
  | col :: cs, M, piv, h => by
    rw [redGo_none (findP_none fun k h1 h2 => by omega)]
    exact redGo_full cs M piv h
theorem red_more (M : List (List UInt8)) (n m : Nat) : red M (n + m) = redGo (red M n).1 (red M n).2 ((List.range m).map (n + ·)) := by
  unfold red
  rw [List.range_add, redGo_append]
theorem ech_id (n : Nat) : Ech (idM n) (List.range n) n := by
  have hg : ∀ i p, (List.range n)[i]? = some p → p = i ∧ i < n := fun i p h => by
    obtain ⟨h1, h2⟩ := List.getElem?_eq_some_iff.1 h
    rw [List.getElem_range] at h2
    exact ⟨h2.symm, by simpa using h1⟩
  refine ⟨fun i p h => by have := hg i p h; omega, fun i j p q h h' hij => by have := hg i p h; have := hg j q h'; omega, fun i p x h hx => ?_, fun i p k h hk => ?_, fun x k hx hk => el_out _ k (by rw [idM_len]; simpa using hx), by rw [idM_len, List.length_range]; exact Nat.le_refl _⟩
  · obtain ⟨rfl, hi⟩ := hg i p h
    rw [idM_len] at hx
    exact el_idM p hx hi
  · obtain ⟨rfl, hi⟩ := hg i p h
    rw [el_idM k hi (by omega), if_neg (by omega)]
theorem aug_full {M : List (List UInt8)} {n : Nat} (hr : Rect M n) (hl : M.length = n) : (red (augM M) (n + n)).2.length = n := by
  have hal : (augM M).length = n := by unfold augM; rw [augK_len, hl]
  have haug := aug_rect hr hl
  have h1 : rk (augM M) (n + n) ≤ n := by have := rk_le_len haug (n + n); omega
  have h2 : rk (idM n) n = n := by rw [(ech_id n).rank (idM_rect n), List.length_range]
  have h3 : rk (idM n) n ≤ rk (augM M) (n + n) := rk_le (idM_rect n) haug fun hf => by
    obtain ⟨B, C, h⟩ := hf
    refine ⟨B, fun j k => C j (n + k), fun i hi k hk => ?_⟩
    rw [idM_len] at hi
    rw [← h i (by omega) (n + k) (by omega), el_aug hr hl hi, if_neg (by omega), el_idM k hi hk]
    by_cases hik : i = k
    · rw [if_pos hik, if_pos (by omega)]
    · rw [if_neg hik, if_neg (by omega)]
  show rk (augM M) (n + n) = n
  omega
/-- There is an inverse exactly if the pivots are the first columns. -/
theorem inv_pivots {M : List (List UInt8)} {n : Nat} (h : Ok M) (hr : Rect M n) (hl : M.length = n) (hc : cols M = n) :
    ((∀ k, k < n → (red (augM M) (n + n)).2[k]? = some k) → invE M = 0) ∧ (invE M = 0 → (∀ k, k < n → (red (augM M) (n + n)).2[k]? = some k) ∧ (red (augM M) (n + n)).1 = (red (augM M) n).1) := by
  have haug := aug_rect hr hl
  have hE := red_ech haug n
  have hal : (augM M).length = n := by unfold augM; rw [augK_len, hl]
  have hfull := aug_full hr hl
  have hle : (red (augM M) n).2.length ≤ n := by have := red_piv_le haug n; omega
  have hinv : invE M = if (red (augM M) n).2.length < n then 8 else 0 := by
    unfold invE
    rw [chk_ok h, if_neg (by decide), if_neg (by omega), hl]
  have hm := red_more (augM M) n n
  constructor
  · intro hall
    rw [hinv, if_neg]
    intro hlt
    obtain ⟨P2, h1, h2⟩ := redGo_prefix ((List.range n).map (n + ·)) (red (augM M) n).1 (red (augM M) n).2
    rw [← hm] at h1
    have h3 := hall _ hlt
    rw [h1, List.getElem?_append_right (Nat.le_refl _), Nat.sub_self] at h3
    obtain ⟨i, _, hi⟩ := List.mem_map.1 (h2 _ (List.mem_of_getElem? h3))
    omega
  · intro he
    have hn : (red (augM M) n).2.length = n := by
      rw [hinv] at he
      split at he
      · cases he
      · omega
    have h1 := redGo_full ((List.range n).map (n + ·)) (red (augM M) n).1 (red (augM M) n).2 (by rw [red_len haug, hal]; omega)
    rw [hm, h1]
    refine ⟨fun k hk => ?_, rfl⟩
    show (red (augM M) n).2[k]? = some k
    rw [asc_all hE.ascL (fun p hp => hE.mem_lt hp) hn, List.getElem?_range hk]
/-- A row without its first elements. -/
theorem sub_off {x B : Nat} {w : World} {row : Option Nat} {a : Addr} {n c : Nat} {m : List UInt8} (hc : m.length ≤ c) (hm : c ≤ maxLen) (hr : Rds w B (some a) (m.map bv)) (hab : a.block < B) (hB : B ≤ w.heap.size) (hx : x < B) (hn : n ≤ m.length) (hxa : a.block ≠ x) (hrow : ∀ g, row = some g → B ≤ g) :
    RowOff x w row (.slice (some (a.add n)) (m.length - n) (c - n)) (m.drop n) := by
  refine ⟨some (a.add n), c - n, by rw [List.length_drop], by rw [List.length_drop]; omega, by omega, (fun hh => by cases hh), fun hne => ?_, fun ad ha => ?_⟩
  · obtain ⟨ad, e, hb, hcl⟩ := hr (fun h0 => by
      rw [List.map_drop, h0] at hne
      simp at hne)
    cases e
    refine ⟨_, rfl, by rw [add_block]; omega, fun j u hu => ?_⟩
    rw [List.map_drop, List.getElem?_drop] at hu
    have := hcl (n + j) u hu
    rw [add_twice]
    exact this
  · cases ha
    rw [add_block]
    refine ⟨fun hh => ?_, by omega, hxa⟩
    have := hrow _ hh
    omega
end Go.Proofs.YtfbdhcpclccikaaDoor

namespace Go.Proofs.YtfbdhcpclccikaaDoor
set_option linter.unusedVariables false
set_option linter.unusedSimpArgs false
open Go.RowKit

theorem ownB_made (w : World) (base : Nat) (hb : base ≤ w.heap.size) : OwnB (w.alloc (.cells #[] 5)) base (.slice (some ⟨w.heap.size, 0, none⟩) 0 0) [] :=
  World.ownsRow_made w #[] 0 hb (by unfold maxLen; omega) rfl

set_option maxRecDepth 100000 in
set_option maxHeartbeats 8000000 in
theorem refInverse_any (M : List (List UInt8)) (A : Option Addr) (c n : Nat) (w : World) (h : Mat w w.heap.size A M) (hn : M.length = n) (hl : n ≤ 100000) :
    Calls Tryd.prog 31 #[.slice A n c] w (MadeEnd w (invM M) (invE M)) := by
  obtain ⟨dd, hdu, hdr⟩ := row_made
  have hdu' := Lib.hid hdu
  obtain ⟨W1, hW1⟩ : ∃ W1, W1 = w.alloc (.cells #[.slice none 0 0, .int .i64 0] 35) := ⟨_, rfl⟩
  have hB1 : Hid (Below w.heap.size w W1) := by show Below _ _ _; rw [hW1]; exact (Below.refl _ _).alloc (Nat.le_refl _) _
  have hR1 : Hid (Blk W1 w.heap.size [.slice none 0 0, .int .i64 0] 35) := by show Blk _ _ _ _; rw [hW1]; exact Blk.new _ [_, _] _
  have hs1 : Hid (W1.heap.size = w.heap.size + 1) := by show _ = _; rw [hW1]; simp
  have hW1' := Lib.hid hW1
  have hM1 : Hid (Mat W1 w.heap.size A M) := h.below hB1.out
  obtain ⟨r, hr0⟩ : ∃ r, chk M = r := ⟨_, rfl⟩
  have CK : Hid (Calls Tryd.prog 19 #[.slice A n c] W1 fun e w' => e = .returned (.int .i64 r) ∧ Below W1.heap.size W1 w') := check_v M n A c W1 (hM1.out.more hB1.out.size) hn (by omega) hr0
  obtain ⟨q, hq0⟩ : ∃ q, cols M = q := ⟨_, rfl⟩
  have hE1 : Hid (r ≠ 0 → invM M = [] ∧ invE M = r) := fun h => by
    have : invE M = r := by unfold invE; rw [if_pos (by rw [hr0]; exact h), hr0]
    exact ⟨by unfold invM; rw [if_neg (by rw [this]; exact h)], this⟩
  have hE2 : Hid (r = 0 → q ≠ n → invM M = [] ∧ invE M = 1) := fun h1 h2 => by
    have : invE M = 1 := by unfold invE; rw [if_neg (by rw [hr0, h1]; simp), if_pos (by omega)]
    exact ⟨by unfold invM; rw [if_neg (by rw [this]; decide)], this⟩
  have hE3 : Hid (r = 0 → q = n → Ok M ∧ Rect M n ∧ (invE M = 0 ∨ invE M = 8)) := fun h1 h2 => by
    have o := ok_of (hr0.trans h1)
    exact ⟨o, by have := o.rect; rw [hq0, h2] at this; exact this, (inv_iff o (by omega)).1⟩
  have hn' := Lib.hid hn
  have hq' := Lib.hid hq0
  clear hdu hW1 h hn hr0 hq0
  go_enter Tryd.func31, Tryd.ntmps31
  go_wp2_with fail
  generalize hg : w.alloc _ = Wg
  have hgW : W1 = Wg := by rw [← hg, hW1'.out]
  clear hg hW1'
  subst hgW
  refine CK.out.mono ?_
  rintro e w2 ⟨rfl, hb2⟩
  have hB2 : Hid (Below w.heap.size w w2) := hB1.out.trans (hb2.mono hB1.out.size)
  have hR2 : Hid (Blk w2 w.heap.size [.slice none 0 0, .int .i64 0] 35) := hR1.out.below hb2 hR1.out.lt
  have hM2 : Hid (Mat w2 w.heap.size A M) := hM1.out.below (hb2.mono hB1.out.size)
  have hs2 : Hid (w.heap.size < w2.heap.size) := by show _ < _; have := hb2.size; rw [hs1.out] at this; omega
  clear CK hB1 hR1 hM1 hb2 hs1
  by_cases h0 : r = 0
  rotate_left
  · have t : (r != 0) = true := by simpa using h0
    obtain ⟨e1, e2⟩ := hE1.out h0
    have e1' := Lib.hid e1
    have e2' := Lib.hid e2
    clear h0 e1 e2 hE1 hE2 hE3
    go_wp2_with (refine wpList_row_store rfl 35 _ _ rfl [.slice none 0 0, .int .i64 r] rfl rfl hR2.out size_made rfl (made_one _ _ _ _) ?_; intro w4 hw4 ho4)
    exact bodyPost_ret (ret_blk rfl _ w4 (g := w.heap.size) rfl hw4.out dd hdu'.out hdr size_made) rfl (by rw [e1'.out, e2'.out]; exact ⟨⟨none, 0, rfl, by simp, by unfold maxLen; decide, fun _ => rfl, Mat.nil⟩, hB2.out.trans (ho4.below (Nat.le_refl _))⟩)
  have hE2a := Lib.hid (hE2.out h0)
  have hE3a := Lib.hid (hE3.out h0)
  clear hE1 hE2 hE3
  subst h0
  have CC := Lib.hid (columns_v M n q A c w2 (hM2.out.more hB2.out.size) hn'.out hq'.out)
  go_wp2_with fail
  refine CC.out.mono ?_
  rintro e w3 ⟨rfl, rfl⟩
  by_cases h1 : q = n
  rotate_left
  · have t : ((q : Int) != (n : Int)) = true := by simp only [bne_iff_ne, ne_eq]; omega
    obtain ⟨e1, e2⟩ := hE2a.out h1
    have e1' := Lib.hid e1
    have e2' := Lib.hid e2
    clear h1 e1 e2 hE2a hE3a
    go_wp2_with (refine wpList_row_store rfl 35 _ _ rfl [.slice none 0 0, .int .i64 1] rfl rfl hR2.out size_made rfl (made_one _ _ _ _) ?_; intro w4 hw4 ho4)
    exact bodyPost_ret (ret_blk rfl _ w4 (g := w.heap.size) rfl hw4.out dd hdu'.out hdr size_made) rfl (by rw [e1'.out, e2'.out]; exact ⟨⟨none, 0, rfl, by simp, by unfold maxLen; decide, fun _ => rfl, Mat.nil⟩, hB2.out.trans (ho4.below (Nat.le_refl _))⟩)
  obtain ⟨o, hre, hE⟩ := hE3a.out h1
  have o' := Lib.hid o
  have hre' := Lib.hid hre
  have hE' := Lib.hid hE
  have hcq : Hid (cols M = n) := hq'.out.trans h1
  clear hE2a hE3a CC o hre hE hq'
  replace h1 := h1.symm
  subst h1
  have tnn : ((n : Int) != (n : Int)) = false := by simp
  have n48 : n ≤ 48 := by have := o'.out.rows; have := hn'.out; omega
  have ID := Lib.hid (identity_v n w2 (by omega) (by have := hs2.out; omega))
  go_wp2_with fail
  refine ID.out.mono ?_
  rintro e w3 ⟨Ai, ci, rfl, hmi, hbi⟩
  have hI3 := Lib.hid hmi
  have hB3 : Hid (Below w.heap.size w w3) := hB2.out.trans (hbi.mono hB2.out.size)
  have hR3 : Hid (Blk w3 w.heap.size [.slice none 0 0, .int .i64 0] 35) := hR2.out.below hbi hR2.out.lt
  have hM3 : Hid (Mat w3 w3.heap.size A M) := (hM2.out.below (hbi.mono hB2.out.size)).more hB3.out.size
  have hs3 : Hid (w.heap.size < w3.heap.size) := Nat.lt_of_lt_of_le hs2.out hbi.size
  have hal : Hid ((augM M).length = n) := by show _ = _; unfold augM; rw [augK_len, hn'.out]
  have hgr : Hid (∀ k m, M[k]? = some m → (augM M).take (k + 1) = (augM M).take k ++ [m ++ (List.replicate n 0).set k 1]) := fun k m hm => by
    have hk := (List.getElem?_eq_some_iff.1 hm).1
    refine take_snoc ?_
    unfold augM
    rw [augK_get, hm, hn'.out]
    have : k < n := by have := hn'.out; omega
    simp [this]
  clear ID hmi hbi hB2 hR2 hM2 hs2 tnn
  obtain ⟨S, hS⟩ : ∃ S, S = augM M := ⟨_, rfl⟩
  rw [← hS] at hal hgr
  have hS' := Lib.hid hS
  clear hS
  go_wp2_with fail
  go_loopw [6, 7] (fun v i wr => ∃ k : Nat, k ≤ n ∧ i = .int .i64 k ∧ OwnQ w.heap.size wr w3.heap.size v (S.take k) ∧ Below w3.heap.size w3 wr) (fun _ i _ => n - (intOf i).toNat)
  case atStart => exact ⟨0, by omega, rfl, ownQ_nil _ _ _, Below.refl _ _⟩
  case round =>
    obtain ⟨k, hk, rfl, ho, hbw⟩ := hrel
    by_cases hlt : k < n
    · have t : (k : Int) < (n : Int) := by omega
      have t0 : 0 ≤ (k : Int) := by omega
      obtain ⟨mk, hmk⟩ : ∃ x, M[k]? = some x := ⟨_, List.getElem?_eq_getElem (by have := hn'.out; omega)⟩
      have hmkl := hre'.out.at hmk
      obtain ⟨ad, vm, rfl, hab, hca, hvm⟩ := hM3.out.at hmk
      obtain ⟨am, cm, hvme, ham, hrm, _⟩ := row_look hvm (by omega)
      obtain ⟨ai, vi, rfl, hib, hci, hvi⟩ := hI3.out.at (idM_get hlt)
      obtain ⟨ao, co, hvie, hao, hro, _⟩ := row_look hvi (by simp; omega)
      rw [hmkl] at hvme
      rw [show ((List.replicate n (0 : UInt8)).set k 1).length = n by simp] at hvie
      subst hvme
      subst hvie
      have hgk := Lib.hid (hgr.out k mk hmk)
      have CE : Hid (∀ W, Below w3.heap.size w3 W → W.cell? (ad.add k) = some (.slice (some am) n cm) ∧ W.cell? (ai.add k) = some (.slice (some ao) n co)) := fun W hW =>
        ⟨(hW.cell (p := ad.add k) (by rw [add_block]; exact hab)).trans hca, (hW.cell (p := ai.add k) (by rw [add_block]; exact hib)).trans hci⟩
      have hrm' := Lib.hid hrm
      have hro' := Lib.hid hro
      have hmkl' := Lib.hid hmkl
      have hd : Hid (Below w3.heap.size w3 wr.drew) := hbw.drew
      have hod : Hid (OwnQ w.heap.size wr.drew w3.heap.size _ (S.take k)) := ho.keep ((Below.refl _ _).drew)
      have hln : (S.take k).length ≤ 1000000 := by rw [List.length_take]; omega
      clear hmk hmkl hab hca hvm ham hrm hib hci hvi hao hro ho hbw
      go_wp2_with fail
      have hne : Nonempty (SOf fun W => W.cell? (ad.add k) = some (.slice (some am) n cm) ∧ W.cell? (ai.add k) = some (.slice (some ao) n co)) := ⟨⟨wr.drew, CE.out _ hd.out⟩⟩
      refine wp_region_planH (fun W => W.cell? (ad.add k) = some (.slice (some am) n cm) ∧ W.cell? (ai.add k) = some (.slice (some ao) n co)) [0, 2, 3, 4, 5, 7, 8, 9, 10] 6 (by kernel_rfl) (by kernel_rfl) (by kernel_rfl) (by kernel_rfl) (by intro c a d v w h; cases d <;> exact h) (CE.out _ hd.out) ?_
      change wpPlanH _ _ _ _ _ _ _ _ _ wr.drew
      have g0 : ∀ x : SOf (fun W : World => W.cell? (ad.add k) = some (.slice (some am) n cm) ∧ W.cell? (ai.add k) = some (.slice (some ao) n co)), x.world.cell? (ad.add k) = some (.slice (some am) n cm) := fun x => x.meets.1
      have g1 : ∀ x : SOf (fun W : World => W.cell? (ad.add k) = some (.slice (some am) n cm) ∧ W.cell? (ai.add k) = some (.slice (some ao) n co)), x.world.cell? (ai.add k) = some (.slice (some ao) n co) := fun x => x.meets.2
      iterate 9 (refine wpPlanH_plain rfl (fun K hK => ?_); go_simp; refine hK _ ?_; clear hK K)
      clear g0 g1 hne
      generalize wr.drew = w4 at hd hod ⊢
      have hw4 : w3.heap.size ≤ w4.heap.size := hd.out.size
      refine wpAnyH_each (rs := [1]) (by kernel_rfl) (by decide) (fun K hK i hi => ?_)
      obtain rfl := List.mem_singleton.1 hi
      refine wpOp_listed rfl ?_
      go_wp2_with fail
      have hb5 : Hid (Below w4.heap.size w4 (w4.alloc (.cells #[] 5))) := (Below.refl _ _).alloc (Nat.le_refl _) _
      refine postH_normal (hK _ _ _ (CE.out _ (hd.out.trans (hb5.out.mono hw4))) ?_)
      clear hK K
      have hO5 := Lib.hid (ownB_made w4 w4.heap.size (Nat.le_refl _))
      generalize w4.alloc (.cells #[] 5) = w5 at hb5 hO5 ⊢
      refine wpAnyH_each (rs := [6]) (by kernel_rfl) (by decide) (fun K hK i hi => ?_)
      obtain rfl := List.mem_singleton.1 hi
      refine wpOp_listed rfl ?_
      refine push_bytes rfl _ _ rfl w4.heap.size _ [] mk _ (some am) n cm hmkl'.out.symm (fun hh => by cases hh) rfl rfl (hrm'.out.below (hd.out.trans (hb5.out.mono hw4))) hO5.out (by simp; have := hmkl'.out; omega) hb5.out.size ?_
      intro v6 w6 ho6 hb6
      have hB6 : Hid (Below w4.heap.size w4 w6) := hb5.out.trans hb6
      have hO6 : Hid (OwnB w6 w4.heap.size v6 mk) := by rw [List.nil_append] at ho6; exact ho6
      refine wpList_end (postH_normal (hK _ _ _ (CE.out _ (hd.out.trans (hB6.out.mono hw4))) ?_))
      clear hK K ho6 hb6 hO5 hb5
      refine wpAnyH_each (rs := [11]) (by kernel_rfl) (by decide) (fun K hK i hi => ?_)
      obtain rfl := List.mem_singleton.1 hi
      refine wpOp_listed rfl ?_
      refine push_bytes rfl _ _ rfl w4.heap.size _ mk ((List.replicate n 0).set k 1) _ (some ao) n co (by simp) (fun hh => by cases hh) rfl rfl (hro'.out.below (hd.out.trans (hB6.out.mono hw4))) hO6.out (by simp; have := hmkl'.out; omega) hB6.out.size ?_
      intro v7 w7 ho7 hb7
      have hB7 : Hid (Below w4.heap.size w4 w7) := hB6.out.trans hb7
      obtain ⟨row, hrow⟩ : ∃ l, l = mk ++ (List.replicate n (0 : UInt8)).set k 1 := ⟨_, rfl⟩
      have hrowl : row.length = n + n := by rw [hrow]; simp; exact hmkl'.out
      rw [← hrow] at ho7 hgk
      have hO7 := Lib.hid ho7
      clear hrow
      refine wpList_end (postH_normal (hK _ _ _ (CE.out _ (hd.out.trans (hB7.out.mono hw4))) ?_))
      clear hK K ho7 hb7 hO6 hB6
      have hx4 : Hid (w.heap.size < w4.heap.size) := Nat.lt_of_lt_of_le hs3.out hw4
      have hoff := Lib.hid (own_off (x := w.heap.size) hO7.out hod.out hx4.out)
      have hod7 := Lib.hid (hod.out.keep hB7.out)
      obtain ⟨Av7, cv7, hv7, _⟩ := own_form hO7.out
      rw [hrowl] at hv7
      subst hv7
      clear hrowl
      refine wpAnyH_each (rs := [12]) (by kernel_rfl) (by decide) (fun K hK i hi => ?_)
      obtain rfl := List.mem_singleton.1 hi
      refine wpOp_listed rfl ?_
      go_wp2_with fail
      refine postH_normal (hK _ _ _ (CE.out _ ((hd.out.trans (hB7.out.mono hw4)).alloc (Nat.le_trans hw4 hB7.out.size) _)) ?_)
      clear hK K
      refine wpAnyH_each (rs := [13]) (by kernel_rfl) (by decide) (fun K hK i hi => ?_)
      obtain rfl := List.mem_singleton.1 hi
      refine wpOp_listed rfl ?_
      refine push_q rfl _ _ rfl w3.heap.size _ (S.take k) row _ rfl rfl hod7.out hoff.out hln (Nat.le_trans hw4 hB7.out.size) ?_
      intro v8 w8 ho8 hb8 hg8
      have hB8 : Hid (Below w3.heap.size w3 w8) := (hd.out.trans (hB7.out.mono hw4)).trans hb8
      have hO8 := Lib.hid ho8
      refine wpList_end (postH_normal (hK _ _ _ (CE.out _ hB8.out) ?_))
      clear hK K ho8 hb8 hg8 hoff hod7 hO7 hB7 hod hd
      refine wpAnyH_each (rs := [14]) (by kernel_rfl) (by decide) (fun K hK i hi => ?_)
      obtain rfl := List.mem_singleton.1 hi
      refine wpOp_listed rfl ?_
      go_wp2_with fail
      refine postH_normal (hK _ _ _ (CE.out _ hB8.out) ?_)
      clear hK K
      refine wpAnyH_done (by kernel_rfl) ?_ _
      go_wp2_with fail
      go_roundw
      case rel => exact ⟨k + 1, by omega, by go_num, by rw [hgk.out]; exact hO8.out, hB8.out⟩
      case measure => simp [intOf]; omega
    · have t : ¬ (k : Int) < (n : Int) := by omega
      have hkk : S.take k = S := List.take_of_length_le (by rw [hal.out]; omega)
      rw [hkk] at ho
      have hbw' := Lib.hid hbw
      obtain ⟨Ab, cb, rfl, hcb, hcbm, _, _⟩ := ho.mat
      have hmb := ho.matX hs3.out
      have hmb' := Lib.hid hmb
      have hcS : Hid (cols S = n + n ∧ Rect S (n + n)) := by
        have hr := aug_rect hre'.out hn'.out
        rw [← hS'.out] at hr
        refine ⟨?_, hr⟩
        rcases Nat.eq_zero_or_pos n with h0 | h0
        · rw [List.length_eq_zero_iff.1 (show S.length = 0 by rw [hal.out]; exact h0), h0]; rfl
        · exact cols_of hr (by rw [hal.out]; exact h0)
      obtain ⟨R, hR⟩ : ∃ R, redR S = R := ⟨_, rfl⟩
      obtain ⟨P, hP⟩ : ∃ R, redP S = R := ⟨_, rfl⟩
      have FR : Hid (P.length = n ∧ R.length = n ∧ Rect R (n + n) ∧ ((∀ k, k < n → P[k]? = some k) → invE M = 0) ∧ (invE M = 0 → (∀ k, k < n → P[k]? = some k) ∧ R = (red S n).1)) := by
        obtain ⟨i1, i2⟩ := inv_pivots o'.out hre'.out hn'.out hcq.out
        have hf := aug_full hre'.out hn'.out
        rw [← hS'.out] at i1 i2 hf
        have e1 : P = (red S (n + n)).2 := by rw [← hP]; unfold redP; rw [hcS.out.1]
        have hrl := red_len hcS.out.2 (n + n)
        rw [hal.out] at hrl
        have e2 : R = (red S (n + n)).1 := by
          rw [← hR]
          unfold redR
          rw [hcS.out.1, hf, List.take_of_length_le (by omega)]
        refine ⟨by rw [e1]; exact hf, by rw [e2]; exact hrl, by rw [e2]; exact red_rect hcS.out.2 _, by rw [e1]; exact i1, by rw [e1, e2]; exact i2⟩
      have RC := Lib.hid (refReduce_x w.heap.size n n (n + n) S Ab cb wr hmb'.out (Nat.lt_of_lt_of_le hs3.out hbw.size) hal.out (by rw [hal.out] at hcb; exact hcb) (by omega) hcS.out.2 (by omega) hR hP FR.out.1)
      have hT : Hid (invE M = 0 → invM M = R.map fun m => m.drop n) := fun he => by
        have e1 := (FR.out.2.2.2.2 he).2
        unfold invM
        rw [if_pos he, ← hS'.out, hn'.out, ← e1]
        apply List.ext_getElem?
        intro i
        rw [List.getElem?_map]
        rcases Nat.lt_or_ge i n with hi | hi
        · obtain ⟨m, hm⟩ : ∃ m, R[i]? = some m := ⟨_, List.getElem?_eq_getElem (by rw [FR.out.2.1]; exact hi)⟩
          have hml := FR.out.2.2.1.at hm
          rw [matF_get _ hi, hm]
          show some _ = some _
          congr 1
          refine row_ext (n := n) (rowF_len _ _) (by rw [List.length_drop]; omega) fun k hk => ?_
          rw [List.getD_eq_getElem?_getD, rowF_get _ hk, List.getD_eq_getElem?_getD, List.getElem?_drop, ← List.getD_eq_getElem?_getD]
          exact el_get hm (n + k)
        · rw [List.getElem?_eq_none (by rw [matF_len]; exact hi), List.getElem?_eq_none (by rw [FR.out.2.1]; exact hi)]
          rfl
      rw [hal.out]
      clear hR hP hkk ho hmb hbw hcb hcbm
      go_wp2_with fail
      refine RC.out.mono ?_
      rintro e w5 ⟨Ar, cr, Ap, cp, rfl, hmr, hmp, hb5⟩
      have hB5 : Hid (Below w.heap.size w w5) := hB3.out.trans ((hbw'.out.trans (hb5.mono hbw'.out.size)).mono hB3.out.size)
      have hR5 : Hid (Blk w5 w.heap.size [.slice none 0 0, .int .i64 0] 35) := hR3.out.below (hbw'.out.trans (hb5.mono hbw'.out.size)) hR3.out.lt
      have hX5 := Lib.hid hmr
      have hP5 := Lib.hid hmp
      have hs5 : Hid (w.heap.size < w5.heap.size) := Nat.lt_of_lt_of_le hs3.out (Nat.le_trans hbw'.out.size hb5.size)
      clear RC hmr hmp hb5 hmb' hbw' hB3 hR3 hM3 hs3 hI3
      have hRb := Lib.hid (Blk.new w5 [.slice none 0 0, .slice none 0 0] 38)
      have hAb : Hid (∀ o, Below w5.heap.size w5 (w5.alloc o)) := fun o => (Below.refl _ _).alloc (Nat.le_refl _) _
      go_wp2_with (refine wpList_row_store rfl 38 _ _ rfl [.slice Ar n cr, .slice Ap n cp] rfl rfl hRb.out size_red rfl (red_one _ _ _ _ _ _) ?_; intro w6 hw6 ho6; have D6 := Lib.hid ((hAb.out _).trans (ho6.below (Nat.le_refl _))); have hs6 := Lib.hid (show w5.heap.size < w6.heap.size from hw6.out.lt); clear ho6)
      have hB6 : Hid (Below w.heap.size w w6) := hB5.out.trans (D6.out.mono hB5.out.size)
      have hR6 : Hid (Blk w6 w.heap.size [.slice none 0 0, .int .i64 0] 35) := hR5.out.below D6.out hR5.out.lt
      have hX6 : Hid (MatX w.heap.size w6 Ar R) := hX5.out.keep D6.out
      have hP6 : Hid (Rds w6 w6.heap.size Ap (P.map pv)) := hP5.out.hold D6.out
      have hK6 : Hid (Blk w6 w5.heap.size [.slice Ar n cr, .slice Ap n cp] 38) := hw6.out
      have hsw : Hid (w.heap.size < w6.heap.size) := Nat.lt_trans hs5.out hs6.out
      clear hB5 hR5 hX5 hP5 hs5 hRb hAb hw6 D6
      generalize w5.heap.size = g8 at hs6 hK6 ⊢
      obtain ⟨T, hTe⟩ : ∃ T, T = R.map fun m => m.drop n := ⟨_, rfl⟩
      rw [← hTe] at hT
      have hTl : Hid (T.length = n) := by show _ = _; rw [hTe, List.length_map]; exact FR.out.2.1
      have hTg : Hid (∀ k m, R[k]? = some m → T.take (k + 1) = T.take k ++ [m.drop n]) := fun k m hm => by
        refine take_snoc ?_
        rw [hTe, List.getElem?_map, hm]
        rfl
      clear hTe
      go_loopw [9, 10] (fun v i wr => ∃ k : Nat, k ≤ n ∧ i = .int .i64 k ∧ OwnQ w.heap.size wr w6.heap.size v (T.take k) ∧ Below w6.heap.size w6 wr ∧ Hid (∀ j, j < k → P[j]? = some j)) (fun _ i _ => n - (intOf i).toNat)
      case atStart => exact ⟨0, by omega, rfl, ownQ_nil _ _ _, Below.refl _ _, fun j hj => by omega⟩
      case round =>
        obtain ⟨k, hk, rfl, ho0, hb0, hall⟩ := hrel
        have ho := Lib.hid ho0
        have hb := Lib.hid hb0
        clear ho0 hb0
        by_cases hlt : k < n
        · have t : (k : Int) < (n : Int) := by omega
          have t0 : 0 ≤ (k : Int) := by omega
          obtain ⟨q, hq⟩ : ∃ q, P[k]? = some q := ⟨_, List.getElem?_eq_getElem (by rw [FR.out.1]; exact hlt)⟩
          obtain ⟨m, hm⟩ : ∃ m, R[k]? = some m := ⟨_, List.getElem?_eq_getElem (by rw [FR.out.2.1]; exact hlt)⟩
          have hml := FR.out.2.2.1.at hm
          obtain ⟨ap, hA, hapb, hcq⟩ := hP6.out.look (k := k) (u := pv q) (by rw [List.getElem?_map, hq]; rfl)
          subst hA
          obtain ⟨ar, vm, hA, harb, hcm, hvm⟩ := hX6.out.look hm
          subst hA
          obtain ⟨am, cm, hvme, ham, hrm, _⟩ := row_look hvm.at (by omega)
          obtain ⟨am', cm', hv2, hcm1, hcm2, _, _, hax⟩ := hvm
          rw [hvme] at hv2
          cases hv2
          have hamx := (hax am rfl).2.2
          have hrmH := Lib.hid hrm
          have hrow := Lib.hid (And.intro hcm1 (And.intro hcm2 (And.intro ham (And.intro hamx hml))))
          rw [hml] at hvme
          subst hvme
          clear hcm1 hcm2 hax ham hamx
          have c1 : wr.cell? ⟨g8, 1, none⟩ = some (.slice (some ap) n cp) := (hb.out.cell (p := ⟨g8, 1, none⟩) hs6.out).trans (hK6.out.cell (j := 1) rfl)
          have c2 : wr.cell? (ap.add k) = some (.int .i64 q) := (hb.out.cell (p := ap.add k) (by rw [add_block]; exact hapb)).trans hcq
          have c0 : wr.cell? ⟨g8, 0, none⟩ = some (.slice (some ar) n cr) := (hb.out.cell (p := ⟨g8, 0, none⟩) hs6.out).trans (hK6.out.cell (j := 0) rfl)
          have c3 : wr.cell? (ar.add k) = some (.slice (some am) (n + n) cm) := (hb.out.cell (p := ar.add k) (by rw [add_block]; exact harb)).trans hcm
          have hR9 : Hid (Blk wr w.heap.size [.slice none 0 0, .int .i64 0] 35) := hR6.out.below hb.out hR6.out.lt
          have hq' := Lib.hid hq
          by_cases hqk : q = k
          rotate_left
          · have t2 : ((q : Int) != (k : Int)) = true := by simp only [bne_iff_ne, ne_eq]; omega
            have he8 : Hid (invE M = 8 ∧ invM M = []) := by
              have e8 : invE M = 8 := by
                rcases hE'.out with h | h
                · have := (FR.out.2.2.2.2 h).1 k hlt
                  rw [hq'.out] at this
                  have := Option.some.inj this
                  omega
                · exact h
              exact ⟨e8, by unfold invM; rw [if_neg (by rw [e8]; decide)]⟩
            clear hq hm hcq hcm hrm hqk
            go_wp2_with (refine wpList_row_store rfl 35 _ _ rfl [.slice none 0 0, .int .i64 8] rfl rfl hR9.out size_made rfl (made_one _ _ _ _) ?_; intro w10 hw10 ho10)
            exact bodyPost_ret (ret_blk rfl _ w10 (g := w.heap.size) rfl hw10.out dd hdu'.out hdr size_made) rfl (by rw [he8.out.1, he8.out.2]; exact ⟨⟨none, 0, rfl, by simp, by unfold maxLen; decide, fun _ => rfl, Mat.nil⟩, (hB6.out.trans (hb.out.mono hB6.out.size)).trans (ho10.below (Nat.le_refl _))⟩)
          · have t2 : ((q : Int) != (k : Int)) = false := by simp only [bne_eq_false_iff_eq]; omega
            subst hqk
            have hTk := Lib.hid (hTg.out q m hm)
            have hln : (T.take q).length ≤ 1000000 := by rw [List.length_take]; omega
            have hnx : Hid (∀ j, j < q + 1 → P[j]? = some j) := fun j hj => by
              by_cases hjq : j = q
              · subst hjq; exact hq'.out
              · exact hall.out j (by omega)
            have SUB : Hid (∀ v0, OwnQ w.heap.size wr w6.heap.size v0 (T.take q) → RowOff w.heap.size wr v0.ownBlock (.slice (some (am.add n)) n (cm - n)) (m.drop n)) := fun v0 hv0 => by
              have h1 := sub_off (x := w.heap.size) (row := v0.ownBlock) (n := n) hrow.out.1 hrow.out.2.1 (hrmH.out.below hb.out) hrow.out.2.2.1 hb.out.size hsw.out (by have := hrow.out.2.2.2.2; omega) hrow.out.2.2.2.1 (fun g hg => by
                obtain ⟨vs, _, e2, _⟩ := hv0
                exact (e2.lt g hg).1)
              rw [show m.length - n = n by have := hrow.out.2.2.2.2; omega] at h1
              exact h1
            have hro := Lib.hid (SUB.out _ ho.out)
            have hoo := Lib.hid ho.out
            have hbo := Lib.hid hb.out
            have tn1 : (n : Int) ≤ ((n + n : Nat) : Int) := by omega
            have tn0 : 0 ≤ (n : Int) := by omega
            have tcm : ¬ cm = n := by have := hrow.out.1; have := hrow.out.2.2.2.2; omega
            have tcm2 : n + n ≤ cm := by have := hrow.out.1; have := hrow.out.2.2.2.2; omega
            have hbq := Lib.hid hb.out.size
            clear hq hm hcq hcm hrm SUB ho
            go_wp2_with (at_builtin; go_must (refine push_q rfl _ _ rfl w6.heap.size _ (T.take q) (m.drop n) _ rfl rfl hoo.out hro.out hln hbq.out ?_); intro v' w7 ho7 hb7 hg7)
            go_roundw
            case rel => exact ⟨q + 1, by omega, by go_num, by rw [hTk.out]; exact ho7, hbo.out.trans hb7, hnx⟩
            case measure => simp [intOf]; omega
        · have t : ¬ (k : Int) < (n : Int) := by omega
          have hkk : T.take k = T := List.take_of_length_le (by rw [hTl.out]; omega)
          have he0 : Hid (invE M = 0) := FR.out.2.2.2.1 fun j hj => hall.out j (by omega)
          have ho1 := Lib.hid ho.out
          rw [hkk] at ho1
          obtain ⟨Ax, cx, hv, g1, g2, g3, _⟩ := ho1.out.mat
          rw [hTl.out] at hv g1
          subst hv
          have hR9 : Hid (Blk wr w.heap.size [.slice none 0 0, .int .i64 0] 35) := hR6.out.below hb.out hR6.out.lt
          have hfin : Hid (∀ w10, Only w.heap.size wr w10 → MadeEnd w (invM M) (invE M) (.returned (.agg #[.slice Ax n cx, .int .i64 0])) w10) := fun w10 ho10 => by
            show MadeEnd _ _ _ _ _
            rw [he0.out, hT.out he0.out]
            refine ⟨⟨Ax, cx, by rw [hTl.out], by rw [hTl.out]; exact g1, g2, g3, ?_⟩, (hB6.out.trans (hb.out.mono hB6.out.size)).trans (ho10.below (Nat.le_refl _))⟩
            obtain ⟨A3, c3, e3, _, _, _, g5⟩ := (ho1.out.only ho10 hsw.out).mat
            cases e3
            exact g5
          clear ho hkk g1 g2 g3
          go_wp2_with (refine wpList_row_store rfl 35 _ _ rfl [.slice Ax n cx, .int .i64 0] rfl rfl hR9.out size_made rfl (made_one _ _ _ _) ?_; intro w10 hw10 ho10)
          exact bodyPost_ret (ret_blk rfl _ w10 (g := w.heap.size) rfl hw10.out dd hdu'.out hdr size_made) rfl (hfin.out w10 ho10)
end Go.Proofs.YtfbdhcpclccikaaDoor

namespace Go.Proofs.YtfbdhcpclccikaaDoor
set_option linter.unusedVariables false
set_option linter.unusedSimpArgs false
open Go.RowKit

set_option maxRecDepth 100000 in
theorem push_bytesG {w : World} {ops : Array Oper} {rest : List Oper} {o : Oper} {a : Act} {Q : Exit → Act → World → Prop} (hgd : o.guard = none) (sl x : Operand)
    (ho : o.op = .call { callee := .builtin .append, args := #[sl, x], argTypes := #[43, 43] })
    (base : Nat) (v : Value) (m l : List UInt8) (B : Nat) (A : Option Addr) (n c : Nat) (hn : n = l.length) (hA : A = none → c = 0) (hs : a.eval sl = v) (hx : a.eval x = .slice A n c)
    (hr : Rds w B A (l.map bv)) (hown : OwnB w base v m) (hlen : m.length + l.length ≤ 140737488355328) (hbase : base ≤ w.heap.size)
    (h : ∀ v' w', OwnB w' base v' (m ++ l) → Below base w w' → w.grownBy w' v.ownBlock → (v'.ownBlock = v.ownBlock ∨ ∃ k, v'.ownBlock = some k ∧ w.heap.size ≤ k) → wpList Tryd.prog ops Q rest (a.put o.dst v') w') :
    wpList Tryd.prog ops Q (o :: rest) a w := by
  subst hn
  obtain ⟨i0, hi, hz0, hz1, hz2⟩ := info_parts infoByte
  cases A with
  | none =>
    have hl : l = [] := by
      by_cases hl : l = []
      · exact hl
      · obtain ⟨ad, hh, _⟩ := hr (by simpa using hl)
        cases hh
    subst hl
    rw [hA rfl] at hx
    refine wpList_plain hgd fun K hK => ?_
    have hrun := run_append_owned_none (P := Tryd.prog) w base 43 o.type 5 i0 1 Tryd.underlying43 hi v m.length (m.map bv) hown
    unfold Oper.wp execOp
    simp only [ho, resolve, invoke, builtin, Sem.run_bind, Sem.run_pure, Result.andThen_ok, List.map_toArray, List.map_cons, List.map_nil, hs, hx, List.length_nil, hrun]
    exact hK _ _ (h v w (by simpa using hown) (Below.refl _ _) (World.grownBy.refl w _) (.inl rfl))
  | some ad =>
    have hcell : ∀ j u, (l.map bv)[j]? = some u → w.cell? (ad.add j) = some u := by
      intro j u hu
      obtain ⟨ad', he, _, hc⟩ := hr.look hu
      injection he with he
      subst he
      exact hc
    refine wpList_append_own_at w hgd sl x 43 ho base 5 i0 (.int .u8 0) 1 1 Tryd.underlying43 hi hz0 hz1 hz2 rfl (by decide) v m.length (m.map bv) hs hown ad l.length c (l.map bv) hx (by simp) hcell
      (by intro u hu; obtain ⟨b, _, rfl⟩ := List.mem_map.1 hu; rfl) (by unfold maxLen; omega) (by omega) hbase ?_
    intro v' w' h2 h3 _ h4
    refine h v' w' ?_ ((Below.refl _ _).grown h3 hbase fun _ hk => (hown.lt _ hk).1) h3 ?_
    · unfold OwnB
      rw [List.length_append, List.map_append]
      exact h2
    · rcases h4 with h4 | h4
      · exact .inl h4
      · exact .inr ⟨_, h4, Nat.le_refl _⟩
theorem setP_congr {R R' : List (List UInt8)} (col : Nat) : ∀ (ps : List Nat) (i : Nat) (x : List UInt8), (∀ j, j < ps.length → el R (i + j) col = el R' (i + j) col) → setP R col ps i x = setP R' col ps i x
  | [], _, _, _ => rfl
  | p :: ps, i, x, h => by
    unfold setP
    have h0 := h 0 (by simp)
    rw [Nat.add_zero] at h0
    rw [h0]
    exact setP_congr col ps (i + 1) _ fun j hj => by
      have := h (j + 1) (by simp; omega)
      rw [show i + (j + 1) = i + 1 + j by omega] at this
      exact this
theorem setP_snoc (R : List (List UInt8)) (col p : Nat) : ∀ (ps : List Nat) (i : Nat) (x : List UInt8), setP R col (ps ++ [p]) i x = (setP R col ps i x).set p (el R (i + ps.length) col)
  | [], i, x => rfl
  | q :: ps, i, x => by
    rw [List.cons_append]
    unfold setP
    rw [setP_snoc R col p ps (i + 1), List.length_cons, show i + (ps.length + 1) = i + 1 + ps.length by omega]
theorem setP_next {R : List (List UInt8)} {col k p : Nat} {P : List Nat} (x : List UInt8) (hp : P[k]? = some p) : setP R col (P.take (k + 1)) 0 x = (setP R col (P.take k) 0 x).set p (el R k col) := by
  rw [List.take_add_one, hp]
  show setP R col (P.take k ++ [p]) 0 x = _
  have hk := (List.getElem?_eq_some_iff.1 hp).1
  rw [setP_snoc, List.length_take, Nat.zero_add, Nat.min_eq_left (Nat.le_of_lt hk)]
theorem red_nil (n : Nat) : red [] n = ([], []) := redGo_full _ [] [] (by simp)
theorem redP_cols {S : List (List UInt8)} {n : Nat} (hr : Rect S n) : redP S = (red S n).2 ∧ redR S = (red S n).1.take (red S n).2.length := by
  cases S with
  | nil => unfold redP redR; rw [red_nil, red_nil]; exact ⟨rfl, rfl⟩
  | cons s S =>
    have : cols (s :: S) = n := cols_of hr (by simp)
    unfold redP redR
    rw [this]
    exact ⟨rfl, rfl⟩
/-- The reference reduces one column more. -/
theorem sol_facts {S : List (List UInt8)} {n : Nat} (hr : Rect S (n + 1)) : (redP S).length ≤ S.length ∧ (redR S).length = (redP S).length ∧ Rect (redR S) (n + 1) ∧ (∀ p ∈ redP S, p ≤ n) ∧
    (n ∈ redP S → badS S n = true) ∧ (n ∉ redP S → badS S n = false ∧ solX S n = setP (redR S) n (redP S) 0 (List.replicate n 0) ∧ kers (red S n).1 (red S n).2 n n = kers (redR S) (redP S) n n) := by
  obtain ⟨e1, e2⟩ := redP_cols hr
  have hE := red_ech hr n
  have hl := red_piv_le hr (n + 1)
  have hlen := red_len hr (n + 1)
  have hs := red_succ S n
  refine ⟨by rw [e1]; exact hl, by rw [e2, List.length_take, e1]; omega, by rw [e2]; exact rect_take (red_rect hr _) _, fun p hp => ?_, fun hn => ?_, fun hn => ?_⟩
  · rw [e1] at hp
    have := red_piv_lt hr (n + 1) p hp
    omega
  · rw [e1, hs] at hn
    cases hf : findP (red S n).1 n (red S n).2.length with
    | none =>
      rw [redGo_none hf] at hn
      exact absurd (hE.mem_lt hn) (Nat.lt_irrefl _)
    | some i =>
      obtain ⟨h1, h2, h3⟩ := findP_lt hf
      exact (badS_iff S n).2 ⟨i, h1, h2, h3⟩
  · cases hf : findP (red S n).1 n (red S n).2.length with
    | some i =>
      exfalso
      apply hn
      rw [e1, hs, redGo_some hf]
      show n ∈ (red S n).2 ++ [n]
      simp
    | none =>
      have e3 : red S (n + 1) = red S n := by rw [hs, redGo_none hf]; rfl
      rw [e3] at e1 e2
      have hcg : ∀ col x, setP (red S n).1 col (red S n).2 0 x = setP (redR S) col (redP S) 0 x := fun col x => by
        rw [e1]
        refine setP_congr col _ 0 x fun j hj => ?_
        rw [e2, el_take _ _ (by omega)]
      refine ⟨?_, ?_, ?_⟩
      · cases hb : badS S n with
        | false => rfl
        | true =>
          obtain ⟨i, h1, h2, h3⟩ := (badS_iff S n).1 hb
          exfalso
          unfold findP at hf
          rw [List.find?_eq_none] at hf
          have := hf i (by simpa using h2)
          simp only [Bool.and_eq_true, decide_eq_true_eq, bne_iff_ne, ne_eq, not_and, Decidable.not_not] at this
          exact h3 (this h1)
      · unfold solX
        exact hcg _ _
      · unfold kers kerX
        rw [e1]
        apply List.map_congr_left
        intro j _
        have := hcg j ((List.replicate n 0).set j 1)
        rw [e1] at this
        exact this
theorem size_rows : (Tryd.prog.info? 22).map (·.size) = some 1 := by kernel_rfl
theorem size_sol : (Tryd.prog.info? 47).map (·.size) = some 3 := by kernel_rfl
theorem row_sol : ∃ d, Tryd.prog.underlying 47 = some d ∧ d.isRow = true := ⟨_, Tryd.underlying47, rfl⟩
theorem sol_one (A : Option Addr) (n c : Nat) (A' : Option Addr) (n' c' : Nat) (z : Int) : ∀ u ∈ [Value.slice A n c, Value.slice A' n' c', Value.int .i64 z], u.oneCell' = true := by
  intro u hu
  simp only [List.mem_cons, List.not_mem_nil, or_false] at hu
  rcases hu with rfl | rfl | rfl <;> rfl
/-- Solutions, or an error. -/
def SolvedEnd (w : World) (X : List UInt8) (K : List (List UInt8)) (E : Int) (e : Ending) (w' : World) : Prop :=
  ∃ Ax cx Ak ck, e = .returned (.agg #[.slice Ax X.length cx, .slice Ak K.length ck, .int .i64 E]) ∧ Rds w' w'.heap.size Ax (X.map bv) ∧ Mat w' w'.heap.size Ak K ∧ Below w.heap.size w w' ∧ ∀ y, y < w.heap.size → MatX y w' Ak K ∧ ∀ ad, Ax = some ad → ad.block ≠ y
def rsE (S : List (List UInt8)) (n : Nat) : Int := if badS S n then 8 else 0
def rsX (S : List (List UInt8)) (n : Nat) : List UInt8 := if badS S n then [] else solX S n
def rsK (S : List (List UInt8)) (n : Nat) : List (List UInt8) := if badS S n then [] else kers (red S n).1 (red S n).2 n n
theorem ownB_keep {w w' : World} {base : Nat} {v : Value} {l : List UInt8} (h : OwnB w base v l) (hb : Below w.heap.size w w') : OwnB w' base v l := by
  refine ⟨h.1, ?_⟩
  rcases h.2 with hn | ⟨g, cap, cur, hv, hg, hh, rest⟩
  · exact .inl hn
  · exact .inr ⟨g, cap, cur, hv, hg, by rw [hb.block g (Array.getElem?_eq_some_iff.1 hh).1]; exact hh, rest⟩
theorem blk_apart {w w' : World} {g x : Nat} {L : List Value} {t : TypeId} (h : Blk w g L t) (ho : Only x w w') (hne : g ≠ x) : Blk w' g L t := by
  show _ = _
  rw [ho.block g hne]
  exact h
/-- As RowOff, OwnQ: rows whose blocks a predicate doesn't hold of. -/
def RowO (X : Nat → Prop) (w : World) (row : Option Nat) (u : Value) (m : List UInt8) : Prop :=
  ∃ a c, u = .slice a m.length c ∧ m.length ≤ c ∧ c ≤ maxLen ∧ (a = none → c = 0) ∧ Rds w w.heap.size a (m.map bv) ∧ ∀ ad, a = some ad → row ≠ some ad.block ∧ ad.block < w.heap.size ∧ ¬ X ad.block
def OwnO (X : Nat → Prop) (w : World) (base : Nat) (v : Value) (K : List (List UInt8)) : Prop :=
  ∃ vs : List Value, vs.length = K.length ∧ w.ownsRow base 43 1 v K.length vs ∧ ∀ (i : Nat) (u : Value) (m : List UInt8), vs[i]? = some u → K[i]? = some m → RowO X w v.ownBlock u m
theorem ownO_nil (X : Nat → Prop) (w : World) (base : Nat) : OwnO X w base (.slice none 0 0) [] := ⟨[], rfl, World.ownsRow_nil w base _ _, fun i u m hu => by simp at hu⟩
theorem RowO.below {X : Nat → Prop} {w w' : World} {row : Option Nat} {u : Value} {m : List UInt8} (h : RowO X w row u m) (hb : Below w.heap.size w w') : RowO X w' row u m := by
  obtain ⟨a, c, e1, e2, e3, e4, e5, e6⟩ := h
  exact ⟨a, c, e1, e2, e3, e4, (e5.below hb).more hb.size, fun ad ha => ⟨(e6 ad ha).1, Nat.lt_of_lt_of_le (e6 ad ha).2.1 hb.size, (e6 ad ha).2.2⟩⟩
theorem OwnO.keep {X : Nat → Prop} {w w' : World} {base : Nat} {v : Value} {K : List (List UInt8)} (h : OwnO X w base v K) (hb : Below w.heap.size w w') : OwnO X w' base v K := by
  obtain ⟨vs, h1, h2, h3⟩ := h
  refine ⟨vs, h1, ⟨h2.1, ?_⟩, fun i u m hu hm => (h3 i u m hu hm).below hb⟩
  rcases h2.2 with hn | ⟨g, cap, cur, hv, hg, hh, rest⟩
  · exact .inl hn
  · exact .inr ⟨g, cap, cur, hv, hg, by rw [hb.block g (Array.getElem?_eq_some_iff.1 hh).1]; exact hh, rest⟩
theorem OwnO.mat {X : Nat → Prop} {w : World} {base : Nat} {v : Value} {K : List (List UInt8)} (h : OwnO X w base v K) : ∃ A c, v = .slice A K.length c ∧ K.length ≤ c ∧ c ≤ maxLen ∧ (A = none → c = 0) ∧ Mat w w.heap.size A K := by
  obtain ⟨vs, h1, h2, h3⟩ := h
  obtain ⟨A, c, hv, g1, g2, g3, g4⟩ := own_form h2
  refine ⟨A, c, hv, g1, g2, g3, vs, h1, g4, fun i u m hu hm => ?_⟩
  obtain ⟨a, c, e1, e2, e3, e4, e5, _⟩ := h3 i u m hu hm
  exact ⟨a, c, e1, e2, e3, e4, e5⟩
theorem OwnO.only {X : Nat → Prop} {x : Nat} {w w' : World} {base : Nat} {v : Value} {K : List (List UInt8)} (h : OwnO X w base v K) (ho : Only x w w') (hx : x < base) (hX : X x) : OwnO X w' base v K := by
  obtain ⟨vs, h1, h2, h3⟩ := h
  have hg : w.grownBy w' (some x) := ⟨ho.os, ho.tape, ho.output, Nat.le_of_eq ho.size.symm, fun k _ hk => ho.block k (fun e => hk (by rw [e]))⟩
  refine ⟨vs, h1, ⟨h2.1, ?_⟩, fun i u m hu hm => ?_⟩
  · rcases h2.2 with hn | ⟨g, cap, cur, hv, hgb, hh, rest⟩
    · exact .inl hn
    · exact .inr ⟨g, cap, cur, hv, hgb, by rw [hg.block g (Array.getElem?_eq_some_iff.1 hh).1 (fun e => by have := Option.some.inj e; omega)]; exact hh, rest⟩
  · obtain ⟨a, c, e1, e2, e3, e4, e5, e6⟩ := h3 i u m hu hm
    exact ⟨a, c, e1, e2, e3, e4, e5.apart hg (fun ad ha hh => (e6 ad ha).2.2 ((Option.some.inj hh) ▸ hX)), fun ad ha => ⟨(e6 ad ha).1, Nat.lt_of_lt_of_le (e6 ad ha).2.1 hg.size, (e6 ad ha).2.2⟩⟩
theorem push_o {X : Nat → Prop} {w0 : World} {ops : Array Oper} {rest : List Oper} {o : Oper} {a : Act} {Q : Exit → Act → World → Prop} (hgd : o.guard = none) (s x : Operand)
    (ho : o.op = .call { callee := .builtin .append, args := #[s, x], argTypes := #[22, 22] })
    (base : Nat) (v : Value) (K : List (List UInt8)) (m : List UInt8) (u : Value) (hs : a.eval s = v) (hx : a.eval x = .slice (some ⟨w0.heap.size, 0, none⟩) 1 1)
    (hown : OwnO X w0 base v K) (hrow : RowO X w0 v.ownBlock u m) (hlen : K.length ≤ 1000000) (hbase : base ≤ w0.heap.size)
    (h : ∀ v' w', OwnO X w' base v' (K ++ [m]) → Below base w0 w' → wpList Tryd.prog ops Q rest (a.put o.dst v') w') :
    wpList Tryd.prog ops Q (o :: rest) a (w0.alloc (.cells #[u] 43)) := by
  obtain ⟨vs, h1, h2, h3⟩ := hown
  obtain ⟨i0, hi, hz0, hz1, hz2⟩ := info_parts infoRow
  refine wpList_push hgd s x 22 ho base 43 i0 (.slice none 0 0) 24 Tryd.underlying22 hi hz0 hz1 hz2 rfl v K.length vs u hs hx (by obtain ⟨_, _, rfl, _⟩ := hrow; rfl) h2 (by omega) (by unfold maxLen; omega) hbase ?_
  intro v' w' g1 g2
  have hnew : ∀ b, b < w0.heap.size → v.ownBlock ≠ some b → v'.ownBlock ≠ some b := fun b hb hv => by
    rcases g2.2 with e | e
    · rw [e]; exact hv
    · obtain ⟨k, hk1, hk2⟩ := e
      rw [hk1]
      intro hh
      have := Option.some.inj hh
      omega
  have hmove : ∀ (u : Value) (mm : List UInt8), RowO X w0 v.ownBlock u mm → RowO X w' v'.ownBlock u mm := fun u mm hh => by
    obtain ⟨a, c, e1, e2, e3, e4, e5, e6⟩ := hh
    exact ⟨a, c, e1, e2, e3, e4, e5.apart g2.1 (fun ad ha => (e6 ad ha).1), fun ad ha => ⟨hnew _ (e6 ad ha).2.1 (e6 ad ha).1, Nat.lt_of_lt_of_le (e6 ad ha).2.1 g2.1.size, (e6 ad ha).2.2⟩⟩
  refine h v' w' ⟨vs ++ [u], by simp [h1], by rw [List.length_append]; exact g1, fun i u' mm hu hm => ?_⟩ (g2.below h2 hbase)
  rcases Nat.lt_or_ge i vs.length with hl | hl
  · rw [List.getElem?_append_left hl] at hu
    rw [List.getElem?_append_left (by rw [← h1]; exact hl)] at hm
    exact hmove _ _ (h3 i u' mm hu hm)
  · rw [List.getElem?_append_right hl] at hu
    rw [List.getElem?_append_right (by rw [← h1]; exact hl), ← h1] at hm
    have h0 : i - vs.length = 0 := by
      rcases Nat.eq_zero_or_pos (i - vs.length) with h0 | h0
      · exact h0
      · rw [List.getElem?_eq_none (by simp; omega)] at hu; cases hu
    rw [h0] at hu hm
    obtain rfl := Option.some.inj hu
    obtain rfl := Option.some.inj hm
    exact hmove _ _ hrow
/-- A block that was made after v. -/
theorem new_o {X : Nat → Prop} {w0 w : World} {base g n : Nat} {v : Value} {K : List (List UInt8)} {m : List UInt8} (hb : Blk w g (m.map bv) 5) (hn : m.length = n) (hm : n ≤ maxLen) (hg : w0.heap.size ≤ g) (hv : OwnO X w0 base v K) (hX : ¬ X g) : RowO X w v.ownBlock (.slice (some ⟨g, 0, none⟩) n n) m := by
  subst hn
  refine ⟨some ⟨g, 0, none⟩, m.length, rfl, Nat.le_refl _, hm, (fun hh => by cases hh), ?_, fun ad ha => ?_⟩
  · have := hb.rds 0 m.length
    rw [List.drop_zero, List.take_of_length_le (by rw [List.length_map]; exact Nat.le_refl _)] at this
    exact this
  · cases ha
    refine ⟨fun hh => ?_, hb.lt, hX⟩
    obtain ⟨vs, _, h2, _⟩ := hv
    have h9 : g < w0.heap.size := (h2.lt g hh).2
    omega
theorem OwnO.matX {X : Nat → Prop} {y : Nat} {w : World} {base : Nat} {A : Option Addr} {n c : Nat} {K : List (List UInt8)} (h : OwnO X w base (.slice A n c) K) (hX : X y) (hy : y < base) : MatX y w A K := by
  obtain ⟨vs, h1, h2, h3⟩ := h
  obtain ⟨A', c', hv, _, _, _, g4⟩ := own_form h2
  cases hv
  refine ⟨vs, h1, g4, fun ad ha hl => ?_, fun i u m hu hm => ?_⟩
  · subst ha
    have := h2.lt ad.block rfl
    exact ⟨this.2, by omega⟩
  · obtain ⟨a, c, e1, e2, e3, e4, e5, e6⟩ := h3 i u m hu hm
    exact ⟨a, c, e1, e2, e3, e4, e5, fun ad ha => ⟨(fun hh => by cases hh), (e6 ad ha).2.1, fun hh => (e6 ad ha).2.2 (hh ▸ hX)⟩⟩
/-- What is known of the solutions while their kernel grows. -/
def KRel (gx gs n : Nat) (w : World) (K : List (List UInt8)) : Prop :=
  ∃ A c, Blk w gs [.slice (some ⟨gx, 0, none⟩) n n, .slice A K.length c, .int .i64 0] 47 ∧ OwnO (· ≤ gs) w (gs + 1) (.slice A K.length c) K
theorem KRel.keep {gx gs n : Nat} {w w' : World} {K : List (List UInt8)} (h : KRel gx gs n w K) (hb : Below w.heap.size w w') : KRel gx gs n w' K := by
  obtain ⟨A, c, h1, h2⟩ := h
  exact ⟨A, c, h1.below hb h1.lt, h2.keep hb⟩
theorem any_hasB (P : List Nat) (c : Nat) : (P.any fun y => decide (y = c)) = hasB P c := by
  unfold hasB
  induction P with
  | nil => rfl
  | cons p P ih =>
    rw [List.any_cons, List.contains_cons, ih]
    congr 1
    by_cases h : p = c
    · subst h; simp
    · have : (c == p) = false := by rw [beq_eq_false_iff_ne]; exact fun hh => h hh.symm
      rw [this, decide_eq_false h]
theorem only_grown {g : Nat} {w w' : World} (ho : Only g w w') : w.grownBy w' (some g) := ⟨ho.os, ho.tape, ho.output, Nat.le_of_eq ho.size.symm, fun j _ hj => ho.block j (fun e => hj (by rw [e]))⟩
theorem SolvedEnd.nothing {w w' : World} {E : Int} (h : Below w.heap.size w w') : SolvedEnd w [] [] E (.returned (.agg #[.slice none 0 0, .slice none 0 0, .int .i64 E])) w' :=
  ⟨none, 0, none, 0, rfl, Rds.empty, Mat.nil, h, fun y _ => ⟨MatX.nil, fun ad ha => by cases ha⟩⟩
end Go.Proofs.YtfbdhcpclccikaaDoor
