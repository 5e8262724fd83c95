/-
  Stage 3: sanity, the walk. (Written by tools/gensan3.py.)
-/
import Derived.Test.YtlgokfgiemaklaaDoorMkb
namespace Go.Proofs.YtlgokfgiemaklaaDoor
set_option linter.unusedVariables false
set_option linter.unusedSimpArgs false
open Go.RowKit

theorem Blk.dv {W : World} {g : Nat} {ds : List (List UInt8)} {n : Nat} (h : Blk W g ((flat ds).map bv) 31) (hd : D16 ds) (hn : n = ds.length) (hl : n ≤ 1000000) : DV W (some ⟨g, 0, none⟩) n n ds :=
  ⟨hn, by
    show Rds _ _ _ _
    have h := h.rds 0 ((flat ds).map bv).length
    rw [List.drop_zero, List.take_of_length_le (Nat.le_refl _)] at h
    exact h, Nat.le_refl _, (by unfold maxLen; omega), (fun h => by cases h), hd⟩
theorem Blk.ivs {W : World} {g : Nat} {ps : List Int} {n : Nat} {t : TypeId} (h : Blk W g (ps.map iv) t) (hn : n = ps.length) (hf : ∀ p ∈ ps, Wm.Fits p) : IV W (some ⟨g, 0, none⟩) n n ps :=
  ⟨hn, by
    have h := h.rds 0 (ps.map iv).length
    rw [List.drop_zero, List.take_of_length_le (Nat.le_refl _)] at h
    exact h, Nat.le_refl _, (fun h => by cases h), hf⟩
theorem d16_two {a b : List UInt8} (ha : a.length = 16) (hb : b.length = 16) : D16 [a, b] := by
  intro d hd
  simp only [List.mem_cons, List.not_mem_nil, or_false] at hd
  rcases hd with rfl | rfl
  · exact ha
  · exact hb
theorem d16_three {a b c : List UInt8} (ha : a.length = 16) (hb : b.length = 16) (hc : c.length = 16) : D16 [a, b, c] := by
  intro d hd
  simp only [List.mem_cons, List.not_mem_nil, or_false] at hd
  rcases hd with rfl | rfl | rfl
  · exact ha
  · exact hb
  · exact hc
section
variable (a b c : List UInt8)
theorem kz2 : Mk.ksz 2 = 1 := by decide
theorem kz3 : Mk.ksz 3 = 2 := by decide
theorem rt2 : rt [a, b] = nd a b := by rw [rt_two (by simp)]; simp [kz2, rt_one]
theorem rt3 : rt [a, b, c] = nd (nd a b) c := by rw [rt_two (by simp)]; simp [kz3, rt_one, rt2]
theorem in30 : inQ [a, b, c] 0 = [b, c] := by
  unfold inQ inc
  rw [if_pos (by simp), Mk.incl_left nd emp (by simp) (by simp [kz3])]
  simp only [List.length_cons, List.length_nil, Nat.reduceAdd, kz3, List.take_succ_cons, List.take_zero, List.drop_succ_cons, List.drop_zero, Int.toNat_zero]
  rw [Mk.incl_left nd emp (by simp) (by simp [kz2])]
  simp only [List.length_cons, List.length_nil, Nat.reduceAdd, kz2, List.take_succ_cons, List.take_zero, List.drop_succ_cons, List.drop_zero]
  rw [Mk.incl_one nd emp (by simp)]
  simp [Mk.root_one]
theorem in32 : inQ [a, b, c] 2 = [nd a b] := by
  unfold inQ inc
  rw [if_pos (by simp), Mk.incl_right nd emp (by simp) (by simp [kz3])]
  simp only [List.length_cons, List.length_nil, Nat.reduceAdd, kz3, List.take_succ_cons, List.take_zero, List.drop_succ_cons, List.drop_zero]
  rw [Mk.incl_one nd emp (by simp)]
  show [] ++ [rt [a, b]] = _
  rw [rt2]; rfl
theorem cs31 : csQ [a, b, c] 1 = [b, c] := by
  unfold csQ cs
  rw [if_pos (by simp), Mk.cons_left nd emp (by simp) (by simp) (by simp [kz3])]
  simp only [List.length_cons, List.length_nil, Nat.reduceAdd, kz3, List.take_succ_cons, List.take_zero, List.drop_succ_cons, List.drop_zero]
  rw [Mk.cons_left nd emp (by simp) (by simp) (by simp [kz2])]
  simp only [List.length_cons, List.length_nil, Nat.reduceAdd, kz2, List.take_succ_cons, List.take_zero, List.drop_succ_cons, List.drop_zero]
  rw [Mk.cons_all nd emp (by simp)]
  simp [Mk.root_one]
theorem cs32 : csQ [a, b, c] 2 = [c] := by
  unfold csQ cs
  rw [if_pos (by simp), Mk.cons_left nd emp (by simp) (by simp) (by simp [kz3])]
  simp only [List.length_cons, List.length_nil, Nat.reduceAdd, kz3, List.take_succ_cons, List.take_zero, List.drop_succ_cons, List.drop_zero]
  rw [Mk.cons_all nd emp (by simp)]
  simp [Mk.root_one]
theorem bel31 : bel [0, 2] 2 = 1 := by decide
theorem bel32 : bel [0] 1 = 1 := by decide
theorem mn30 : mnQ [a, b, c] [0, 2] = [b] := by
  unfold mnQ
  rw [if_pos (by simp [ascGo]), mny_two 0 (by simp) (by simp)]
  simp only [List.length_cons, List.length_nil, Nat.reduceAdd, kz3, List.take_succ_cons, List.take_zero, List.drop_succ_cons, List.drop_zero]
  rw [show (((0 + 2 : Nat) : Int)) = 2 from rfl, bel31]
  simp only [List.take_succ_cons, List.take_zero, List.drop_succ_cons, List.drop_zero]
  rw [mny_two 0 (L := [a, b]) (by simp) (by simp), mny_one (0 + 2) (L := [c]) (by simp) (by simp)]
  simp only [List.length_cons, List.length_nil, Nat.reduceAdd, kz2, List.take_succ_cons, List.take_zero, List.drop_succ_cons, List.drop_zero]
  rw [show (((0 + 1 : Nat) : Int)) = 1 from rfl, bel32]
  simp only [List.take_succ_cons, List.take_zero, List.drop_succ_cons, List.drop_zero]
  rw [mny_one 0 (L := [a]) (by simp) (by simp), mny_nil, rt_one]
  rfl
theorem chi30 (r : List UInt8) : chI a 0 3 [b, c] r = (nd (nd a b) c == r) := by
  unfold chI
  rw [if_neg (by omega)]
  show ((clm [b, c] a 0 3 0).1 == r && (((clm [b, c] a 0 3 0).2 : Int) == 2)) = _
  rw [clm_left [b, c] a 0 (by omega) (by rw [kz3]; omega), kz3, clm_left [b, c] a 0 (by omega) (by rw [kz2]; omega), kz2, clm_one [b, c] a 0 0 (by omega)]
  simp [nx]
theorem chi31 (d r : List UInt8) : chI a 0 3 [d] r = false := by
  unfold chI
  rw [if_neg (by omega)]
  show ((clm [d] a 0 3 0).1 == r && (((clm [d] a 0 3 0).2 : Int) == 1)) = _
  rw [clm_left [d] a 0 (by omega) (by rw [kz3]; omega), kz3, clm_left [d] a 0 (by omega) (by rw [kz2]; omega), kz2, clm_one [d] a 0 0 (by omega)]
  simp
theorem chc31 (r : List UInt8) : chC 1 3 a r [b, c] = (nd (nd a b) c == r) := by
  unfold chC
  rw [if_neg (by omega), if_neg (by omega)]
  show ((csm [b, c] a 1 3 true 0).1.1 == a && (csm [b, c] a 1 3 true 0).1.2 == r && (((csm [b, c] a 1 3 true 0).2 : Int) == 2)) = _
  rw [csm_left [b, c] a true 0 (by omega) (by omega) (by rw [kz3]; omega), kz3, csm_left [b, c] a true 0 (by omega) (by omega) (by rw [kz2]; omega), kz2, csm_true]
  simp [nx]
theorem chm30 (r : List UInt8) : chM 3 [0, 2] [a, c] [b] r = (nd (nd a b) c == r) := by
  unfold chM
  rw [if_neg (by simp [ascGo]), if_neg (by omega)]
  show ((wlk [b] 0 3 [0, 2] [a, c] 0).1 == r && (((wlk [b] 0 3 [0, 2] [a, c] 0).2 : Int) == 1)) = _
  rw [wlk_two [b] 0 (k := 2) (b := 1) [a, c] 0 (by simp) (by omega) kz3.symm bel31.symm]
  simp only [List.take_succ_cons, List.take_zero, List.drop_succ_cons, List.drop_zero]
  rw [wlk_two [b] 0 (k := 1) (b := 1) [a] 0 (by simp) (by omega) kz2.symm bel32.symm]
  simp only [List.take_succ_cons, List.take_zero, List.drop_succ_cons, List.drop_zero]
  rw [wlk_one _ _ _ _ (by simp) (by omega), wlk_nil, wlk_one _ _ _ _ (by simp) (by omega)]
  simp [nx]
end
/-- The tops of the peaks of the first k elements. -/
def grw (L : List (List UInt8)) : Nat → List (List UInt8)
  | 0 => []
  | k + 1 => apL k (grw L k) (nx L k)
theorem grw_d16 {L : List (List UInt8)} (hd : D16 L) : ∀ k, D16 (grw L k)
  | 0 => d16_nil
  | k + 1 => apL_d16 (grw_d16 hd k) (nx_len hd k) k
theorem pop_succ : ∀ (f z : Nat), z < 2 ^ f → pop (z + 1) + tro f z = pop z + 1
  | 0, z, h => by
    obtain rfl : z = 0 := by simpa using h
    rw [pop_pos (by omega), pop_zero]; rfl
  | f + 1, z, h => by
    unfold tro
    by_cases h1 : z % 2 = 1
    · rw [if_pos h1, pop_pos (n := z + 1) (by omega), pop_pos (n := z) (by omega), show (z + 1) / 2 = z / 2 + 1 by omega]
      have := pop_succ f (z / 2) (by rw [Nat.pow_succ] at h; omega)
      omega
    · rw [if_neg h1, pop_pos (n := z + 1) (by omega), show (z + 1) / 2 = z / 2 by omega]
      by_cases h0 : z = 0
      · subst h0; rw [pop_zero]
      · rw [pop_pos (n := z) (by omega)]; omega
theorem grw_len (L : List (List UInt8)) : ∀ k, k < 9223372036854775808 → (grw L k).length = pop k
  | 0, _ => by rw [pop_zero]; rfl
  | k + 1, h => by
    have h1 := grw_len L k (by omega)
    have h2 := pop_succ 64 k (by omega)
    have h3 : tro 64 k ≤ pop k := by rw [← ones_pop k (by omega)]; exact tro_le 64 k
    show (apL k (grw L k) (nx L k)).length = _
    rw [apL_len, h1]
    omega
theorem grw_ok (L : List (List UInt8)) (k : Nat) (h : k ≤ 1099511627776) : pkOk k (grw L k).length = true := by
  rw [grw_len L k (by omega)]
  unfold pkOk
  rw [decide_eq_true (by omega), decide_eq_true (by omega)]
  simp
theorem grw3 (a b c : List UInt8) : grw [a, b, c] 3 = [nd a b, c] := by
  show apL 2 (apL 1 (apL 0 [] (nx [a, b, c] 0)) (nx [a, b, c] 1)) (nx [a, b, c] 2) = _
  have t0 : tro 64 0 = 0 := by decide
  have t1 : tro 64 1 = 1 := by decide
  have t2 : tro 64 2 = 0 := by decide
  simp [apL, t0, t1, t2, nx, jn]

set_option maxRecDepth 100000 in
set_option maxHeartbeats 4000000 in
theorem sanity_any3 (w : World) (ht : Tbs w) : Calls Tryd.prog 9 #[] w fun e w' => e = .returned (.bool true) ∧ Below w.heap.size w w' := by
  have E : Hid (Below w.heap.size w w) := Below.refl _ _
  have T : Hid (Tbs w) := ht
  obtain ⟨a, ha⟩ : ∃ d, d = lf [97] := ⟨_, rfl⟩
  have La : Hid (∀ W, Tbs W → Calls Tryd.prog 14 #[.string ⟨#[97]⟩] W fun e w' => e = .returned (av a) ∧ Below W.heap.size W w') := fun W h => leaf_v [97] (by simp) h a ha
  obtain ⟨b, hb⟩ : ∃ d, d = lf [98] := ⟨_, rfl⟩
  have Lb : Hid (∀ W, Tbs W → Calls Tryd.prog 14 #[.string ⟨#[98]⟩] W fun e w' => e = .returned (av b) ∧ Below W.heap.size W w') := fun W h => leaf_v [98] (by simp) h b hb
  obtain ⟨c, hc⟩ : ∃ d, d = lf [99] := ⟨_, rfl⟩
  have Lc : Hid (∀ W, Tbs W → Calls Tryd.prog 14 #[.string ⟨#[99]⟩] W fun e w' => e = .returned (av c) ∧ Below W.heap.size W w') := fun W h => leaf_v [99] (by simp) h c hc
  have RL : Hid (∀ W, Tbs W → Calls Tryd.prog 18 #[.string ⟨#[97]⟩] W fun e w' => e = .returned (av a) ∧ Below W.heap.size W w') := fun W h => by rw [ha]; exact refLeaf_any [97] W (by simp) h.k
  have za : a.length = 16 := by rw [ha]; exact hashOf_len _ _
  have zb : b.length = 16 := by rw [hb]; exact hashOf_len _ _
  have zc : c.length = 16 := by rw [hc]; exact hashOf_len _ _
  obtain ⟨p, hp⟩ : ∃ d, d = nd a b := ⟨_, rfl⟩
  obtain ⟨r, hr⟩ : ∃ d, d = nd p c := ⟨_, rfl⟩
  have zp : p.length = 16 := by rw [hp]; exact nd_len _ _
  have zr : r.length = 16 := by rw [hr]; exact nd_len _ _
  have HNp := Lib.hid (fun W (h : Tbs W) => node_v a b za zb h p hp)
  have HNr := Lib.hid (fun W (h : Tbs W) => node_v p c zp zc h r hr)
  have RNp := Lib.hid (fun W (h : Tbs W) => rnode_v a b za zb h p hp)
  have HI0 := Lib.hid (fun W A n c' (h : DV W A n c' [a, b, c]) (ht : Tbs W) => incl_v h (by rw [h.len]; simp) ht 0 [b, c] 0 (in30 a b c).symm (by simp [inE]))
  have HI2 := Lib.hid (fun W A n c' (h : DV W A n c' [a, b, c]) (ht : Tbs W) => incl_v h (by rw [h.len]; simp) ht 2 [p] 0 (by rw [in32, hp]) (by simp [inE]))
  have HC1 := Lib.hid (fun W A n c' (h : DV W A n c' [a, b, c]) (ht : Tbs W) => cons_v h (by rw [h.len]; simp) ht 1 [b, c] 0 (cs31 a b c).symm (by simp [csE]))
  have HC2 := Lib.hid (fun W A n c' (h : DV W A n c' [a, b, c]) (ht : Tbs W) => cons_v h (by rw [h.len]; simp) ht 2 [c] 0 (cs32 a b c).symm (by simp [csE]))
  have HM := Lib.hid (fun W A n c' A' n' c'' (h : DV W A n c' [a, b, c]) (h' : IV W A' n' c'' [0, 2]) (ht : Tbs W) => many_v h h' (by rw [h.len]; simp) (by rw [h'.len]; simp) ht [b] 0 (mn30 a b c).symm (by simp [mnE, ascGo]))
  have HR := Lib.hid (fun W A n c' (h : DV W A n c' [a, b, c]) (ht : Tbs W) => root_v h (by rw [h.len]; simp) ht r (by rw [rt3, hr, hp]))
  have K1 := Lib.hid (fun W A n c' (h : DV W A n c' [b, c]) (ht : Tbs W) => chI_v a r za zr h ht 0 3 true (by rw [chi30, ← hp, ← hr]; simp))
  have K2 := Lib.hid (fun W A n c' (h : DV W A n c' [b, c]) (ht : Tbs W) => chC_v a r za zr h ht 1 3 true (by rw [chc31, ← hp, ← hr]; simp))
  have K3 := Lib.hid (fun W A n c' A' n' c'' Af nf cf (hp' : IV W A' n' c'' [0, 2]) (hf : DV W Af nf cf [a, c]) (h : DV W A n c' [b]) (ht : Tbs W) => chM_v r zr hp' hf h (by rw [hp'.len]; simp) ht 3 true (by rw [chm30, ← hp, ← hr]; simp))
  have K4 := Lib.hid (fun W A n c' (h : DV W A n c' [p]) (ht : Tbs W) => chI_v a r za zr h ht 0 3 false (chi31 a p r).symm)
  have HG : Hid (grw [a, b, c] 3 = [p, c]) := by show _ = _; rw [grw3, hp]
  have dg3 := d16_three za zb zc
  have SM := Lib.hid (fun W A n c' A' n' c'' (L M : List (List UInt8)) (h : DV W A n c' L) (h' : DV W A' n' c'' M) (hl : n ≤ 1000000) (he : L = M) => same_v h h' hl true (by rw [he]; simp))
  have la : Hid ((a.map bv).length = 16) := by show _ = _; rw [List.length_map, za]
  have sa := Lib.hid (size_dig16 (a.map bv) la.out)
  have oa := av_one a
  have za' := Lib.hid za
  have lb : Hid ((b.map bv).length = 16) := by show _ = _; rw [List.length_map, zb]
  have sb := Lib.hid (size_dig16 (b.map bv) lb.out)
  have ob := av_one b
  have zb' := Lib.hid zb
  have lc : Hid ((c.map bv).length = 16) := by show _ = _; rw [List.length_map, zc]
  have sc := Lib.hid (size_dig16 (c.map bv) lc.out)
  have oc := av_one c
  have zc' := Lib.hid zc
  have lp : Hid ((p.map bv).length = 16) := by show _ = _; rw [List.length_map, zp]
  have sp := Lib.hid (size_dig16 (p.map bv) lp.out)
  have op := av_one p
  have zp' := Lib.hid zp
  have lr : Hid ((r.map bv).length = 16) := by show _ = _; rw [List.length_map, zr]
  have sr := Lib.hid (size_dig16 (r.map bv) lr.out)
  have or := av_one r
  have zr' := Lib.hid zr
  have e_r : (r == r) = true := by simp
  have hx3 := Lib.hid dg3
  unfold av at La Lb Lc RL HNp HNr RNp HR K1 K2 K3 K4
  clear ht ha hb hc hp hr za zb zc zp zr dg3 e_r
  go_enter Tryd.func9, Tryd.ntmps9
  go_wp2_with fail
  refine (La.out _ T.out).mono ?_
  rintro e v1 ⟨rfl, hb⟩
  replace E := Lib.hid (E.out.trans (hb.mono E.out.size))
  replace T := Lib.hid (T.out.keep hb)
  clear hb
  go_upto_region 2 with (refine wpList_row_store rfl 31 _ _ rfl (a.map bv) rfl rfl (Blk.new v1 (bz 16) 31) sa.out (by rw [la.out]; rfl) oa ?_; intro u1 hu1 ho1)
  have hb : Below v1.heap.size v1 u1 := ((Below.refl _ _).alloc (Nat.le_refl _) _).trans (ho1.below (Nat.le_refl _))
  have B1 : Hid (Blk u1 v1.heap.size (a.map bv) 31) := hu1
  clear hu1 ho1
  replace E := Lib.hid (E.out.trans (hb.mono E.out.size))
  replace T := Lib.hid (T.out.keep hb)
  clear hb
  obtain ⟨gB1, hgB1⟩ : ∃ g, g = v1.heap.size := ⟨_, rfl⟩
  rw [← hgB1] at B1 ⊢
  clear hgB1
  go_wp2_with fail
  refine (Lb.out _ T.out).mono ?_
  rintro e v2 ⟨rfl, hb⟩
  replace B1 := Lib.hid (B1.out.below hb B1.out.lt)
  replace E := Lib.hid (E.out.trans (hb.mono E.out.size))
  replace T := Lib.hid (T.out.keep hb)
  clear hb
  go_upto_region 3 with (refine wpList_row_store rfl 31 _ _ rfl (b.map bv) rfl rfl (Blk.new v2 (bz 16) 31) sb.out (by rw [lb.out]; rfl) ob ?_; intro u2 hu2 ho2)
  have hb : Below v2.heap.size v2 u2 := ((Below.refl _ _).alloc (Nat.le_refl _) _).trans (ho2.below (Nat.le_refl _))
  have B2 : Hid (Blk u2 v2.heap.size (b.map bv) 31) := hu2
  clear hu2 ho2
  replace B1 := Lib.hid (B1.out.below hb B1.out.lt)
  replace E := Lib.hid (E.out.trans (hb.mono E.out.size))
  replace T := Lib.hid (T.out.keep hb)
  clear hb
  obtain ⟨gB2, hgB2⟩ : ∃ g, g = v2.heap.size := ⟨_, rfl⟩
  rw [← hgB2] at B2 ⊢
  clear hgB2
  go_wp2_with fail
  refine (Lc.out _ T.out).mono ?_
  rintro e v3 ⟨rfl, hb⟩
  replace B1 := Lib.hid (B1.out.below hb B1.out.lt)
  replace B2 := Lib.hid (B2.out.below hb B2.out.lt)
  replace E := Lib.hid (E.out.trans (hb.mono E.out.size))
  replace T := Lib.hid (T.out.keep hb)
  clear hb
  go_upto_region 4 with (refine wpList_row_store rfl 31 _ _ rfl (c.map bv) rfl rfl (Blk.new v3 (bz 16) 31) sc.out (by rw [lc.out]; rfl) oc ?_; intro u3 hu3 ho3)
  have hb : Below v3.heap.size v3 u3 := ((Below.refl _ _).alloc (Nat.le_refl _) _).trans (ho3.below (Nat.le_refl _))
  have B3 : Hid (Blk u3 v3.heap.size (c.map bv) 31) := hu3
  clear hu3 ho3
  replace B1 := Lib.hid (B1.out.below hb B1.out.lt)
  replace B2 := Lib.hid (B2.out.below hb B2.out.lt)
  replace E := Lib.hid (E.out.trans (hb.mono E.out.size))
  replace T := Lib.hid (T.out.keep hb)
  clear hb
  obtain ⟨gB3, hgB3⟩ : ∃ g, g = v3.heap.size := ⟨_, rfl⟩
  rw [← hgB3] at B3 ⊢
  clear hgB3
  go_upto_region 5 with (first | (refine wpList_blk_load rfl 31 _ rfl 0 rfl B1.out (a.map bv) (take_all0 _) (.array 16 5) arr_dig rfl sa.out ?_) | (refine wpList_blk_load rfl 31 _ rfl 0 rfl B2.out (b.map bv) (take_all0 _) (.array 16 5) arr_dig rfl sb.out ?_) | (refine wpList_blk_load rfl 31 _ rfl 0 rfl B3.out (c.map bv) (take_all0 _) (.array 16 5) arr_dig rfl sc.out ?_) | (refine step_dgs (by rfl) 3 _ rfl [a, b, c] rfl hx3.out (by simp) (by simp) (by simp only [List.map_toArray, List.map_cons, List.map_nil]; rfl) ?_))
  generalize hgu : u3.alloc _ = x4
  have hb : Below u3.heap.size u3 x4 := by rw [← hgu]; exact (Below.refl _ _).alloc (Nat.le_refl _) _
  have R4 : Hid (DV x4 (some ⟨u3.heap.size, 0, none⟩) 3 3 [a, b, c]) := by rw [← hgu]; exact Blk.dv (Blk.new _ _ _) hx3.out rfl (by omega)
  clear hgu
  replace B1 := Lib.hid (B1.out.below hb B1.out.lt)
  replace B2 := Lib.hid (B2.out.below hb B2.out.lt)
  replace B3 := Lib.hid (B3.out.below hb B3.out.lt)
  replace E := Lib.hid (E.out.trans (hb.mono E.out.size))
  replace T := Lib.hid (T.out.keep hb)
  clear hb
  obtain ⟨g4, hg4⟩ : ∃ g, g = u3.heap.size := ⟨_, rfl⟩
  rw [← hg4] at R4 ⊢
  clear hg4
  go_wp2_with (first | (refine wpList_blk_load rfl 31 _ rfl 0 rfl B1.out (a.map bv) (take_all0 _) (.array 16 5) arr_dig rfl sa.out ?_) | (refine wpList_blk_load rfl 31 _ rfl 0 rfl B2.out (b.map bv) (take_all0 _) (.array 16 5) arr_dig rfl sb.out ?_))
  refine (HNp.out _ T.out).mono ?_
  rintro e v4 ⟨rfl, hb⟩
  replace B1 := Lib.hid (B1.out.below hb B1.out.lt)
  replace B2 := Lib.hid (B2.out.below hb B2.out.lt)
  replace B3 := Lib.hid (B3.out.below hb B3.out.lt)
  replace R4 := Lib.hid (R4.out.keep hb)
  replace E := Lib.hid (E.out.trans (hb.mono E.out.size))
  replace T := Lib.hid (T.out.keep hb)
  clear hb
  go_upto_region 6 with (refine wpList_row_store rfl 31 _ _ rfl (p.map bv) rfl rfl (Blk.new v4 (bz 16) 31) sp.out (by rw [lp.out]; rfl) op ?_; intro u4 hu4 ho4)
  have hb : Below v4.heap.size v4 u4 := ((Below.refl _ _).alloc (Nat.le_refl _) _).trans (ho4.below (Nat.le_refl _))
  have B5 : Hid (Blk u4 v4.heap.size (p.map bv) 31) := hu4
  clear hu4 ho4
  replace B1 := Lib.hid (B1.out.below hb B1.out.lt)
  replace B2 := Lib.hid (B2.out.below hb B2.out.lt)
  replace B3 := Lib.hid (B3.out.below hb B3.out.lt)
  replace R4 := Lib.hid (R4.out.keep hb)
  replace E := Lib.hid (E.out.trans (hb.mono E.out.size))
  replace T := Lib.hid (T.out.keep hb)
  clear hb
  obtain ⟨gB5, hgB5⟩ : ∃ g, g = v4.heap.size := ⟨_, rfl⟩
  rw [← hgB5] at B5 ⊢
  clear hgB5
  go_wp2_with (first | (refine wpList_blk_load rfl 31 _ rfl 0 rfl B5.out (p.map bv) (take_all0 _) (.array 16 5) arr_dig rfl sp.out ?_) | (refine wpList_blk_load rfl 31 _ rfl 0 rfl B3.out (c.map bv) (take_all0 _) (.array 16 5) arr_dig rfl sc.out ?_))
  refine (HNr.out _ T.out).mono ?_
  rintro e v5 ⟨rfl, hb⟩
  replace B1 := Lib.hid (B1.out.below hb B1.out.lt)
  replace B2 := Lib.hid (B2.out.below hb B2.out.lt)
  replace B3 := Lib.hid (B3.out.below hb B3.out.lt)
  replace B5 := Lib.hid (B5.out.below hb B5.out.lt)
  replace R4 := Lib.hid (R4.out.keep hb)
  replace E := Lib.hid (E.out.trans (hb.mono E.out.size))
  replace T := Lib.hid (T.out.keep hb)
  clear hb
  go_upto_region 7 with (refine wpList_row_store rfl 31 _ _ rfl (r.map bv) rfl rfl (Blk.new v5 (bz 16) 31) sr.out (by rw [lr.out]; rfl) or ?_; intro u5 hu5 ho5)
  have hb : Below v5.heap.size v5 u5 := ((Below.refl _ _).alloc (Nat.le_refl _) _).trans (ho5.below (Nat.le_refl _))
  have B6 : Hid (Blk u5 v5.heap.size (r.map bv) 31) := hu5
  clear hu5 ho5
  replace B1 := Lib.hid (B1.out.below hb B1.out.lt)
  replace B2 := Lib.hid (B2.out.below hb B2.out.lt)
  replace B3 := Lib.hid (B3.out.below hb B3.out.lt)
  replace B5 := Lib.hid (B5.out.below hb B5.out.lt)
  replace R4 := Lib.hid (R4.out.keep hb)
  replace E := Lib.hid (E.out.trans (hb.mono E.out.size))
  replace T := Lib.hid (T.out.keep hb)
  clear hb
  obtain ⟨gB6, hgB6⟩ : ∃ g, g = v5.heap.size := ⟨_, rfl⟩
  rw [← hgB6] at B6 ⊢
  clear hgB6
  go_wp2_with fail
  refine (HI0.out _ _ _ _ R4.out T.out).mono ?_
  rintro e v6 ⟨ARX, nRX, cRX, rfl, RX0, hb⟩
  have RX := Lib.hid RX0
  clear RX0
  replace B1 := Lib.hid (B1.out.below hb B1.out.lt)
  replace B2 := Lib.hid (B2.out.below hb B2.out.lt)
  replace B3 := Lib.hid (B3.out.below hb B3.out.lt)
  replace B5 := Lib.hid (B5.out.below hb B5.out.lt)
  replace B6 := Lib.hid (B6.out.below hb B6.out.lt)
  replace R4 := Lib.hid (R4.out.keep hb)
  replace E := Lib.hid (E.out.trans (hb.mono E.out.size))
  replace T := Lib.hid (T.out.keep hb)
  clear hb
  go_wp2_with fail
  refine (HI2.out _ _ _ _ R4.out T.out).mono ?_
  rintro e v7 ⟨ARY, nRY, cRY, rfl, RY0, hb⟩
  have RY := Lib.hid RY0
  clear RY0
  replace B1 := Lib.hid (B1.out.below hb B1.out.lt)
  replace B2 := Lib.hid (B2.out.below hb B2.out.lt)
  replace B3 := Lib.hid (B3.out.below hb B3.out.lt)
  replace B5 := Lib.hid (B5.out.below hb B5.out.lt)
  replace B6 := Lib.hid (B6.out.below hb B6.out.lt)
  replace R4 := Lib.hid (R4.out.keep hb)
  replace RX := Lib.hid (RX.out.keep hb)
  replace E := Lib.hid (E.out.trans (hb.mono E.out.size))
  replace T := Lib.hid (T.out.keep hb)
  clear hb
  go_wp2_with fail
  refine (HC1.out _ _ _ _ R4.out T.out).mono ?_
  rintro e v8 ⟨ARZ, nRZ, cRZ, rfl, RZ0, hb⟩
  have RZ := Lib.hid RZ0
  clear RZ0
  replace B1 := Lib.hid (B1.out.below hb B1.out.lt)
  replace B2 := Lib.hid (B2.out.below hb B2.out.lt)
  replace B3 := Lib.hid (B3.out.below hb B3.out.lt)
  replace B5 := Lib.hid (B5.out.below hb B5.out.lt)
  replace B6 := Lib.hid (B6.out.below hb B6.out.lt)
  replace R4 := Lib.hid (R4.out.keep hb)
  replace RX := Lib.hid (RX.out.keep hb)
  replace RY := Lib.hid (RY.out.keep hb)
  replace E := Lib.hid (E.out.trans (hb.mono E.out.size))
  replace T := Lib.hid (T.out.keep hb)
  clear hb
  go_wp2_with fail
  refine (HC2.out _ _ _ _ R4.out T.out).mono ?_
  rintro e v9 ⟨ARW, nRW, cRW, rfl, RW0, hb⟩
  have RW := Lib.hid RW0
  clear RW0
  replace B1 := Lib.hid (B1.out.below hb B1.out.lt)
  replace B2 := Lib.hid (B2.out.below hb B2.out.lt)
  replace B3 := Lib.hid (B3.out.below hb B3.out.lt)
  replace B5 := Lib.hid (B5.out.below hb B5.out.lt)
  replace B6 := Lib.hid (B6.out.below hb B6.out.lt)
  replace R4 := Lib.hid (R4.out.keep hb)
  replace RX := Lib.hid (RX.out.keep hb)
  replace RY := Lib.hid (RY.out.keep hb)
  replace RZ := Lib.hid (RZ.out.keep hb)
  replace E := Lib.hid (E.out.trans (hb.mono E.out.size))
  replace T := Lib.hid (T.out.keep hb)
  clear hb
  go_upto_region 11 with fail
  have hbi : Below v9.heap.size v9 (v9.alloc (.cells #[.int .i64 0, .int .i64 2] 3)) := (Below.refl _ _).alloc (Nat.le_refl _) _
  have IX : Hid (IV (v9.alloc (.cells #[.int .i64 0, .int .i64 2] 3)) (some ⟨v9.heap.size, 0, none⟩) 2 2 [0, 2]) := Blk.ivs (t := 3) (Blk.new _ [.int .i64 0, .int .i64 2] _) rfl (by intro p hp; simp only [List.mem_cons, List.not_mem_nil, or_false] at hp; rcases hp with rfl | rfl <;> (unfold Wm.Fits; omega))
  have hbi' := Lib.hid hbi
  clear hbi
  go_wp2_with fail
  generalize hgu : v9.alloc _ = x5 at IX hbi' ⊢
  clear hgu
  have hb := hbi'.out
  clear hbi'
  replace B1 := Lib.hid (B1.out.below hb B1.out.lt)
  replace B2 := Lib.hid (B2.out.below hb B2.out.lt)
  replace B3 := Lib.hid (B3.out.below hb B3.out.lt)
  replace B5 := Lib.hid (B5.out.below hb B5.out.lt)
  replace B6 := Lib.hid (B6.out.below hb B6.out.lt)
  replace R4 := Lib.hid (R4.out.keep hb)
  replace RX := Lib.hid (RX.out.keep hb)
  replace RY := Lib.hid (RY.out.keep hb)
  replace RZ := Lib.hid (RZ.out.keep hb)
  replace RW := Lib.hid (RW.out.keep hb)
  replace E := Lib.hid (E.out.trans (hb.mono E.out.size))
  replace T := Lib.hid (T.out.keep hb)
  clear hb
  refine (HM.out _ _ _ _ _ _ _ R4.out IX.out T.out).mono ?_
  rintro e w0 ⟨ARM, nRM, cRM, rfl, RM0, hb⟩
  have RM := Lib.hid RM0
  clear RM0
  replace B1 := Lib.hid (B1.out.below hb B1.out.lt)
  replace B2 := Lib.hid (B2.out.below hb B2.out.lt)
  replace B3 := Lib.hid (B3.out.below hb B3.out.lt)
  replace B5 := Lib.hid (B5.out.below hb B5.out.lt)
  replace B6 := Lib.hid (B6.out.below hb B6.out.lt)
  replace R4 := Lib.hid (R4.out.keep hb)
  replace RX := Lib.hid (RX.out.keep hb)
  replace RY := Lib.hid (RY.out.keep hb)
  replace RZ := Lib.hid (RZ.out.keep hb)
  replace RW := Lib.hid (RW.out.keep hb)
  replace IX := Lib.hid (IX.out.keep hb)
  replace E := Lib.hid (E.out.trans (hb.mono E.out.size))
  replace T := Lib.hid (T.out.keep hb)
  clear hb
  clear IX
  go_upto_region 13 with fail
  generalize hgu : w0.alloc _ = x7
  have hb : Below w0.heap.size w0 x7 := by rw [← hgu]; exact (Below.refl _ _).alloc (Nat.le_refl _) _
  have BP : Hid (Blk x7 w0.heap.size [.int .i64 0, .slice none 0 0] 43) := by rw [← hgu]; exact Blk.new _ [.int .i64 0, .slice none 0 0] _
  clear hgu
  have h67 := Lib.hid hb
  clear hb
  obtain ⟨gp, hgp⟩ : ∃ g, g = w0.heap.size := ⟨_, rfl⟩
  have hgpl : Hid (gp = w0.heap.size) := hgp
  rw [← hgp] at BP h67 ⊢
  clear hgp
  generalize (⟨g4, 0, none⟩ : Addr) = ad4 at R4 ⊢
  obtain ⟨pd, hpd, hpr⟩ := row_peaks
  have hpd' := Lib.hid hpd
  clear hpd
  go_wp2_with fail
  go_loopw [18] (fun v wr => ∃ k : Nat, k ≤ 3 ∧ v = .int .i64 k ∧ Hid (∃ A n q, Blk wr gp [.int .i64 k, .slice A n q] 43 ∧ DV wr A n q (grw [a, b, c] k)) ∧ Hid (Below gp w0 wr)) (fun v _ => 3 - (intOf v).toNat)
  case atStart => exact ⟨0, by omega, rfl, ⟨none, 0, 0, BP.out, dv_nil _⟩, h67⟩
  case round =>
    obtain ⟨k, hk, rfl, hP0, hbw⟩ := hrel
    have hbw2 : Hid (Below w0.heap.size w0 wr) := by rw [← hgpl.out]; exact hbw.out
    have hb := hbw2.out
    replace B1 := Lib.hid (B1.out.below hb B1.out.lt)
    replace B2 := Lib.hid (B2.out.below hb B2.out.lt)
    replace B3 := Lib.hid (B3.out.below hb B3.out.lt)
    replace B5 := Lib.hid (B5.out.below hb B5.out.lt)
    replace B6 := Lib.hid (B6.out.below hb B6.out.lt)
    replace R4 := Lib.hid (R4.out.keep hb)
    replace RX := Lib.hid (RX.out.keep hb)
    replace RY := Lib.hid (RY.out.keep hb)
    replace RZ := Lib.hid (RZ.out.keep hb)
    replace RW := Lib.hid (RW.out.keep hb)
    replace RM := Lib.hid (RM.out.keep hb)
    replace E := Lib.hid (E.out.trans (hb.mono E.out.size))
    replace T := Lib.hid (T.out.keep hb)
    clear hb
    obtain ⟨Ap, np, cp, hP1, hD1⟩ := hP0.out
    clear hP0
    by_cases hlt : k < 3
    · have t : (k : Int) < 3 := by omega
      have hd := nx_len hx3.out k
      have hgs : grw [a, b, c] (k + 1) = apL k (grw [a, b, c] k) (nx [a, b, c] k) := rfl
      have hnp : np ≤ 100 := by rw [hD1.len, grw_len _ k (by omega)]; have := pop_le k k (Nat.le_refl _); omega
      have HA := Lib.hid (fun W (hb : Below wr.heap.size wr W) => append_o (hD1.keep hb) (by omega) (T.out.keep hb) (nx [a, b, c] k) hd k (by omega) (by rw [hD1.len]; exact grw_ok _ k (by omega)) (grw [a, b, c] (k + 1)) hgs)
      have hat : [a, b, c][k]? = some (nx [a, b, c] k) := by
        unfold nx
        rw [List.getD_eq_getElem?_getD, List.getElem?_eq_getElem (by simpa using hlt)]
        rfl
      have hLd : Hid (∀ W, Below wr.heap.size wr W → ∀ j v, ((nx [a, b, c] k).map bv)[j]? = some v → W.cell? ((ad4.add (k * 16)).add j) = some v) := fun W hb => by
        obtain ⟨ad', he, _, _, hcc⟩ := (R4.out.keep hb).rd.at hx3.out hat
        injection he with he
        subst he
        exact hcc
      generalize nx [a, b, c] k = d at HA hLd hd
      obtain ⟨Q, hQ⟩ : ∃ Q, Q = grw [a, b, c] (k + 1) := ⟨_, rfl⟩
      rw [← hQ] at HA
      have hQ' := Lib.hid hQ
      clear hQ
      have hdl : (d.map bv).length = 16 := by rw [List.length_map, hd]
      have hds := Lib.hid (size_dig16 _ hdl)
      have hP1' := Lib.hid hP1
      have hgl := Lib.hid hP1.lt
      clear hP1 hD1 hd hat hgs
      unfold pkv av at HA
      go_wp2_with fail
      go_cut [19, 20] from 63 to 78 (fun q j W => ∃ g A n c, q = .pointer (some ⟨g, 0, none⟩) ∧ j = .int .i64 0 ∧ Blk W g [.int .i64 ((k : Int) + 1), .slice A n c] 43 ∧ (∀ W', Only gp W W' → DV W' A n c Q) ∧ Below wr.heap.size wr W)
      case first J KK hJ hKK =>
        have hdw : Below wr.heap.size wr wr.drew := (Below.refl _ _).drew
        have hne : Nonempty (SOf (fun W => Below wr.heap.size wr W)) := ⟨⟨_, hdw⟩⟩
        refine wp_region_planH (fun W => Below wr.heap.size wr W) [0, 1, 2, 3, 4] 7 (by kernel_rfl) (by kernel_rfl) (by kernel_rfl) (by kernel_rfl) (by intro c a d v w h; cases d <;> exact h) hdw ?_
        change wpPlanH _ _ _ _ _ _ _ _ _ wr.drew
        refine wpPlanH_runW rfl (by rfl) _ (fun x => load_run 43 _ rfl gp 0 rfl [.int .i64 k, .slice Ap np cp] pd hpd'.out hpr size_peaks x.world ((hP1'.out.below x.meets hgl.out).range 0 _ (take_all0 _))) ?_
        iterate 3 (refine wpPlanH_plain rfl (fun K hK => ?_); go_simp; refine hK _ ?_; clear hK K)
        refine wpPlanH_runW rfl (by rfl) _ (fun x => load_arr_run 31 _ rfl (ad4.add (k * 16)) rfl (d.map bv) 16 5 x.world (hLd.out _ x.meets) arr_dig hds.out) ?_
        have hdw2 := Lib.hid hdw
        clear hdw
        have hsz : Hid (gp < wr.drew.heap.size) := hgl.out
        generalize wr.drew = Wd at hdw2 hsz ⊢
        refine wpAnyH_each (rs := [5, 9]) (by kernel_rfl) (by decide) (fun K hK q hq => ?_)
        simp only [List.mem_cons, List.not_mem_nil, or_false] at hq
        rcases hq with rfl | rfl
        · refine wpOp_listed rfl ?_
          go_wp2_with fail
          refine (HA.out _ hdw2.out).mono ?_
          rintro e w4 ⟨A2, n2, c2, rfl, -, hO2, hQ2, hb4⟩
          go_wp2_with fail
          have hb4' := hdw2.out.trans (hb4.mono hdw2.out.size)
          refine postH_normal (hK _ _ _ hb4' ?_)
          clear hK K
          refine wpAnyH_of_plan (by kernel_rfl) (by intro c a d v w h; cases d <;> exact h) [6, 7, 8] 3 _ _ _ hb4' (by kernel_rfl) ?_
          iterate 3 (refine wpPlanH_plain rfl (fun K hK => ?_); go_simp; refine hK _ ?_; clear hK K)
          refine wpAnyH_each (rs := [9]) (by kernel_rfl) (by decide) (fun K hK q hq => ?_)
          obtain rfl := List.mem_singleton.1 hq
          refine wpOp_listed rfl ?_
          go_wp2_with fail
          have hb5 : Below wr.heap.size wr (w4.alloc (.cells #[.int .i64 0, .slice none 0 0] 43)) := hb4'.alloc hb4'.size _
          refine postH_normal (hK _ _ _ hb5 ?_)
          clear hK K
          have hN5 := Lib.hid (Blk.new w4 [.int .i64 0, .slice none 0 0] 43)
          have hO5 : OwnD (w4.alloc (.cells #[.int .i64 0, .slice none 0 0] 43)) Wd.heap.size (.slice A2 n2 c2) Q := World.ownsRow.alloc hO2 _
          have hO5' := Lib.hid hO2
          clear hO5
          refine wpAnyH_each (rs := [10]) (by kernel_rfl) (by decide) (fun K hK q hq => ?_)
          obtain rfl := List.mem_singleton.1 hq
          refine wpOp_listed rfl ?_
          refine wpList_row_store rfl 43 _ _ rfl [.int .i64 ((k : Int) + 1), .slice A2 n2 c2] rfl rfl hN5.out size_peaks rfl (one_peaks _ _ _ _) ?_
          intro w6 hW6 ho6
          have hb46 : Below w4.heap.size w4 w6 := ((Below.refl _ _).alloc (Nat.le_refl _) _).trans (ho6.below (Nat.le_refl _))
          have hb6 := hb4'.trans (hb46.mono hb4'.size)
          refine wpList_end (postH_normal (hK _ _ _ hb6 ?_))
          clear hK K
          refine wpAnyH_each (rs := [11]) (by kernel_rfl) (by decide) (fun K hK q hq => ?_)
          obtain rfl := List.mem_singleton.1 hq
          refine wpOp_listed rfl ?_
          go_wp2_with fail
          refine postH_normal (hK _ _ _ hb6 ?_)
          clear hK K
          refine wpAnyH_done (by kernel_rfl) ?_ _
          try simp only [Act.put, List.setIfInBounds_toArray, List.set_cons_zero, List.set_cons_succ]
          have hend : ∀ W', Only gp w6 W' → DV W' A2 n2 c2 Q := fun W' ho => DV.of ((hO5'.out.below hb46 (Nat.le_refl _)).only ho hsz.out) hQ2
          show KK _ w6
          refine hKK _ _ (Met.intro (hJ _ _ ?_))
          repeat apply Exists.intro
          exact ⟨⟨w4.heap.size, A2, n2, c2, rfl, rfl, hW6.out, hend, hb6⟩, rfl⟩
        · refine wpOp_listed rfl ?_
          go_wp2_with fail
          have hb3 : Below wr.heap.size wr (Wd.alloc (.cells #[.int .i64 0, .slice none 0 0] 43)) := hdw2.out.alloc hdw2.out.size _
          refine postH_normal (hK _ _ _ hb3 ?_)
          clear hK K
          have hN3 := Lib.hid (Blk.new Wd [.int .i64 0, .slice none 0 0] 43)
          have hs3 : Hid ((Wd.alloc (.cells #[.int .i64 0, .slice none 0 0] 43)).heap.size = Wd.heap.size + 1) := by show _ = _; simp
          obtain ⟨W3, hW3⟩ : ∃ W3, W3 = Wd.alloc (.cells #[.int .i64 0, .slice none 0 0] 43) := ⟨_, rfl⟩
          rw [← hW3] at hN3 hb3 hs3
          generalize hg : Wd.alloc _ = Wg
          have hgW : W3 = Wg := by rw [← hg, hW3]
          clear hg hW3
          subst hgW
          have hb3' := Lib.hid hb3
          clear hb3
          refine wpAnyH_each (rs := [5]) (by kernel_rfl) (by decide) (fun K hK q hq => ?_)
          obtain rfl := List.mem_singleton.1 hq
          refine wpOp_listed rfl ?_
          go_wp2_with fail
          refine (HA.out _ hb3'.out).mono ?_
          rintro e w4 ⟨A2, n2, c2, rfl, -, hO2, hQ2, hb4⟩
          go_wp2_with fail
          have hb4' := hb3'.out.trans (hb4.mono hb3'.out.size)
          refine postH_normal (hK _ _ _ hb4' ?_)
          clear hK K
          have hN4 := Lib.hid (hN3.out.below hb4 hN3.out.lt)
          have hO5' := Lib.hid hO2
          refine wpAnyH_of_plan (by kernel_rfl) (by intro c a d v w h; cases d <;> exact h) [6, 7, 8] 2 _ _ _ hb4' (by kernel_rfl) ?_
          iterate 3 (refine wpPlanH_plain rfl (fun K hK => ?_); go_simp; refine hK _ ?_; clear hK K)
          refine wpAnyH_each (rs := [10]) (by kernel_rfl) (by decide) (fun K hK q hq => ?_)
          obtain rfl := List.mem_singleton.1 hq
          refine wpOp_listed rfl ?_
          refine wpList_row_store rfl 43 _ _ rfl [.int .i64 ((k : Int) + 1), .slice A2 n2 c2] rfl rfl hN4.out size_peaks rfl (one_peaks _ _ _ _) ?_
          intro w6 hW6 ho6
          have hb6 := hb4'.trans (ho6.below hdw2.out.size)
          refine wpList_end (postH_normal (hK _ _ _ hb6 ?_))
          clear hK K
          refine wpAnyH_each (rs := [11]) (by kernel_rfl) (by decide) (fun K hK q hq => ?_)
          obtain rfl := List.mem_singleton.1 hq
          refine wpOp_listed rfl ?_
          go_wp2_with fail
          refine postH_normal (hK _ _ _ hb6 ?_)
          clear hK K
          refine wpAnyH_done (by kernel_rfl) ?_ _
          try simp only [Act.put, List.setIfInBounds_toArray, List.set_cons_zero, List.set_cons_succ]
          have hend : ∀ W', Only gp w6 W' → DV W' A2 n2 c2 Q := fun W' ho => DV.of ((hO5'.out.only ho6 (by rw [hs3.out]; omega)).only ho (by rw [hs3.out]; have := hsz.out; omega)) hQ2
          show KK _ w6
          refine hKK _ _ (Met.intro (hJ _ _ ?_))
          repeat apply Exists.intro
          exact ⟨⟨Wd.heap.size, A2, n2, c2, rfl, rfl, hW6.out, hend, hb6⟩, rfl⟩
      case rest =>
        obtain ⟨gq, A2, n2, c2, rfl, rfl, hq, hdv, hbc⟩ := hcut
        have hq' := Lib.hid hq
        have hdv' := Lib.hid hdv
        have hPc := Lib.hid (hP1'.out.below hbc hgl.out)
        have hbc' := Lib.hid hbc
        clear hq hdv hbc
        go_wp2_with (first | (refine wpList_blk_load rfl 43 _ rfl 0 rfl hq'.out [.int .i64 ((k : Int) + 1), .slice A2 n2 c2] (take_all0 _) pd hpd'.out hpr size_peaks ?_) | (refine wpList_row_store rfl 43 _ _ rfl [.int .i64 ((k : Int) + 1), .slice A2 n2 c2] rfl rfl hPc.out size_peaks rfl (one_peaks _ _ _ _) ?_; intro w7 hW7 ho7))
        have hend : Below gp w0 w7 := hbw.out.trans ((hbc'.out.mono (Nat.le_of_lt hgl.out)).trans (ho7.below (Nat.le_refl _)))
        have hend2 : Hid (∃ A n q, Blk w7 gp [.int .i64 ((k + 1 : Nat) : Int), .slice A n q] 43 ∧ DV w7 A n q (grw [a, b, c] (k + 1))) := by
          show ∃ A n q, _ ∧ _
          rw [← hQ'.out]
          exact ⟨A2, n2, c2, by have h := hW7.out; rw [show ((k : Int) + 1) = ((k + 1 : Nat) : Int) by omega] at h; exact h, hdv'.out w7 ho7⟩
        go_roundw
        case rel => exact ⟨k + 1, by omega, by go_num, hend2, hend⟩
        case measure => simp [intOf]; omega
    · obtain rfl : k = 3 := by omega
      rw [HG.out] at hD1
      have RP := Lib.hid hD1
      have BQ : Hid (Blk wr gp [.int .i64 3, .slice Ap np cp] 43) := hP1
      clear hD1 hP1 hlt hk hbw hbw2
      go_wp2_with fail
      have hdw : Below wr.heap.size wr wr.drew := (Below.refl _ _).drew
      have hne : Nonempty (ROf (Below wr.heap.size) wr.drew) := ⟨⟨_, Below.refl _ _⟩⟩
      refine wp_region_planR (R := Below wr.heap.size) (fun w => Below.refl _ w) (fun _ _ _ h k => h.trans k) [] [(true, 0), (true, 1), (true, 2), (true, 3), (true, 4), (true, 5), (true, 6), (true, 7), (true, 8), (true, 9), (true, 10), (true, 11), (true, 12), (true, 13), (true, 14), (true, 15), (true, 16), (true, 17), (true, 18), (true, 19), (true, 21), (false, 20), (true, 22), (true, 23), (true, 24), (true, 25), (false, 26), (true, 27), (true, 28), (true, 29), (true, 30), (true, 31), (true, 32), (false, 33), (true, 34), (true, 35), (true, 36)] (by decide) (by kernel_rfl) (by kernel_rfl) (by decide) (by intro c a d v w h; cases d <;> exact h) ?_
      change wpPlanR _ _ _ _ _ _ _ wr.drew
      iterate 20 (refine wpPlanR_plain rfl (fun K hK => ?_); go_simp; refine hK _ ?_; clear hK K)
      refine wpPlanR_runW rfl (by rfl) _ (fun x => load_run 31 _ rfl gB6 0 rfl (r.map bv) (.array 16 5) arr_dig rfl sr.out x.world ((B6.out.below (hdw.trans x.rel) B6.out.lt).range 0 _ (take_all0 _))) ?_
      refine wpPlanR_call rfl (fun K hK => ?_)
      go_wp2_with fail
      refine (HR.out _ _ _ _ (R4.out.keep hdw) (T.out.keep hdw)).mono ?_
      rintro e y0 ⟨rfl, hb0⟩
      go_wp2_with fail
      refine planPostR_normal ⟨.inr hb0, hK _ _ ?_⟩
      clear hK K
      have hy0 := Lib.hid (hdw.trans hb0)
      clear hb0 hne
      have hne : Nonempty (ROf (Below wr.heap.size) y0) := ⟨⟨_, Below.refl _ _⟩⟩
      refine wpPlanR_runW rfl (by rfl) _ (fun x => eql_run 31 _ _ _ rfl 16 arr_dig (by kernel_rfl) r r zr'.out zr'.out rfl rfl true (by simp) x.world) ?_
      iterate 2 (refine wpPlanR_plain rfl (fun K hK => ?_); go_simp; refine hK _ ?_; clear hK K)
      refine wpPlanR_runW rfl (by rfl) _ (fun x => load_run 31 _ rfl gB1 0 rfl (a.map bv) (.array 16 5) arr_dig rfl sa.out x.world ((B1.out.below (hy0.out.trans x.rel) B1.out.lt).range 0 _ (take_all0 _))) ?_
      refine wpPlanR_call rfl (fun K hK => ?_)
      go_wp2_with fail
      refine (RL.out _ (T.out.keep hy0.out)).mono ?_
      rintro e y1 ⟨rfl, hb1⟩
      go_wp2_with fail
      have hb1' := hb1.mono hy0.out.size
      refine planPostR_normal ⟨.inr hb1', hK _ _ ?_⟩
      clear hK K
      have hy1 := Lib.hid (hy0.out.trans hb1')
      clear hb1 hb1' hne
      have hne : Nonempty (ROf (Below wr.heap.size) y1) := ⟨⟨_, Below.refl _ _⟩⟩
      refine wpPlanR_runW rfl (by rfl) _ (fun x => eql_run 31 _ _ _ rfl 16 arr_dig (by kernel_rfl) a a za'.out za'.out rfl rfl true (by simp) x.world) ?_
      iterate 2 (refine wpPlanR_plain rfl (fun K hK => ?_); go_simp; refine hK _ ?_; clear hK K)
      refine wpPlanR_runW rfl (by rfl) _ (fun x => load_run 31 _ rfl gB5 0 rfl (p.map bv) (.array 16 5) arr_dig rfl sp.out x.world ((B5.out.below (hy1.out.trans x.rel) B5.out.lt).range 0 _ (take_all0 _))) ?_
      refine wpPlanR_runW rfl (by rfl) _ (fun x => load_run 31 _ rfl gB1 0 rfl (a.map bv) (.array 16 5) arr_dig rfl sa.out x.world ((B1.out.below (hy1.out.trans x.rel) B1.out.lt).range 0 _ (take_all0 _))) ?_
      refine wpPlanR_runW rfl (by rfl) _ (fun x => load_run 31 _ rfl gB2 0 rfl (b.map bv) (.array 16 5) arr_dig rfl sb.out x.world ((B2.out.below (hy1.out.trans x.rel) B2.out.lt).range 0 _ (take_all0 _))) ?_
      refine wpPlanR_call rfl (fun K hK => ?_)
      go_wp2_with fail
      refine (RNp.out _ (T.out.keep hy1.out)).mono ?_
      rintro e y2 ⟨rfl, hb2⟩
      go_wp2_with fail
      have hb2' := hb2.mono hy1.out.size
      refine planPostR_normal ⟨.inr hb2', hK _ _ ?_⟩
      clear hK K
      have hy2 := Lib.hid (hy1.out.trans hb2')
      clear hb2 hb2' hne
      have hne : Nonempty (ROf (Below wr.heap.size) y2) := ⟨⟨_, Below.refl _ _⟩⟩
      refine wpPlanR_runW rfl (by rfl) _ (fun x => eql_run 31 _ _ _ rfl 16 arr_dig (by kernel_rfl) p p zp'.out zp'.out rfl rfl true (by simp) x.world) ?_
      iterate 2 (refine wpPlanR_plain rfl (fun K hK => ?_); go_simp; refine hK _ ?_; clear hK K)
      refine wpPlanR_nil ?_
      have hb := hy2.out
      clear hne hdw hy0 hy1 hy2
      replace B1 := Lib.hid (B1.out.below hb B1.out.lt)
      replace B2 := Lib.hid (B2.out.below hb B2.out.lt)
      replace B3 := Lib.hid (B3.out.below hb B3.out.lt)
      replace B5 := Lib.hid (B5.out.below hb B5.out.lt)
      replace B6 := Lib.hid (B6.out.below hb B6.out.lt)
      replace BQ := Lib.hid (BQ.out.below hb BQ.out.lt)
      replace R4 := Lib.hid (R4.out.keep hb)
      replace RX := Lib.hid (RX.out.keep hb)
      replace RY := Lib.hid (RY.out.keep hb)
      replace RZ := Lib.hid (RZ.out.keep hb)
      replace RW := Lib.hid (RW.out.keep hb)
      replace RM := Lib.hid (RM.out.keep hb)
      replace RP := Lib.hid (RP.out.keep hb)
      replace E := Lib.hid (E.out.trans (hb.mono E.out.size))
      replace T := Lib.hid (T.out.keep hb)
      clear hb
      go_wp2_with (first | (refine wpList_blk_loadW (by rfl) 31 _ rfl 0 rfl B1.out (a.map bv) (take_all0 _) (.array 16 5) arr_dig rfl sa.out ?_) | (refine wpList_blk_loadW (by rfl) 31 _ rfl 0 rfl B2.out (b.map bv) (take_all0 _) (.array 16 5) arr_dig rfl sb.out ?_) | (refine wpList_blk_loadW (by rfl) 31 _ rfl 0 rfl B3.out (c.map bv) (take_all0 _) (.array 16 5) arr_dig rfl sc.out ?_) | (refine wpList_blk_loadW (by rfl) 31 _ rfl 0 rfl B5.out (p.map bv) (take_all0 _) (.array 16 5) arr_dig rfl sp.out ?_) | (refine wpList_blk_loadW (by rfl) 31 _ rfl 0 rfl B6.out (r.map bv) (take_all0 _) (.array 16 5) arr_dig rfl sr.out ?_) | (refine step_dgs (by rfl) 2 _ rfl [b, c] rfl (d16_two zb'.out zc'.out) (by simp) (by simp) (by simp only [List.map_toArray, List.map_cons, List.map_nil]; rfl) ?_))
      generalize hgu : y2.alloc _ = s9
      have hb : Below y2.heap.size y2 s9 := by rw [← hgu]; exact (Below.refl _ _).alloc (Nat.le_refl _) _
      have RS : Hid (DV s9 (some ⟨y2.heap.size, 0, none⟩) 2 2 [b, c]) := by rw [← hgu]; exact Blk.dv (Blk.new _ _ _) (d16_two zb'.out zc'.out) rfl (by omega)
      clear hgu
      replace B1 := Lib.hid (B1.out.below hb B1.out.lt)
      replace B2 := Lib.hid (B2.out.below hb B2.out.lt)
      replace B3 := Lib.hid (B3.out.below hb B3.out.lt)
      replace B5 := Lib.hid (B5.out.below hb B5.out.lt)
      replace B6 := Lib.hid (B6.out.below hb B6.out.lt)
      replace BQ := Lib.hid (BQ.out.below hb BQ.out.lt)
      replace R4 := Lib.hid (R4.out.keep hb)
      replace RX := Lib.hid (RX.out.keep hb)
      replace RY := Lib.hid (RY.out.keep hb)
      replace RZ := Lib.hid (RZ.out.keep hb)
      replace RW := Lib.hid (RW.out.keep hb)
      replace RM := Lib.hid (RM.out.keep hb)
      replace RP := Lib.hid (RP.out.keep hb)
      replace E := Lib.hid (E.out.trans (hb.mono E.out.size))
      replace T := Lib.hid (T.out.keep hb)
      clear hb
      refine (SM.out _ _ _ _ _ _ _ [b, c] [b, c] RX.out RS.out (by rw [RX.out.len]; simp) rfl).mono ?_
      rintro e v10 ⟨rfl, hb⟩
      replace B1 := Lib.hid (B1.out.below hb B1.out.lt)
      replace B2 := Lib.hid (B2.out.below hb B2.out.lt)
      replace B3 := Lib.hid (B3.out.below hb B3.out.lt)
      replace B5 := Lib.hid (B5.out.below hb B5.out.lt)
      replace B6 := Lib.hid (B6.out.below hb B6.out.lt)
      replace BQ := Lib.hid (BQ.out.below hb BQ.out.lt)
      replace R4 := Lib.hid (R4.out.keep hb)
      replace RX := Lib.hid (RX.out.keep hb)
      replace RY := Lib.hid (RY.out.keep hb)
      replace RZ := Lib.hid (RZ.out.keep hb)
      replace RW := Lib.hid (RW.out.keep hb)
      replace RM := Lib.hid (RM.out.keep hb)
      replace RP := Lib.hid (RP.out.keep hb)
      replace E := Lib.hid (E.out.trans (hb.mono E.out.size))
      replace T := Lib.hid (T.out.keep hb)
      clear hb
      clear RS
      go_wp2_with (first | (refine wpList_blk_loadW (by rfl) 31 _ rfl 0 rfl B1.out (a.map bv) (take_all0 _) (.array 16 5) arr_dig rfl sa.out ?_) | (refine wpList_blk_loadW (by rfl) 31 _ rfl 0 rfl B2.out (b.map bv) (take_all0 _) (.array 16 5) arr_dig rfl sb.out ?_) | (refine wpList_blk_loadW (by rfl) 31 _ rfl 0 rfl B3.out (c.map bv) (take_all0 _) (.array 16 5) arr_dig rfl sc.out ?_) | (refine wpList_blk_loadW (by rfl) 31 _ rfl 0 rfl B5.out (p.map bv) (take_all0 _) (.array 16 5) arr_dig rfl sp.out ?_) | (refine wpList_blk_loadW (by rfl) 31 _ rfl 0 rfl B6.out (r.map bv) (take_all0 _) (.array 16 5) arr_dig rfl sr.out ?_) | (refine step_dgs (by rfl) 1 _ rfl [p] rfl (d16_one zp'.out) (by simp) (by simp) (by simp only [List.map_toArray, List.map_cons, List.map_nil]; rfl) ?_))
      generalize hgu : v10.alloc _ = s10
      have hb : Below v10.heap.size v10 s10 := by rw [← hgu]; exact (Below.refl _ _).alloc (Nat.le_refl _) _
      have RS : Hid (DV s10 (some ⟨v10.heap.size, 0, none⟩) 1 1 [p]) := by rw [← hgu]; exact Blk.dv (Blk.new _ _ _) (d16_one zp'.out) rfl (by omega)
      clear hgu
      replace B1 := Lib.hid (B1.out.below hb B1.out.lt)
      replace B2 := Lib.hid (B2.out.below hb B2.out.lt)
      replace B3 := Lib.hid (B3.out.below hb B3.out.lt)
      replace B5 := Lib.hid (B5.out.below hb B5.out.lt)
      replace B6 := Lib.hid (B6.out.below hb B6.out.lt)
      replace BQ := Lib.hid (BQ.out.below hb BQ.out.lt)
      replace R4 := Lib.hid (R4.out.keep hb)
      replace RX := Lib.hid (RX.out.keep hb)
      replace RY := Lib.hid (RY.out.keep hb)
      replace RZ := Lib.hid (RZ.out.keep hb)
      replace RW := Lib.hid (RW.out.keep hb)
      replace RM := Lib.hid (RM.out.keep hb)
      replace RP := Lib.hid (RP.out.keep hb)
      replace E := Lib.hid (E.out.trans (hb.mono E.out.size))
      replace T := Lib.hid (T.out.keep hb)
      clear hb
      refine (SM.out _ _ _ _ _ _ _ [p] [p] RY.out RS.out (by rw [RY.out.len]; simp) rfl).mono ?_
      rintro e v11 ⟨rfl, hb⟩
      replace B1 := Lib.hid (B1.out.below hb B1.out.lt)
      replace B2 := Lib.hid (B2.out.below hb B2.out.lt)
      replace B3 := Lib.hid (B3.out.below hb B3.out.lt)
      replace B5 := Lib.hid (B5.out.below hb B5.out.lt)
      replace B6 := Lib.hid (B6.out.below hb B6.out.lt)
      replace BQ := Lib.hid (BQ.out.below hb BQ.out.lt)
      replace R4 := Lib.hid (R4.out.keep hb)
      replace RX := Lib.hid (RX.out.keep hb)
      replace RY := Lib.hid (RY.out.keep hb)
      replace RZ := Lib.hid (RZ.out.keep hb)
      replace RW := Lib.hid (RW.out.keep hb)
      replace RM := Lib.hid (RM.out.keep hb)
      replace RP := Lib.hid (RP.out.keep hb)
      replace E := Lib.hid (E.out.trans (hb.mono E.out.size))
      replace T := Lib.hid (T.out.keep hb)
      clear hb
      clear RS
      go_wp2_with (first | (refine wpList_blk_loadW (by rfl) 31 _ rfl 0 rfl B1.out (a.map bv) (take_all0 _) (.array 16 5) arr_dig rfl sa.out ?_) | (refine wpList_blk_loadW (by rfl) 31 _ rfl 0 rfl B2.out (b.map bv) (take_all0 _) (.array 16 5) arr_dig rfl sb.out ?_) | (refine wpList_blk_loadW (by rfl) 31 _ rfl 0 rfl B3.out (c.map bv) (take_all0 _) (.array 16 5) arr_dig rfl sc.out ?_) | (refine wpList_blk_loadW (by rfl) 31 _ rfl 0 rfl B5.out (p.map bv) (take_all0 _) (.array 16 5) arr_dig rfl sp.out ?_) | (refine wpList_blk_loadW (by rfl) 31 _ rfl 0 rfl B6.out (r.map bv) (take_all0 _) (.array 16 5) arr_dig rfl sr.out ?_) | (refine step_dgs (by rfl) 2 _ rfl [b, c] rfl (d16_two zb'.out zc'.out) (by simp) (by simp) (by simp only [List.map_toArray, List.map_cons, List.map_nil]; rfl) ?_))
      generalize hgu : v11.alloc _ = s11
      have hb : Below v11.heap.size v11 s11 := by rw [← hgu]; exact (Below.refl _ _).alloc (Nat.le_refl _) _
      have RS : Hid (DV s11 (some ⟨v11.heap.size, 0, none⟩) 2 2 [b, c]) := by rw [← hgu]; exact Blk.dv (Blk.new _ _ _) (d16_two zb'.out zc'.out) rfl (by omega)
      clear hgu
      replace B1 := Lib.hid (B1.out.below hb B1.out.lt)
      replace B2 := Lib.hid (B2.out.below hb B2.out.lt)
      replace B3 := Lib.hid (B3.out.below hb B3.out.lt)
      replace B5 := Lib.hid (B5.out.below hb B5.out.lt)
      replace B6 := Lib.hid (B6.out.below hb B6.out.lt)
      replace BQ := Lib.hid (BQ.out.below hb BQ.out.lt)
      replace R4 := Lib.hid (R4.out.keep hb)
      replace RX := Lib.hid (RX.out.keep hb)
      replace RY := Lib.hid (RY.out.keep hb)
      replace RZ := Lib.hid (RZ.out.keep hb)
      replace RW := Lib.hid (RW.out.keep hb)
      replace RM := Lib.hid (RM.out.keep hb)
      replace RP := Lib.hid (RP.out.keep hb)
      replace E := Lib.hid (E.out.trans (hb.mono E.out.size))
      replace T := Lib.hid (T.out.keep hb)
      clear hb
      refine (SM.out _ _ _ _ _ _ _ [b, c] [b, c] RZ.out RS.out (by rw [RZ.out.len]; simp) rfl).mono ?_
      rintro e v12 ⟨rfl, hb⟩
      replace B1 := Lib.hid (B1.out.below hb B1.out.lt)
      replace B2 := Lib.hid (B2.out.below hb B2.out.lt)
      replace B3 := Lib.hid (B3.out.below hb B3.out.lt)
      replace B5 := Lib.hid (B5.out.below hb B5.out.lt)
      replace B6 := Lib.hid (B6.out.below hb B6.out.lt)
      replace BQ := Lib.hid (BQ.out.below hb BQ.out.lt)
      replace R4 := Lib.hid (R4.out.keep hb)
      replace RX := Lib.hid (RX.out.keep hb)
      replace RY := Lib.hid (RY.out.keep hb)
      replace RZ := Lib.hid (RZ.out.keep hb)
      replace RW := Lib.hid (RW.out.keep hb)
      replace RM := Lib.hid (RM.out.keep hb)
      replace RP := Lib.hid (RP.out.keep hb)
      replace E := Lib.hid (E.out.trans (hb.mono E.out.size))
      replace T := Lib.hid (T.out.keep hb)
      clear hb
      clear RS
      go_wp2_with (first | (refine wpList_blk_loadW (by rfl) 31 _ rfl 0 rfl B1.out (a.map bv) (take_all0 _) (.array 16 5) arr_dig rfl sa.out ?_) | (refine wpList_blk_loadW (by rfl) 31 _ rfl 0 rfl B2.out (b.map bv) (take_all0 _) (.array 16 5) arr_dig rfl sb.out ?_) | (refine wpList_blk_loadW (by rfl) 31 _ rfl 0 rfl B3.out (c.map bv) (take_all0 _) (.array 16 5) arr_dig rfl sc.out ?_) | (refine wpList_blk_loadW (by rfl) 31 _ rfl 0 rfl B5.out (p.map bv) (take_all0 _) (.array 16 5) arr_dig rfl sp.out ?_) | (refine wpList_blk_loadW (by rfl) 31 _ rfl 0 rfl B6.out (r.map bv) (take_all0 _) (.array 16 5) arr_dig rfl sr.out ?_) | (refine step_dgs (by rfl) 1 _ rfl [c] rfl (d16_one zc'.out) (by simp) (by simp) (by simp only [List.map_toArray, List.map_cons, List.map_nil]; rfl) ?_))
      generalize hgu : v12.alloc _ = s12
      have hb : Below v12.heap.size v12 s12 := by rw [← hgu]; exact (Below.refl _ _).alloc (Nat.le_refl _) _
      have RS : Hid (DV s12 (some ⟨v12.heap.size, 0, none⟩) 1 1 [c]) := by rw [← hgu]; exact Blk.dv (Blk.new _ _ _) (d16_one zc'.out) rfl (by omega)
      clear hgu
      replace B1 := Lib.hid (B1.out.below hb B1.out.lt)
      replace B2 := Lib.hid (B2.out.below hb B2.out.lt)
      replace B3 := Lib.hid (B3.out.below hb B3.out.lt)
      replace B5 := Lib.hid (B5.out.below hb B5.out.lt)
      replace B6 := Lib.hid (B6.out.below hb B6.out.lt)
      replace BQ := Lib.hid (BQ.out.below hb BQ.out.lt)
      replace R4 := Lib.hid (R4.out.keep hb)
      replace RX := Lib.hid (RX.out.keep hb)
      replace RY := Lib.hid (RY.out.keep hb)
      replace RZ := Lib.hid (RZ.out.keep hb)
      replace RW := Lib.hid (RW.out.keep hb)
      replace RM := Lib.hid (RM.out.keep hb)
      replace RP := Lib.hid (RP.out.keep hb)
      replace E := Lib.hid (E.out.trans (hb.mono E.out.size))
      replace T := Lib.hid (T.out.keep hb)
      clear hb
      refine (SM.out _ _ _ _ _ _ _ [c] [c] RW.out RS.out (by rw [RW.out.len]; simp) rfl).mono ?_
      rintro e v13 ⟨rfl, hb⟩
      replace B1 := Lib.hid (B1.out.below hb B1.out.lt)
      replace B2 := Lib.hid (B2.out.below hb B2.out.lt)
      replace B3 := Lib.hid (B3.out.below hb B3.out.lt)
      replace B5 := Lib.hid (B5.out.below hb B5.out.lt)
      replace B6 := Lib.hid (B6.out.below hb B6.out.lt)
      replace BQ := Lib.hid (BQ.out.below hb BQ.out.lt)
      replace R4 := Lib.hid (R4.out.keep hb)
      replace RX := Lib.hid (RX.out.keep hb)
      replace RY := Lib.hid (RY.out.keep hb)
      replace RZ := Lib.hid (RZ.out.keep hb)
      replace RW := Lib.hid (RW.out.keep hb)
      replace RM := Lib.hid (RM.out.keep hb)
      replace RP := Lib.hid (RP.out.keep hb)
      replace E := Lib.hid (E.out.trans (hb.mono E.out.size))
      replace T := Lib.hid (T.out.keep hb)
      clear hb
      clear RS
      go_wp2_with (first | (refine wpList_blk_loadW (by rfl) 31 _ rfl 0 rfl B1.out (a.map bv) (take_all0 _) (.array 16 5) arr_dig rfl sa.out ?_) | (refine wpList_blk_loadW (by rfl) 31 _ rfl 0 rfl B2.out (b.map bv) (take_all0 _) (.array 16 5) arr_dig rfl sb.out ?_) | (refine wpList_blk_loadW (by rfl) 31 _ rfl 0 rfl B3.out (c.map bv) (take_all0 _) (.array 16 5) arr_dig rfl sc.out ?_) | (refine wpList_blk_loadW (by rfl) 31 _ rfl 0 rfl B5.out (p.map bv) (take_all0 _) (.array 16 5) arr_dig rfl sp.out ?_) | (refine wpList_blk_loadW (by rfl) 31 _ rfl 0 rfl B6.out (r.map bv) (take_all0 _) (.array 16 5) arr_dig rfl sr.out ?_) | (refine step_dgs (by rfl) 1 _ rfl [b] rfl (d16_one zb'.out) (by simp) (by simp) (by simp only [List.map_toArray, List.map_cons, List.map_nil]; rfl) ?_))
      generalize hgu : v13.alloc _ = s13
      have hb : Below v13.heap.size v13 s13 := by rw [← hgu]; exact (Below.refl _ _).alloc (Nat.le_refl _) _
      have RS : Hid (DV s13 (some ⟨v13.heap.size, 0, none⟩) 1 1 [b]) := by rw [← hgu]; exact Blk.dv (Blk.new _ _ _) (d16_one zb'.out) rfl (by omega)
      clear hgu
      replace B1 := Lib.hid (B1.out.below hb B1.out.lt)
      replace B2 := Lib.hid (B2.out.below hb B2.out.lt)
      replace B3 := Lib.hid (B3.out.below hb B3.out.lt)
      replace B5 := Lib.hid (B5.out.below hb B5.out.lt)
      replace B6 := Lib.hid (B6.out.below hb B6.out.lt)
      replace BQ := Lib.hid (BQ.out.below hb BQ.out.lt)
      replace R4 := Lib.hid (R4.out.keep hb)
      replace RX := Lib.hid (RX.out.keep hb)
      replace RY := Lib.hid (RY.out.keep hb)
      replace RZ := Lib.hid (RZ.out.keep hb)
      replace RW := Lib.hid (RW.out.keep hb)
      replace RM := Lib.hid (RM.out.keep hb)
      replace RP := Lib.hid (RP.out.keep hb)
      replace E := Lib.hid (E.out.trans (hb.mono E.out.size))
      replace T := Lib.hid (T.out.keep hb)
      clear hb
      refine (SM.out _ _ _ _ _ _ _ [b] [b] RM.out RS.out (by rw [RM.out.len]; simp) rfl).mono ?_
      rintro e v14 ⟨rfl, hb⟩
      replace B1 := Lib.hid (B1.out.below hb B1.out.lt)
      replace B2 := Lib.hid (B2.out.below hb B2.out.lt)
      replace B3 := Lib.hid (B3.out.below hb B3.out.lt)
      replace B5 := Lib.hid (B5.out.below hb B5.out.lt)
      replace B6 := Lib.hid (B6.out.below hb B6.out.lt)
      replace BQ := Lib.hid (BQ.out.below hb BQ.out.lt)
      replace R4 := Lib.hid (R4.out.keep hb)
      replace RX := Lib.hid (RX.out.keep hb)
      replace RY := Lib.hid (RY.out.keep hb)
      replace RZ := Lib.hid (RZ.out.keep hb)
      replace RW := Lib.hid (RW.out.keep hb)
      replace RM := Lib.hid (RM.out.keep hb)
      replace RP := Lib.hid (RP.out.keep hb)
      replace E := Lib.hid (E.out.trans (hb.mono E.out.size))
      replace T := Lib.hid (T.out.keep hb)
      clear hb
      clear RS
      go_wp2_with (first | (refine wpList_blk_loadW (by rfl) 31 _ rfl 0 rfl B1.out (a.map bv) (take_all0 _) (.array 16 5) arr_dig rfl sa.out ?_) | (refine wpList_blk_loadW (by rfl) 31 _ rfl 0 rfl B2.out (b.map bv) (take_all0 _) (.array 16 5) arr_dig rfl sb.out ?_) | (refine wpList_blk_loadW (by rfl) 31 _ rfl 0 rfl B3.out (c.map bv) (take_all0 _) (.array 16 5) arr_dig rfl sc.out ?_) | (refine wpList_blk_loadW (by rfl) 31 _ rfl 0 rfl B5.out (p.map bv) (take_all0 _) (.array 16 5) arr_dig rfl sp.out ?_) | (refine wpList_blk_loadW (by rfl) 31 _ rfl 0 rfl B6.out (r.map bv) (take_all0 _) (.array 16 5) arr_dig rfl sr.out ?_))
      refine (K1.out _ _ _ _ RX.out T.out).mono ?_
      rintro e v15 ⟨rfl, hb⟩
      replace B1 := Lib.hid (B1.out.below hb B1.out.lt)
      replace B2 := Lib.hid (B2.out.below hb B2.out.lt)
      replace B3 := Lib.hid (B3.out.below hb B3.out.lt)
      replace B5 := Lib.hid (B5.out.below hb B5.out.lt)
      replace B6 := Lib.hid (B6.out.below hb B6.out.lt)
      replace BQ := Lib.hid (BQ.out.below hb BQ.out.lt)
      replace R4 := Lib.hid (R4.out.keep hb)
      replace RX := Lib.hid (RX.out.keep hb)
      replace RY := Lib.hid (RY.out.keep hb)
      replace RZ := Lib.hid (RZ.out.keep hb)
      replace RW := Lib.hid (RW.out.keep hb)
      replace RM := Lib.hid (RM.out.keep hb)
      replace RP := Lib.hid (RP.out.keep hb)
      replace E := Lib.hid (E.out.trans (hb.mono E.out.size))
      replace T := Lib.hid (T.out.keep hb)
      clear hb
      go_wp2_with (first | (refine wpList_blk_loadW (by rfl) 31 _ rfl 0 rfl B1.out (a.map bv) (take_all0 _) (.array 16 5) arr_dig rfl sa.out ?_) | (refine wpList_blk_loadW (by rfl) 31 _ rfl 0 rfl B2.out (b.map bv) (take_all0 _) (.array 16 5) arr_dig rfl sb.out ?_) | (refine wpList_blk_loadW (by rfl) 31 _ rfl 0 rfl B3.out (c.map bv) (take_all0 _) (.array 16 5) arr_dig rfl sc.out ?_) | (refine wpList_blk_loadW (by rfl) 31 _ rfl 0 rfl B5.out (p.map bv) (take_all0 _) (.array 16 5) arr_dig rfl sp.out ?_) | (refine wpList_blk_loadW (by rfl) 31 _ rfl 0 rfl B6.out (r.map bv) (take_all0 _) (.array 16 5) arr_dig rfl sr.out ?_))
      refine (K2.out _ _ _ _ RZ.out T.out).mono ?_
      rintro e v16 ⟨rfl, hb⟩
      replace B1 := Lib.hid (B1.out.below hb B1.out.lt)
      replace B2 := Lib.hid (B2.out.below hb B2.out.lt)
      replace B3 := Lib.hid (B3.out.below hb B3.out.lt)
      replace B5 := Lib.hid (B5.out.below hb B5.out.lt)
      replace B6 := Lib.hid (B6.out.below hb B6.out.lt)
      replace BQ := Lib.hid (BQ.out.below hb BQ.out.lt)
      replace R4 := Lib.hid (R4.out.keep hb)
      replace RX := Lib.hid (RX.out.keep hb)
      replace RY := Lib.hid (RY.out.keep hb)
      replace RZ := Lib.hid (RZ.out.keep hb)
      replace RW := Lib.hid (RW.out.keep hb)
      replace RM := Lib.hid (RM.out.keep hb)
      replace RP := Lib.hid (RP.out.keep hb)
      replace E := Lib.hid (E.out.trans (hb.mono E.out.size))
      replace T := Lib.hid (T.out.keep hb)
      clear hb
      go_wp2_with (first | (refine wpList_blk_loadW (by rfl) 31 _ rfl 0 rfl B1.out (a.map bv) (take_all0 _) (.array 16 5) arr_dig rfl sa.out ?_) | (refine wpList_blk_loadW (by rfl) 31 _ rfl 0 rfl (B1.out.alloc _) (a.map bv) (take_all0 _) (.array 16 5) arr_dig rfl sa.out ?_) | (refine wpList_blk_loadW (by rfl) 31 _ rfl 0 rfl ((B1.out.alloc _).alloc _) (a.map bv) (take_all0 _) (.array 16 5) arr_dig rfl sa.out ?_) | (refine wpList_blk_loadW (by rfl) 31 _ rfl 0 rfl B2.out (b.map bv) (take_all0 _) (.array 16 5) arr_dig rfl sb.out ?_) | (refine wpList_blk_loadW (by rfl) 31 _ rfl 0 rfl (B2.out.alloc _) (b.map bv) (take_all0 _) (.array 16 5) arr_dig rfl sb.out ?_) | (refine wpList_blk_loadW (by rfl) 31 _ rfl 0 rfl ((B2.out.alloc _).alloc _) (b.map bv) (take_all0 _) (.array 16 5) arr_dig rfl sb.out ?_) | (refine wpList_blk_loadW (by rfl) 31 _ rfl 0 rfl B3.out (c.map bv) (take_all0 _) (.array 16 5) arr_dig rfl sc.out ?_) | (refine wpList_blk_loadW (by rfl) 31 _ rfl 0 rfl (B3.out.alloc _) (c.map bv) (take_all0 _) (.array 16 5) arr_dig rfl sc.out ?_) | (refine wpList_blk_loadW (by rfl) 31 _ rfl 0 rfl ((B3.out.alloc _).alloc _) (c.map bv) (take_all0 _) (.array 16 5) arr_dig rfl sc.out ?_) | (refine wpList_blk_loadW (by rfl) 31 _ rfl 0 rfl B5.out (p.map bv) (take_all0 _) (.array 16 5) arr_dig rfl sp.out ?_) | (refine wpList_blk_loadW (by rfl) 31 _ rfl 0 rfl (B5.out.alloc _) (p.map bv) (take_all0 _) (.array 16 5) arr_dig rfl sp.out ?_) | (refine wpList_blk_loadW (by rfl) 31 _ rfl 0 rfl ((B5.out.alloc _).alloc _) (p.map bv) (take_all0 _) (.array 16 5) arr_dig rfl sp.out ?_) | (refine wpList_blk_loadW (by rfl) 31 _ rfl 0 rfl B6.out (r.map bv) (take_all0 _) (.array 16 5) arr_dig rfl sr.out ?_) | (refine wpList_blk_loadW (by rfl) 31 _ rfl 0 rfl (B6.out.alloc _) (r.map bv) (take_all0 _) (.array 16 5) arr_dig rfl sr.out ?_) | (refine wpList_blk_loadW (by rfl) 31 _ rfl 0 rfl ((B6.out.alloc _).alloc _) (r.map bv) (take_all0 _) (.array 16 5) arr_dig rfl sr.out ?_) | (refine step_dgs (by rfl) 2 _ rfl [a, c] rfl (d16_two za'.out zc'.out) (by simp) (by simp) (by simp only [List.map_toArray, List.map_cons, List.map_nil]; rfl) ?_))
      generalize hgu : (v16.alloc _).alloc _ = s16
      have hb : Below v16.heap.size v16 s16 := by rw [← hgu]; exact ((Below.refl _ _).alloc (Nat.le_refl _) _).alloc (by simp) _
      have IS : Hid (IV s16 (some ⟨v16.heap.size, 0, none⟩) 2 2 [0, 2]) := by rw [← hgu]; exact Blk.ivs (t := 3) ((Blk.new _ [.int .i64 0, .int .i64 2] _).alloc _) rfl (by intro p hp; simp only [List.mem_cons, List.not_mem_nil, or_false] at hp; rcases hp with rfl | rfl <;> (unfold Wm.Fits; omega))
      have FS : Hid (DV s16 (some ⟨v16.heap.size + 1, 0, none⟩) 2 2 [a, c]) := by rw [← hgu]; exact Blk.dv ((Blk.new _ _ _).at (by simp)) (d16_two za'.out zc'.out) rfl (by omega)
      clear hgu
      replace B1 := Lib.hid (B1.out.below hb B1.out.lt)
      replace B2 := Lib.hid (B2.out.below hb B2.out.lt)
      replace B3 := Lib.hid (B3.out.below hb B3.out.lt)
      replace B5 := Lib.hid (B5.out.below hb B5.out.lt)
      replace B6 := Lib.hid (B6.out.below hb B6.out.lt)
      replace BQ := Lib.hid (BQ.out.below hb BQ.out.lt)
      replace R4 := Lib.hid (R4.out.keep hb)
      replace RX := Lib.hid (RX.out.keep hb)
      replace RY := Lib.hid (RY.out.keep hb)
      replace RZ := Lib.hid (RZ.out.keep hb)
      replace RW := Lib.hid (RW.out.keep hb)
      replace RM := Lib.hid (RM.out.keep hb)
      replace RP := Lib.hid (RP.out.keep hb)
      replace E := Lib.hid (E.out.trans (hb.mono E.out.size))
      replace T := Lib.hid (T.out.keep hb)
      clear hb
      refine (K3.out _ _ _ _ _ _ _ _ _ _ IS.out FS.out RM.out T.out).mono ?_
      rintro e v17 ⟨rfl, hb⟩
      replace B1 := Lib.hid (B1.out.below hb B1.out.lt)
      replace B2 := Lib.hid (B2.out.below hb B2.out.lt)
      replace B3 := Lib.hid (B3.out.below hb B3.out.lt)
      replace B5 := Lib.hid (B5.out.below hb B5.out.lt)
      replace B6 := Lib.hid (B6.out.below hb B6.out.lt)
      replace BQ := Lib.hid (BQ.out.below hb BQ.out.lt)
      replace R4 := Lib.hid (R4.out.keep hb)
      replace RX := Lib.hid (RX.out.keep hb)
      replace RY := Lib.hid (RY.out.keep hb)
      replace RZ := Lib.hid (RZ.out.keep hb)
      replace RW := Lib.hid (RW.out.keep hb)
      replace RM := Lib.hid (RM.out.keep hb)
      replace RP := Lib.hid (RP.out.keep hb)
      replace E := Lib.hid (E.out.trans (hb.mono E.out.size))
      replace T := Lib.hid (T.out.keep hb)
      clear hb
      clear IS FS
      go_wp2_with (first | (refine wpList_blk_loadW (by rfl) 31 _ rfl 0 rfl B1.out (a.map bv) (take_all0 _) (.array 16 5) arr_dig rfl sa.out ?_) | (refine wpList_blk_loadW (by rfl) 31 _ rfl 0 rfl B2.out (b.map bv) (take_all0 _) (.array 16 5) arr_dig rfl sb.out ?_) | (refine wpList_blk_loadW (by rfl) 31 _ rfl 0 rfl B3.out (c.map bv) (take_all0 _) (.array 16 5) arr_dig rfl sc.out ?_) | (refine wpList_blk_loadW (by rfl) 31 _ rfl 0 rfl B5.out (p.map bv) (take_all0 _) (.array 16 5) arr_dig rfl sp.out ?_) | (refine wpList_blk_loadW (by rfl) 31 _ rfl 0 rfl B6.out (r.map bv) (take_all0 _) (.array 16 5) arr_dig rfl sr.out ?_))
      refine (K4.out _ _ _ _ RY.out T.out).mono ?_
      rintro e v18 ⟨rfl, hb⟩
      replace B1 := Lib.hid (B1.out.below hb B1.out.lt)
      replace B2 := Lib.hid (B2.out.below hb B2.out.lt)
      replace B3 := Lib.hid (B3.out.below hb B3.out.lt)
      replace B5 := Lib.hid (B5.out.below hb B5.out.lt)
      replace B6 := Lib.hid (B6.out.below hb B6.out.lt)
      replace BQ := Lib.hid (BQ.out.below hb BQ.out.lt)
      replace R4 := Lib.hid (R4.out.keep hb)
      replace RX := Lib.hid (RX.out.keep hb)
      replace RY := Lib.hid (RY.out.keep hb)
      replace RZ := Lib.hid (RZ.out.keep hb)
      replace RW := Lib.hid (RW.out.keep hb)
      replace RM := Lib.hid (RM.out.keep hb)
      replace RP := Lib.hid (RP.out.keep hb)
      replace E := Lib.hid (E.out.trans (hb.mono E.out.size))
      replace T := Lib.hid (T.out.keep hb)
      clear hb
      have c0 := BQ.out.cell (j := 0) rfl
      have c1 := BQ.out.cell (j := 1) rfl
      go_wp2_with (first | (refine wpList_blk_loadW (by rfl) 31 _ rfl 0 rfl B1.out (a.map bv) (take_all0 _) (.array 16 5) arr_dig rfl sa.out ?_) | (refine wpList_blk_loadW (by rfl) 31 _ rfl 0 rfl B2.out (b.map bv) (take_all0 _) (.array 16 5) arr_dig rfl sb.out ?_) | (refine wpList_blk_loadW (by rfl) 31 _ rfl 0 rfl B3.out (c.map bv) (take_all0 _) (.array 16 5) arr_dig rfl sc.out ?_) | (refine wpList_blk_loadW (by rfl) 31 _ rfl 0 rfl B5.out (p.map bv) (take_all0 _) (.array 16 5) arr_dig rfl sp.out ?_) | (refine wpList_blk_loadW (by rfl) 31 _ rfl 0 rfl B6.out (r.map bv) (take_all0 _) (.array 16 5) arr_dig rfl sr.out ?_) | (refine step_dgs (by rfl) 2 _ rfl [p, c] rfl (d16_two zp'.out zc'.out) (by simp) (by simp) (by simp only [List.map_toArray, List.map_cons, List.map_nil]; rfl) ?_))
      generalize hgu : v18.alloc _ = s18
      have hb : Below v18.heap.size v18 s18 := by rw [← hgu]; exact (Below.refl _ _).alloc (Nat.le_refl _) _
      have RS : Hid (DV s18 (some ⟨v18.heap.size, 0, none⟩) 2 2 [p, c]) := by rw [← hgu]; exact Blk.dv (Blk.new _ _ _) (d16_two zp'.out zc'.out) rfl (by omega)
      clear hgu
      replace B1 := Lib.hid (B1.out.below hb B1.out.lt)
      replace B2 := Lib.hid (B2.out.below hb B2.out.lt)
      replace B3 := Lib.hid (B3.out.below hb B3.out.lt)
      replace B5 := Lib.hid (B5.out.below hb B5.out.lt)
      replace B6 := Lib.hid (B6.out.below hb B6.out.lt)
      replace BQ := Lib.hid (BQ.out.below hb BQ.out.lt)
      replace R4 := Lib.hid (R4.out.keep hb)
      replace RX := Lib.hid (RX.out.keep hb)
      replace RY := Lib.hid (RY.out.keep hb)
      replace RZ := Lib.hid (RZ.out.keep hb)
      replace RW := Lib.hid (RW.out.keep hb)
      replace RM := Lib.hid (RM.out.keep hb)
      replace RP := Lib.hid (RP.out.keep hb)
      replace E := Lib.hid (E.out.trans (hb.mono E.out.size))
      replace T := Lib.hid (T.out.keep hb)
      clear hb
      refine (SM.out _ _ _ _ _ _ _ [p, c] [p, c] RP.out RS.out (by rw [RP.out.len]; simp) rfl).mono ?_
      rintro e v19 ⟨rfl, hb⟩
      replace B1 := Lib.hid (B1.out.below hb B1.out.lt)
      replace B2 := Lib.hid (B2.out.below hb B2.out.lt)
      replace B3 := Lib.hid (B3.out.below hb B3.out.lt)
      replace B5 := Lib.hid (B5.out.below hb B5.out.lt)
      replace B6 := Lib.hid (B6.out.below hb B6.out.lt)
      replace BQ := Lib.hid (BQ.out.below hb BQ.out.lt)
      replace R4 := Lib.hid (R4.out.keep hb)
      replace RX := Lib.hid (RX.out.keep hb)
      replace RY := Lib.hid (RY.out.keep hb)
      replace RZ := Lib.hid (RZ.out.keep hb)
      replace RW := Lib.hid (RW.out.keep hb)
      replace RM := Lib.hid (RM.out.keep hb)
      replace RP := Lib.hid (RP.out.keep hb)
      replace E := Lib.hid (E.out.trans (hb.mono E.out.size))
      replace T := Lib.hid (T.out.keep hb)
      clear hb
      clear RS
      go_wp2_with fail
      go_ret
      exact ⟨by first | rfl | (go_simp; done), E.out⟩
end Go.Proofs.YtlgokfgiemaklaaDoor
