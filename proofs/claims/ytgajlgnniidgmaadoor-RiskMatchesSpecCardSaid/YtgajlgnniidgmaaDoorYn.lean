/-
  Stage 12 (risk), the specification: Millionths.
-/
import Derived.Test.YtgajlgnniidgmaaDoorYzc
namespace Go.Proofs.YtgajlgnniidgmaaDoor
set_option linter.unusedVariables false
set_option linter.unusedSimpArgs false
open Go.RowKit Go.Maps

/-- One digit more. -/
theorem digit12 {l t k o r : Nat} (ht : 0 < t) (hI : l * 10 ^ k = o * t + r) (hr : r < t) (ht9 : t ≤ 68719476736) :
    l * 10 ^ (k + 1) = (o * 10 + r * 10 / t) * t + r * 10 % t ∧ r * 10 % t < t := by
  refine ⟨?_, Nat.mod_lt _ ht⟩
  have h1 := Nat.div_add_mod (r * 10) t
  rw [Nat.mul_comm t] at h1
  rw [Nat.pow_succ, ← Nat.mul_assoc, hI, Nat.add_mul, Nat.add_mul, Nat.mul_right_comm o t 10, Nat.add_assoc, h1]
theorem digit_end12 {l t o r : Nat} (ht : 0 < t) (hI : l * 10 ^ 6 = o * t + r) (hr : r < t) : milN l t = o + (if r = 0 then 0 else 1) := by
  unfold milN
  have e : l * 1000000 = o * t + r := hI
  have h1 : l * 1000000 / t = o := by
    rw [e, Nat.mul_comm, Nat.mul_add_div ht, Nat.div_eq_of_lt hr, Nat.add_zero]
  have h2 : l * 1000000 % t = r := by
    rw [e, Nat.mul_comm, Nat.mul_add_mod, Nat.mod_eq_of_lt hr]
  rw [h1, h2]
theorem digit_rng12 {l t k o r : Nat} (ht : 0 < t) (hl : l ≤ t) (hk : k ≤ 6) (hI : l * 10 ^ k = o * t + r) : o ≤ 1000000 := by
  have h1 : l * 10 ^ k ≤ t * 10 ^ k := Nat.mul_le_mul_right _ hl
  have h2 : (10 : Nat) ^ k ≤ 10 ^ 6 := Nat.pow_le_pow_right (by omega) hk
  have h3 : t * 10 ^ k ≤ t * 1000000 := Nat.mul_le_mul_left _ h2
  have h4 : o * t ≤ t * 1000000 := by omega
  rw [Nat.mul_comm] at h4
  exact Nat.le_of_mul_le_mul_left h4 ht
theorem digit_ints12 {o r t : Nat} (ht : 0 < t) (ho : o ≤ 1000000) (hr : r < t) (ht9 : t ≤ 68719476736) : ∃ r10 o10 q o2 r2 : Nat, (r : Int) * 10 = (r10 : Int) ∧ IntKind.i64.wrap (r10 : Int) = (r10 : Int) ∧ (o : Int) * 10 = (o10 : Int) ∧ IntKind.i64.wrap (o10 : Int) = (o10 : Int) ∧
    (r10 : Int) / (t : Int) = (q : Int) ∧ Int.tdiv (r10 : Int) (t : Int) = (q : Int) ∧ wrap64 (q : Int) = (q : Int) ∧ (o10 : Int) + (q : Int) = (o2 : Int) ∧ IntKind.i64.wrap (o2 : Int) = (o2 : Int) ∧ (r10 : Int) % (t : Int) = (r2 : Int) ∧ Int.tmod (r10 : Int) (t : Int) = (r2 : Int) ∧ IntKind.i64.wrap (r2 : Int) = (r2 : Int) ∧
    o2 = o * 10 + r * 10 / t ∧ r2 = r * 10 % t := by
  have hq : r * 10 / t ≤ r * 10 := Nat.div_le_self _ _
  have hm : r * 10 % t < t := Nat.mod_lt _ ht
  refine ⟨r * 10, o * 10, r * 10 / t, o * 10 + r * 10 / t, r * 10 % t, by omega, ?_, by omega, ?_, (Int.natCast_ediv _ _).symm, ?_, ?_, by omega, ?_, (Int.natCast_emod _ _).symm, ?_, ?_, rfl, rfl⟩
  · rw [IntKind.wrap_i64]; omega
  · rw [IntKind.wrap_i64]; omega
  · rw [Int.tdiv_eq_ediv_of_nonneg (Int.natCast_nonneg _)]; exact (Int.natCast_ediv _ _).symm
  · generalize r * 10 / t = q at *
    unfold wrap64; omega
  · generalize r * 10 / t = q at *
    rw [IntKind.wrap_i64]; omega
  · rw [Int.tmod_eq_emod_of_nonneg (Int.natCast_nonneg _)]; exact (Int.natCast_emod _ _).symm
  · generalize r * 10 % t = q at *
    rw [IntKind.wrap_i64]; omega
theorem first_ints12 {l t : Nat} (ht : 0 < t) (hl : l ≤ t) (ht9 : t ≤ 68719476736) : ∃ o r : Nat, (l : Int) / (t : Int) = (o : Int) ∧ wrap64 (o : Int) = (o : Int) ∧ (l : Int) % (t : Int) = (r : Int) ∧ IntKind.i64.wrap (r : Int) = (r : Int) ∧ l * 10 ^ 0 = o * t + r ∧ r < t := by
  have hq : l / t ≤ l := Nat.div_le_self _ _
  have hm : l % t < t := Nat.mod_lt _ ht
  refine ⟨l / t, l % t, (Int.natCast_ediv _ _).symm, ?_, (Int.natCast_emod _ _).symm, ?_, ?_, hm⟩
  · generalize l / t = q at *
    unfold wrap64; omega
  · generalize l % t = q at *
    rw [IntKind.wrap_i64]; omega
  · rw [Nat.pow_zero, Nat.mul_one, Nat.mul_comm]
    exact (Nat.div_add_mod l t).symm

set_option maxRecDepth 100000 in
set_option maxHeartbeats 4000000 in
theorem refMil12_any {B : Nat} (p : Prl) (w : World) (hM : PerM w B p) (hsh : ∀ g ∈ p.Gs, g.length ≤ 1000000) (h9 : p.ch.length ≤ 9) :
    Calls Tryd.prog 21 #[prv p] w fun e w' => e = .returned (.agg #[.int .i64 (if chkP p = 0 then ((milN (lsum p (2 ^ p.ch.length)).toNat (16 ^ p.ch.length) : Nat) : Int) else 0), .int .i64 (chkP p)]) ∧ Below w.heap.size w w' := by
  have hp : Hid (prv p = .agg #[.int .i64 p.D, .slice p.A p.n p.c, .int .i64 p.G, .slice p.A1 p.n1 p.c1, .slice p.A2 p.n2 p.c2]) := prv_eq12 p
  have hn2 : Hid (p.n2 = p.ch.length) := hM.n2
  obtain ⟨W1, hW1⟩ : ∃ W1, W1 = (w.alloc (.cells #[.int .i64 p.D, .slice p.A p.n p.c, .int .i64 p.G, .slice p.A1 p.n1 p.c1, .slice p.A2 p.n2 p.c2] 27)).alloc (.cells #[.int .i64 0, .int .i64 0] 38) := ⟨_, rfl⟩
  have E : Hid (Below w.heap.size w W1) := by show Below _ _ _; rw [hW1]; exact ((Below.refl _ _).alloc (Nat.le_refl _) _).alloc (by simp) _
  have X : Hid (Blk W1 w.heap.size [.int .i64 p.D, .slice p.A p.n p.c, .int .i64 p.G, .slice p.A1 p.n1 p.c1, .slice p.A2 p.n2 p.c2] 27) := by show Blk _ _ _ _; rw [hW1]; exact (Blk.new _ [_, _, _, _, _] _).alloc _
  have Y : Hid (Blk W1 (w.heap.size + 1) [.int .i64 0, .int .i64 0] 38) := by show Blk _ _ _ _; rw [hW1]; exact (Blk.new _ [_, _] _).at (by simp)
  have M := Lib.hid (hM.keep E.out)
  have hW' := Lib.hid hW1
  have hsz := Lib.hid size_prl
  have hun : Hid (Tryd.prog.underlying 27 = _) := Tryd.underlying27
  have huc : Hid (Tryd.prog.underlying 38 = _) := Tryd.underlying38
  obtain ⟨Z, hZ⟩ : ∃ z, z = chkP p := ⟨_, rfl⟩
  obtain ⟨Nl, hNl⟩ : ∃ n0 : Int, n0 = (if Z = 0 then lsum p (2 ^ p.ch.length) else 0) := ⟨_, rfl⟩
  have CL : Hid (∀ W, PerM W B p → Calls Tryd.prog 18 #[prv p] W fun e w' => e = .returned (.agg #[.int .i64 Nl, .int .i64 Z]) ∧ Below W.heap.size W w') := fun W m => by rw [hNl, hZ]; exact refLoss12_any p W m hsh
  obtain ⟨V, hV⟩ : ∃ V : Int, V = (if Z = 0 then ((milN (lsum p (2 ^ p.ch.length)).toNat (16 ^ p.ch.length) : Nat) : Int) else 0) := ⟨_, rfl⟩
  rw [← hZ, ← hV]
  have hZH := Lib.hid hZ
  have hNlH := Lib.hid hNl
  have hVH := Lib.hid hV
  have h9H := Lib.hid h9
  clear hM hW1 hZ hNl hV hsh h9
  rw [hp.out]
  go_enter Tryd.func21, Tryd.ntmps21
  go_upto_region 1 with fail
  generalize hg : (w.alloc _).alloc _ = Wg
  have hgW : W1 = Wg := by rw [← hg, hW'.out]
  clear hg hW'
  subst hgW
  have CT := CL.out W1 M.out
  rw [hp.out] at CT
  go_wp2_with (first | (refine wpList_blk_load rfl 27 _ rfl 0 rfl X.out [_, _, _, _, _] rfl _ hun.out rfl hsz.out ?_) | fail)
  refine CT.mono ?_
  rintro e w4 ⟨rfl, hb⟩
  clear CT CL
  replace X := Lib.hid (X.out.below hb X.out.lt)
  replace Y := Lib.hid (Y.out.below hb Y.out.lt)
  replace E : Hid (Below w.heap.size w w4) := E.out.trans (hb.mono E.out.size)
  clear hb M
  have Nx : Hid (Blk (w4.alloc (.cells #[.int .i64 Nl, .int .i64 Z] 38)) w4.heap.size [.int .i64 Nl, .int .i64 Z] 38) := Blk.new _ [_, _] _
  have hb : Below w4.heap.size w4 (w4.alloc (.cells #[.int .i64 Nl, .int .i64 Z] 38)) := (Below.refl _ _).alloc (Nat.le_refl _) _
  replace X := Lib.hid (X.out.below hb X.out.lt)
  replace Y := Lib.hid (Y.out.below hb Y.out.lt)
  replace E : Hid (Below w.heap.size w (w4.alloc (.cells #[.int .i64 Nl, .int .i64 Z] 38))) := E.out.trans (hb.mono E.out.size)
  clear hb
  by_cases h0 : Z = 0
  rotate_left
  · have t0 : (Z == 0) = false := by simpa using h0
    have hV0 : Hid (V = 0) := by show V = 0; rw [hVH.out, if_neg h0]
    have hN0 : Hid (Nl = 0) := by show Nl = 0; rw [hNlH.out, if_neg h0]
    go_wp2_with (refine wpList_row_store rfl 38 _ _ rfl [.int .i64 Nl, .int .i64 Z] rfl rfl Y.out size_cnt12 rfl (two_one12 _ _) ?_; intro w9 hw9 ho9)
    exact bodyPost_ret (ret_blk rfl _ w9 (g := w.heap.size + 1) rfl hw9.out _ huc.out rfl size_cnt12) rfl ⟨(by rw [hV0.out, hN0.out]), E.out.trans (ho9.below (by omega))⟩
  have OK := Lib.hid (chkP_ok.1 (hZH.out.symm.trans h0))
  obtain ⟨l, hl1, hl2, hl3⟩ := lsum_nat OK.out h9H.out
  obtain ⟨t, hte⟩ : ∃ t, t = 16 ^ p.ch.length := ⟨_, rfl⟩
  have htp : 0 < t := by rw [hte]; exact Nat.pow_pos (by omega)
  have ht9 : t ≤ 68719476736 := by rw [hte]; exact (Nat.pow_le_pow_right (by omega) h9H.out : 16 ^ p.ch.length ≤ 16 ^ 9)
  have hNl1 : Nl = (l : Int) := by rw [hNlH.out, if_pos h0, hl1]
  have hV1 : Hid (V = (milN l t : Nat)) := by show V = _; rw [hVH.out, if_pos h0, hl1, Int.toNat_natCast, hte]
  rw [← hte] at hl2
  have CP := refPower_any p.n2
  rw [show 16 ^ p.n2 = t by rw [hte, hn2.out]] at CP
  have hn9 : p.n2 ≤ 9 := by rw [hn2.out]; exact h9H.out
  subst hNl1
  subst h0
  clear hte hVH hNlH hZH hl1
  have p4 := X.out.cell (j := 4) rfl
  have htz : ¬ (t : Int) = 0 := by omega
  have htz2 : ((t : Int) == 0) = false := by simp only [beq_eq_false_iff_ne, ne_eq]; omega
  go_wp2_with fail
  generalize w4.alloc (.cells #[.int .i64 (l : Int), .int .i64 0] 38) = w5 at *
  generalize w4.heap.size = gx at *
  refine (CP w5 (by omega)).mono ?_
  rintro e wz ⟨rfl, rfl⟩
  clear CP p4
  obtain ⟨o0, r0, e1, e2, e3, e4, hI0, hr0⟩ := first_ints12 htp hl2 ht9
  have n0 := Nx.out.cell (j := 0) rfl
  have hI0H := Lib.hid hI0
  have hr0H := Lib.hid hr0
  have e1H := Lib.hid e1
  have e3H := Lib.hid e3
  clear e1 e3 hI0 hr0
  go_upto_region 7 with fail
  rw [e1H.out, e3H.out, e2]
  clear n0 e2 e4 e1H e3H
  have ho0 : o0 ≤ 1000000 := digit_rng12 htp hl2 (by omega) hI0H.out
  have hr0' := hr0H.out
  go_wp2_with fail
  go_loopw [5, 6, 7] (fun a b i wr => ∃ k o r : Nat, k ≤ 6 ∧ i = .int .i64 k ∧ a = .int .i64 o ∧ b = .int .i64 r ∧ Hid (l * 10 ^ k = o * t + r) ∧ r < t ∧ o ≤ 1000000 ∧ wr = wz) (fun _ _ i _ => 6 - (intOf i).toNat)
  case atStart => exact ⟨0, o0, r0, by omega, rfl, rfl, rfl, hI0H, hr0', ho0, rfl⟩
  case round =>
    obtain ⟨k, o, r, hk, rfl, rfl, rfl, hI, hr, ho, rfl⟩ := hrel
    clear hI0H hr0H hr0' ho0
    by_cases hlt : k < 6
    · have tk : (k : Int) < 6 := by omega
      obtain ⟨r10, o10, qq, o2, r2, d1, d2, d3, d4, d5, d6, d7, d8, d9, d10, d11, d12, ho2, hr2⟩ := digit_ints12 htp ho hr ht9
      have hn := digit12 htp hI.out hr ht9
      rw [← ho2, ← hr2] at hn
      have hI2 := Lib.hid hn.1
      have hr2' := hn.2
      have ho2' : o2 ≤ 1000000 := digit_rng12 htp hl2 (by omega) hn.1
      clear ho2 hr2 hn hI
      go_wp2_with fail
      go_roundw
      case rel => exact ⟨k + 1, o2, r2, by omega, by go_num, by first | rfl | (go_simp; done), by first | rfl | (go_simp; done), hI2, hr2', ho2', by first | rfl | trivial⟩
      case measure => simp [intOf]; omega
    · have tk : ¬ (k : Int) < 6 := by omega
      obtain rfl : k = 6 := by omega
      have hend := digit_end12 htp hI.out hr
      rw [hend] at hV1
      clear hI hend
      by_cases hz : r = 0
      · have tr : ¬ (r : Int) > 0 := by omega
        have hV2 : Hid (V = (o : Int)) := by show V = _; rw [hV1.out, if_pos hz]; rfl
        clear hz hV1
        go_wp2_with (refine wpList_row_store rfl 38 _ _ rfl [.int .i64 o, .int .i64 0] rfl rfl Y.out size_cnt12 rfl (two_one12 _ _) ?_; intro w9 hw9 ho9)
        exact bodyPost_ret (ret_blk rfl _ w9 (g := w.heap.size + 1) rfl hw9.out _ huc.out rfl size_cnt12) rfl ⟨(by rw [hV2.out]), E.out.trans (ho9.below (by omega))⟩
      · have tr : (r : Int) > 0 := by omega
        obtain ⟨o1, ho1⟩ : ∃ o1, o1 = o + 1 := ⟨_, rfl⟩
        have hV2 : Hid (V = (o1 : Int)) := by show V = _; rw [hV1.out, if_neg hz, ho1]
        have eo : (o : Int) + 1 = (o1 : Int) := by omega
        have fo : IntKind.i64.wrap (o1 : Int) = (o1 : Int) := by rw [IntKind.wrap_i64]; omega
        clear hz hV1 ho1
        go_wp2_with (refine wpList_row_store rfl 38 _ _ rfl [.int .i64 o1, .int .i64 0] rfl rfl Y.out size_cnt12 rfl (two_one12 _ _) ?_; intro w9 hw9 ho9)
        exact bodyPost_ret (ret_blk rfl _ w9 (g := w.heap.size + 1) rfl hw9.out _ huc.out rfl size_cnt12) rfl ⟨(by rw [hV2.out]), E.out.trans (ho9.below (by omega))⟩
end Go.Proofs.YtgajlgnniidgmaaDoor
