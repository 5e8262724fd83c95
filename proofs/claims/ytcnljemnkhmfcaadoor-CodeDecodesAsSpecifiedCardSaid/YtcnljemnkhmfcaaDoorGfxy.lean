/-
  Contracts of stage 4: the reference's Sum, Scale, Combine. Contracts of stage 4: the reference's Combine.
-/
import Derived.Test.YtcnljemnkhmfcaaDoorGfw
import Derived.Test.YtcnljemnkhmfcaaDoorGfr
namespace Go.Proofs.YtcnljemnkhmfcaaDoor
set_option linter.unusedVariables false
set_option linter.unusedSimpArgs false
open Go.RowKit

namespace Gf
theorem vsum_get (a b : List UInt8) (k : Nat) (h : k < max a.length b.length) : (vsum a b)[k]? = some (a.getD k 0 ^^^ b.getD k 0) := by
  unfold vsum
  rw [List.getElem?_map, List.getElem?_range h]
  rfl
theorem take_next {α : Type} {l : List α} {k : Nat} {x : α} (h : l[k]? = some x) : l.take (k + 1) = l.take k ++ [x] := by
  obtain ⟨h1, e1⟩ := List.getElem?_eq_some_iff.1 h
  rw [List.take_succ_eq_append_getElem h1, e1]
/-- The sum of multiples, one after the other. -/
def acc (coef : List UInt8) (parts : List (List UInt8)) (k : Nat) : List UInt8 := ((List.zip coef parts).take k).foldl (fun s p => vsum s (scale p.1 p.2)) []
theorem getD_fold (L : List (UInt8 × List UInt8)) (i : Nat) : ∀ s : List UInt8, (L.foldl (fun s p => vsum s (scale p.1 p.2)) s).getD i 0 = L.foldl (fun s p => s ^^^ mul p.1 (p.2.getD i 0)) (s.getD i 0) := by
  induction L with
  | nil => intro s; rfl
  | cons p L ih =>
    intro s
    rw [List.foldl_cons, ih, List.foldl_cons, getD_vsum, getD_scale]
theorem len_fold (n : Nat) (L : List (UInt8 × List UInt8)) (h : ∀ p ∈ L, p.2.length = n) : ∀ s : List UInt8, s.length ≤ n → (L.foldl (fun s p => vsum s (scale p.1 p.2)) s).length = if L = [] then s.length else n := by
  induction L with
  | nil => intro s _; rfl
  | cons p L ih =>
    intro s hs
    have hp := h p (List.mem_cons_self ..)
    have hv : (vsum s (scale p.1 p.2)).length = n := by rw [vsum_len, scale_len, hp]; omega
    rw [List.foldl_cons, ih (fun q hq => h q (List.mem_cons_of_mem _ hq)) _ (by omega), hv]
    simp
theorem acc_next (coef : List UInt8) (parts : List (List UInt8)) (k : Nat) (c : UInt8) (p : List UInt8) (hc : coef[k]? = some c) (hp : parts[k]? = some p) : acc coef parts (k + 1) = vsum (acc coef parts k) (scale c p) := by
  have hz : (List.zip coef parts)[k]? = some (c, p) := by rw [List.getElem?_zip_eq_some]; exact ⟨hc, hp⟩
  unfold acc
  rw [take_next hz, List.foldl_append]
  rfl
theorem mem_take_zip {coef : List UInt8} {parts : List (List UInt8)} {k : Nat} {p : UInt8 × List UInt8} (h : p ∈ (List.zip coef parts).take k) : p.2 ∈ parts.take k := by
  obtain ⟨i, hi⟩ := List.getElem?_of_mem h
  rw [List.getElem?_take] at hi
  split at hi
  · rename_i hk
    rw [List.getElem?_zip_eq_some] at hi
    exact List.mem_of_getElem? (i := i) (by rw [List.getElem?_take_of_lt hk]; exact hi.2)
  · cases hi
theorem acc_len (coef : List UInt8) (parts : List (List UInt8)) (k n : Nat) (h : ∀ x ∈ parts.take k, x.length = n) : (acc coef parts k).length ≤ n := by
  unfold acc
  rw [len_fold n _ (fun p hp => h _ (mem_take_zip hp)) [] (Nat.zero_le _)]
  split <;> simp
theorem acc_all (coef : List UInt8) (parts : List (List UInt8)) (h : Fit coef parts) : acc coef parts parts.length = comb coef parts := by
  obtain ⟨hl, ha⟩ := h
  have ht : (List.zip coef parts).take parts.length = List.zip coef parts := List.take_of_length_le (by rw [List.length_zip]; omega)
  unfold comb combN
  apply ext_getD
  · unfold acc
    rw [ht, len_fold (parts.headD []).length _ (fun p hp => ha _ (List.of_mem_zip hp).2) [] (Nat.zero_le _)]
    cases parts with
    | nil => simp
    | cons p ps =>
      cases coef with
      | nil => simp at hl
      | cons c cs => simp
  · intro i
    unfold acc
    rw [ht, getD_fold]
    rcases Nat.lt_or_ge i (parts.headD []).length with hi | hi
    · rw [List.getD_eq_getElem?_getD (l := List.map _ _), List.getElem?_map, List.getElem?_range hi]
      rfl
    · rw [List.getD_eq_getElem?_getD (l := List.map _ _), List.getElem?_eq_none (by simpa using hi)]
      have : ∀ (L : List (UInt8 × List UInt8)), (∀ p ∈ L, p.2.length ≤ i) → L.foldl (fun s p => s ^^^ mul p.1 (p.2.getD i 0)) 0 = 0 := fun L => by
        induction L with
        | nil => intro _; rfl
        | cons p L ih =>
          intro h
          have hp : p.2.getD i 0 = 0 := by rw [List.getD_eq_getElem?_getD, List.getElem?_eq_none (h p (List.mem_cons_self ..))]; rfl
          rw [List.foldl_cons, hp, mul_zero]
          exact ih fun q hq => h q (List.mem_cons_of_mem _ hq)
      exact this _ fun p hp => by rw [ha _ (List.of_mem_zip hp).2]; exact hi
end Gf

set_option maxRecDepth 100000 in
set_option maxHeartbeats 1000000 in
theorem at_any (s : List UInt8) (k : Nat) (w : World) : Calls Tryd.prog 82 #[sv s, .int .i64 k] w fun e w' => e = .returned (bv (s.getD k 0)) ∧ w = w' := by
  have hsz := bs_size s
  by_cases hk : k < s.length
  · obtain ⟨y, hy⟩ : ∃ y, s[k]? = some y := ⟨_, List.getElem?_eq_getElem hk⟩
    have gy := sv_get hy
    rw [getD_of hy]
    have tb : k < (bs s).size := by omega
    have tb' : (k : Int) < (bs s).size := by omega
    have t0 : 0 ≤ (k : Int) := by omega
    unfold sv
    generalize bs s = S at *
    clear hy hsz hk
    unfold bv
    go_enter Tryd.func82, Tryd.ntmps82
    go_wp2_with fail
    go_ret
    exact retv rfl
  · have h0 : s.getD k 0 = 0 := by rw [List.getD_eq_getElem?_getD, List.getElem?_eq_none (by omega)]; rfl
    rw [h0]
    have tb' : ¬ (k : Int) < (bs s).size := by omega
    unfold sv
    generalize bs s = S at *
    clear hsz hk h0
    unfold bv
    go_enter Tryd.func82, Tryd.ntmps82
    go_wp2_with fail
    go_ret
    exact retv rfl

set_option maxRecDepth 100000 in
set_option maxHeartbeats 1000000 in
theorem refSum_any (a b : List UInt8) (w : World) (ha : a.length ≤ 140737488355000) (hb : b.length ≤ 140737488355000) :
    Calls Tryd.prog 58 #[sv a, sv b] w fun e w' => e = .returned (sv (Gf.vsum a b)) ∧ Below w.heap.size w w' := by
  have sa := bs_size a
  have sb := bs_size b
  obtain ⟨n, hn⟩ : ∃ n, n = max a.length b.length := ⟨_, rfl⟩
  have hvl := Gf.vsum_len a b
  rw [← hn] at hvl
  have hvg : Hid (∀ k, k < n → (Gf.vsum a b)[k]? = some (a.getD k 0 ^^^ b.getD k 0)) := fun k hk => Gf.vsum_get a b k (by omega)
  have HA := Lib.hid (fun k W => at_any a k W)
  have HB := Lib.hid (fun k W => at_any b k W)
  have hmx : ∀ W : World, True := fun _ => trivial
  unfold sv at HA HB
  unfold sv
  generalize Gf.vsum a b = V at hvl hvg ⊢
  have hcase : ((bs a).size < (bs b).size ∧ n = (bs b).size) ∨ (¬ (bs a).size < (bs b).size ∧ n = (bs a).size) := by omega
  have hvl' := Lib.hid hvl
  have hn' : n ≤ 140737488355000 := by omega
  generalize bs a = A at *
  generalize bs b = B at *
  clear sa sb hn hvl ha hb hmx
  go_enter Tryd.func58, Tryd.ntmps58
  go_wp2_with fail
  go_loopw [5, 6] (fun v i wr => ∃ k : Nat, k ≤ n ∧ i = .int .i64 k ∧ OwnB wr w.heap.size v (V.take k) ∧ Below w.heap.size w wr) (fun _ i _ => n - (intOf i).toNat)
  case atStart => exact ⟨0, by omega, rfl, ownB_nil _ _, Below.refl _ _⟩
  case round =>
    obtain ⟨k, hk, rfl, ho, hbw⟩ := hrel
    have hsz := hbw.size
    rcases hcase with ⟨hc, hnn⟩ | ⟨hc, hnn⟩
    · by_cases hlt : k < n
      · have t : (k : Int) < (B.size : Int) := by omega
        have t' : k < B.size := by omega
        have H1 := Lib.hid (HA.out k wr)
        have H2 := Lib.hid (HB.out k wr)
        have hv := Lib.hid (hvg.out k hlt)
        have hx := u8_xor_bv (a.getD k 0) (b.getD k 0)
        generalize a.getD k 0 = x at H1 hv hx
        generalize b.getD k 0 = y at H2 hv hx
        generalize x ^^^ y = z at hv hx
        have hl : (V.take k).length ≤ 140737488355300 := by rw [List.length_take]; omega
        have htk := Lib.hid (Gf.take_next hv.out)
        unfold bv at H1 H2
        go_wp2_with fail
        refine H1.out.mono ?_
        rintro e w2 ⟨rfl, rfl⟩
        go_wp2_with fail
        refine H2.out.mono ?_
        rintro e w2 ⟨rfl, rfl⟩
        go_wp2_with (at_builtin; go_must (refine push_byte rfl _ _ rfl w.heap.size u5 (V.take k) z _ rfl rfl rfl ho hl hsz ?_); intro v' w1 ho1 hon1)
        go_roundw
        case rel => exact ⟨k + 1, by omega, by go_num, by rw [htk.out]; exact ho1, hbw.trans (hon1.below ho hsz)⟩
        case measure => simp [intOf]; omega
      · have t : ¬ (k : Int) < (B.size : Int) := by omega
        have t' : ¬ k < B.size := by omega
        have hkk : V.take k = V := List.take_of_length_le (by rw [hvl'.out]; omega)
        rw [hkk] at ho
        obtain ⟨AA, c, rfl, _, _, _, hrd⟩ := own_form ho
        have hcv := run_bytes_bs (P := Tryd.prog) wr 57 9 5 Tryd.underlying57 Tryd.underlying5 Tryd.underlying9 c hrd
        go_wp2_with fail
        go_ret
        exact ⟨rfl, hbw⟩
    · by_cases hlt : k < n
      · have t : (k : Int) < (A.size : Int) := by omega
        have t' : k < A.size := by omega
        have H1 := Lib.hid (HA.out k wr)
        have H2 := Lib.hid (HB.out k wr)
        have hv := Lib.hid (hvg.out k hlt)
        have hx := u8_xor_bv (a.getD k 0) (b.getD k 0)
        generalize a.getD k 0 = x at H1 hv hx
        generalize b.getD k 0 = y at H2 hv hx
        generalize x ^^^ y = z at hv hx
        have hl : (V.take k).length ≤ 140737488355300 := by rw [List.length_take]; omega
        have htk := Lib.hid (Gf.take_next hv.out)
        unfold bv at H1 H2
        go_wp2_with fail
        refine H1.out.mono ?_
        rintro e w2 ⟨rfl, rfl⟩
        go_wp2_with fail
        refine H2.out.mono ?_
        rintro e w2 ⟨rfl, rfl⟩
        go_wp2_with (at_builtin; go_must (refine push_byte rfl _ _ rfl w.heap.size u5 (V.take k) z _ rfl rfl rfl ho hl hsz ?_); intro v' w1 ho1 hon1)
        go_roundw
        case rel => exact ⟨k + 1, by omega, by go_num, by rw [htk.out]; exact ho1, hbw.trans (hon1.below ho hsz)⟩
        case measure => simp [intOf]; omega
      · have t : ¬ (k : Int) < (A.size : Int) := by omega
        have t' : ¬ k < A.size := by omega
        have hkk : V.take k = V := List.take_of_length_le (by rw [hvl'.out]; omega)
        rw [hkk] at ho
        obtain ⟨AA, c, rfl, _, _, _, hrd⟩ := own_form ho
        have hcv := run_bytes_bs (P := Tryd.prog) wr 57 9 5 Tryd.underlying57 Tryd.underlying5 Tryd.underlying9 c hrd
        go_wp2_with fail
        go_ret
        exact ⟨rfl, hbw⟩

set_option maxRecDepth 100000 in
set_option maxHeartbeats 1000000 in
theorem refScale_any (c : UInt8) (s : List UInt8) (w : World) (hs : s.length ≤ 140737488355000) :
    Calls Tryd.prog 59 #[bv c, sv s] w fun e w' => e = .returned (sv (Gf.scale c s)) ∧ Below w.heap.size w w' := by
  have sa := bs_size s
  have hvl := Gf.scale_len c s
  have hvg : Hid (∀ k x, s[k]? = some x → (Gf.scale c s)[k]? = some (Gf.mul c x)) := fun k x hk => by unfold Gf.scale; rw [List.getElem?_map, hk]; rfl
  have HM := Lib.hid (fun x W => refMul_any c x W)
  have hget := Lib.hid (fun k z => sv_get (l := s) (k := k) (z := z))
  have HL := Lib.hid sa
  have hvl' := Lib.hid hvl
  unfold bv at HM
  unfold sv bv
  generalize Gf.scale c s = V at hvl' hvg ⊢
  generalize bs s = S at HL hget sa
  clear hvl
  go_enter Tryd.func59, Tryd.ntmps59
  go_wp2_with fail
  go_loopw [5, 6] (fun v i wr => ∃ k : Nat, k ≤ s.length ∧ i = .int .i64 k ∧ OwnB wr w.heap.size v (V.take k) ∧ Below w.heap.size w wr) (fun _ i _ => s.length - (intOf i).toNat)
  case atStart => exact ⟨0, by omega, rfl, ownB_nil _ _, Below.refl _ _⟩
  case round =>
    obtain ⟨k, hk, rfl, ho, hbw⟩ := hrel
    have hsz := hbw.size
    by_cases hlt : k < s.length
    · have t : (k : Int) < (S.size : Int) := by rw [HL.out]; omega
      have t' : k < S.size := by rw [HL.out]; omega
      have t0 : 0 ≤ (k : Int) := by omega
      obtain ⟨x, hx⟩ : ∃ x, s[k]? = some x := ⟨_, List.getElem?_eq_getElem hlt⟩
      have gx := hget.out k x hx
      have hv := Lib.hid (hvg.out k x hx)
      have H1 := Lib.hid (HM.out x wr)
      generalize Gf.mul c x = z at hv H1
      have hl : (V.take k).length ≤ 140737488355300 := by rw [List.length_take]; omega
      have htk := Lib.hid (Gf.take_next hv.out)
      clear hx
      go_wp2_with fail
      refine H1.out.mono ?_
      rintro e w2 ⟨rfl, rfl⟩
      go_wp2_with (at_builtin; go_must (refine push_byte rfl _ _ rfl w.heap.size u5 (V.take k) z _ rfl rfl rfl ho hl hsz ?_); intro v' w1 ho1 hon1)
      go_roundw
      case rel => exact ⟨k + 1, by omega, by go_num, by rw [htk.out]; exact ho1, hbw.trans (hon1.below ho hsz)⟩
      case measure => simp [intOf]; omega
    · have t : ¬ (k : Int) < (S.size : Int) := by rw [HL.out]; omega
      have t' : ¬ k < S.size := by rw [HL.out]; omega
      have hkk : V.take k = V := List.take_of_length_le (by rw [hvl'.out]; omega)
      rw [hkk] at ho
      obtain ⟨AA, cc, rfl, _, _, _, hrd⟩ := own_form ho
      have hcv := run_bytes_bs (P := Tryd.prog) wr 57 9 5 Tryd.underlying57 Tryd.underlying5 Tryd.underlying9 cc hrd
      go_wp2_with fail
      go_ret
      exact ⟨rfl, hbw⟩
end Go.Proofs.YtcnljemnkhmfcaaDoor

namespace Go.Proofs.YtcnljemnkhmfcaaDoor
set_option linter.unusedVariables false
set_option linter.unusedSimpArgs false
open Go.RowKit

theorem size_comb : (Tryd.prog.info? 67).map (·.size) = some 2 := by kernel_rfl
theorem row_comb : ∃ d, Tryd.prog.underlying 67 = some d ∧ d.isRow = true := ⟨_, Tryd.underlying67, rfl⟩
/-- What Combine of the reference returns. -/
def cres (coef : List UInt8) (parts : List (List UInt8)) : List Value := if Gf.Fit coef parts then [sv (Gf.comb coef parts), .int .i64 0] else [sv [], .int .i64 1]
theorem two_one (S : ByteArray) (z : Int) : ∀ u ∈ [Value.string S, Value.int .i64 z], u.oneCell' = true := by
  intro u hu
  simp only [List.mem_cons, List.not_mem_nil, or_false] at hu
  rcases hu with rfl | rfl <;> rfl

set_option maxRecDepth 100000 in
set_option maxHeartbeats 2000000 in
theorem refCombine4_any (coef : List UInt8) (parts : List (List UInt8)) (A A' : Option Addr) (c c' : Nat) (w : World) (hl : parts.length ≤ 140737488351232) (hm : ∀ x ∈ parts, x.length ≤ 140737488355000)
    (hr : Rds w w.heap.size A (coef.map bv)) (hs : Rds w w.heap.size A' (parts.map sv)) :
    Calls Tryd.prog 37 #[.slice A coef.length c, .slice A' parts.length c'] w fun e w' => e = .returned (.agg (cres coef parts).toArray) ∧ Below w.heap.size w w' := by
  obtain ⟨dd, hdu, hdr⟩ := row_comb
  obtain ⟨W1, hW1⟩ : ∃ W1, W1 = w.alloc (.cells #[.string ⟨#[]⟩, .int .i64 0] 67) := ⟨_, rfl⟩
  have hB1 : Hid (Below w.heap.size w W1) := by show Below _ _ _; rw [hW1]; exact (Below.refl _ _).alloc (Nat.le_refl _) _
  have hK1 : Hid (Blk W1 w.heap.size [.string ⟨#[]⟩, .int .i64 0] 67) := by show Blk _ _ _ _; rw [hW1]; exact Blk.new _ [_, _] _
  have hs1 : W1.heap.size = w.heap.size + 1 := by rw [hW1]; simp
  have hW1' := Lib.hid hW1
  have hs1' := Lib.hid hs1
  have hm' := Lib.hid hm
  have hR := Lib.hid (rfl : cres coef parts = cres coef parts)
  have hdu' := Lib.hid hdu
  clear hm hW1 hs1 hdu
  by_cases hlen : coef.length = parts.length
  · have t : ((coef.length : Int) != (parts.length : Int)) = false := by simp; omega
    have hll : parts.length ≤ coef.length := by omega
    have hll2 : coef.length ≤ parts.length := by omega
    have hlen' := Lib.hid hlen
    clear hlen
    go_enter Tryd.func37, Tryd.ntmps37
    go_wp2_with fail
    generalize hg : w.alloc _ = Wg
    have hgW : W1 = Wg := by rw [← hg, hW1'.out]
    clear hg hW1'
    subst hgW
    go_loopw [5, 6] (fun v i wr => ∃ k : Nat, k ≤ parts.length ∧ i = .int .i64 k ∧ v = sv (Gf.acc coef parts k) ∧ Below W1.heap.size W1 wr ∧ ∀ x ∈ parts.take k, x.length = (parts.headD []).length) (fun _ i _ => parts.length - (intOf i).toNat)
    case atStart => exact ⟨0, by omega, rfl, rfl, Below.refl _ _, fun x hx => by cases hx⟩
    case round =>
      obtain ⟨k, hk, rfl, rfl, hbw, hall0⟩ := hrel
      have hall := Lib.hid hall0
      clear hall0
      have hsz := hbw.size
      have hbW : Below w.heap.size w wr := hB1.out.trans (hbw.mono hB1.out.size)
      have hbW' := Lib.hid hbW
      have hsw := hbW.size
      by_cases hlt : k < parts.length
      · have hlt2 : k < coef.length := by omega
        have hpos : 0 < parts.length := by omega
        obtain ⟨ad, hade, hadb, hca⟩ := (hr.below hbW).look (k := k) (u := bv coef[k]) (by simp [hlt2])
        obtain ⟨bd, hbde, hbdb, hcb⟩ := (hs.below hbW).look (k := k) (u := sv parts[k]) (by simp [hlt])
        obtain ⟨bd2, hbd2, _, hcb0⟩ := (hs.below hbW).look (k := 0) (u := sv parts[0]) (by simp [hpos])
        have hx : Hid (parts[k]? = some parts[k]) := List.getElem?_eq_getElem hlt
        have hy : Hid (coef[k]? = some coef[k]) := List.getElem?_eq_getElem hlt2
        have hh : Hid ((parts.headD []).length = parts[0].length) := by
          show _ = _
          rw [List.headD_eq_head?_getD, List.head?_eq_getElem?, List.getElem?_eq_getElem hpos]
          rfl
        have hacc := Lib.hid (Gf.acc_next coef parts k _ _ hy.out hx.out)
        have hal := Gf.acc_len coef parts k _ hall.out
        rw [hh.out] at hal
        have h0le := hm'.out parts[0] (List.getElem_mem hpos)
        have hkle := hm'.out parts[k] (List.getElem_mem hlt)
        generalize hc0 : coef[k] = xc at hca hacc hy
        generalize hpk : parts[k] = p at hcb hx hacc hkle
        generalize hp0 : parts[0] = p0 at hcb0 hh hal h0le
        have qb : ∀ W, Below wr.heap.size wr W → W.cell? (bd.add k) = some (sv p) := fun W hB => (hB.cell (by rw [add_block]; omega)).trans hcb
        have qb0 : ∀ W, Below wr.heap.size wr W → W.cell? bd = some (sv p0) := fun W hB => by
          have e0 : bd = bd2 := by rw [hbde] at hbd2; exact Option.some.inj hbd2
          have e1 : bd.add 0 = bd := by unfold Addr.add; simp
          rw [← e0, e1] at hcb0
          exact (hB.cell (by omega)).trans hcb0
        have qa : ∀ W, Below wr.heap.size wr W → W.cell? (ad.add k) = some (bv xc) := fun W hB => (hB.cell (by rw [add_block]; omega)).trans hca
        subst hade
        subst hbde
        clear hca hcb hcb0 hbd2 hc0 hpk hp0 hadb hbdb
        have sp := bs_size p
        have sp0 := bs_size p0
        have b1 : (k : Int) < (coef.length : Int) := by omega
        have b2 : (k : Int) < (parts.length : Int) := by omega
        have b3 : 0 < (parts.length : Int) := by omega
        have b4 : 0 ≤ (k : Int) := by omega
        by_cases he : p.length = p0.length
        · have t1 : (((bs p).size : Int) != ((bs p0).size : Int)) = false := by simp; omega
          have hn : Hid (∀ y ∈ parts.take (k + 1), y.length = (parts.headD []).length) := fun y hy => by
            rw [List.take_add_one, hx.out] at hy
            rcases List.mem_append.1 hy with h | h
            · exact hall.out y h
            · simp at h; subst h; rw [hh.out, he]
          have HSc := Lib.hid (fun W => refScale_any xc p W hkle)
          have hscl := Gf.scale_len xc p
          have HSu := Lib.hid (fun W => refSum_any (Gf.acc coef parts k) (Gf.scale xc p) W (by omega) (by omega))
          rw [← hacc.out] at HSu
          generalize Gf.scale xc p = X at HSc HSu
          generalize Gf.acc coef parts k = Y at HSu ⊢
          generalize hZ : Gf.acc coef parts (k + 1) = Z at HSu
          have hZ' := Lib.hid hZ
          unfold sv at HSc HSu qb qb0 ⊢
          generalize bs p = P at *
          generalize bs p0 = P0 at *
          clear hal h0le hkle he hscl hZ sp sp0 hacc
          have r1 : ∀ x : ExtOf wr.drew, x.world.cell? (bd.add k) = some (.string P) := fun x => qb _ (x.below (Nat.le_refl _))
          have r2 : ∀ x : ExtOf wr.drew, x.world.cell? bd = some (.string P0) := fun x => qb0 _ (x.below (Nat.le_refl _))
          go_wp2_with fail
          refine wp_region_planL 99 [(true, 0), (true, 1), (true, 2), (true, 3), (true, 4), (true, 5), (true, 6), (true, 7), (true, 8), (true, 9)] (by kernel_rfl) (by decide) (by kernel_rfl) (by kernel_rfl) (by kernel_rfl) (by decide) (by intro c a d v w h; cases d <;> exact h) ?_
          change wpPlanL _ _ _ _ _ _ wr.drew
          iterate 10 (refine wpPlanL_plain rfl (fun K hK => ?_); go_simp; refine hK _ ?_; clear hK K)
          refine wpPlanL_nil ?_
          clear r1 r2
          have r1 : ∀ x : ExtOf wr.drew.drew, x.world.cell? (bd.add k) = some (.string P) := fun x => qb _ (drewBelow (x.below (w1 := wr.drew) (Nat.le_refl _)))
          have r3 : ∀ x : ExtOf wr.drew.drew, x.world.cell? (ad.add k) = some (bv xc) := fun x => qa _ (drewBelow (x.below (w1 := wr.drew) (Nat.le_refl _)))
          go_wp2_with fail
          refine wp_region_planL 99 [(true, 0), (true, 1), (true, 2), (true, 3), (true, 4), (true, 5), (true, 6), (true, 7), (true, 8), (false, 9), (false, 10), (true, 11)] (by kernel_rfl) (by decide) (by kernel_rfl) (by kernel_rfl) (by kernel_rfl) (by decide) (by intro c a d v w h; cases d <;> exact h) ?_
          change wpPlanL _ _ _ _ _ _ wr.drew.drew
          iterate 9 (refine wpPlanL_plain rfl (fun K hK => ?_); go_simp; refine hK _ ?_; clear hK K)
          refine wpPlanL_call rfl (fun K hK => ?_)
          go_wp2_with fail
          refine (HSc.out _).mono ?_
          rintro e w2 ⟨rfl, hb2⟩
          go_wp2_with fail
          refine planPostL_normal ⟨.inr hb2, hK _ _ ?_⟩
          clear hK K
          refine wpPlanL_call rfl (fun K hK => ?_)
          go_wp2_with fail
          refine (HSu.out _).mono ?_
          rintro e w3 ⟨rfl, hb3⟩
          go_wp2_with fail
          refine planPostL_normal ⟨.inr hb3, hK _ _ ?_⟩
          clear hK K
          have hb23 : Below wr.heap.size wr w3 := (drewBelow (drewBelow hb2)).trans (hb3.mono (drewBelow (drewBelow hb2)).size)
          have hbn : Below W1.heap.size W1 w3 := hbw.trans (hb23.mono hsz)
          iterate 1 (refine wpPlanL_plain rfl (fun K hK => ?_); go_simp; refine hK _ ?_; clear hK K)
          refine wpPlanL_nil ?_
          go_wp2_with fail
          go_roundw
          case rel => exact ⟨k + 1, by omega, by go_num, by rw [hZ'.out], hbn, hn.out⟩
          case measure => simp [intOf]; omega
        · have t1 : (((bs p).size : Int) != ((bs p0).size : Int)) = true := by simp; omega
          have hres : Hid (cres coef parts = [sv [], .int .i64 1]) := by
            show _ = _
            unfold cres
            rw [if_neg fun h => he (by rw [h.2 p (List.mem_of_getElem? hx.out), hh.out])]
          unfold sv at qb qb0
          unfold sv
          generalize Gf.acc coef parts k = Y
          generalize bs p = P at *
          generalize bs p0 = P0 at *
          clear hal h0le hkle he sp sp0 hacc
          have r1 : ∀ x : ExtOf wr.drew, x.world.cell? (bd.add k) = some (.string P) := fun x => qb _ (x.below (Nat.le_refl _))
          have r2 : ∀ x : ExtOf wr.drew, x.world.cell? bd = some (.string P0) := fun x => qb0 _ (x.below (Nat.le_refl _))
          have hKr : Hid (Blk wr.drew w.heap.size [.string ⟨#[]⟩, .int .i64 0] 67) := hK1.out.below hbw.drew hK1.out.lt
          have hBr : Hid (Below w.heap.size w wr.drew) := hbW'.out.drew
          go_wp2_with fail
          refine wp_region_planL 99 [(true, 0), (true, 1), (true, 2), (true, 3), (true, 4), (true, 5), (true, 6), (true, 7), (true, 8), (true, 9)] (by kernel_rfl) (by decide) (by kernel_rfl) (by kernel_rfl) (by kernel_rfl) (by decide) (by intro c a d v w h; cases d <;> exact h) ?_
          change wpPlanL _ _ _ _ _ _ wr.drew
          iterate 10 (refine wpPlanL_plain rfl (fun K hK => ?_); go_simp; refine hK _ ?_; clear hK K)
          refine wpPlanL_nil ?_
          go_wp2_with (refine wpList_row_store rfl 67 _ _ rfl [.string ⟨#[]⟩, .int .i64 1] rfl rfl hKr.out size_comb rfl (two_one _ _) ?_; intro w3 hw3 ho3)
          exact bodyPost_ret (ret_blk rfl _ w3 (g := w.heap.size) rfl hw3.out dd hdu'.out hdr size_comb) rfl ⟨by rw [hres.out]; rfl, hBr.out.trans (ho3.below (Nat.le_refl _))⟩
      · have hkk : k = parts.length := by omega
        have t : ¬ (k : Int) < (parts.length : Int) := by omega
        have hfit : Gf.Fit coef parts := ⟨hlen'.out, by
          have := hall.out
          rw [List.take_of_length_le (by omega)] at this
          exact this⟩
        have hres : Hid (cres coef parts = [sv (Gf.acc coef parts k), .int .i64 0]) := by
          show _ = _
          unfold cres
          rw [if_pos hfit, hkk, Gf.acc_all coef parts hfit]
        generalize Gf.acc coef parts k = Y at hres ⊢
        have hKr : Hid (Blk wr w.heap.size [.string ⟨#[]⟩, .int .i64 0] 67) := hK1.out.below hbw hK1.out.lt
        clear hkk hfit hbW
        unfold sv at hres ⊢
        go_wp2_with (refine wpList_row_store rfl 67 _ _ rfl [.string (bs Y), .int .i64 0] rfl rfl hKr.out size_comb rfl (two_one _ _) ?_; intro w3 hw3 ho3)
        exact bodyPost_ret (ret_blk rfl _ w3 (g := w.heap.size) rfl hw3.out dd hdu'.out hdr size_comb) rfl ⟨by rw [hres.out], hbW'.out.trans (ho3.below (Nat.le_refl _))⟩
  · have t : ((coef.length : Int) != (parts.length : Int)) = true := by simp; omega
    have hres : Hid (cres coef parts = [sv [], .int .i64 1]) := by
      show _ = _
      unfold cres
      rw [if_neg fun h => hlen h.1]
    clear hlen hr hs
    have hKr := hK1
    go_enter Tryd.func37, Tryd.ntmps37
    have hKr2 := hKr.out
    rw [hW1'.out] at hKr2
    have hB1' := hB1.out
    rw [hW1'.out] at hB1'
    go_wp2_with (refine wpList_row_store rfl 67 _ _ rfl [.string ⟨#[]⟩, .int .i64 1] rfl rfl hKr2 size_comb rfl (two_one _ _) ?_; intro w3 hw3 ho3)
    exact bodyPost_ret (ret_blk rfl _ w3 (g := w.heap.size) rfl hw3.out dd hdu'.out hdr size_comb) rfl ⟨by rw [hres.out]; rfl, hB1'.trans (ho3.below (Nat.le_refl _))⟩
end Go.Proofs.YtcnljemnkhmfcaaDoor
