/-
  Contracts of stage 4: the reference's Sum, Scale, Combine.
-/
import Derived.Test.YtcnljemnkhmfcaaDoorGfw
import Derived.Test.YtcnljemnkhmfcaaDoorGfr
namespace Go.Proofs.YtcnljemnkhmfcaaDoor
set_option linter.unusedVariables false
set_option linter.unusedSimpArgs false
open Go.RowKit

namespace Gf
theorem vsum_get (a b : List UInt8) (k : Nat) (h : k < max a.length b.length) : (vsum a b)[k]? = some (a.getD k 0 ^^^ b.getD k 0) := by
  unfold vsum
  rw [List.getElem?_map, List.getElem?_range h]
  rfl
theorem take_next {α : Type} {l : List α} {k : Nat} {x : α} (h : l[k]? = some x) : l.take (k + 1) = l.take k ++ [x] := by
  obtain ⟨h1, e1⟩ := List.getElem?_eq_some_iff.1 h
  rw [List.take_succ_eq_append_getElem h1, e1]
/-- The sum of multiples, one after the other. -/
def acc (coef : List UInt8) (parts : List (List UInt8)) (k : Nat) : List UInt8 := ((List.zip coef parts).take k).foldl (fun s p => vsum s (scale p.1 p.2)) []
theorem getD_fold (L : List (UInt8 × List UInt8)) (i : Nat) : ∀ s : List UInt8, (L.foldl (fun s p => vsum s (scale p.1 p.2)) s).getD i 0 = L.foldl (fun s p => s ^^^ mul p.1 (p.2.getD i 0)) (s.getD i 0) := by
  induction L with
  | nil => intro s; rfl
  | cons p L ih =>
    intro s
    rw [List.foldl_cons, ih, List.foldl_cons, getD_vsum, getD_scale]
theorem len_fold (n : Nat) (L : List (UInt8 × List UInt8)) (h : ∀ p ∈ L, p.2.length = n) : ∀ s : List UInt8, s.length ≤ n → (L.foldl (fun s p => vsum s (scale p.1 p.2)) s).length = if L = [] then s.length else n := by
  induction L with
  | nil => intro s _; rfl
  | cons p L ih =>
    intro s hs
    have hp := h p (List.mem_cons_self ..)
    have hv : (vsum s (scale p.1 p.2)).length = n := by rw [vsum_len, scale_len, hp]; omega
    rw [List.foldl_cons, ih (fun q hq => h q (List.mem_cons_of_mem _ hq)) _ (by omega), hv]
    simp
theorem acc_next (coef : List UInt8) (parts : List (List UInt8)) (k : Nat) (c : UInt8) (p : List UInt8) (hc : coef[k]? = some c) (hp : parts[k]? = some p) : acc coef parts (k + 1) = vsum (acc coef parts k) (scale c p) := by
  have hz : (List.zip coef parts)[k]? = some (c, p) := by rw [List.getElem?_zip_eq_some]; exact ⟨hc, hp⟩
  unfold acc
  rw [take_next hz, List.foldl_append]
  rfl
theorem mem_take_zip {coef : List UInt8} {parts : List (List UInt8)} {k : Nat} {p : UInt8 × List UInt8} (h : p ∈ (List.zip coef parts).take k) : p.2 ∈ parts.take k := by
  obtain ⟨i, hi⟩ := List.getElem?_of_mem h
  rw [List.getElem?_take] at hi
  split at hi
  · rename_i hk
    rw [List.getElem?_zip_eq_some] at hi
    exact List.mem_of_getElem? (i := i) (by rw [List.getElem?_take_of_lt hk]; exact hi.2)
  · cases hi
theorem acc_len (coef : List UInt8) (parts : List (List UInt8)) (k n : Nat) (h : ∀ x ∈ parts.take k, x.length = n) : (acc coef parts k).length ≤ n := by
  unfold acc
  rw [len_fold n _ (fun p hp => h _ (mem_take_zip hp)) [] (Nat.zero_le _)]
  split <;> simp
theorem acc_all (coef : List UInt8) (parts : List (List UInt8)) (h : Fit coef parts) : acc coef parts parts.length = comb coef parts := by
  obtain ⟨hl, ha⟩ := h
  have ht : (List.zip coef parts).take parts.length = List.zip coef parts := List.take_of_length_le (by rw [List.length_zip]; omega)
  unfold comb combN
  apply ext_getD
  · unfold acc
    rw [ht, len_fold (parts.headD []).length _ (fun p hp => ha _ (List.of_mem_zip hp).2) [] (Nat.zero_le _)]
    cases parts with
    | nil => simp
    | cons p ps =>
      cases coef with
      | nil => simp at hl
      | cons c cs => simp
  · intro i
    unfold acc
    rw [ht, getD_fold]
    rcases Nat.lt_or_ge i (parts.headD []).length with hi | hi
    · rw [List.getD_eq_getElem?_getD (l := List.map _ _), List.getElem?_map, List.getElem?_range hi]
      rfl
    · rw [List.getD_eq_getElem?_getD (l := List.map _ _), List.getElem?_eq_none (by simpa using hi)]
      have : ∀ (L : List (UInt8 × List UInt8)), (∀ p ∈ L, p.2.length ≤ i) → L.foldl (fun s p => s ^^^ mul p.1 (p.2.getD i 0)) 0 = 0 := fun L => by
        induction L with
        | nil => intro _; rfl
        | cons p L ih =>
          intro h
          have hp : p.2.getD i 0 = 0 := by rw [List.getD_eq_getElem?_getD, List.getElem?_eq_none (h p (List.mem_cons_self ..))]; rfl
          rw [List.foldl_cons, hp, mul_zero]
          exact ih fun q hq => h q (List.mem_cons_of_mem _ hq)
      exact this _ fun p hp => by rw [ha _ (List.of_mem_zip hp).2]; exact hi
end Gf

set_option maxRecDepth 100000 in
set_option maxHeartbeats 1000000 in
theorem at_any (s : List UInt8) (k : Nat) (w : World) : Calls Tryd.prog 82 #[sv s, .int .i64 k] w fun e w' => e = .returned (bv (s.getD k 0)) ∧ w = w' := by
  have hsz := bs_size s
  by_cases hk : k < s.length
  · obtain ⟨y, hy⟩ : ∃ y, s[k]? = some y := ⟨_, List.getElem?_eq_getElem hk⟩
    have gy := sv_get hy
    rw [getD_of hy]
    have tb : k < (bs s).size := by omega
    have tb' : (k : Int) < (bs s).size := by omega
    have t0 : 0 ≤ (k : Int) := by omega
    unfold sv
    generalize bs s = S at *
    clear hy hsz hk
    unfold bv
    go_enter Tryd.func82, Tryd.ntmps82
    go_wp2_with fail
    go_ret
    exact retv rfl
  · have h0 : s.getD k 0 = 0 := by rw [List.getD_eq_getElem?_getD, List.getElem?_eq_none (by omega)]; rfl
    rw [h0]
    have tb' : ¬ (k : Int) < (bs s).size := by omega
    unfold sv
    generalize bs s = S at *
    clear hsz hk h0
    unfold bv
    go_enter Tryd.func82, Tryd.ntmps82
    go_wp2_with fail
    go_ret
    exact retv rfl

set_option maxRecDepth 100000 in
set_option maxHeartbeats 1000000 in
theorem refSum_any (a b : List UInt8) (w : World) (ha : a.length ≤ 140737488355000) (hb : b.length ≤ 140737488355000) :
    Calls Tryd.prog 58 #[sv a, sv b] w fun e w' => e = .returned (sv (Gf.vsum a b)) ∧ Below w.heap.size w w' := by
  have sa := bs_size a
  have sb := bs_size b
  obtain ⟨n, hn⟩ : ∃ n, n = max a.length b.length := ⟨_, rfl⟩
  have hvl := Gf.vsum_len a b
  rw [← hn] at hvl
  have hvg : Hid (∀ k, k < n → (Gf.vsum a b)[k]? = some (a.getD k 0 ^^^ b.getD k 0)) := fun k hk => Gf.vsum_get a b k (by omega)
  have HA := Lib.hid (fun k W => at_any a k W)
  have HB := Lib.hid (fun k W => at_any b k W)
  have hmx : ∀ W : World, True := fun _ => trivial
  unfold sv at HA HB
  unfold sv
  generalize Gf.vsum a b = V at hvl hvg ⊢
  have hcase : ((bs a).size < (bs b).size ∧ n = (bs b).size) ∨ (¬ (bs a).size < (bs b).size ∧ n = (bs a).size) := by omega
  have hvl' := Lib.hid hvl
  have hn' : n ≤ 140737488355000 := by omega
  generalize bs a = A at *
  generalize bs b = B at *
  clear sa sb hn hvl ha hb hmx
  go_enter Tryd.func58, Tryd.ntmps58
  go_wp2_with fail
  go_loopw [5, 6] (fun v i wr => ∃ k : Nat, k ≤ n ∧ i = .int .i64 k ∧ OwnB wr w.heap.size v (V.take k) ∧ Below w.heap.size w wr) (fun _ i _ => n - (intOf i).toNat)
  case atStart => exact ⟨0, by omega, rfl, ownB_nil _ _, Below.refl _ _⟩
  case round =>
    obtain ⟨k, hk, rfl, ho, hbw⟩ := hrel
    have hsz := hbw.size
    rcases hcase with ⟨hc, hnn⟩ | ⟨hc, hnn⟩
    · by_cases hlt : k < n
      · have t : (k : Int) < (B.size : Int) := by omega
        have t' : k < B.size := by omega
        have H1 := Lib.hid (HA.out k wr)
        have H2 := Lib.hid (HB.out k wr)
        have hv := Lib.hid (hvg.out k hlt)
        have hx := u8_xor_bv (a.getD k 0) (b.getD k 0)
        generalize a.getD k 0 = x at H1 hv hx
        generalize b.getD k 0 = y at H2 hv hx
        generalize x ^^^ y = z at hv hx
        have hl : (V.take k).length ≤ 140737488355300 := by rw [List.length_take]; omega
        have htk := Lib.hid (Gf.take_next hv.out)
        unfold bv at H1 H2
        go_wp2_with fail
        refine H1.out.mono ?_
        rintro e w2 ⟨rfl, rfl⟩
        go_wp2_with fail
        refine H2.out.mono ?_
        rintro e w2 ⟨rfl, rfl⟩
        go_wp2_with (at_builtin; go_must (refine push_byte rfl _ _ rfl w.heap.size u5 (V.take k) z _ rfl rfl rfl ho hl hsz ?_); intro v' w1 ho1 hon1)
        go_roundw
        case rel => exact ⟨k + 1, by omega, by go_num, by rw [htk.out]; exact ho1, hbw.trans (hon1.below ho hsz)⟩
        case measure => simp [intOf]; omega
      · have t : ¬ (k : Int) < (B.size : Int) := by omega
        have t' : ¬ k < B.size := by omega
        have hkk : V.take k = V := List.take_of_length_le (by rw [hvl'.out]; omega)
        rw [hkk] at ho
        obtain ⟨AA, c, rfl, _, _, _, hrd⟩ := own_form ho
        have hcv := run_bytes_bs (P := Tryd.prog) wr 57 9 5 Tryd.underlying57 Tryd.underlying5 Tryd.underlying9 c hrd
        go_wp2_with fail
        go_ret
        exact ⟨rfl, hbw⟩
    · by_cases hlt : k < n
      · have t : (k : Int) < (A.size : Int) := by omega
        have t' : k < A.size := by omega
        have H1 := Lib.hid (HA.out k wr)
        have H2 := Lib.hid (HB.out k wr)
        have hv := Lib.hid (hvg.out k hlt)
        have hx := u8_xor_bv (a.getD k 0) (b.getD k 0)
        generalize a.getD k 0 = x at H1 hv hx
        generalize b.getD k 0 = y at H2 hv hx
        generalize x ^^^ y = z at hv hx
        have hl : (V.take k).length ≤ 140737488355300 := by rw [List.length_take]; omega
        have htk := Lib.hid (Gf.take_next hv.out)
        unfold bv at H1 H2
        go_wp2_with fail
        refine H1.out.mono ?_
        rintro e w2 ⟨rfl, rfl⟩
        go_wp2_with fail
        refine H2.out.mono ?_
        rintro e w2 ⟨rfl, rfl⟩
        go_wp2_with (at_builtin; go_must (refine push_byte rfl _ _ rfl w.heap.size u5 (V.take k) z _ rfl rfl rfl ho hl hsz ?_); intro v' w1 ho1 hon1)
        go_roundw
        case rel => exact ⟨k + 1, by omega, by go_num, by rw [htk.out]; exact ho1, hbw.trans (hon1.below ho hsz)⟩
        case measure => simp [intOf]; omega
      · have t : ¬ (k : Int) < (A.size : Int) := by omega
        have t' : ¬ k < A.size := by omega
        have hkk : V.take k = V := List.take_of_length_le (by rw [hvl'.out]; omega)
        rw [hkk] at ho
        obtain ⟨AA, c, rfl, _, _, _, hrd⟩ := own_form ho
        have hcv := run_bytes_bs (P := Tryd.prog) wr 57 9 5 Tryd.underlying57 Tryd.underlying5 Tryd.underlying9 c hrd
        go_wp2_with fail
        go_ret
        exact ⟨rfl, hbw⟩

set_option maxRecDepth 100000 in
set_option maxHeartbeats 1000000 in
theorem refScale_any (c : UInt8) (s : List UInt8) (w : World) (hs : s.length ≤ 140737488355000) :
    Calls Tryd.prog 59 #[bv c, sv s] w fun e w' => e = .returned (sv (Gf.scale c s)) ∧ Below w.heap.size w w' := by
  have sa := bs_size s
  have hvl := Gf.scale_len c s
  have hvg : Hid (∀ k x, s[k]? = some x → (Gf.scale c s)[k]? = some (Gf.mul c x)) := fun k x hk => by unfold Gf.scale; rw [List.getElem?_map, hk]; rfl
  have HM := Lib.hid (fun x W => refMul_any c x W)
  have hget := Lib.hid (fun k z => sv_get (l := s) (k := k) (z := z))
  have HL := Lib.hid sa
  have hvl' := Lib.hid hvl
  unfold bv at HM
  unfold sv bv
  generalize Gf.scale c s = V at hvl' hvg ⊢
  generalize bs s = S at HL hget sa
  clear hvl
  go_enter Tryd.func59, Tryd.ntmps59
  go_wp2_with fail
  go_loopw [5, 6] (fun v i wr => ∃ k : Nat, k ≤ s.length ∧ i = .int .i64 k ∧ OwnB wr w.heap.size v (V.take k) ∧ Below w.heap.size w wr) (fun _ i _ => s.length - (intOf i).toNat)
  case atStart => exact ⟨0, by omega, rfl, ownB_nil _ _, Below.refl _ _⟩
  case round =>
    obtain ⟨k, hk, rfl, ho, hbw⟩ := hrel
    have hsz := hbw.size
    by_cases hlt : k < s.length
    · have t : (k : Int) < (S.size : Int) := by rw [HL.out]; omega
      have t' : k < S.size := by rw [HL.out]; omega
      have t0 : 0 ≤ (k : Int) := by omega
      obtain ⟨x, hx⟩ : ∃ x, s[k]? = some x := ⟨_, List.getElem?_eq_getElem hlt⟩
      have gx := hget.out k x hx
      have hv := Lib.hid (hvg.out k x hx)
      have H1 := Lib.hid (HM.out x wr)
      generalize Gf.mul c x = z at hv H1
      have hl : (V.take k).length ≤ 140737488355300 := by rw [List.length_take]; omega
      have htk := Lib.hid (Gf.take_next hv.out)
      clear hx
      go_wp2_with fail
      refine H1.out.mono ?_
      rintro e w2 ⟨rfl, rfl⟩
      go_wp2_with (at_builtin; go_must (refine push_byte rfl _ _ rfl w.heap.size u5 (V.take k) z _ rfl rfl rfl ho hl hsz ?_); intro v' w1 ho1 hon1)
      go_roundw
      case rel => exact ⟨k + 1, by omega, by go_num, by rw [htk.out]; exact ho1, hbw.trans (hon1.below ho hsz)⟩
      case measure => simp [intOf]; omega
    · have t : ¬ (k : Int) < (S.size : Int) := by rw [HL.out]; omega
      have t' : ¬ k < S.size := by rw [HL.out]; omega
      have hkk : V.take k = V := List.take_of_length_le (by rw [hvl'.out]; omega)
      rw [hkk] at ho
      obtain ⟨AA, cc, rfl, _, _, _, hrd⟩ := own_form ho
      have hcv := run_bytes_bs (P := Tryd.prog) wr 57 9 5 Tryd.underlying57 Tryd.underlying5 Tryd.underlying9 cc hrd
      go_wp2_with fail
      go_ret
      exact ⟨rfl, hbw⟩
end Go.Proofs.YtcnljemnkhmfcaaDoor
