/-
  Stage 7: contracts of the reference's Size, part, SameRows. Stage 7: contracts of the reference's Rows, SameRows, Encode. Stage 7: contracts of the reference's Rows, SameRows. Stage 7: the walk of CodeEncodesAsSpecified. (Written by tools/gencfl.py.).
-/
import Derived.Test.YtcnljemnkhmfcaaDoorCf2
import Derived.Test.YtcnljemnkhmfcaaDoorCe45
import Derived.Test.YtcnljemnkhmfcaaDoorGfy
import Derived.Test.YtcnljemnkhmfcaaDoorCe7
namespace Go.Proofs.YtcnljemnkhmfcaaDoor
set_option linter.unusedVariables false
set_option linter.unusedSimpArgs false
open Go.RowKit

set_option maxRecDepth 100000 in
set_option maxHeartbeats 4000000 in
theorem refSize7_any {B : Nat} (D G k : Int) (Gs : List (List Int)) (n c : Nat) (A : Option Addr) (w : World) (hM : CodM w B D A n c G Gs) (hsh : ∀ g ∈ Gs, g.length ≤ 1000000) :
    Calls Tryd.prog 18 #[cdv D A n c G, .int .i64 k] w fun e w' => e = .returned (.int .i64 (if chkE D Gs G = 0 ∧ 0 ≤ k ∧ k ≤ 4096 then (k + D - 1) / D else 0)) ∧ Below w.heap.size w w' := by
  obtain ⟨W1, hW1⟩ : ∃ W1, W1 = w.alloc (.cells #[.int .i64 D, .slice A n c, .int .i64 G] 24) := ⟨_, rfl⟩
  have hB1 : Hid (Below w.heap.size w W1) := by show Below _ _ _; rw [hW1]; exact (Below.refl _ _).alloc (Nat.le_refl _) _
  have hR1 : Hid (Blk W1 w.heap.size [.int .i64 D, .slice A n c, .int .i64 G] 24) := by show Blk _ _ _ _; rw [hW1]; exact Blk.new _ [_, _, _] _
  have hM' := Lib.hid (hM.keep hB1.out)
  have hdd := Lib.hid size_cod
  have hun : Hid (Tryd.prog.underlying 24 = _) := Tryd.underlying24
  have p0 := hR1.out.cell (j := 0) rfl
  have p1 := hR1.out.cell (j := 1) rfl
  have p2 := hR1.out.cell (j := 2) rfl
  have cK := refCheck7_any D G Gs n c A W1 hM'.out hsh
  subst hW1
  clear hM hsh
  obtain ⟨Ex, hEx⟩ : ∃ E : Int, E = chkE D Gs G := ⟨_, rfl⟩
  rw [← hEx] at cK ⊢
  unfold cdv at cK ⊢
  by_cases h0 : Ex = 0
  · subst h0
    obtain ⟨b1, b2, b3, b4, b5, _⟩ := cchk_ok hEx.symm
    obtain ⟨d, rfl⟩ : ∃ d : Nat, D = d := ⟨D.toNat, by omega⟩
    have hd : d ≤ 16 := by omega
    have hd1 : 1 ≤ d := by omega
    clear b5 hEx
    by_cases h1 : k < 0
    · rw [if_neg (by omega)]
      go_enter Tryd.func18, Tryd.ntmps18
      go_wp2_with fail
      refine cK.mono ?_
      rintro e v1 ⟨rfl, hb⟩
      have hb2 := Lib.hid (hB1.out.trans (hb.mono hB1.out.size))
      clear hb
      go_wp2_with fail
      go_ret
      exact ⟨rfl, hb2.out⟩
    by_cases h2 : k > 4096
    · rw [if_neg (by omega)]
      go_enter Tryd.func18, Tryd.ntmps18
      go_wp2_with fail
      refine cK.mono ?_
      rintro e v1 ⟨rfl, hb⟩
      have hb2 := Lib.hid (hB1.out.trans (hb.mono hB1.out.size))
      clear hb
      go_wp2_with fail
      go_ret
      exact ⟨rfl, hb2.out⟩
    obtain ⟨m, rfl⟩ : ∃ m : Nat, k = m := ⟨k.toNat, by omega⟩
    have hs : Hid ((((m + d - 1) / d : Nat) : Int) = ((m : Int) + d - 1) / d) := by
      show _ = _
      rw [Int.natCast_ediv]
      congr 1
      omega
    obtain ⟨s, hs2⟩ : ∃ s, s = m + d := ⟨_, rfl⟩
    obtain ⟨t, ht⟩ : ∃ t, s = t + 1 := ⟨s - 1, by omega⟩
    obtain ⟨r, hr⟩ : ∃ r, r = (m + d - 1) / d := ⟨_, rfl⟩
    rw [if_pos ⟨rfl, by omega, by omega⟩, ← hs.out, ← hr]
    have e1 : (m : Int) + (d : Int) = (s : Int) := by omega
    have e2 : (s : Int) - 1 = (t : Int) := by omega
    have f1 : IntKind.i64.wrap (s : Int) = (s : Int) := by rw [IntKind.wrap_i64]; omega
    have f2 : IntKind.i64.wrap (t : Int) = (t : Int) := by rw [IntKind.wrap_i64]; omega
    have e3 : Int.tdiv (t : Int) (d : Int) = (r : Int) := by
      rw [Int.tdiv_eq_ediv_of_nonneg (by omega), hr, show m + d - 1 = t by omega, Int.natCast_ediv]
    have hrl : r ≤ t := by rw [hr, show m + d - 1 = t by omega]; exact Nat.div_le_self _ _
    have f3 : IntKind.i64.wrap (r : Int) = (r : Int) := by rw [IntKind.wrap_i64]; omega
    have hne : ¬ (d : Int) = 0 := by omega
    have hne2 : ¬ d = 0 := by omega
    have hne3 : ((d : Int) == 0) = false := by simp only [beq_eq_false_iff_ne, ne_eq]; omega
    clear hs hs2 ht hr
    go_enter Tryd.func18, Tryd.ntmps18
    go_wp2_with fail
    refine cK.mono ?_
    rintro e v1 ⟨rfl, hb⟩
    have hb2 := Lib.hid (hB1.out.trans (hb.mono hB1.out.size))
    have hk := hR1.out.below hb hR1.out.lt
    replace p0 := hk.cell (j := 0) rfl
    replace p1 := hk.cell (j := 1) rfl
    replace p2 := hk.cell (j := 2) rfl
    clear hb hk
    go_wp2_with fail
    go_ret
    exact ⟨rfl, hb2.out⟩
  · rw [if_neg (fun h => h0 h.1)]
    have h0' : (Ex != 0) = true := by simpa using h0
    clear hEx h0
    go_enter Tryd.func18, Tryd.ntmps18
    go_wp2_with fail
    refine cK.mono ?_
    rintro e v1 ⟨rfl, hb⟩
    have hb2 := Lib.hid (hB1.out.trans (hb.mono hB1.out.size))
    clear hb
    go_wp2_with fail
    go_ret
    exact ⟨rfl, hb2.out⟩

/-- A data piece, filled up. -/
def prtF (d : List UInt8) (z i : Nat) : List UInt8 := rowF (fun t => d.getD (i * z + t) 0) z
theorem prt_pce {D z i : Nat} {Gs : List (List Int)} {d : List UInt8} (hi : i < D) (hd : d.length ≤ D * z) : prtF d z i = pce D Gs (filP D z d) z i := by
  refine row_ext (n := z) (rowF_len _ _) (pce_len _ _ _ _ _) fun t ht => ?_
  rw [pce_at ht, xsum_one (a := i) _ hi fun j hj hne => by unfold cr; rw [if_pos hi, if_neg hne, Gf.zero_mul]]
  unfold prtF cr
  rw [List.getD_eq_getElem?_getD, rowF_get _ ht, if_pos hi, if_pos rfl, Gf.one_mul]
  show d.getD (i * z + t) 0 = (filP D z d).getD (i * z + t) 0
  unfold filP
  rw [List.getD_eq_getElem?_getD, List.getD_eq_getElem?_getD]
  have hb : i * z + t < D * z := by
    have : (i + 1) * z ≤ D * z := Nat.mul_le_mul_right z hi
    rw [Nat.succ_mul] at this
    omega
  by_cases h : i * z + t < d.length
  · rw [List.getElem?_append_left h]
  · rw [List.getElem?_append_right (by omega), List.getElem?_eq_none (by omega), List.getElem?_replicate, if_pos (by omega)]
    rfl
theorem prtF_len (d : List UInt8) (z i : Nat) : (prtF d z i).length = z := rowF_len _ _
theorem prtF_next {d : List UInt8} {z i t : Nat} (h : t < z) : (prtF d z i).take (t + 1) = (prtF d z i).take t ++ [d.getD (i * z + t) 0] := by
  have e : (prtF d z i)[t]? = some (d.getD (i * z + t) 0) := rowF_get _ h
  exact take_nat7 e
set_option maxRecDepth 100000 in
set_option maxHeartbeats 4000000 in
theorem refPart7_any (d : List UInt8) (i z : Nat) (w : World) (hd : d.length ≤ 140737488351232) (hi : i ≤ 16) (hz : z ≤ 5000) :
    Calls Tryd.prog 36 #[sv d, .int .i64 (i : Int), .int .i64 (z : Int)] w fun e w' => e = .returned (sv (prtF d z i)) ∧ Below w.heap.size w w' := by
  obtain ⟨kz, hkz⟩ : ∃ m, m = i * z := ⟨_, rfl⟩
  obtain ⟨k2, hk2⟩ : ∃ m, m = kz + z := ⟨_, rfl⟩
  have e1 : (i : Int) * (z : Int) = (kz : Int) := by rw [hkz, Int.natCast_mul]
  have e2 : ((i : Int) + 1) * (z : Int) = (k2 : Int) := by rw [Int.add_mul, Int.one_mul, e1, hk2]; omega
  have hkl : kz ≤ 80000 := by rw [hkz]; exact Nat.le_trans (Nat.mul_le_mul hi hz) (by decide)
  have hkl2 : k2 ≤ 85000 := by omega
  obtain ⟨F, hF⟩ : ∃ F, F = prtF d z i := ⟨_, rfl⟩
  have hFl : Hid (F.length = z) := by show _ = _; rw [hF]; exact prtF_len _ _ _
  have hFn : Hid (∀ t, t < z → F.take (t + 1) = F.take t ++ [d.getD (kz + t) 0]) := fun t ht => by rw [hF, hkz]; exact prtF_next ht
  have hsz := bs_size d
  have hget : Hid (∀ t, t < d.length → ∃ y, d.getD t 0 = y ∧ d[t]? = some y) := fun t ht => ⟨d.getD t 0, rfl, by rw [List.getD_eq_getElem?_getD, List.getElem?_eq_getElem ht]; rfl⟩
  have hno : Hid (∀ t, d.length ≤ t → d.getD t 0 = 0) := fun t ht => by rw [List.getD_eq_getElem?_getD, List.getElem?_eq_none ht]; rfl
  obtain ⟨q, hq⟩ : ∃ q, q = d.length := ⟨_, rfl⟩
  have hsv : Hid (∀ t y, d[t]? = some y → ∀ h, (bs d)[t]'h = y) := fun t y h => sv_get h
  rw [← hF]
  rw [← hq] at hsz hd hget hno
  have hqk : Hid (k2 = kz + z) := hk2
  unfold sv
  generalize bs d = S at hsz hsv ⊢
  have hsz' : (S.size : Int) = (q : Int) := by omega
  have hO0 : Hid (OwnB w w.heap.size (.slice none 0 0) (F.take 0)) := ownB_nil _ _
  have hb0 : Hid (Below w.heap.size w w) := Below.refl _ _
  clear hkz hk2 hF hq
  go_enter Tryd.func36, Tryd.ntmps36
  go_wp2_with fail
  go_loopw [7, 8] (fun v x wr => ∃ t : Nat, t ≤ z ∧ x = .int .i64 ((kz + t : Nat) : Int) ∧ Hid (OwnB wr w.heap.size v (F.take t)) ∧ Hid (Below w.heap.size w wr)) (fun _ x _ => k2 - (intOf x).toNat)
  case atStart => exact ⟨0, by omega, rfl, hO0, hb0⟩
  case round =>
    obtain ⟨t, ht, rfl, hO, hbw⟩ := hrel
    clear hO0 hb0
    by_cases htz : t < z
    rotate_left
    · obtain rfl : t = z := by omega
      obtain ⟨kk, hkk⟩ : ∃ x, x = kz + t := ⟨_, rfl⟩
      have tk : ¬ (kk : Int) < (k2 : Int) := by have := hqk.out; omega
      have hFF : F.take t = F := List.take_of_length_le (by rw [hFl.out]; exact Nat.le_refl _)
      have hO2 := hO.out
      rw [hFF] at hO2
      obtain ⟨AA, c, rfl, _, _, _, hrd⟩ := own_form hO2
      have hcv := run_bytes_bs (P := Tryd.prog) wr 57 9 5 Tryd.underlying57 Tryd.underlying5 Tryd.underlying9 c hrd
      rw [← hkk]
      clear hO hO2 hrd hFF hkk htz
      go_wp2_with fail
      go_ret
      exact ⟨rfl, hbw.out⟩
    obtain ⟨kk, hkk⟩ : ∃ x, x = kz + t := ⟨_, rfl⟩
    have tk : (kk : Int) < (k2 : Int) := by have := hqk.out; omega
    have tk0 : 0 ≤ (kk : Int) := Int.natCast_nonneg _
    have hkkH := Lib.hid hkk
    have hsw : w.heap.size ≤ wr.heap.size := hbw.out.size
    have hln : (F.take t).length ≤ 140737488355300 := by rw [List.length_take]; omega
    have hnx := Lib.hid (hFn.out t htz)
    rw [← hkk] at hnx ⊢
    have hkl3 : kk ≤ 85000 := by omega
    by_cases hkq : kk < q
    · have tq : (kk : Int) < (S.size : Int) := by omega
      have tq2 : kk < S.size := by omega
      obtain ⟨y, hy1, hy2⟩ := hget.out kk hkq
      have gy := hsv.out kk y hy2
      have hnx2 : Hid (F.take (t + 1) = F.take t ++ [y]) := by show _ = _; rw [← hy1]; exact hnx.out
      clear hy1 hy2 hnx hkk
      generalize F.take t = X at hO hln hnx2
      go_wp2_with (at_builtin; go_must (refine push_byte rfl _ _ rfl w.heap.size u7 X y (.int .u8 y.toNat) rfl rfl rfl hO.out hln hsw ?_); intro v' w6 ho6 hon6)
      have f1 : Hid (OwnB w6 w.heap.size v' (F.take (t + 1))) := by show OwnB _ _ _ _; rw [hnx2.out]; exact ho6
      have f2 := Lib.hid (hbw.out.trans (hon6.below hO.out hsw))
      clear ho6 hon6
      go_roundw
      case rel => exact ⟨t + 1, by omega, by rw [show ((kz + (t + 1) : Nat) : Int) = (kk : Int) + 1 by have := hkkH.out; omega], f1, f2⟩
      case measure => have := hkkH.out; have := hqk.out; simp [intOf]; omega
    · have tq : ¬ (kk : Int) < (S.size : Int) := by omega
      have hnx2 : Hid (F.take (t + 1) = F.take t ++ [0]) := by show _ = _; rw [← hno.out kk (by omega)]; exact hnx.out
      clear hnx hkk
      generalize F.take t = X at hO hln hnx2
      go_wp2_with (at_builtin; go_must (refine push_byte rfl _ _ rfl w.heap.size u7 X 0 (.int .u8 0) rfl rfl rfl hO.out hln hsw ?_); intro v' w6 ho6 hon6)
      have f1 : Hid (OwnB w6 w.heap.size v' (F.take (t + 1))) := by show OwnB _ _ _ _; rw [hnx2.out]; exact ho6
      have f2 := Lib.hid (hbw.out.trans (hon6.below hO.out hsw))
      clear ho6 hon6
      go_roundw
      case rel => exact ⟨t + 1, by omega, by rw [show ((kz + (t + 1) : Nat) : Int) = (kk : Int) + 1 by have := hkkH.out; omega], f1, f2⟩
      case measure => have := hkkH.out; have := hqk.out; simp [intOf]; omega
end Go.Proofs.YtcnljemnkhmfcaaDoor

namespace Go.Proofs.YtcnljemnkhmfcaaDoor
set_option linter.unusedVariables false
set_option linter.unusedSimpArgs false
open Go.RowKit

theorem size_lst7 : (Tryd.prog.info? 36).map (·.size) = some 2 := by kernel_rfl
theorem row_lst7 : ∃ d, Tryd.prog.underlying 36 = some d ∧ d.isRow = true := ⟨_, Tryd.underlying36, rfl⟩
/-- Texts and an error. -/
def LstEnd (w : World) (L : List (List UInt8)) (E : Int) (e : Ending) (w' : World) : Prop := (∃ A c, e = .returned (.agg #[.slice A L.length c, .int .i64 E]) ∧ Rds w' w'.heap.size A (L.map sv)) ∧ Below w.heap.size w w'
theorem OwnS.only {x : Nat} {w w' : World} {base : Nat} {v : Value} {l : List (List UInt8)} (h : OwnS w base v l) (ho : Only x w w') (hx : x < base) : OwnS w' base v l := by
  refine ⟨h.1, ?_⟩
  rcases h.2 with hn | ⟨g, cap, cur, hv, hg, hh, rest⟩
  · exact .inl hn
  · exact .inr ⟨g, cap, cur, hv, hg, by rw [ho.block g (by omega)]; exact hh, rest⟩

theorem fil_len0 {D z : Nat} {d : List UInt8} (h : d.length ≤ D * z) : (filP D z d).length = D * z := by unfold filP; rw [List.length_append, List.length_replicate]; omega
theorem crow_fit {D z k : Nat} {Gs : List (List Int)} {P : List UInt8} (hD : 1 ≤ D) : Gf.Fit (crow D Gs k D) (encP D Gs P z D) := by
  have hz : ∀ x ∈ encP D Gs P z D, x.length = z := fun x hx => by
    unfold encP at hx
    obtain ⟨i, _, rfl⟩ := List.mem_map.1 hx
    exact pce_len _ _ _ _ _
  refine ⟨by rw [crow_len, encP_len], fun x hx => ?_⟩
  rw [hz x hx]
  obtain ⟨y, ys, hy⟩ : ∃ y ys, encP D Gs P z D = y :: ys := by
    cases h : encP D Gs P z D with
    | nil => have := encP_len D Gs P z D; rw [h] at this; simp at this; omega
    | cons y ys => exact ⟨y, ys, rfl⟩
  rw [hy]
  exact (hz y (by rw [hy]; exact List.mem_cons.2 (.inl rfl))).symm

set_option maxRecDepth 100000 in
set_option maxHeartbeats 8000000 in
theorem refEncode7_any {B : Nat} (D G : Int) (Gs : List (List Int)) (n c : Nat) (A : Option Addr) (dt : List UInt8) (w : World) (hM : CodM w B D A n c G Gs) (hsh : ∀ g ∈ Gs, g.length ≤ 1000000) (hd : dt.length ≤ 140737488351232) :
    Calls Tryd.prog 13 #[cdv D A n c G, sv dt] w (LstEnd w (encT D G Gs dt) (encE D G Gs dt)) := by
  obtain ⟨dd, hdu, hdr⟩ := row_lst7
  have hdu' := Lib.hid hdu
  obtain ⟨W1, hW1⟩ : ∃ W1, W1 = (w.alloc (.cells #[.int .i64 D, .slice A n c, .int .i64 G] 24)).alloc (.cells #[.slice none 0 0, .int .i64 0] 36) := ⟨_, rfl⟩
  have E : Hid (Below w.heap.size w W1) := by show Below _ _ _; rw [hW1]; exact ((Below.refl _ _).alloc (Nat.le_refl _) _).alloc (by simp) _
  have X : Hid (Blk W1 w.heap.size [.int .i64 D, .slice A n c, .int .i64 G] 24) := by show Blk _ _ _ _; rw [hW1]; exact (Blk.new _ [_, _, _] _).alloc _
  have Y : Hid (Blk W1 (w.heap.size + 1) [.slice none 0 0, .int .i64 0] 36) := by show Blk _ _ _ _; rw [hW1]; exact (Blk.new _ [_, _] _).at (by simp)
  have M := Lib.hid (hM.keep E.out)
  have hdd := Lib.hid size_cod
  have hun : Hid (Tryd.prog.underlying 24 = _) := Tryd.underlying24
  have hshH := Lib.hid hsh
  have hlen : Hid (n = Gs.length) := hM.len
  have CK := refCheck7_any D G Gs n c A W1 M.out hsh
  obtain ⟨Ex, hEx⟩ : ∃ E : Int, E = chkE D Gs G := ⟨_, rfl⟩
  rw [← hEx] at CK
  have hEH := Lib.hid hEx
  have hW' := Lib.hid hW1
  obtain ⟨q, hq⟩ : ∃ q, q = dt.length := ⟨_, rfl⟩
  have hqH := Lib.hid hq
  have hS : (bs dt).size = dt.length := bs_size dt
  obtain ⟨S, hSd⟩ : ∃ S, S = bs dt := ⟨_, rfl⟩
  have hSH := Lib.hid hSd
  rw [← hSd, ← hq] at hS
  have hS2 : (S.size : Int) = (q : Int) := by omega
  rw [show sv dt = .string S by rw [hSd]; rfl]
  obtain ⟨EE, hEE⟩ : ∃ x, x = encE D G Gs dt := ⟨_, rfl⟩
  obtain ⟨TT, hTT⟩ : ∃ x, x = encT D G Gs dt := ⟨_, rfl⟩
  rw [← hEE, ← hTT]
  have hEEH := Lib.hid hEE
  have hTTH := Lib.hid hTT
  have p0 := X.out.cell (j := 0) rfl
  have p1 := X.out.cell (j := 1) rfl
  have p2 := X.out.cell (j := 2) rfl
  rw [hW1] at p0 p1 p2 CK
  have hq47 : q ≤ 140737488351232 := by omega
  clear hM hsh hEx hW1 hq hSd hEE hTT hdu hd
  unfold cdv at CK ⊢
  go_enter Tryd.func13, Tryd.ntmps13
  go_wp2_with fail
  refine CK.mono ?_
  rintro e w2 ⟨rfl, hb0⟩
  have hb : Below W1.heap.size W1 w2 := by rw [hW'.out]; exact hb0
  have hb1H := Lib.hid hb
  clear hb0 CK hW' p0 p1 p2
  replace E : Hid (Below w.heap.size w w2) := E.out.trans (hb.mono E.out.size)
  replace M := Lib.hid (M.out.keep hb)
  replace X := Lib.hid (X.out.below hb X.out.lt)
  replace Y := Lib.hid (Y.out.below hb Y.out.lt)
  clear hb hb1H
  by_cases hE0 : Ex = 0
  rotate_left
  · have z : (Ex != 0) = true := by simpa using hE0
    have h1 : EE = Ex := by rw [hEEH.out]; unfold encE; rw [if_neg (by rw [← hEH.out]; exact hE0), ← hEH.out]
    have h2 : TT = [] := by rw [hTTH.out]; unfold encT; rw [if_neg (by rw [← hEEH.out, h1]; exact hE0)]
    subst h1
    subst h2
    clear hE0
    go_wp2_with (refine wpList_row_store rfl 36 _ _ rfl [.slice none 0 0, .int .i64 EE] rfl rfl Y.out size_lst7 rfl (made_one _ _ _ _) ?_; intro w4 hw4 ho4)
    exact bodyPost_ret (ret_blk rfl _ w4 (g := w.heap.size + 1) rfl hw4.out dd hdu'.out hdr size_lst7) rfl ⟨⟨none, 0, rfl, Rds.empty⟩, E.out.trans (ho4.below (Nat.le_succ _))⟩
  subst hE0
  by_cases h4 : 4096 < q
  · have t4 : (4096 : Int) < (q : Int) := by omega
    have h1 : EE = 2 := by rw [hEEH.out]; unfold encE; rw [if_pos hEH.out.symm, if_pos (by rw [← hqH.out]; exact h4)]
    have h2 : TT = [] := by rw [hTTH.out]; unfold encT; rw [if_neg (by rw [← hEEH.out, h1]; decide)]
    subst h1
    subst h2
    clear h4
    go_wp2_with (refine wpList_row_store rfl 36 _ _ rfl [.slice none 0 0, .int .i64 2] rfl rfl Y.out size_lst7 rfl (made_one _ _ _ _) ?_; intro w4 hw4 ho4)
    exact bodyPost_ret (ret_blk rfl _ w4 (g := w.heap.size + 1) rfl hw4.out dd hdu'.out hdr size_lst7) rfl ⟨⟨none, 0, rfl, Rds.empty⟩, E.out.trans (ho4.below (Nat.le_succ _))⟩
  have t4 : ¬ (4096 : Int) < (q : Int) := by omega
  have h1 : EE = 0 := by rw [hEEH.out]; unfold encE; rw [if_pos hEH.out.symm, if_neg (by rw [← hqH.out]; exact h4)]
  obtain ⟨b1, b2, b3, b4, b5, b6⟩ := cchk_ok hEH.out.symm
  obtain ⟨d, rfl⟩ : ∃ d : Nat, D = d := ⟨D.toNat, by omega⟩
  obtain ⟨g, rfl⟩ : ∃ g : Nat, G = g := ⟨G.toNat, by omega⟩
  have h0 : Hid (chkE (d : Int) Gs (g : Int) = 0) := hEH.out.symm
  obtain ⟨N, hN⟩ : ∃ N, N = d + (Gs.length + g) := ⟨_, rfl⟩
  have hNH : Hid (d + (Gs.length + g) = N) := hN.symm
  have hN24 : N ≤ 24 := by omega
  have hd16 : d ≤ 16 := by omega
  have hd1 : 1 ≤ d := by omega
  have hn24 : n ≤ 24 := by have := hlen.out; omega
  obtain ⟨z, hz⟩ : ∃ z, z = szP d q := ⟨_, rfl⟩
  have hm := szP_mul (n := q) hd1
  rw [← hz] at hm
  have hz5 : z ≤ 5000 := by
    have : 1 * z ≤ d * z := Nat.mul_le_mul_right z hd1
    omega
  obtain ⟨P, hP⟩ : ∃ P, P = filP d z dt := ⟨_, rfl⟩
  have hPl : Hid (P.length = d * z) := by show _ = _; rw [hP]; exact fil_len0 (by rw [← hqH.out]; exact hm.1)
  have hTe : Hid (TT = encP d Gs P z N) := by
    show _ = _
    rw [hTTH.out]
    unfold encT
    rw [if_pos (hEEH.out.symm.trans h1), Int.toNat_natCast, Int.toNat_natCast, Nat.add_assoc, hNH.out, ← hqH.out, ← hz, ← hP]
  have hpp : Hid (∀ k, k < d → prtF dt z k = pce d Gs P z k) := fun k hk => by rw [hP]; exact prt_pce hk (by rw [← hqH.out]; exact hm.1)
  have hzi : Hid (((q : Int) + d - 1) / d = (z : Int)) := by
    show _ = _
    rw [hz]
    unfold szP
    rw [Int.natCast_ediv]
    congr 1
    omega
  subst h1
  clear b1 b2 b3 b4 b5 b6 hN hz hm hP hEEH hTTH h4
  have CZ : Hid (∀ W, CodM W B (d : Int) A n c (g : Int) Gs → Calls Tryd.prog 18 #[cdv (d : Int) A n c (g : Int), .int .i64 (q : Int)] W fun e w' => e = .returned (.int .i64 (z : Int)) ∧ Below W.heap.size W w') := fun W m => by
    have := refSize7_any (d : Int) (g : Int) (q : Int) Gs n c A W m hshH.out
    rw [if_pos ⟨h0.out, Int.natCast_nonneg _, by omega⟩, hzi.out] at this
    exact this
  have CPt : Hid (∀ W k, k < d → Calls Tryd.prog 36 #[.string S, .int .i64 ((k : Nat) : Int), .int .i64 (z : Int)] W fun e w' => e = .returned (sv (pce d Gs P z k)) ∧ Below W.heap.size W w') := fun W k hk => by
    have := refPart7_any dt k z W (by rw [← hqH.out]; exact hq47) (by omega) hz5
    rw [hpp.out k hk, show sv dt = .string S by rw [hSH.out]; rfl] at this
    exact this
  have CP : Hid (∀ W, CodM W B (d : Int) A n c (g : Int) Gs → Calls Tryd.prog 16 #[cdv (d : Int) A n c (g : Int)] W fun e w' => e = .returned (.int .i64 (N : Int)) ∧ Below W.heap.size W w') := fun W m => by
    have := refPieces7_any (d : Int) (g : Int) Gs n c A W m hshH.out
    rw [pcs_nat h0.out hNH.out] at this
    exact this
  have CC : Hid (∀ W k Ar cr Ap cp, Rds W W.heap.size Ar ((crow d Gs k d).map bv) → Rds W W.heap.size Ap ((encP d Gs P z d).map sv) → Calls Tryd.prog 37 #[.slice Ar d cr, .slice Ap d cp] W fun e w' => e = .returned (.agg #[sv (pce d Gs P z k), .int .i64 0]) ∧ Below W.heap.size W w') := fun W k Ar cr Ap cp h1 h2 => by
    have := refCombine4_any (crow d Gs k d) (encP d Gs P z d) Ar Ap cr cp W (by rw [encP_len]; omega) (fun x hx => by
      unfold encP at hx
      obtain ⟨i, _, rfl⟩ := List.mem_map.1 hx
      rw [pce_len]; omega) h1 h2
    rw [crow_len, encP_len] at this
    unfold cres at this
    rw [if_pos (crow_fit hd1), pce_par hd1 hPl.out] at this
    exact this
  unfold cdv at CZ CP
  have hO0 : Hid (OwnS w2 w2.heap.size (.slice none 0 0) (encP d Gs P z 0)) := ownS_nil _ _
  have hb0 : Hid (Below w2.heap.size w2 w2) := Below.refl _ _
  have hYl := Lib.hid Y.out.lt
  go_wp2_with fail
  go_loopw [6, 7] (fun v x wr => ∃ k : Nat, k ≤ d ∧ x = .int .i64 k ∧ Hid (OwnS wr w2.heap.size v (encP d Gs P z k)) ∧ Hid (Below w2.heap.size w2 wr)) (fun _ x _ => d - (intOf x).toNat)
  case atStart => exact ⟨0, by omega, rfl, hO0, hb0⟩
  case round =>
    obtain ⟨k, hk, rfl, hO, hbw⟩ := hrel
    clear hO0 hb0
    have hb := hbw.out
    replace E : Hid (Below w.heap.size w wr) := E.out.trans (hb.mono E.out.size)
    replace M := Lib.hid (M.out.keep hb)
    replace X := Lib.hid (X.out.below hb X.out.lt)
    replace Y := Lib.hid (Y.out.below hb Y.out.lt)
    clear hb
    have p0 := X.out.cell (j := 0) rfl
    have p1 := X.out.cell (j := 1) rfl
    have p2 := X.out.cell (j := 2) rfl
    by_cases hkd : k < d
    · have tk : (k : Int) < (d : Int) := by omega
      go_wp2_with fail
      refine (CZ.out _ M.out).mono ?_
      rintro e w3 ⟨rfl, hb⟩
      have hO3 := Lib.hid (hO.out.keep hb)
      have hB3 := Lib.hid (hbw.out.trans (hb.mono hbw.out.size))
      clear hb p0 p1 p2 hO
      go_wp2_with fail
      refine (CPt.out _ k hkd).mono ?_
      rintro e w4 ⟨rfl, hb⟩
      have hO4 := Lib.hid (hO3.out.keep hb)
      have hB4 := Lib.hid (hB3.out.trans (hb.mono hB3.out.size))
      have hsz : w2.heap.size ≤ w4.heap.size := hB4.out.size
      have hnx : Hid (encP d Gs P z (k + 1) = encP d Gs P z k ++ [pce d Gs P z k]) := by show _ = _; rw [encP_next]
      have hll : (encP d Gs P z k).length ≤ 1000000 := by rw [encP_len]; omega
      obtain ⟨y, hy⟩ : ∃ y, y = pce d Gs P z k := ⟨_, rfl⟩
      rw [← hy] at hnx ⊢
      obtain ⟨YS, hYS⟩ : ∃ Y, Y = bs y := ⟨_, rfl⟩
      have hYH : Hid (Value.string YS = sv y) := by show _ = _; rw [hYS]; rfl
      rw [show sv y = .string YS from hYH.out.symm]
      generalize encP d Gs P z k = L at hO4 hll hnx
      clear hb hO3 hB3 hy hYS
      go_wp2_with (at_builtin; go_must (refine push_s rfl _ _ rfl w2.heap.size u6 L y _ hYH.out rfl rfl hO4.out hll hsz ?_); intro v' w5 ho1 hg1)
      have hb1 := Lib.hid (below_grown hB4.out hO4.out hg1.1 hsz)
      have ho1H : Hid (OwnS w5 w2.heap.size v' (encP d Gs P z (k + 1))) := by show OwnS _ _ _ _; rw [hnx.out]; exact ho1
      clear ho1 hg1
      go_roundw
      case rel => exact ⟨k + 1, by omega, by go_num, ho1H, hb1⟩
      case measure => simp [intOf]; omega
    have tk : ¬ (k : Int) < (d : Int) := by omega
    obtain rfl : k = d := by omega
    clear hkd hk
    obtain ⟨Ap, cp, hv, _, _, _, hRp⟩ := hO.out.slice
    rw [encP_len] at hv
    subst hv
    obtain ⟨w3, hw3⟩ : ∃ x, x = wr := ⟨_, rfl⟩
    subst hw3
    have hRpH := Lib.hid hRp
    have hO0 : Hid (OwnS w3 w3.heap.size (.slice none 0 0) (encP k Gs P z 0)) := ownS_nil _ _
    have hb0 : Hid (Below w3.heap.size w3 w3) := Below.refl _ _
    have hY3 := Lib.hid Y.out.lt
    clear hRp hO hbw
    go_wp2_with fail
    clear p0 p1 p2
    go_loopw [8, 9] (fun v x wr => ∃ t : Nat, t ≤ N ∧ x = .int .i64 t ∧ Hid (OwnS wr w3.heap.size v (encP k Gs P z t)) ∧ Hid (Below w3.heap.size w3 wr)) (fun _ x _ => N - (intOf x).toNat)
    case atStart => exact ⟨0, by omega, rfl, hO0, hb0⟩
    case round =>
      obtain ⟨t, ht, rfl, hO, hbw⟩ := hrel
      clear hO0 hb0
      have hb := hbw.out
      replace E : Hid (Below w.heap.size w wr) := E.out.trans (hb.mono E.out.size)
      replace M := Lib.hid (M.out.keep hb)
      replace X := Lib.hid (X.out.below hb X.out.lt)
      replace Y := Lib.hid (Y.out.below hb Y.out.lt)
      clear hb
      have p0 := X.out.cell (j := 0) rfl
      have p1 := X.out.cell (j := 1) rfl
      have p2 := X.out.cell (j := 2) rfl
      go_wp2_with fail
      refine (CP.out _ M.out).mono ?_
      rintro e w4 ⟨rfl, hb⟩
      replace E : Hid (Below w.heap.size w w4) := E.out.trans (hb.mono E.out.size)
      replace M := Lib.hid (M.out.keep hb)
      replace X := Lib.hid (X.out.below hb X.out.lt)
      replace Y := Lib.hid (Y.out.below hb Y.out.lt)
      replace hO := Lib.hid (hO.out.keep hb)
      replace hbw := Lib.hid (hbw.out.trans (hb.mono hbw.out.size))
      clear hb p0 p1 p2
      have p0 := X.out.cell (j := 0) rfl
      have p1 := X.out.cell (j := 1) rfl
      have p2 := X.out.cell (j := 2) rfl
      by_cases htN : t < N
      rotate_left
      · have tt : ¬ (t : Int) < (N : Int) := by omega
        obtain rfl : t = N := by omega
        clear htN ht p0 p1 p2
        obtain ⟨A2, c2, hv, _, _, _, _⟩ := hO.out.slice
        rw [← hTe.out] at hv hO
        subst hv
        generalize hTl : TT.length = tl at hO ⊢
        have hTlH := Lib.hid hTl
        clear hTl
        go_wp2_with (refine wpList_row_store rfl 36 _ _ rfl [.slice A2 tl c2, .int .i64 0] rfl rfl Y.out size_lst7 rfl (made_one _ _ _ _) ?_; intro w5 hw5 ho5)
        refine bodyPost_ret (ret_blk rfl _ w5 (g := w.heap.size + 1) rfl hw5.out dd hdu'.out hdr size_lst7) rfl ⟨⟨A2, c2, by rw [hTlH.out], ?_⟩, E.out.trans (ho5.below (Nat.le_succ _))⟩
        obtain ⟨A3, c3, e3, _, _, _, g5⟩ := (hO.out.only ho5 (by have := hY3.out; omega)).slice
        cases e3
        exact g5
      have tt : (t : Int) < (N : Int) := by omega
      have CW := Lib.hid (row07_any k n c g t Gs A w4 M.out hd16 hn24 (by omega) hshH.out)
      unfold cdv at CW
      go_wp2_with fail
      refine CW.out.mono ?_
      rintro e w5 ⟨vr, ⟨rfl, hu⟩, hb⟩
      obtain ⟨Ar, cr, rfl, _, _, _, hRr⟩ := own_form hu
      rw [crow_len]
      have hO5 := Lib.hid (hO.out.keep hb)
      have hB5 := Lib.hid (hbw.out.trans (hb.mono hbw.out.size))
      have hRrH := Lib.hid hRr
      clear hb hu hRr CW p0 p1 p2
      have hRp5 := Lib.hid ((hRpH.out.below hB5.out).more hB5.out.size)
      go_wp2_with fail
      refine (CC.out w5 t Ar cr Ap cp hRrH.out hRp5.out).mono ?_
      rintro e w6 ⟨rfl, hb⟩
      have hO6 := Lib.hid (hO5.out.keep hb)
      have hB6 := Lib.hid (hB5.out.trans (hb.mono hB5.out.size))
      have hsz : w3.heap.size ≤ w6.heap.size := hB6.out.size
      have hnx : Hid (encP k Gs P z (t + 1) = encP k Gs P z t ++ [pce k Gs P z t]) := by show _ = _; rw [encP_next]
      have hll : (encP k Gs P z t).length ≤ 1000000 := by rw [encP_len]; omega
      obtain ⟨y, hy⟩ : ∃ y, y = pce k Gs P z t := ⟨_, rfl⟩
      rw [← hy] at hnx ⊢
      obtain ⟨YS, hYS⟩ : ∃ Y, Y = bs y := ⟨_, rfl⟩
      have hYH : Hid (Value.string YS = sv y) := by show _ = _; rw [hYS]; rfl
      rw [show sv y = .string YS from hYH.out.symm]
      have hfd : ∀ W : World, (Instr.field 67 (.agg #[.string YS, .int .i64 0]) 0).run Tryd.prog W = .ok (.string YS) W := fun _ => by kernel_rfl
      generalize encP k Gs P z t = L at hO6 hll hnx
      clear hb hO5 hB5 hy hYS hRp5 hRrH hO
      go_wp2_with (at_builtin; go_must (refine push_s rfl _ _ rfl w3.heap.size u8 L y _ hYH.out rfl rfl hO6.out hll hsz ?_); intro v' w7 ho1 hg1)
      have hb1 := Lib.hid (below_grown hB6.out hO6.out hg1.1 hsz)
      have ho1H : Hid (OwnS w7 w3.heap.size v' (encP k Gs P z (t + 1))) := by show OwnS _ _ _ _; rw [hnx.out]; exact ho1
      clear ho1 hg1
      go_roundw
      case rel => exact ⟨t + 1, by omega, by go_num, ho1H, hb1⟩
      case measure => simp [intOf]; omega
end Go.Proofs.YtcnljemnkhmfcaaDoor

namespace Go.Proofs.YtcnljemnkhmfcaaDoor
set_option linter.unusedVariables false
set_option linter.unusedSimpArgs false
open Go.RowKit

set_option maxRecDepth 100000 in
set_option maxHeartbeats 8000000 in
theorem refRows7_any {B : Nat} (D G : Int) (Gs : List (List Int)) (n c : Nat) (A : Option Addr) (w : World) (hM : CodM w B D A n c G Gs) (hsh : ∀ g ∈ Gs, g.length ≤ 1000000) :
    Calls Tryd.prog 21 #[cdv D A n c G] w fun e w' => (∃ A c, e = .returned (.slice A (rowsT D G Gs).length c) ∧ Mat w' w'.heap.size A (rowsT D G Gs)) ∧ Below w.heap.size w w' := by
  obtain ⟨W1, hW1⟩ : ∃ W1, W1 = w.alloc (.cells #[.int .i64 D, .slice A n c, .int .i64 G] 24) := ⟨_, rfl⟩
  have E : Hid (Below w.heap.size w W1) := by show Below _ _ _; rw [hW1]; exact (Below.refl _ _).alloc (Nat.le_refl _) _
  have X : Hid (Blk W1 w.heap.size [.int .i64 D, .slice A n c, .int .i64 G] 24) := by show Blk _ _ _ _; rw [hW1]; exact Blk.new _ [_, _, _] _
  have M := Lib.hid (hM.keep E.out)
  have hdd := Lib.hid size_cod
  have hun : Hid (Tryd.prog.underlying 24 = _) := Tryd.underlying24
  have hshH := Lib.hid hsh
  have hlen : Hid (n = Gs.length) := hM.len
  obtain ⟨R, hR⟩ : ∃ R, R = rowsT D G Gs := ⟨_, rfl⟩
  rw [← hR]
  obtain ⟨pz, hpz⟩ : ∃ x, x = pcs D Gs G := ⟨_, rfl⟩
  have hN : ∃ NN : Nat, pz = NN ∧ NN ≤ 24 ∧ R.length = NN ∧ (∀ k, k < NN → chkE D Gs G = 0 ∧ R[k]? = some (crow D.toNat Gs k D.toNat)) := by
    by_cases h0 : chkE D Gs G = 0
    · obtain ⟨b1, b2, b3, b4, b5, b6⟩ := cchk_ok h0
      have hRe : R = PM (fun k => crow D.toNat Gs k D.toNat) (D.toNat + (Gs.length + G.toNat)) := by rw [hR]; unfold rowsT; rw [if_pos h0]
      refine ⟨D.toNat + (Gs.length + G.toNat), ?_, by omega, by rw [hRe, PM_len], fun k hk => ⟨h0, by rw [hRe]; exact PM_get _ hk⟩⟩
      rw [hpz]; unfold pcs; rw [if_pos h0]; omega
    · refine ⟨0, by rw [hpz]; unfold pcs; rw [if_neg h0]; rfl, by omega, by rw [hR]; unfold rowsT; rw [if_neg h0]; rfl, fun k hk => by omega⟩
  obtain ⟨NN, hpn, hNN, hRl, hRk⟩ := hN
  have hRlH := Lib.hid hRl
  have hRkH := Lib.hid hRk
  have CP : Hid (∀ W, CodM W B D A n c G Gs → Calls Tryd.prog 16 #[cdv D A n c G] W fun e w' => e = .returned (.int .i64 (NN : Int)) ∧ Below W.heap.size W w') := fun W m => by
    have := refPieces7_any D G Gs n c A W m hshH.out
    rw [← hpz, hpn] at this
    exact this
  have hQ0 : Hid (OwnQ 0 W1 W1.heap.size (.slice none 0 0) (R.take 0)) := ownQ_nil _ _ _
  have hb0 : Hid (Below W1.heap.size W1 W1) := Below.refl _ _
  have hW' := Lib.hid hW1
  clear hM hsh hW1 hR hpz hpn hRl hRk
  unfold cdv at CP ⊢
  go_enter Tryd.func21, Tryd.ntmps21
  go_wp2_with fail
  generalize hg : w.alloc _ = Wg
  have hgW : W1 = Wg := by rw [← hg, hW'.out]
  clear hg hW'
  subst hgW
  go_loopw [3, 4] (fun v x wr => ∃ k : Nat, k ≤ NN ∧ x = .int .i64 k ∧ Hid (OwnQ 0 wr W1.heap.size v (R.take k)) ∧ Hid (Below W1.heap.size W1 wr)) (fun _ x _ => NN - (intOf x).toNat)
  case atStart => exact ⟨0, by omega, rfl, hQ0, hb0⟩
  case round =>
    obtain ⟨k, hk, rfl, hQ, hbw⟩ := hrel
    clear hQ0 hb0
    have hb := hbw.out
    replace E : Hid (Below w.heap.size w wr) := E.out.trans (hb.mono E.out.size)
    replace M := Lib.hid (M.out.keep hb)
    replace X := Lib.hid (X.out.below hb X.out.lt)
    clear hb
    have p0 := X.out.cell (j := 0) rfl
    have p1 := X.out.cell (j := 1) rfl
    have p2 := X.out.cell (j := 2) rfl
    go_wp2_with fail
    refine (CP.out _ M.out).mono ?_
    rintro e w4 ⟨rfl, hb⟩
    replace E : Hid (Below w.heap.size w w4) := E.out.trans (hb.mono E.out.size)
    replace M := Lib.hid (M.out.keep hb)
    replace X := Lib.hid (X.out.below hb X.out.lt)
    replace hQ := Lib.hid (hQ.out.keep hb)
    replace hbw := Lib.hid (hbw.out.trans (hb.mono hbw.out.size))
    clear hb p0 p1 p2
    have p0 := X.out.cell (j := 0) rfl
    have p1 := X.out.cell (j := 1) rfl
    have p2 := X.out.cell (j := 2) rfl
    by_cases hkN : k < NN
    rotate_left
    · have tk : ¬ (k : Int) < (NN : Int) := by omega
      obtain rfl : k = NN := by omega
      clear hkN hk
      have hQ2 := hQ.out
      rw [List.take_of_length_le (by rw [hRlH.out]; exact Nat.le_refl _)] at hQ2
      obtain ⟨A3, c3, hv, g1, g2, g3, g4⟩ := hQ2.mat
      subst hv
      have hmH := Lib.hid g4
      generalize hrl : R.length = rl at hQ2 ⊢
      clear g1 g2 g3 g4 hQ hQ2
      go_wp2_with fail
      go_ret
      exact ⟨⟨A3, c3, by rw [hrl]; rfl, hmH.out⟩, E.out⟩
    have tk : (k : Int) < (NN : Int) := by omega
    obtain ⟨h0, hRe⟩ := hRkH.out k hkN
    obtain ⟨b1, b2, b3, b4, b5, b6⟩ := cchk_ok h0
    obtain ⟨d, rfl⟩ : ∃ d : Nat, D = d := ⟨D.toNat, by omega⟩
    obtain ⟨g, rfl⟩ : ∃ g : Nat, G = g := ⟨G.toNat, by omega⟩
    rw [Int.toNat_natCast] at hRe
    have hnx : Hid (R.take (k + 1) = R.take k ++ [crow d Gs k d]) := take_nat7 hRe
    have CW := Lib.hid (row07_any d n c g k Gs A w4 M.out (by omega) (by have := hlen.out; omega) (by omega) hshH.out)
    unfold cdv at CW
    clear b1 b2 b3 b4 b5 b6 h0 hRe
    go_wp2_with fail
    refine CW.out.mono ?_
    rintro e w7 ⟨vr, ⟨rfl, hu⟩, hb7⟩
    have hpos : 0 < w4.heap.size := Nat.lt_of_le_of_lt (Nat.zero_le _) X.out.lt
    have hoff := own_off hu hQ.out hpos
    have ho4 := hQ.out.keep hb7
    have hB4 := Lib.hid (hbw.out.trans (hb7.mono hbw.out.size))
    have hln : (R.take k).length ≤ 1000000 := by rw [List.length_take]; omega
    have hsz4 : W1.heap.size ≤ w7.heap.size := hB4.out.size
    obtain ⟨Au, cu, rfl, _⟩ := hoff
    have hoff2 := own_off hu hQ.out hpos
    clear hu hb7 CW p0 p1 p2 hpos
    go_wp2_with (at_builtin; go_must (refine push_q rfl _ _ rfl W1.heap.size _ (R.take k) _ _ rfl rfl ho4 hoff2 hln hsz4 ?_); intro v' w8 ho5 hb8 hg5)
    have f1 : Hid (OwnQ 0 w8 W1.heap.size v' (R.take (k + 1))) := by show OwnQ _ _ _ _ _; rw [hnx.out]; exact ho5
    have f2 := Lib.hid (hB4.out.trans hb8)
    clear ho5 hb8 hg5 ho4 hoff2
    go_roundw
    case rel => exact ⟨k + 1, by omega, by go_num, f1, f2⟩
    case measure => simp [intOf]; omega

set_option maxRecDepth 100000 in
set_option maxHeartbeats 1000000 in
theorem sameRows07_any {B B' : Nat} (la lb : List (List UInt8)) (A A' : Option Addr) (c c' : Nat) (w : World) (ha : Mat w B A la) (hb : Mat w B' A' lb) (hl : la.length ≤ 1000000000000) :
    Calls Tryd.prog 20 #[.slice A la.length c, .slice A' lb.length c'] w (BoolEnd (la == lb) w) := by
  by_cases hlen : la.length = lb.length
  · have t : ((la.length : Int) != (lb.length : Int)) = false := by simp; omega
    have HL := Lib.hid hlen
    have hle : lb.length ≤ la.length := by omega
    have hge : la.length ≤ lb.length := by omega
    clear hlen
    go_enter Tryd.func20, Tryd.ntmps20
    go_wp2
    go_loopw [5] (fun i wr => ∃ k n : Nat, k ≤ la.length ∧ i = .int .i64 k ∧ wr = w.drewN n ∧ la.take k = lb.take k) (fun i _ => la.length - (intOf i).toNat)
    case atStart => exact ⟨0, 0, by omega, rfl, rfl, rfl⟩
    case round =>
      obtain ⟨k, n, hk, rfl, rfl, heq0⟩ := hrel
      have heq := Lib.hid heq0
      clear heq0
      by_cases hlt : k < la.length
      · have hlt2 : k < lb.length := by omega
        have g1 : la[k]? = some la[k] := List.getElem?_eq_getElem hlt
        have g2 : lb[k]? = some lb[k] := List.getElem?_eq_getElem hlt2
        obtain ⟨ad, va, rfl, _, hca, a1, c1, rfl, _, _, _, hra⟩ := ha.at g1
        obtain ⟨bd, vb, rfl, _, hcb, a2, c2, rfl, _, _, _, hrb⟩ := hb.at g2
        have G1 := Lib.hid g1
        have G2 := Lib.hid g2
        clear g1 g2
        have hva : ∀ m, (convert 57 9 (.slice a1 la[k].length c1)).run Tryd.prog (w.drewN m) = .ok (.string (bs la[k])) (w.drewN m) := fun m => run_bytes_bs (P := Tryd.prog) (w.drewN m) 57 9 5 Tryd.underlying57 Tryd.underlying5 Tryd.underlying9 c1 (B := B) hra
        have hvb : ∀ m, (convert 57 9 (.slice a2 lb[k].length c2)).run Tryd.prog (w.drewN m) = .ok (.string (bs lb[k])) (w.drewN m) := fun m => run_bytes_bs (P := Tryd.prog) (w.drewN m) 57 9 5 Tryd.underlying57 Tryd.underlying5 Tryd.underlying9 c2 (B := B') hrb
        clear hra hrb
        have s1 := bs_toList la[k]
        have s2 := bs_toList lb[k]
        generalize la[k] = x at hca G1 s1 hva
        generalize lb[k] = y at hcb G2 s2 hvb
        generalize bs x = X at s1 hva
        generalize bs y = Y at s2 hvb
        generalize x.length = lx at hca hva
        generalize y.length = ly at hcb hvb
        have S1 := Lib.hid s1
        have S2 := Lib.hid s2
        clear s1 s2
        have b1 : 0 ≤ (k : Int) := by omega
        have b2 : (k : Int) < (la.length : Int) := by omega
        have b3 : (k : Int) < (lb.length : Int) := by omega
        by_cases hxy : x = y
        · have t1 : (X.toList == Y.toList) = true := by rw [S1.out, S2.out]; simp [hxy]
          have hn := Lib.hid (take_snoc_eq G1.out (by rw [hxy]; exact G2.out) heq.out)
          clear hxy
          go_wp2
          go_quiet (fail)
          go_wp2
          go_roundw
          case rel => exact ⟨k + 1, _, by omega, by go_num, by go_simp; rfl, hn.out⟩
          case measure => simp [intOf]; omega
        · have t1 : (X.toList == Y.toList) = false := by rw [S1.out, S2.out]; simp [hxy]
          have hne : Hid ((la == lb) = false) := by
            show _ = _
            rw [beq_eq_false_iff_ne]
            rintro rfl
            have := G1.out.symm.trans G2.out
            injection this with this
            exact hxy this
          clear hxy
          go_wp2
          go_quiet (fail)
          go_wp2
          go_ret
          exact ⟨by rw [hne.out]; rfl, _, by go_simp; rfl⟩
      · have hE : Hid ((la == lb) = true) := by
          show _ = _
          rw [beq_iff_eq]
          have := heq.out
          rwa [List.take_of_length_le (by omega), List.take_of_length_le (by omega)] at this
        go_wp2
        go_ret
        exact ⟨by rw [hE.out]; rfl, n, rfl⟩
  · have t : ((la.length : Int) != (lb.length : Int)) = true := by simp; omega
    have hne : Hid ((la == lb) = false) := by
      show _ = _
      rw [beq_eq_false_iff_ne]
      rintro rfl
      exact hlen rfl
    clear hlen
    go_enter Tryd.func20, Tryd.ntmps20
    go_wp2
    go_ret
    exact ⟨by rw [hne.out]; rfl, 0, rfl⟩
end Go.Proofs.YtcnljemnkhmfcaaDoor

namespace Go.Proofs.YtcnljemnkhmfcaaDoor
set_option linter.unusedVariables false
set_option linter.unusedSimpArgs false
open Go.RowKit

theorem Mat.keep7 {w w' : World} {A : Option Addr} {M : List (List UInt8)} (h : Mat w w.heap.size A M) (hb : Below w.heap.size w w') : Mat w' w'.heap.size A M := (h.below hb).more hb.size
set_option maxRecDepth 100000 in
set_option maxHeartbeats 16000000 in
theorem encodes_walk (D : Int) (A : Option Addr) (n c : Nat) (G : Int) (Gs : List (List Int)) (d : List UInt8) (nn : Int) (w : World) (hM : CodM w w.heap.size D A n c G Gs) (hd : d.length ≤ 140737488351232) (hnn : -9223372036854775808 ≤ nn ∧ nn ≤ 9223372036854775807) (ht : PTab 0 w):
    Calls Tryd.prog 3 #[cdv D A n c G, sv d, .int .i64 nn] w fun e w' => e = .returned (.bool true) ∧ Below w.heap.size w w' := by
  have hdd := Lib.hid size_cod
  have hun : Hid (Tryd.prog.underlying 24 = _) := Tryd.underlying24
  obtain ⟨W1, hW1⟩ : ∃ W1, W1 = w.alloc (.cells #[.int .i64 D, .slice A n c, .int .i64 G] 24) := ⟨_, rfl⟩
  have E : Hid (Below w.heap.size w W1) := by show Below _ _ _; rw [hW1]; exact (Below.refl _ _).alloc (Nat.le_refl _) _
  have X : Hid (Blk W1 w.heap.size [.int .i64 D, .slice A n c, .int .i64 G] 24) := by show Blk _ _ _ _; rw [hW1]; exact Blk.new _ [_, _, _] _
  have M := Lib.hid (hM.keep E.out)
  have T := Lib.hid (ht.on E.out)
  have hlen : Hid (n = Gs.length) := hM.len
  have hW' := Lib.hid hW1
  have hsmall : n ≤ 140737488355328 := hM.small
  have hS : (bs d).size = d.length := bs_size d
  obtain ⟨m, hm⟩ : ∃ m, m = d.length := ⟨_, rfl⟩
  have hmH := Lib.hid hm
  rw [← hm] at hS hd
  obtain ⟨S, hSd⟩ : ∃ S, S = bs d := ⟨_, rfl⟩
  have hSH := Lib.hid hSd
  have hsv : sv d = .string S := by rw [hSd]; rfl
  rw [← hSd] at hS
  rw [hsv]
  have hS2 : (S.size : Int) = (m : Int) := by omega
  have CF := few07_any D G 20 n c Gs A W1 M.out
  rw [hW1] at CF
  clear hM ht hW1 hm hSd hsv
  unfold cdv at CF ⊢
  have p0 := X.out.cell (j := 0) rfl
  have p1 := X.out.cell (j := 1) rfl
  have p2 := X.out.cell (j := 2) rfl
  rw [hW'.out] at p0 p1 p2
  go_enter Tryd.func3, Tryd.ntmps3
  go_wp2_with fail
  refine CF.mono ?_
  rintro e w2 ⟨⟨b, rfl, hbf⟩, hb⟩
  have hb : Below W1.heap.size W1 w2 := by rw [hW'.out]; exact hb
  have hbfH := Lib.hid hbf
  clear CF hbf hW'
  clear p0 p1 p2
  replace E : Hid (Below w.heap.size w w2) := E.out.trans (hb.mono E.out.size)
  replace M := Lib.hid (M.out.keep hb)
  replace T := Lib.hid (T.out.on hb)
  replace X := Lib.hid (X.out.below hb X.out.lt)
  clear hb
  have p0 := X.out.cell (j := 0) rfl
  have p1 := X.out.cell (j := 1) rfl
  have p2 := X.out.cell (j := 2) rfl
  cases b with
  | false =>
    clear hbfH
    go_wp2_with fail
    refine (sanity_any7 _ T.out).mono ?_
    rintro e w3 ⟨rfl, hb⟩
    clear p0 p1 p2
    replace E : Hid (Below w.heap.size w w3) := E.out.trans (hb.mono E.out.size)
    replace M := Lib.hid (M.out.keep hb)
    replace T := Lib.hid (T.out.on hb)
    replace X := Lib.hid (X.out.below hb X.out.lt)
    clear hb
    have p0 := X.out.cell (j := 0) rfl
    have p1 := X.out.cell (j := 1) rfl
    have p2 := X.out.cell (j := 2) rfl
    go_wp2_with fail
    go_ret
    exact ⟨by first | rfl | (go_simp; done), E.out⟩
  | true =>
    have hF := hbfH.out.1 rfl
    have hshH : Hid (∀ g ∈ Gs, g.length ≤ 1000000) := fun g hg => by have := hF.2 g hg; omega
    clear hF hbfH
    by_cases c1 : 4106 < m
    · have t1 : (200 : Int) < (m : Int) := by omega
      have t2 : ¬ (m : Int) ≤ 4096 := by omega
      have t3 : (4106 : Int) < (m : Int) := by omega
      clear c1
      skip
      go_wp2_with fail
      refine (sanity_any7 _ T.out).mono ?_
      rintro e w3 ⟨rfl, hb⟩
      clear p0 p1 p2
      replace E : Hid (Below w.heap.size w w3) := E.out.trans (hb.mono E.out.size)
      replace M := Lib.hid (M.out.keep hb)
      replace T := Lib.hid (T.out.on hb)
      replace X := Lib.hid (X.out.below hb X.out.lt)
      clear hb
      have p0 := X.out.cell (j := 0) rfl
      have p1 := X.out.cell (j := 1) rfl
      have p2 := X.out.cell (j := 2) rfl
      go_wp2_with fail
      go_ret
      exact ⟨by first | rfl | (go_simp; done), E.out⟩
    by_cases c2 : 200 < m ∧ m ≤ 4096
    · have t1 : (200 : Int) < (m : Int) := by omega
      have t2 : (m : Int) ≤ 4096 := by omega
      clear c1 c2
      go_wp2_with fail
      refine (sanity_any7 _ T.out).mono ?_
      rintro e w3 ⟨rfl, hb⟩
      clear p0 p1 p2
      replace E : Hid (Below w.heap.size w w3) := E.out.trans (hb.mono E.out.size)
      replace M := Lib.hid (M.out.keep hb)
      replace T := Lib.hid (T.out.on hb)
      replace X := Lib.hid (X.out.below hb X.out.lt)
      clear hb
      have p0 := X.out.cell (j := 0) rfl
      have p1 := X.out.cell (j := 1) rfl
      have p2 := X.out.cell (j := 2) rfl
      go_wp2_with fail
      go_ret
      exact ⟨by first | rfl | (go_simp; done), E.out⟩
    obtain ⟨Ck, hCk⟩ : ∃ x, x = chkE D Gs G := ⟨_, rfl⟩
    obtain ⟨R, hR⟩ : ∃ x, x = rowsT D G Gs := ⟨_, rfl⟩
    obtain ⟨TT, hTT⟩ : ∃ x, x = encT D G Gs d := ⟨_, rfl⟩
    obtain ⟨EE, hEE⟩ : ∃ x, x = encE D G Gs d := ⟨_, rfl⟩
    obtain ⟨pz, hpz⟩ : ∃ x, x = pcs D Gs G := ⟨_, rfl⟩
    obtain ⟨sz, hsz⟩ : ∃ x, x = (if chkE D Gs G = 0 ∧ 0 ≤ nn ∧ nn ≤ 4096 then (nn + D - 1) / D else 0) := ⟨_, rfl⟩
    have CK : Hid (∀ W, CodM W w.heap.size D A n c G Gs → Calls Tryd.prog 10 #[cdv D A n c G] W fun e w' => e = .returned (.int .i64 Ck) ∧ Below W.heap.size W w') := fun W m => by rw [hCk]; exact refCheck7_any D G Gs n c A W m hshH.out
    have CK2 : Hid (∀ W, CodM W w.heap.size D A n c G Gs → Calls Tryd.prog 14 #[cdv D A n c G] W fun e w' => e = .returned (.int .i64 Ck) ∧ Below W.heap.size W w') := fun W m => by rw [hCk]; exact ccheck_any D G Gs n c A W m
    have CP : Hid (∀ W, CodM W w.heap.size D A n c G Gs → Calls Tryd.prog 16 #[cdv D A n c G] W fun e w' => e = .returned (.int .i64 pz) ∧ Below W.heap.size W w') := fun W m => by rw [hpz]; exact refPieces7_any D G Gs n c A W m hshH.out
    have CP2 : Hid (∀ W, CodM W w.heap.size D A n c G Gs → Calls Tryd.prog 15 #[cdv D A n c G] W fun e w' => e = .returned (.int .i64 pz) ∧ Below W.heap.size W w') := fun W m => by rw [hpz]; exact pieces_any D G Gs n c A W m
    have CZ : Hid (∀ W, CodM W w.heap.size D A n c G Gs → Calls Tryd.prog 18 #[cdv D A n c G, .int .i64 nn] W fun e w' => e = .returned (.int .i64 sz) ∧ Below W.heap.size W w') := fun W m => by rw [hsz]; exact refSize7_any D G nn Gs n c A W m hshH.out
    have CZ2 : Hid (∀ W, CodM W w.heap.size D A n c G Gs → Calls Tryd.prog 17 #[cdv D A n c G, .int .i64 nn] W fun e w' => e = .returned (.int .i64 sz) ∧ Below W.heap.size W w') := fun W m => by rw [hsz]; exact Size_any D G nn Gs n c A W m
    have CR : Hid (∀ W, CodM W w.heap.size D A n c G Gs → PTab 0 W → Calls Tryd.prog 11 #[cdv D A n c G] W fun e w' => ∃ A cc, e = .returned (.tuple #[.slice A R.length cc, .int .i64 Ck]) ∧ Mat w' w'.heap.size A R ∧ Below W.heap.size W w') := fun W m t => by rw [hR, hCk]; exact rows_any D G Gs n c A W m t
    have CR2 : Hid (∀ W, CodM W w.heap.size D A n c G Gs → Calls Tryd.prog 21 #[cdv D A n c G] W fun e w' => (∃ A cc, e = .returned (.slice A R.length cc) ∧ Mat w' w'.heap.size A R) ∧ Below W.heap.size W w') := fun W m => by rw [hR]; exact refRows7_any D G Gs n c A W m hshH.out
    have CE : Hid (∀ W, CodM W w.heap.size D A n c G Gs → PTab 0 W → Calls Tryd.prog 12 #[cdv D A n c G, .string S] W fun e w' => ∃ Ae ce, e = .returned (.tuple #[.slice Ae TT.length ce, .int .i64 EE]) ∧ Rds w' w'.heap.size Ae (TT.map sv) ∧ Below W.heap.size W w') := fun W m t => by
      have := encodeX_any D G Gs n c A d W m t (by rw [← hmH.out]; exact hd)
      rw [← hTT, ← hEE, show sv d = .string S by rw [hSH.out]; rfl] at this
      refine this.mono ?_
      rintro e w' ⟨v, rfl, hO, hb⟩
      obtain ⟨Ae, ce, rfl, _, _, _, hr⟩ := hO.slice
      exact ⟨Ae, ce, rfl, hr, hb⟩
    have CE2 : Hid (∀ W, CodM W w.heap.size D A n c G Gs → Calls Tryd.prog 13 #[cdv D A n c G, .string S] W fun e w' => (∃ Af cf, e = .returned (.agg #[.slice Af TT.length cf, .int .i64 EE]) ∧ Rds w' w'.heap.size Af (TT.map sv)) ∧ Below W.heap.size W w') := fun W m => by
      have := refEncode7_any D G Gs n c A d W m hshH.out (by rw [← hmH.out]; exact hd)
      rw [← hTT, ← hEE, show sv d = .string S by rw [hSH.out]; rfl] at this
      exact this
    have hTl : Hid (TT.length ≤ 1000000) := by
      show _ ≤ _
      rw [hTT]
      unfold encT
      by_cases h : encE D G Gs d = 0
      · rw [if_pos h, encP_len]
        have h0 : chkE D Gs G = 0 := by
          apply Classical.byContradiction
          intro hne
          unfold encE at h
          rw [if_neg hne] at h
          exact hne h
        obtain ⟨b1, b2, b3, b4, b5, b6⟩ := cchk_ok h0
        omega
      · rw [if_neg h]; simp
    have hRl : Hid (R.length ≤ 1000000) := by
      show _ ≤ _
      rw [hR]
      unfold rowsT
      by_cases h : chkE D Gs G = 0
      · rw [if_pos h, PM_len]
        obtain ⟨b1, b2, b3, b4, b5, b6⟩ := cchk_ok h
        omega
      · rw [if_neg h]; simp
    have SR : Hid (∀ W B1 B2 A1 c1 A2 c2, Mat W B1 A1 R → Mat W B2 A2 R → Calls Tryd.prog 20 #[.slice A1 R.length c1, .slice A2 R.length c2] W fun e w' => e = .returned (.bool true) ∧ Below W.heap.size W w') := fun W B1 B2 A1 c1 A2 c2 h1 h2 => by
      refine (sameRows07_any R R A1 A2 c1 c2 W h1 h2 (by have := hRl.out; omega)).mono ?_
      rintro e w' ⟨rfl, k, rfl⟩
      exact ⟨by simp, below_drewN (Below.refl _ _) k⟩
    have ST : Hid (∀ W B1 B2 A1 c1 A2 c2, Rds W B1 A1 (TT.map sv) → Rds W B2 A2 (TT.map sv) → Calls Tryd.prog 19 #[.slice A1 TT.length c1, .slice A2 TT.length c2] W fun e w' => e = .returned (.bool true) ∧ Below W.heap.size W w') := fun W B1 B2 A1 c1 A2 c2 h1 h2 => by
      refine (sameTexts07_any TT TT A1 A2 c1 c2 W h1 h2 (by have := hTl.out; omega)).mono ?_
      rintro e w' ⟨rfl, k, rfl⟩
      exact ⟨by simp, below_drewN (Below.refl _ _) k⟩
    clear hCk hR hTT hEE hpz hsz hTl hRl
    unfold cdv at CK CK2 CP CP2 CZ CZ2 CR CR2 CE CE2
    generalize hrl : R.length = rl at CR CR2 SR
    generalize htl : TT.length = tl at CE CE2 ST
    clear hrl htl
    by_cases c3 : 200 < m
    · have t1 : (200 : Int) < (m : Int) := by omega
      have t2 : ¬ (m : Int) ≤ 4096 := by omega
      have t3 : ¬ (4106 : Int) < (m : Int) := by omega
      clear c1 c2 c3
      go_wp2_with fail
      have C := CK.out w2 M.out
      try unfold cdv at C
      refine C.mono ?_
      rintro e w3 ⟨rfl, hb⟩
      clear C
      clear p0 p1 p2
      replace E : Hid (Below w.heap.size w w3) := E.out.trans (hb.mono E.out.size)
      replace M := Lib.hid (M.out.keep hb)
      replace T := Lib.hid (T.out.on hb)
      replace X := Lib.hid (X.out.below hb X.out.lt)
      clear hb
      have p0 := X.out.cell (j := 0) rfl
      have p1 := X.out.cell (j := 1) rfl
      have p2 := X.out.cell (j := 2) rfl
      go_wp2_with fail
      have C := CR.out w3 M.out T.out
      try unfold cdv at C
      refine C.mono ?_
      rintro e w4 ⟨Ar, cr, rfl, hRm, hb⟩
      clear C
      clear p0 p1 p2
      replace E : Hid (Below w.heap.size w w4) := E.out.trans (hb.mono E.out.size)
      replace M := Lib.hid (M.out.keep hb)
      replace T := Lib.hid (T.out.on hb)
      replace X := Lib.hid (X.out.below hb X.out.lt)
      clear hb
      have Rm := Lib.hid hRm
      clear hRm
      have p0 := X.out.cell (j := 0) rfl
      have p1 := X.out.cell (j := 1) rfl
      have p2 := X.out.cell (j := 2) rfl
      go_wp2_with fail
      have C := CE.out w4 M.out T.out
      try unfold cdv at C
      refine C.mono ?_
      rintro e w5 ⟨Ae, ce, rfl, hRe, hb⟩
      clear C
      clear p0 p1 p2
      replace E : Hid (Below w.heap.size w w5) := E.out.trans (hb.mono E.out.size)
      replace M := Lib.hid (M.out.keep hb)
      replace T := Lib.hid (T.out.on hb)
      replace X := Lib.hid (X.out.below hb X.out.lt)
      replace Rm := Lib.hid (Rm.out.keep7 hb)
      clear hb
      have Re := Lib.hid hRe
      clear hRe
      have p0 := X.out.cell (j := 0) rfl
      have p1 := X.out.cell (j := 1) rfl
      have p2 := X.out.cell (j := 2) rfl
      go_wp2_with fail
      have C := CE2.out w5 M.out
      refine C.mono ?_
      rintro e w6 ⟨⟨Af, cf, rfl, hRf⟩, hb⟩
      clear C
      clear p0 p1 p2
      replace E : Hid (Below w.heap.size w w6) := E.out.trans (hb.mono E.out.size)
      replace M := Lib.hid (M.out.keep hb)
      replace T := Lib.hid (T.out.on hb)
      replace X := Lib.hid (X.out.below hb X.out.lt)
      replace Rm := Lib.hid (Rm.out.keep7 hb)
      replace Re := Lib.hid ((Re.out.below hb).more hb.size)
      clear hb
      have Rf := Lib.hid hRf
      clear hRf
      obtain ⟨w8, hw8⟩ : ∃ x, x = w6.alloc (.cells #[.slice Af tl cf, .int .i64 EE] 36) := ⟨_, rfl⟩
      obtain ⟨g8, hg8⟩ : ∃ x, x = w6.heap.size := ⟨_, rfl⟩
      have Y : Hid (Blk w8 g8 [.slice Af tl cf, .int .i64 EE] 36) := by show Blk _ _ _ _; rw [hw8, hg8]; exact Blk.new _ [_, _] _
      have hb8 : Hid (Below w6.heap.size w6 w8) := by show Below _ _ _; rw [hw8]; exact (Below.refl _ _).alloc (Nat.le_refl _) _
      have hw8H := Lib.hid hw8
      clear hw8
      have p0 := X.out.cell (j := 0) rfl
      have p1 := X.out.cell (j := 1) rfl
      have p2 := X.out.cell (j := 2) rfl
      go_wp2_with fail
      generalize hx : World.alloc _ _ = Wx
      have hW8 : w8 = Wx := by rw [← hx, hw8H.out]
      clear hx hw8H
      subst hW8
      rw [← hg8]
      clear p0 p1 p2
      have hb := hb8.out
      clear hb8 hg8
      replace E : Hid (Below w.heap.size w w8) := E.out.trans (hb.mono E.out.size)
      replace M := Lib.hid (M.out.keep hb)
      replace T := Lib.hid (T.out.on hb)
      replace X := Lib.hid (X.out.below hb X.out.lt)
      replace Rm := Lib.hid (Rm.out.keep7 hb)
      replace Re := Lib.hid ((Re.out.below hb).more hb.size)
      replace Rf := Lib.hid ((Rf.out.below hb).more hb.size)
      clear hb
      refine wp_region_planM [] [(true, 0), (true, 2), (false, 1), (true, 3), (true, 4), (true, 5), (true, 6), (true, 7), (true, 8), (true, 9), (true, 10), (true, 12), (false, 11), (false, 13), (true, 14), (true, 15), (true, 16), (true, 17), (true, 18), (true, 20), (true, 21), (false, 19), (false, 22), (true, 23), (true, 24), (true, 25), (true, 26), (true, 27), (true, 28), (true, 29), (true, 30), (true, 31), (true, 32), (true, 33), (true, 34), (false, 35), (true, 36), (true, 37)] (by decide) (by kernel_rfl) (by kernel_rfl) (by decide) (by intro c a d v w h; cases d <;> exact h) ?_
      change wpPlanM _ _ _ _ _ _ w8.drew
      have hb : Below w8.heap.size w8 w8.drew := (Below.refl _ _).drew
      generalize hgd : w8.drew = w9 at hb ⊢
      clear hgd
      replace E : Hid (Below w.heap.size w w9) := E.out.trans (hb.mono E.out.size)
      replace M := Lib.hid (M.out.keep hb)
      replace T := Lib.hid (T.out.on hb)
      replace X := Lib.hid (X.out.below hb X.out.lt)
      replace Rm := Lib.hid (Rm.out.keep7 hb)
      replace Re := Lib.hid ((Re.out.below hb).more hb.size)
      replace Rf := Lib.hid ((Rf.out.below hb).more hb.size)
      replace Y := Lib.hid (Y.out.below hb Y.out.lt)
      clear hb
      refine wpPlanM_runW rfl (by rfl) _ (fun q => load_run 24 _ rfl w.heap.size 0 rfl [.int .i64 D, .slice A n c, .int .i64 G] _ hun.out rfl hdd.out q.world ((Blk.below X.out q.ext X.out.lt).range 0 _ (take_all0 _))) ?_
      iterate 1 (refine wpPlanM_plain rfl (fun K hK => ?_); go_simp; refine hK _ ?_; clear hK K)
      refine wpPlanM_call rfl (fun K hK => ?_)
      go_wp2_with fail
      have C := CK2.out w9 M.out
      refine C.mono ?_
      rintro e w10 ⟨rfl, hb⟩
      clear C
      have hbp := Lib.hid hb
      replace E : Hid (Below w.heap.size w w10) := E.out.trans (hb.mono E.out.size)
      replace M := Lib.hid (M.out.keep hb)
      replace T := Lib.hid (T.out.on hb)
      replace X := Lib.hid (X.out.below hb X.out.lt)
      replace Rm := Lib.hid (Rm.out.keep7 hb)
      replace Re := Lib.hid ((Re.out.below hb).more hb.size)
      replace Rf := Lib.hid ((Rf.out.below hb).more hb.size)
      replace Y := Lib.hid (Y.out.below hb Y.out.lt)
      clear hb
      go_wp2_with fail
      refine planPostL_normal ⟨.inr hbp.out, hK _ _ ?_⟩
      clear hK K hbp
      iterate 7 (refine wpPlanM_plain rfl (fun K hK => ?_); go_simp; refine hK _ ?_; clear hK K)
      refine wpPlanM_runW rfl (by rfl) _ (fun q => load_run 24 _ rfl w.heap.size 0 rfl [.int .i64 D, .slice A n c, .int .i64 G] _ hun.out rfl hdd.out q.world ((Blk.below X.out q.ext X.out.lt).range 0 _ (take_all0 _))) ?_
      refine wpPlanM_runW rfl (by rfl) _ (fun q => load_run 24 _ rfl w.heap.size 0 rfl [.int .i64 D, .slice A n c, .int .i64 G] _ hun.out rfl hdd.out q.world ((Blk.below X.out q.ext X.out.lt).range 0 _ (take_all0 _))) ?_
      refine wpPlanM_call rfl (fun K hK => ?_)
      go_wp2_with fail
      have C := CP2.out w10 M.out
      refine C.mono ?_
      rintro e w11 ⟨rfl, hb⟩
      clear C
      have hbp := Lib.hid hb
      replace E : Hid (Below w.heap.size w w11) := E.out.trans (hb.mono E.out.size)
      replace M := Lib.hid (M.out.keep hb)
      replace T := Lib.hid (T.out.on hb)
      replace X := Lib.hid (X.out.below hb X.out.lt)
      replace Rm := Lib.hid (Rm.out.keep7 hb)
      replace Re := Lib.hid ((Re.out.below hb).more hb.size)
      replace Rf := Lib.hid ((Rf.out.below hb).more hb.size)
      replace Y := Lib.hid (Y.out.below hb Y.out.lt)
      clear hb
      go_wp2_with fail
      refine planPostL_normal ⟨.inr hbp.out, hK _ _ ?_⟩
      clear hK K hbp
      refine wpPlanM_call rfl (fun K hK => ?_)
      go_wp2_with fail
      have C := CP.out w11 M.out
      refine C.mono ?_
      rintro e w12 ⟨rfl, hb⟩
      clear C
      have hbp := Lib.hid hb
      replace E : Hid (Below w.heap.size w w12) := E.out.trans (hb.mono E.out.size)
      replace M := Lib.hid (M.out.keep hb)
      replace T := Lib.hid (T.out.on hb)
      replace X := Lib.hid (X.out.below hb X.out.lt)
      replace Rm := Lib.hid (Rm.out.keep7 hb)
      replace Re := Lib.hid ((Re.out.below hb).more hb.size)
      replace Rf := Lib.hid ((Rf.out.below hb).more hb.size)
      replace Y := Lib.hid (Y.out.below hb Y.out.lt)
      clear hb
      go_wp2_with fail
      refine planPostL_normal ⟨.inr hbp.out, hK _ _ ?_⟩
      clear hK K hbp
      iterate 3 (refine wpPlanM_plain rfl (fun K hK => ?_); go_simp; refine hK _ ?_; clear hK K)
      refine wpPlanM_runW rfl (by rfl) _ (fun q => load_run 24 _ rfl w.heap.size 0 rfl [.int .i64 D, .slice A n c, .int .i64 G] _ hun.out rfl hdd.out q.world ((Blk.below X.out q.ext X.out.lt).range 0 _ (take_all0 _))) ?_
      iterate 1 (refine wpPlanM_plain rfl (fun K hK => ?_); go_simp; refine hK _ ?_; clear hK K)
      refine wpPlanM_runW rfl (by rfl) _ (fun q => load_run 24 _ rfl w.heap.size 0 rfl [.int .i64 D, .slice A n c, .int .i64 G] _ hun.out rfl hdd.out q.world ((Blk.below X.out q.ext X.out.lt).range 0 _ (take_all0 _))) ?_
      iterate 1 (refine wpPlanM_plain rfl (fun K hK => ?_); go_simp; refine hK _ ?_; clear hK K)
      refine wpPlanM_call rfl (fun K hK => ?_)
      go_wp2_with fail
      have C := CZ2.out w12 M.out
      refine C.mono ?_
      rintro e w13 ⟨rfl, hb⟩
      clear C
      have hbp := Lib.hid hb
      replace E : Hid (Below w.heap.size w w13) := E.out.trans (hb.mono E.out.size)
      replace M := Lib.hid (M.out.keep hb)
      replace T := Lib.hid (T.out.on hb)
      replace X := Lib.hid (X.out.below hb X.out.lt)
      replace Rm := Lib.hid (Rm.out.keep7 hb)
      replace Re := Lib.hid ((Re.out.below hb).more hb.size)
      replace Rf := Lib.hid ((Rf.out.below hb).more hb.size)
      replace Y := Lib.hid (Y.out.below hb Y.out.lt)
      clear hb
      go_wp2_with fail
      refine planPostL_normal ⟨.inr hbp.out, hK _ _ ?_⟩
      clear hK K hbp
      refine wpPlanM_call rfl (fun K hK => ?_)
      go_wp2_with fail
      have C := CZ.out w13 M.out
      refine C.mono ?_
      rintro e w14 ⟨rfl, hb⟩
      clear C
      have hbp := Lib.hid hb
      replace E : Hid (Below w.heap.size w w14) := E.out.trans (hb.mono E.out.size)
      replace M := Lib.hid (M.out.keep hb)
      replace T := Lib.hid (T.out.on hb)
      replace X := Lib.hid (X.out.below hb X.out.lt)
      replace Rm := Lib.hid (Rm.out.keep7 hb)
      replace Re := Lib.hid ((Re.out.below hb).more hb.size)
      replace Rf := Lib.hid ((Rf.out.below hb).more hb.size)
      replace Y := Lib.hid (Y.out.below hb Y.out.lt)
      clear hb
      go_wp2_with fail
      refine planPostL_normal ⟨.inr hbp.out, hK _ _ ?_⟩
      clear hK K hbp
      iterate 5 (refine wpPlanM_plain rfl (fun K hK => ?_); go_simp; refine hK _ ?_; clear hK K)
      have yq1 : ∀ q : ExtOf w14, q.world.cell? ⟨g8, 1, none⟩ = some (.int .i64 EE) := fun q => (Blk.below Y.out q.ext Y.out.lt).cell (j := 1) rfl
      have yq0 : ∀ q : ExtOf w14, q.world.cell? ⟨g8, 0, none⟩ = some (.slice Af tl cf) := fun q => (Blk.below Y.out q.ext Y.out.lt).cell (j := 0) rfl
      iterate 7 (refine wpPlanM_plain rfl (fun K hK => ?_); go_simp; refine hK _ ?_; clear hK K)
      clear yq0 yq1
      refine wpPlanM_call rfl (fun K hK => ?_)
      go_wp2_with fail
      have C := ST.out w14 _ _ Ae ce Af cf Re.out Rf.out
      refine C.mono ?_
      rintro e w15 ⟨rfl, hb⟩
      clear C
      have hbp := Lib.hid hb
      replace E : Hid (Below w.heap.size w w15) := E.out.trans (hb.mono E.out.size)
      replace M := Lib.hid (M.out.keep hb)
      replace T := Lib.hid (T.out.on hb)
      replace X := Lib.hid (X.out.below hb X.out.lt)
      replace Rm := Lib.hid (Rm.out.keep7 hb)
      replace Re := Lib.hid ((Re.out.below hb).more hb.size)
      replace Rf := Lib.hid ((Rf.out.below hb).more hb.size)
      replace Y := Lib.hid (Y.out.below hb Y.out.lt)
      clear hb
      go_wp2_with fail
      refine planPostL_normal ⟨.inr hbp.out, hK _ _ ?_⟩
      clear hK K hbp
      iterate 2 (refine wpPlanM_plain rfl (fun K hK => ?_); go_simp; refine hK _ ?_; clear hK K)
      refine wpPlanM_nil ?_
      have p0 := X.out.cell (j := 0) rfl
      have p1 := X.out.cell (j := 1) rfl
      have p2 := X.out.cell (j := 2) rfl
      go_wp2_with fail
      refine (sanity_any7 _ T.out).mono ?_
      rintro e w16 ⟨rfl, hb⟩
      clear p0 p1 p2
      replace E : Hid (Below w.heap.size w w16) := E.out.trans (hb.mono E.out.size)
      replace M := Lib.hid (M.out.keep hb)
      replace T := Lib.hid (T.out.on hb)
      replace X := Lib.hid (X.out.below hb X.out.lt)
      replace Rm := Lib.hid (Rm.out.keep7 hb)
      replace Re := Lib.hid ((Re.out.below hb).more hb.size)
      replace Rf := Lib.hid ((Rf.out.below hb).more hb.size)
      replace Y := Lib.hid (Y.out.below hb Y.out.lt)
      clear hb
      have p0 := X.out.cell (j := 0) rfl
      have p1 := X.out.cell (j := 1) rfl
      have p2 := X.out.cell (j := 2) rfl
      go_wp2_with fail
      have C := CR2.out w16 M.out
      refine C.mono ?_
      rintro e w17 ⟨⟨A2, c2, rfl, hm2⟩, hb⟩
      clear C
      clear p0 p1 p2
      replace E : Hid (Below w.heap.size w w17) := E.out.trans (hb.mono E.out.size)
      replace M := Lib.hid (M.out.keep hb)
      replace T := Lib.hid (T.out.on hb)
      replace X := Lib.hid (X.out.below hb X.out.lt)
      replace Rm := Lib.hid (Rm.out.keep7 hb)
      replace Re := Lib.hid ((Re.out.below hb).more hb.size)
      replace Rf := Lib.hid ((Rf.out.below hb).more hb.size)
      replace Y := Lib.hid (Y.out.below hb Y.out.lt)
      clear hb
      have Rn := Lib.hid hm2
      clear hm2
      go_wp2_with fail
      have C := SR.out w17 _ _ Ar cr A2 c2 Rm.out Rn.out
      refine C.mono ?_
      rintro e w18 ⟨rfl, hb⟩
      clear C
      replace E : Hid (Below w.heap.size w w18) := E.out.trans (hb.mono E.out.size)
      clear hb
      go_wp2_with fail
      go_ret
      exact ⟨by first | rfl | (go_simp; done), E.out⟩
    · have t1 : ¬ (200 : Int) < (m : Int) := by omega
      have t3 : ¬ (4106 : Int) < (m : Int) := by omega
      clear c1 c2 c3
      go_wp2_with fail
      have C := CK.out w2 M.out
      try unfold cdv at C
      refine C.mono ?_
      rintro e w3 ⟨rfl, hb⟩
      clear C
      clear p0 p1 p2
      replace E : Hid (Below w.heap.size w w3) := E.out.trans (hb.mono E.out.size)
      replace M := Lib.hid (M.out.keep hb)
      replace T := Lib.hid (T.out.on hb)
      replace X := Lib.hid (X.out.below hb X.out.lt)
      clear hb
      have p0 := X.out.cell (j := 0) rfl
      have p1 := X.out.cell (j := 1) rfl
      have p2 := X.out.cell (j := 2) rfl
      go_wp2_with fail
      have C := CR.out w3 M.out T.out
      try unfold cdv at C
      refine C.mono ?_
      rintro e w4 ⟨Ar, cr, rfl, hRm, hb⟩
      clear C
      clear p0 p1 p2
      replace E : Hid (Below w.heap.size w w4) := E.out.trans (hb.mono E.out.size)
      replace M := Lib.hid (M.out.keep hb)
      replace T := Lib.hid (T.out.on hb)
      replace X := Lib.hid (X.out.below hb X.out.lt)
      clear hb
      have Rm := Lib.hid hRm
      clear hRm
      have p0 := X.out.cell (j := 0) rfl
      have p1 := X.out.cell (j := 1) rfl
      have p2 := X.out.cell (j := 2) rfl
      go_wp2_with fail
      have C := CE.out w4 M.out T.out
      try unfold cdv at C
      refine C.mono ?_
      rintro e w5 ⟨Ae, ce, rfl, hRe, hb⟩
      clear C
      clear p0 p1 p2
      replace E : Hid (Below w.heap.size w w5) := E.out.trans (hb.mono E.out.size)
      replace M := Lib.hid (M.out.keep hb)
      replace T := Lib.hid (T.out.on hb)
      replace X := Lib.hid (X.out.below hb X.out.lt)
      replace Rm := Lib.hid (Rm.out.keep7 hb)
      clear hb
      have Re := Lib.hid hRe
      clear hRe
      have p0 := X.out.cell (j := 0) rfl
      have p1 := X.out.cell (j := 1) rfl
      have p2 := X.out.cell (j := 2) rfl
      go_wp2_with fail
      have C := CE2.out w5 M.out
      refine C.mono ?_
      rintro e w6 ⟨⟨Af, cf, rfl, hRf⟩, hb⟩
      clear C
      clear p0 p1 p2
      replace E : Hid (Below w.heap.size w w6) := E.out.trans (hb.mono E.out.size)
      replace M := Lib.hid (M.out.keep hb)
      replace T := Lib.hid (T.out.on hb)
      replace X := Lib.hid (X.out.below hb X.out.lt)
      replace Rm := Lib.hid (Rm.out.keep7 hb)
      replace Re := Lib.hid ((Re.out.below hb).more hb.size)
      clear hb
      have Rf := Lib.hid hRf
      clear hRf
      obtain ⟨w8, hw8⟩ : ∃ x, x = w6.alloc (.cells #[.slice Af tl cf, .int .i64 EE] 36) := ⟨_, rfl⟩
      obtain ⟨g8, hg8⟩ : ∃ x, x = w6.heap.size := ⟨_, rfl⟩
      have Y : Hid (Blk w8 g8 [.slice Af tl cf, .int .i64 EE] 36) := by show Blk _ _ _ _; rw [hw8, hg8]; exact Blk.new _ [_, _] _
      have hb8 : Hid (Below w6.heap.size w6 w8) := by show Below _ _ _; rw [hw8]; exact (Below.refl _ _).alloc (Nat.le_refl _) _
      have hw8H := Lib.hid hw8
      clear hw8
      have p0 := X.out.cell (j := 0) rfl
      have p1 := X.out.cell (j := 1) rfl
      have p2 := X.out.cell (j := 2) rfl
      go_wp2_with fail
      generalize hx : World.alloc _ _ = Wx
      have hW8 : w8 = Wx := by rw [← hx, hw8H.out]
      clear hx hw8H
      subst hW8
      rw [← hg8]
      clear p0 p1 p2
      have hb := hb8.out
      clear hb8 hg8
      replace E : Hid (Below w.heap.size w w8) := E.out.trans (hb.mono E.out.size)
      replace M := Lib.hid (M.out.keep hb)
      replace T := Lib.hid (T.out.on hb)
      replace X := Lib.hid (X.out.below hb X.out.lt)
      replace Rm := Lib.hid (Rm.out.keep7 hb)
      replace Re := Lib.hid ((Re.out.below hb).more hb.size)
      replace Rf := Lib.hid ((Rf.out.below hb).more hb.size)
      clear hb
      refine wp_region_planM [] [(true, 0), (true, 2), (false, 1), (true, 3), (true, 4), (true, 5), (true, 6), (true, 7), (true, 8), (true, 9), (true, 10), (true, 12), (false, 11), (false, 13), (true, 14), (true, 15), (true, 16), (true, 17), (true, 18), (true, 20), (true, 21), (false, 19), (false, 22), (true, 23), (true, 24), (true, 25), (true, 26), (true, 27), (true, 28), (true, 29), (true, 30), (true, 31), (true, 32), (true, 33), (true, 34), (false, 35), (true, 36), (true, 37)] (by decide) (by kernel_rfl) (by kernel_rfl) (by decide) (by intro c a d v w h; cases d <;> exact h) ?_
      change wpPlanM _ _ _ _ _ _ w8.drew
      have hb : Below w8.heap.size w8 w8.drew := (Below.refl _ _).drew
      generalize hgd : w8.drew = w9 at hb ⊢
      clear hgd
      replace E : Hid (Below w.heap.size w w9) := E.out.trans (hb.mono E.out.size)
      replace M := Lib.hid (M.out.keep hb)
      replace T := Lib.hid (T.out.on hb)
      replace X := Lib.hid (X.out.below hb X.out.lt)
      replace Rm := Lib.hid (Rm.out.keep7 hb)
      replace Re := Lib.hid ((Re.out.below hb).more hb.size)
      replace Rf := Lib.hid ((Rf.out.below hb).more hb.size)
      replace Y := Lib.hid (Y.out.below hb Y.out.lt)
      clear hb
      refine wpPlanM_runW rfl (by rfl) _ (fun q => load_run 24 _ rfl w.heap.size 0 rfl [.int .i64 D, .slice A n c, .int .i64 G] _ hun.out rfl hdd.out q.world ((Blk.below X.out q.ext X.out.lt).range 0 _ (take_all0 _))) ?_
      iterate 1 (refine wpPlanM_plain rfl (fun K hK => ?_); go_simp; refine hK _ ?_; clear hK K)
      refine wpPlanM_call rfl (fun K hK => ?_)
      go_wp2_with fail
      have C := CK2.out w9 M.out
      refine C.mono ?_
      rintro e w10 ⟨rfl, hb⟩
      clear C
      have hbp := Lib.hid hb
      replace E : Hid (Below w.heap.size w w10) := E.out.trans (hb.mono E.out.size)
      replace M := Lib.hid (M.out.keep hb)
      replace T := Lib.hid (T.out.on hb)
      replace X := Lib.hid (X.out.below hb X.out.lt)
      replace Rm := Lib.hid (Rm.out.keep7 hb)
      replace Re := Lib.hid ((Re.out.below hb).more hb.size)
      replace Rf := Lib.hid ((Rf.out.below hb).more hb.size)
      replace Y := Lib.hid (Y.out.below hb Y.out.lt)
      clear hb
      go_wp2_with fail
      refine planPostL_normal ⟨.inr hbp.out, hK _ _ ?_⟩
      clear hK K hbp
      iterate 7 (refine wpPlanM_plain rfl (fun K hK => ?_); go_simp; refine hK _ ?_; clear hK K)
      refine wpPlanM_runW rfl (by rfl) _ (fun q => load_run 24 _ rfl w.heap.size 0 rfl [.int .i64 D, .slice A n c, .int .i64 G] _ hun.out rfl hdd.out q.world ((Blk.below X.out q.ext X.out.lt).range 0 _ (take_all0 _))) ?_
      refine wpPlanM_runW rfl (by rfl) _ (fun q => load_run 24 _ rfl w.heap.size 0 rfl [.int .i64 D, .slice A n c, .int .i64 G] _ hun.out rfl hdd.out q.world ((Blk.below X.out q.ext X.out.lt).range 0 _ (take_all0 _))) ?_
      refine wpPlanM_call rfl (fun K hK => ?_)
      go_wp2_with fail
      have C := CP2.out w10 M.out
      refine C.mono ?_
      rintro e w11 ⟨rfl, hb⟩
      clear C
      have hbp := Lib.hid hb
      replace E : Hid (Below w.heap.size w w11) := E.out.trans (hb.mono E.out.size)
      replace M := Lib.hid (M.out.keep hb)
      replace T := Lib.hid (T.out.on hb)
      replace X := Lib.hid (X.out.below hb X.out.lt)
      replace Rm := Lib.hid (Rm.out.keep7 hb)
      replace Re := Lib.hid ((Re.out.below hb).more hb.size)
      replace Rf := Lib.hid ((Rf.out.below hb).more hb.size)
      replace Y := Lib.hid (Y.out.below hb Y.out.lt)
      clear hb
      go_wp2_with fail
      refine planPostL_normal ⟨.inr hbp.out, hK _ _ ?_⟩
      clear hK K hbp
      refine wpPlanM_call rfl (fun K hK => ?_)
      go_wp2_with fail
      have C := CP.out w11 M.out
      refine C.mono ?_
      rintro e w12 ⟨rfl, hb⟩
      clear C
      have hbp := Lib.hid hb
      replace E : Hid (Below w.heap.size w w12) := E.out.trans (hb.mono E.out.size)
      replace M := Lib.hid (M.out.keep hb)
      replace T := Lib.hid (T.out.on hb)
      replace X := Lib.hid (X.out.below hb X.out.lt)
      replace Rm := Lib.hid (Rm.out.keep7 hb)
      replace Re := Lib.hid ((Re.out.below hb).more hb.size)
      replace Rf := Lib.hid ((Rf.out.below hb).more hb.size)
      replace Y := Lib.hid (Y.out.below hb Y.out.lt)
      clear hb
      go_wp2_with fail
      refine planPostL_normal ⟨.inr hbp.out, hK _ _ ?_⟩
      clear hK K hbp
      iterate 3 (refine wpPlanM_plain rfl (fun K hK => ?_); go_simp; refine hK _ ?_; clear hK K)
      refine wpPlanM_runW rfl (by rfl) _ (fun q => load_run 24 _ rfl w.heap.size 0 rfl [.int .i64 D, .slice A n c, .int .i64 G] _ hun.out rfl hdd.out q.world ((Blk.below X.out q.ext X.out.lt).range 0 _ (take_all0 _))) ?_
      iterate 1 (refine wpPlanM_plain rfl (fun K hK => ?_); go_simp; refine hK _ ?_; clear hK K)
      refine wpPlanM_runW rfl (by rfl) _ (fun q => load_run 24 _ rfl w.heap.size 0 rfl [.int .i64 D, .slice A n c, .int .i64 G] _ hun.out rfl hdd.out q.world ((Blk.below X.out q.ext X.out.lt).range 0 _ (take_all0 _))) ?_
      iterate 1 (refine wpPlanM_plain rfl (fun K hK => ?_); go_simp; refine hK _ ?_; clear hK K)
      refine wpPlanM_call rfl (fun K hK => ?_)
      go_wp2_with fail
      have C := CZ2.out w12 M.out
      refine C.mono ?_
      rintro e w13 ⟨rfl, hb⟩
      clear C
      have hbp := Lib.hid hb
      replace E : Hid (Below w.heap.size w w13) := E.out.trans (hb.mono E.out.size)
      replace M := Lib.hid (M.out.keep hb)
      replace T := Lib.hid (T.out.on hb)
      replace X := Lib.hid (X.out.below hb X.out.lt)
      replace Rm := Lib.hid (Rm.out.keep7 hb)
      replace Re := Lib.hid ((Re.out.below hb).more hb.size)
      replace Rf := Lib.hid ((Rf.out.below hb).more hb.size)
      replace Y := Lib.hid (Y.out.below hb Y.out.lt)
      clear hb
      go_wp2_with fail
      refine planPostL_normal ⟨.inr hbp.out, hK _ _ ?_⟩
      clear hK K hbp
      refine wpPlanM_call rfl (fun K hK => ?_)
      go_wp2_with fail
      have C := CZ.out w13 M.out
      refine C.mono ?_
      rintro e w14 ⟨rfl, hb⟩
      clear C
      have hbp := Lib.hid hb
      replace E : Hid (Below w.heap.size w w14) := E.out.trans (hb.mono E.out.size)
      replace M := Lib.hid (M.out.keep hb)
      replace T := Lib.hid (T.out.on hb)
      replace X := Lib.hid (X.out.below hb X.out.lt)
      replace Rm := Lib.hid (Rm.out.keep7 hb)
      replace Re := Lib.hid ((Re.out.below hb).more hb.size)
      replace Rf := Lib.hid ((Rf.out.below hb).more hb.size)
      replace Y := Lib.hid (Y.out.below hb Y.out.lt)
      clear hb
      go_wp2_with fail
      refine planPostL_normal ⟨.inr hbp.out, hK _ _ ?_⟩
      clear hK K hbp
      iterate 5 (refine wpPlanM_plain rfl (fun K hK => ?_); go_simp; refine hK _ ?_; clear hK K)
      have yq1 : ∀ q : ExtOf w14, q.world.cell? ⟨g8, 1, none⟩ = some (.int .i64 EE) := fun q => (Blk.below Y.out q.ext Y.out.lt).cell (j := 1) rfl
      have yq0 : ∀ q : ExtOf w14, q.world.cell? ⟨g8, 0, none⟩ = some (.slice Af tl cf) := fun q => (Blk.below Y.out q.ext Y.out.lt).cell (j := 0) rfl
      iterate 7 (refine wpPlanM_plain rfl (fun K hK => ?_); go_simp; refine hK _ ?_; clear hK K)
      clear yq0 yq1
      refine wpPlanM_call rfl (fun K hK => ?_)
      go_wp2_with fail
      have C := ST.out w14 _ _ Ae ce Af cf Re.out Rf.out
      refine C.mono ?_
      rintro e w15 ⟨rfl, hb⟩
      clear C
      have hbp := Lib.hid hb
      replace E : Hid (Below w.heap.size w w15) := E.out.trans (hb.mono E.out.size)
      replace M := Lib.hid (M.out.keep hb)
      replace T := Lib.hid (T.out.on hb)
      replace X := Lib.hid (X.out.below hb X.out.lt)
      replace Rm := Lib.hid (Rm.out.keep7 hb)
      replace Re := Lib.hid ((Re.out.below hb).more hb.size)
      replace Rf := Lib.hid ((Rf.out.below hb).more hb.size)
      replace Y := Lib.hid (Y.out.below hb Y.out.lt)
      clear hb
      go_wp2_with fail
      refine planPostL_normal ⟨.inr hbp.out, hK _ _ ?_⟩
      clear hK K hbp
      iterate 2 (refine wpPlanM_plain rfl (fun K hK => ?_); go_simp; refine hK _ ?_; clear hK K)
      refine wpPlanM_nil ?_
      have p0 := X.out.cell (j := 0) rfl
      have p1 := X.out.cell (j := 1) rfl
      have p2 := X.out.cell (j := 2) rfl
      go_wp2_with fail
      refine (sanity_any7 _ T.out).mono ?_
      rintro e w16 ⟨rfl, hb⟩
      clear p0 p1 p2
      replace E : Hid (Below w.heap.size w w16) := E.out.trans (hb.mono E.out.size)
      replace M := Lib.hid (M.out.keep hb)
      replace T := Lib.hid (T.out.on hb)
      replace X := Lib.hid (X.out.below hb X.out.lt)
      replace Rm := Lib.hid (Rm.out.keep7 hb)
      replace Re := Lib.hid ((Re.out.below hb).more hb.size)
      replace Rf := Lib.hid ((Rf.out.below hb).more hb.size)
      replace Y := Lib.hid (Y.out.below hb Y.out.lt)
      clear hb
      have p0 := X.out.cell (j := 0) rfl
      have p1 := X.out.cell (j := 1) rfl
      have p2 := X.out.cell (j := 2) rfl
      go_wp2_with fail
      have C := CR2.out w16 M.out
      refine C.mono ?_
      rintro e w17 ⟨⟨A2, c2, rfl, hm2⟩, hb⟩
      clear C
      clear p0 p1 p2
      replace E : Hid (Below w.heap.size w w17) := E.out.trans (hb.mono E.out.size)
      replace M := Lib.hid (M.out.keep hb)
      replace T := Lib.hid (T.out.on hb)
      replace X := Lib.hid (X.out.below hb X.out.lt)
      replace Rm := Lib.hid (Rm.out.keep7 hb)
      replace Re := Lib.hid ((Re.out.below hb).more hb.size)
      replace Rf := Lib.hid ((Rf.out.below hb).more hb.size)
      replace Y := Lib.hid (Y.out.below hb Y.out.lt)
      clear hb
      have Rn := Lib.hid hm2
      clear hm2
      go_wp2_with fail
      have C := SR.out w17 _ _ Ar cr A2 c2 Rm.out Rn.out
      refine C.mono ?_
      rintro e w18 ⟨rfl, hb⟩
      clear C
      replace E : Hid (Below w.heap.size w w18) := E.out.trans (hb.mono E.out.size)
      clear hb
      go_wp2_with fail
      go_ret
      exact ⟨by first | rfl | (go_simp; done), E.out⟩
end Go.Proofs.YtcnljemnkhmfcaaDoor
