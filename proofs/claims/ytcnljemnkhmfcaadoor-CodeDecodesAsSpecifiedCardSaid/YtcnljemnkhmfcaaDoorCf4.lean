/-
  Stage 7: contracts of the reference's Size, part, SameRows. Stage 7: contracts of the reference's Rows, SameRows, Encode. Stage 7: contracts of the reference's Rows, SameRows. Stage 7: the walk of CodeEncodesAsSpecified. (Written by tools/gencfl.py.). Stage 7: contracts of the reference's equation and solved. Stage 7: the contract of the reference's solved. Stage 7: the contract of the reference's data. Stage 7: the contract of the reference's Decode. (Written by tools/gencfp.py.). Stage 7: decoding has one answer; the walk of CodeDecodesAsSpecified. (Written by tools/gencfq.py.).
-/
import Derived.Test.YtcnljemnkhmfcaaDoorCf2
import Derived.Test.YtcnljemnkhmfcaaDoorCe45
import Derived.Test.YtcnljemnkhmfcaaDoorGfxy
import Derived.Test.YtcnljemnkhmfcaaDoorCe7
import Derived.Test.YtcnljemnkhmfcaaDoorMrtu
import Derived.Deep.CutRange
import Derived.Test.YtcnljemnkhmfcaaDoorOpn
namespace Go.Proofs.YtcnljemnkhmfcaaDoor
set_option linter.unusedVariables false
set_option linter.unusedSimpArgs false
open Go.RowKit

set_option maxRecDepth 100000 in
set_option maxHeartbeats 4000000 in
theorem refSize7_any {B : Nat} (D G k : Int) (Gs : List (List Int)) (n c : Nat) (A : Option Addr) (w : World) (hM : CodM w B D A n c G Gs) (hsh : ∀ g ∈ Gs, g.length ≤ 1000000) :
    Calls Tryd.prog 18 #[cdv D A n c G, .int .i64 k] w fun e w' => e = .returned (.int .i64 (if chkE D Gs G = 0 ∧ 0 ≤ k ∧ k ≤ 4096 then (k + D - 1) / D else 0)) ∧ Below w.heap.size w w' := by
  obtain ⟨W1, hW1⟩ : ∃ W1, W1 = w.alloc (.cells #[.int .i64 D, .slice A n c, .int .i64 G] 24) := ⟨_, rfl⟩
  have hB1 : Hid (Below w.heap.size w W1) := by show Below _ _ _; rw [hW1]; exact (Below.refl _ _).alloc (Nat.le_refl _) _
  have hR1 : Hid (Blk W1 w.heap.size [.int .i64 D, .slice A n c, .int .i64 G] 24) := by show Blk _ _ _ _; rw [hW1]; exact Blk.new _ [_, _, _] _
  have hM' := Lib.hid (hM.keep hB1.out)
  have hdd := Lib.hid size_cod
  have hun : Hid (Tryd.prog.underlying 24 = _) := Tryd.underlying24
  have p0 := hR1.out.cell (j := 0) rfl
  have p1 := hR1.out.cell (j := 1) rfl
  have p2 := hR1.out.cell (j := 2) rfl
  have cK := refCheck7_any D G Gs n c A W1 hM'.out hsh
  subst hW1
  clear hM hsh
  obtain ⟨Ex, hEx⟩ : ∃ E : Int, E = chkE D Gs G := ⟨_, rfl⟩
  rw [← hEx] at cK ⊢
  unfold cdv at cK ⊢
  by_cases h0 : Ex = 0
  · subst h0
    obtain ⟨b1, b2, b3, b4, b5, _⟩ := cchk_ok hEx.symm
    obtain ⟨d, rfl⟩ : ∃ d : Nat, D = d := ⟨D.toNat, by omega⟩
    have hd : d ≤ 16 := by omega
    have hd1 : 1 ≤ d := by omega
    clear b5 hEx
    by_cases h1 : k < 0
    · rw [if_neg (by omega)]
      go_enter Tryd.func18, Tryd.ntmps18
      go_wp2_with fail
      refine cK.mono ?_
      rintro e v1 ⟨rfl, hb⟩
      have hb2 := Lib.hid (hB1.out.trans (hb.mono hB1.out.size))
      clear hb
      go_wp2_with fail
      go_ret
      exact ⟨rfl, hb2.out⟩
    by_cases h2 : k > 4096
    · rw [if_neg (by omega)]
      go_enter Tryd.func18, Tryd.ntmps18
      go_wp2_with fail
      refine cK.mono ?_
      rintro e v1 ⟨rfl, hb⟩
      have hb2 := Lib.hid (hB1.out.trans (hb.mono hB1.out.size))
      clear hb
      go_wp2_with fail
      go_ret
      exact ⟨rfl, hb2.out⟩
    obtain ⟨m, rfl⟩ : ∃ m : Nat, k = m := ⟨k.toNat, by omega⟩
    have hs : Hid ((((m + d - 1) / d : Nat) : Int) = ((m : Int) + d - 1) / d) := by
      show _ = _
      rw [Int.natCast_ediv]
      congr 1
      omega
    obtain ⟨s, hs2⟩ : ∃ s, s = m + d := ⟨_, rfl⟩
    obtain ⟨t, ht⟩ : ∃ t, s = t + 1 := ⟨s - 1, by omega⟩
    obtain ⟨r, hr⟩ : ∃ r, r = (m + d - 1) / d := ⟨_, rfl⟩
    rw [if_pos ⟨rfl, by omega, by omega⟩, ← hs.out, ← hr]
    have e1 : (m : Int) + (d : Int) = (s : Int) := by omega
    have e2 : (s : Int) - 1 = (t : Int) := by omega
    have f1 : IntKind.i64.wrap (s : Int) = (s : Int) := by rw [IntKind.wrap_i64]; omega
    have f2 : IntKind.i64.wrap (t : Int) = (t : Int) := by rw [IntKind.wrap_i64]; omega
    have e3 : Int.tdiv (t : Int) (d : Int) = (r : Int) := by
      rw [Int.tdiv_eq_ediv_of_nonneg (by omega), hr, show m + d - 1 = t by omega, Int.natCast_ediv]
    have hrl : r ≤ t := by rw [hr, show m + d - 1 = t by omega]; exact Nat.div_le_self _ _
    have f3 : IntKind.i64.wrap (r : Int) = (r : Int) := by rw [IntKind.wrap_i64]; omega
    have hne : ¬ (d : Int) = 0 := by omega
    have hne2 : ¬ d = 0 := by omega
    have hne3 : ((d : Int) == 0) = false := by simp only [beq_eq_false_iff_ne, ne_eq]; omega
    clear hs hs2 ht hr
    go_enter Tryd.func18, Tryd.ntmps18
    go_wp2_with fail
    refine cK.mono ?_
    rintro e v1 ⟨rfl, hb⟩
    have hb2 := Lib.hid (hB1.out.trans (hb.mono hB1.out.size))
    have hk := hR1.out.below hb hR1.out.lt
    replace p0 := hk.cell (j := 0) rfl
    replace p1 := hk.cell (j := 1) rfl
    replace p2 := hk.cell (j := 2) rfl
    clear hb hk
    go_wp2_with fail
    go_ret
    exact ⟨rfl, hb2.out⟩
  · rw [if_neg (fun h => h0 h.1)]
    have h0' : (Ex != 0) = true := by simpa using h0
    clear hEx h0
    go_enter Tryd.func18, Tryd.ntmps18
    go_wp2_with fail
    refine cK.mono ?_
    rintro e v1 ⟨rfl, hb⟩
    have hb2 := Lib.hid (hB1.out.trans (hb.mono hB1.out.size))
    clear hb
    go_wp2_with fail
    go_ret
    exact ⟨rfl, hb2.out⟩

/-- A data piece, filled up. -/
def prtF (d : List UInt8) (z i : Nat) : List UInt8 := rowF (fun t => d.getD (i * z + t) 0) z
theorem prt_pce {D z i : Nat} {Gs : List (List Int)} {d : List UInt8} (hi : i < D) (hd : d.length ≤ D * z) : prtF d z i = pce D Gs (filP D z d) z i := by
  refine row_ext (n := z) (rowF_len _ _) (pce_len _ _ _ _ _) fun t ht => ?_
  rw [pce_at ht, xsum_one (a := i) _ hi fun j hj hne => by unfold cr; rw [if_pos hi, if_neg hne, Gf.zero_mul]]
  unfold prtF cr
  rw [List.getD_eq_getElem?_getD, rowF_get _ ht, if_pos hi, if_pos rfl, Gf.one_mul]
  show d.getD (i * z + t) 0 = (filP D z d).getD (i * z + t) 0
  unfold filP
  rw [List.getD_eq_getElem?_getD, List.getD_eq_getElem?_getD]
  have hb : i * z + t < D * z := by
    have : (i + 1) * z ≤ D * z := Nat.mul_le_mul_right z hi
    rw [Nat.succ_mul] at this
    omega
  by_cases h : i * z + t < d.length
  · rw [List.getElem?_append_left h]
  · rw [List.getElem?_append_right (by omega), List.getElem?_eq_none (by omega), List.getElem?_replicate, if_pos (by omega)]
    rfl
theorem prtF_len (d : List UInt8) (z i : Nat) : (prtF d z i).length = z := rowF_len _ _
theorem prtF_next {d : List UInt8} {z i t : Nat} (h : t < z) : (prtF d z i).take (t + 1) = (prtF d z i).take t ++ [d.getD (i * z + t) 0] := by
  have e : (prtF d z i)[t]? = some (d.getD (i * z + t) 0) := rowF_get _ h
  exact take_nat7 e
set_option maxRecDepth 100000 in
set_option maxHeartbeats 4000000 in
theorem refPart7_any (d : List UInt8) (i z : Nat) (w : World) (hd : d.length ≤ 140737488351232) (hi : i ≤ 16) (hz : z ≤ 5000) :
    Calls Tryd.prog 36 #[sv d, .int .i64 (i : Int), .int .i64 (z : Int)] w fun e w' => e = .returned (sv (prtF d z i)) ∧ Below w.heap.size w w' := by
  obtain ⟨kz, hkz⟩ : ∃ m, m = i * z := ⟨_, rfl⟩
  obtain ⟨k2, hk2⟩ : ∃ m, m = kz + z := ⟨_, rfl⟩
  have e1 : (i : Int) * (z : Int) = (kz : Int) := by rw [hkz, Int.natCast_mul]
  have e2 : ((i : Int) + 1) * (z : Int) = (k2 : Int) := by rw [Int.add_mul, Int.one_mul, e1, hk2]; omega
  have hkl : kz ≤ 80000 := by rw [hkz]; exact Nat.le_trans (Nat.mul_le_mul hi hz) (by decide)
  have hkl2 : k2 ≤ 85000 := by omega
  obtain ⟨F, hF⟩ : ∃ F, F = prtF d z i := ⟨_, rfl⟩
  have hFl : Hid (F.length = z) := by show _ = _; rw [hF]; exact prtF_len _ _ _
  have hFn : Hid (∀ t, t < z → F.take (t + 1) = F.take t ++ [d.getD (kz + t) 0]) := fun t ht => by rw [hF, hkz]; exact prtF_next ht
  have hsz := bs_size d
  have hget : Hid (∀ t, t < d.length → ∃ y, d.getD t 0 = y ∧ d[t]? = some y) := fun t ht => ⟨d.getD t 0, rfl, by rw [List.getD_eq_getElem?_getD, List.getElem?_eq_getElem ht]; rfl⟩
  have hno : Hid (∀ t, d.length ≤ t → d.getD t 0 = 0) := fun t ht => by rw [List.getD_eq_getElem?_getD, List.getElem?_eq_none ht]; rfl
  obtain ⟨q, hq⟩ : ∃ q, q = d.length := ⟨_, rfl⟩
  have hsv : Hid (∀ t y, d[t]? = some y → ∀ h, (bs d)[t]'h = y) := fun t y h => sv_get h
  rw [← hF]
  rw [← hq] at hsz hd hget hno
  have hqk : Hid (k2 = kz + z) := hk2
  unfold sv
  generalize bs d = S at hsz hsv ⊢
  have hsz' : (S.size : Int) = (q : Int) := by omega
  have hO0 : Hid (OwnB w w.heap.size (.slice none 0 0) (F.take 0)) := ownB_nil _ _
  have hb0 : Hid (Below w.heap.size w w) := Below.refl _ _
  clear hkz hk2 hF hq
  go_enter Tryd.func36, Tryd.ntmps36
  go_wp2_with fail
  go_loopw [7, 8] (fun v x wr => ∃ t : Nat, t ≤ z ∧ x = .int .i64 ((kz + t : Nat) : Int) ∧ Hid (OwnB wr w.heap.size v (F.take t)) ∧ Hid (Below w.heap.size w wr)) (fun _ x _ => k2 - (intOf x).toNat)
  case atStart => exact ⟨0, by omega, rfl, hO0, hb0⟩
  case round =>
    obtain ⟨t, ht, rfl, hO, hbw⟩ := hrel
    clear hO0 hb0
    by_cases htz : t < z
    rotate_left
    · obtain rfl : t = z := by omega
      obtain ⟨kk, hkk⟩ : ∃ x, x = kz + t := ⟨_, rfl⟩
      have tk : ¬ (kk : Int) < (k2 : Int) := by have := hqk.out; omega
      have hFF : F.take t = F := List.take_of_length_le (by rw [hFl.out]; exact Nat.le_refl _)
      have hO2 := hO.out
      rw [hFF] at hO2
      obtain ⟨AA, c, rfl, _, _, _, hrd⟩ := own_form hO2
      have hcv := run_bytes_bs (P := Tryd.prog) wr 57 9 5 Tryd.underlying57 Tryd.underlying5 Tryd.underlying9 c hrd
      rw [← hkk]
      clear hO hO2 hrd hFF hkk htz
      go_wp2_with fail
      go_ret
      exact ⟨rfl, hbw.out⟩
    obtain ⟨kk, hkk⟩ : ∃ x, x = kz + t := ⟨_, rfl⟩
    have tk : (kk : Int) < (k2 : Int) := by have := hqk.out; omega
    have tk0 : 0 ≤ (kk : Int) := Int.natCast_nonneg _
    have hkkH := Lib.hid hkk
    have hsw : w.heap.size ≤ wr.heap.size := hbw.out.size
    have hln : (F.take t).length ≤ 140737488355300 := by rw [List.length_take]; omega
    have hnx := Lib.hid (hFn.out t htz)
    rw [← hkk] at hnx ⊢
    have hkl3 : kk ≤ 85000 := by omega
    by_cases hkq : kk < q
    · have tq : (kk : Int) < (S.size : Int) := by omega
      have tq2 : kk < S.size := by omega
      obtain ⟨y, hy1, hy2⟩ := hget.out kk hkq
      have gy := hsv.out kk y hy2
      have hnx2 : Hid (F.take (t + 1) = F.take t ++ [y]) := by show _ = _; rw [← hy1]; exact hnx.out
      clear hy1 hy2 hnx hkk
      generalize F.take t = X at hO hln hnx2
      go_wp2_with (at_builtin; go_must (refine push_byte rfl _ _ rfl w.heap.size u7 X y (.int .u8 y.toNat) rfl rfl rfl hO.out hln hsw ?_); intro v' w6 ho6 hon6)
      have f1 : Hid (OwnB w6 w.heap.size v' (F.take (t + 1))) := by show OwnB _ _ _ _; rw [hnx2.out]; exact ho6
      have f2 := Lib.hid (hbw.out.trans (hon6.below hO.out hsw))
      clear ho6 hon6
      go_roundw
      case rel => exact ⟨t + 1, by omega, by rw [show ((kz + (t + 1) : Nat) : Int) = (kk : Int) + 1 by have := hkkH.out; omega], f1, f2⟩
      case measure => have := hkkH.out; have := hqk.out; simp [intOf]; omega
    · have tq : ¬ (kk : Int) < (S.size : Int) := by omega
      have hnx2 : Hid (F.take (t + 1) = F.take t ++ [0]) := by show _ = _; rw [← hno.out kk (by omega)]; exact hnx.out
      clear hnx hkk
      generalize F.take t = X at hO hln hnx2
      go_wp2_with (at_builtin; go_must (refine push_byte rfl _ _ rfl w.heap.size u7 X 0 (.int .u8 0) rfl rfl rfl hO.out hln hsw ?_); intro v' w6 ho6 hon6)
      have f1 : Hid (OwnB w6 w.heap.size v' (F.take (t + 1))) := by show OwnB _ _ _ _; rw [hnx2.out]; exact ho6
      have f2 := Lib.hid (hbw.out.trans (hon6.below hO.out hsw))
      clear ho6 hon6
      go_roundw
      case rel => exact ⟨t + 1, by omega, by rw [show ((kz + (t + 1) : Nat) : Int) = (kk : Int) + 1 by have := hkkH.out; omega], f1, f2⟩
      case measure => have := hkkH.out; have := hqk.out; simp [intOf]; omega
end Go.Proofs.YtcnljemnkhmfcaaDoor

namespace Go.Proofs.YtcnljemnkhmfcaaDoor
set_option linter.unusedVariables false
set_option linter.unusedSimpArgs false
open Go.RowKit

theorem size_lst7 : (Tryd.prog.info? 36).map (·.size) = some 2 := by kernel_rfl
theorem row_lst7 : ∃ d, Tryd.prog.underlying 36 = some d ∧ d.isRow = true := ⟨_, Tryd.underlying36, rfl⟩
/-- Texts and an error. -/
def LstEnd (w : World) (L : List (List UInt8)) (E : Int) (e : Ending) (w' : World) : Prop := (∃ A c, e = .returned (.agg #[.slice A L.length c, .int .i64 E]) ∧ Rds w' w'.heap.size A (L.map sv) ∧ ∀ ad, A = some ad → w.heap.size ≤ ad.block) ∧ Below w.heap.size w w'
theorem OwnS.only {x : Nat} {w w' : World} {base : Nat} {v : Value} {l : List (List UInt8)} (h : OwnS w base v l) (ho : Only x w w') (hx : x < base) : OwnS w' base v l := by
  refine ⟨h.1, ?_⟩
  rcases h.2 with hn | ⟨g, cap, cur, hv, hg, hh, rest⟩
  · exact .inl hn
  · exact .inr ⟨g, cap, cur, hv, hg, by rw [ho.block g (by omega)]; exact hh, rest⟩

theorem fil_len0 {D z : Nat} {d : List UInt8} (h : d.length ≤ D * z) : (filP D z d).length = D * z := by unfold filP; rw [List.length_append, List.length_replicate]; omega
theorem crow_fit {D z k : Nat} {Gs : List (List Int)} {P : List UInt8} (hD : 1 ≤ D) : Gf.Fit (crow D Gs k D) (encP D Gs P z D) := by
  have hz : ∀ x ∈ encP D Gs P z D, x.length = z := fun x hx => by
    unfold encP at hx
    obtain ⟨i, _, rfl⟩ := List.mem_map.1 hx
    exact pce_len _ _ _ _ _
  refine ⟨by rw [crow_len, encP_len], fun x hx => ?_⟩
  rw [hz x hx]
  obtain ⟨y, ys, hy⟩ : ∃ y ys, encP D Gs P z D = y :: ys := by
    cases h : encP D Gs P z D with
    | nil => have := encP_len D Gs P z D; rw [h] at this; simp at this; omega
    | cons y ys => exact ⟨y, ys, rfl⟩
  rw [hy]
  exact (hz y (by rw [hy]; exact List.mem_cons.2 (.inl rfl))).symm

set_option maxRecDepth 100000 in
set_option maxHeartbeats 8000000 in
theorem refEncode7_any {B : Nat} (D G : Int) (Gs : List (List Int)) (n c : Nat) (A : Option Addr) (dt : List UInt8) (w : World) (hM : CodM w B D A n c G Gs) (hsh : ∀ g ∈ Gs, g.length ≤ 1000000) (hd : dt.length ≤ 140737488351232) :
    Calls Tryd.prog 13 #[cdv D A n c G, sv dt] w (LstEnd w (encT D G Gs dt) (encE D G Gs dt)) := by
  obtain ⟨dd, hdu, hdr⟩ := row_lst7
  have hdu' := Lib.hid hdu
  obtain ⟨W1, hW1⟩ : ∃ W1, W1 = (w.alloc (.cells #[.int .i64 D, .slice A n c, .int .i64 G] 24)).alloc (.cells #[.slice none 0 0, .int .i64 0] 36) := ⟨_, rfl⟩
  have E : Hid (Below w.heap.size w W1) := by show Below _ _ _; rw [hW1]; exact ((Below.refl _ _).alloc (Nat.le_refl _) _).alloc (by simp) _
  have X : Hid (Blk W1 w.heap.size [.int .i64 D, .slice A n c, .int .i64 G] 24) := by show Blk _ _ _ _; rw [hW1]; exact (Blk.new _ [_, _, _] _).alloc _
  have Y : Hid (Blk W1 (w.heap.size + 1) [.slice none 0 0, .int .i64 0] 36) := by show Blk _ _ _ _; rw [hW1]; exact (Blk.new _ [_, _] _).at (by simp)
  have M := Lib.hid (hM.keep E.out)
  have hdd := Lib.hid size_cod
  have hun : Hid (Tryd.prog.underlying 24 = _) := Tryd.underlying24
  have hshH := Lib.hid hsh
  have hlen : Hid (n = Gs.length) := hM.len
  have CK := refCheck7_any D G Gs n c A W1 M.out hsh
  obtain ⟨Ex, hEx⟩ : ∃ E : Int, E = chkE D Gs G := ⟨_, rfl⟩
  rw [← hEx] at CK
  have hEH := Lib.hid hEx
  have hW' := Lib.hid hW1
  obtain ⟨q, hq⟩ : ∃ q, q = dt.length := ⟨_, rfl⟩
  have hqH := Lib.hid hq
  have hS : (bs dt).size = dt.length := bs_size dt
  obtain ⟨S, hSd⟩ : ∃ S, S = bs dt := ⟨_, rfl⟩
  have hSH := Lib.hid hSd
  rw [← hSd, ← hq] at hS
  have hS2 : (S.size : Int) = (q : Int) := by omega
  rw [show sv dt = .string S by rw [hSd]; rfl]
  obtain ⟨EE, hEE⟩ : ∃ x, x = encE D G Gs dt := ⟨_, rfl⟩
  obtain ⟨TT, hTT⟩ : ∃ x, x = encT D G Gs dt := ⟨_, rfl⟩
  rw [← hEE, ← hTT]
  have hEEH := Lib.hid hEE
  have hTTH := Lib.hid hTT
  have p0 := X.out.cell (j := 0) rfl
  have p1 := X.out.cell (j := 1) rfl
  have p2 := X.out.cell (j := 2) rfl
  rw [hW1] at p0 p1 p2 CK
  have hq47 : q ≤ 140737488351232 := by omega
  clear hM hsh hEx hW1 hq hSd hEE hTT hdu hd
  unfold cdv at CK ⊢
  go_enter Tryd.func13, Tryd.ntmps13
  go_wp2_with fail
  refine CK.mono ?_
  rintro e w2 ⟨rfl, hb0⟩
  have hb : Below W1.heap.size W1 w2 := by rw [hW'.out]; exact hb0
  have hb1H := Lib.hid hb
  clear hb0 CK hW' p0 p1 p2
  replace E : Hid (Below w.heap.size w w2) := E.out.trans (hb.mono E.out.size)
  replace M := Lib.hid (M.out.keep hb)
  replace X := Lib.hid (X.out.below hb X.out.lt)
  replace Y := Lib.hid (Y.out.below hb Y.out.lt)
  clear hb hb1H
  by_cases hE0 : Ex = 0
  rotate_left
  · have z : (Ex != 0) = true := by simpa using hE0
    have h1 : EE = Ex := by rw [hEEH.out]; unfold encE; rw [if_neg (by rw [← hEH.out]; exact hE0), ← hEH.out]
    have h2 : TT = [] := by rw [hTTH.out]; unfold encT; rw [if_neg (by rw [← hEEH.out, h1]; exact hE0)]
    subst h1
    subst h2
    clear hE0
    go_wp2_with (refine wpList_row_store rfl 36 _ _ rfl [.slice none 0 0, .int .i64 EE] rfl rfl Y.out size_lst7 rfl (made_one _ _ _ _) ?_; intro w4 hw4 ho4)
    exact bodyPost_ret (ret_blk rfl _ w4 (g := w.heap.size + 1) rfl hw4.out dd hdu'.out hdr size_lst7) rfl ⟨⟨none, 0, rfl, Rds.empty, fun ad h => by cases h⟩, E.out.trans (ho4.below (Nat.le_succ _))⟩
  subst hE0
  by_cases h4 : 4096 < q
  · have t4 : (4096 : Int) < (q : Int) := by omega
    have h1 : EE = 2 := by rw [hEEH.out]; unfold encE; rw [if_pos hEH.out.symm, if_pos (by rw [← hqH.out]; exact h4)]
    have h2 : TT = [] := by rw [hTTH.out]; unfold encT; rw [if_neg (by rw [← hEEH.out, h1]; decide)]
    subst h1
    subst h2
    clear h4
    go_wp2_with (refine wpList_row_store rfl 36 _ _ rfl [.slice none 0 0, .int .i64 2] rfl rfl Y.out size_lst7 rfl (made_one _ _ _ _) ?_; intro w4 hw4 ho4)
    exact bodyPost_ret (ret_blk rfl _ w4 (g := w.heap.size + 1) rfl hw4.out dd hdu'.out hdr size_lst7) rfl ⟨⟨none, 0, rfl, Rds.empty, fun ad h => by cases h⟩, E.out.trans (ho4.below (Nat.le_succ _))⟩
  have t4 : ¬ (4096 : Int) < (q : Int) := by omega
  have h1 : EE = 0 := by rw [hEEH.out]; unfold encE; rw [if_pos hEH.out.symm, if_neg (by rw [← hqH.out]; exact h4)]
  obtain ⟨b1, b2, b3, b4, b5, b6⟩ := cchk_ok hEH.out.symm
  obtain ⟨d, rfl⟩ : ∃ d : Nat, D = d := ⟨D.toNat, by omega⟩
  obtain ⟨g, rfl⟩ : ∃ g : Nat, G = g := ⟨G.toNat, by omega⟩
  have h0 : Hid (chkE (d : Int) Gs (g : Int) = 0) := hEH.out.symm
  obtain ⟨N, hN⟩ : ∃ N, N = d + (Gs.length + g) := ⟨_, rfl⟩
  have hNH : Hid (d + (Gs.length + g) = N) := hN.symm
  have hN24 : N ≤ 24 := by omega
  have hd16 : d ≤ 16 := by omega
  have hd1 : 1 ≤ d := by omega
  have hn24 : n ≤ 24 := by have := hlen.out; omega
  obtain ⟨z, hz⟩ : ∃ z, z = szP d q := ⟨_, rfl⟩
  have hm := szP_mul (n := q) hd1
  rw [← hz] at hm
  have hz5 : z ≤ 5000 := by
    have : 1 * z ≤ d * z := Nat.mul_le_mul_right z hd1
    omega
  obtain ⟨P, hP⟩ : ∃ P, P = filP d z dt := ⟨_, rfl⟩
  have hPl : Hid (P.length = d * z) := by show _ = _; rw [hP]; exact fil_len0 (by rw [← hqH.out]; exact hm.1)
  have hTe : Hid (TT = encP d Gs P z N) := by
    show _ = _
    rw [hTTH.out]
    unfold encT
    rw [if_pos (hEEH.out.symm.trans h1), Int.toNat_natCast, Int.toNat_natCast, Nat.add_assoc, hNH.out, ← hqH.out, ← hz, ← hP]
  have hpp : Hid (∀ k, k < d → prtF dt z k = pce d Gs P z k) := fun k hk => by rw [hP]; exact prt_pce hk (by rw [← hqH.out]; exact hm.1)
  have hzi : Hid (((q : Int) + d - 1) / d = (z : Int)) := by
    show _ = _
    rw [hz]
    unfold szP
    rw [Int.natCast_ediv]
    congr 1
    omega
  subst h1
  clear b1 b2 b3 b4 b5 b6 hN hz hm hP hEEH hTTH h4
  have CZ : Hid (∀ W, CodM W B (d : Int) A n c (g : Int) Gs → Calls Tryd.prog 18 #[cdv (d : Int) A n c (g : Int), .int .i64 (q : Int)] W fun e w' => e = .returned (.int .i64 (z : Int)) ∧ Below W.heap.size W w') := fun W m => by
    have := refSize7_any (d : Int) (g : Int) (q : Int) Gs n c A W m hshH.out
    rw [if_pos ⟨h0.out, Int.natCast_nonneg _, by omega⟩, hzi.out] at this
    exact this
  have CPt : Hid (∀ W k, k < d → Calls Tryd.prog 36 #[.string S, .int .i64 ((k : Nat) : Int), .int .i64 (z : Int)] W fun e w' => e = .returned (sv (pce d Gs P z k)) ∧ Below W.heap.size W w') := fun W k hk => by
    have := refPart7_any dt k z W (by rw [← hqH.out]; exact hq47) (by omega) hz5
    rw [hpp.out k hk, show sv dt = .string S by rw [hSH.out]; rfl] at this
    exact this
  have CP : Hid (∀ W, CodM W B (d : Int) A n c (g : Int) Gs → Calls Tryd.prog 16 #[cdv (d : Int) A n c (g : Int)] W fun e w' => e = .returned (.int .i64 (N : Int)) ∧ Below W.heap.size W w') := fun W m => by
    have := refPieces7_any (d : Int) (g : Int) Gs n c A W m hshH.out
    rw [pcs_nat h0.out hNH.out] at this
    exact this
  have CC : Hid (∀ W k Ar cr Ap cp, Rds W W.heap.size Ar ((crow d Gs k d).map bv) → Rds W W.heap.size Ap ((encP d Gs P z d).map sv) → Calls Tryd.prog 37 #[.slice Ar d cr, .slice Ap d cp] W fun e w' => e = .returned (.agg #[sv (pce d Gs P z k), .int .i64 0]) ∧ Below W.heap.size W w') := fun W k Ar cr Ap cp h1 h2 => by
    have := refCombine4_any (crow d Gs k d) (encP d Gs P z d) Ar Ap cr cp W (by rw [encP_len]; omega) (fun x hx => by
      unfold encP at hx
      obtain ⟨i, _, rfl⟩ := List.mem_map.1 hx
      rw [pce_len]; omega) h1 h2
    rw [crow_len, encP_len] at this
    unfold cres at this
    rw [if_pos (crow_fit hd1), pce_par hd1 hPl.out] at this
    exact this
  unfold cdv at CZ CP
  have hO0 : Hid (OwnS w2 w2.heap.size (.slice none 0 0) (encP d Gs P z 0)) := ownS_nil _ _
  have hb0 : Hid (Below w2.heap.size w2 w2) := Below.refl _ _
  have hYl := Lib.hid Y.out.lt
  go_wp2_with fail
  go_loopw [6, 7] (fun v x wr => ∃ k : Nat, k ≤ d ∧ x = .int .i64 k ∧ Hid (OwnS wr w2.heap.size v (encP d Gs P z k)) ∧ Hid (Below w2.heap.size w2 wr)) (fun _ x _ => d - (intOf x).toNat)
  case atStart => exact ⟨0, by omega, rfl, hO0, hb0⟩
  case round =>
    obtain ⟨k, hk, rfl, hO, hbw⟩ := hrel
    clear hO0 hb0
    have hb := hbw.out
    replace E : Hid (Below w.heap.size w wr) := E.out.trans (hb.mono E.out.size)
    replace M := Lib.hid (M.out.keep hb)
    replace X := Lib.hid (X.out.below hb X.out.lt)
    replace Y := Lib.hid (Y.out.below hb Y.out.lt)
    clear hb
    have p0 := X.out.cell (j := 0) rfl
    have p1 := X.out.cell (j := 1) rfl
    have p2 := X.out.cell (j := 2) rfl
    by_cases hkd : k < d
    · have tk : (k : Int) < (d : Int) := by omega
      go_wp2_with fail
      refine (CZ.out _ M.out).mono ?_
      rintro e w3 ⟨rfl, hb⟩
      have hO3 := Lib.hid (hO.out.keep hb)
      have hB3 := Lib.hid (hbw.out.trans (hb.mono hbw.out.size))
      clear hb p0 p1 p2 hO
      go_wp2_with fail
      refine (CPt.out _ k hkd).mono ?_
      rintro e w4 ⟨rfl, hb⟩
      have hO4 := Lib.hid (hO3.out.keep hb)
      have hB4 := Lib.hid (hB3.out.trans (hb.mono hB3.out.size))
      have hsz : w2.heap.size ≤ w4.heap.size := hB4.out.size
      have hnx : Hid (encP d Gs P z (k + 1) = encP d Gs P z k ++ [pce d Gs P z k]) := by show _ = _; rw [encP_next]
      have hll : (encP d Gs P z k).length ≤ 1000000 := by rw [encP_len]; omega
      obtain ⟨y, hy⟩ : ∃ y, y = pce d Gs P z k := ⟨_, rfl⟩
      rw [← hy] at hnx ⊢
      obtain ⟨YS, hYS⟩ : ∃ Y, Y = bs y := ⟨_, rfl⟩
      have hYH : Hid (Value.string YS = sv y) := by show _ = _; rw [hYS]; rfl
      rw [show sv y = .string YS from hYH.out.symm]
      generalize encP d Gs P z k = L at hO4 hll hnx
      clear hb hO3 hB3 hy hYS
      go_wp2_with (at_builtin; go_must (refine push_s rfl _ _ rfl w2.heap.size u6 L y _ hYH.out rfl rfl hO4.out hll hsz ?_); intro v' w5 ho1 hg1)
      have hb1 := Lib.hid (below_grown hB4.out hO4.out hg1.1 hsz)
      have ho1H : Hid (OwnS w5 w2.heap.size v' (encP d Gs P z (k + 1))) := by show OwnS _ _ _ _; rw [hnx.out]; exact ho1
      clear ho1 hg1
      go_roundw
      case rel => exact ⟨k + 1, by omega, by go_num, ho1H, hb1⟩
      case measure => simp [intOf]; omega
    have tk : ¬ (k : Int) < (d : Int) := by omega
    obtain rfl : k = d := by omega
    clear hkd hk
    obtain ⟨Ap, cp, hv, _, _, _, hRp⟩ := hO.out.slice
    rw [encP_len] at hv
    subst hv
    obtain ⟨w3, hw3⟩ : ∃ x, x = wr := ⟨_, rfl⟩
    subst hw3
    have hRpH := Lib.hid hRp
    have hO0 : Hid (OwnS w3 w3.heap.size (.slice none 0 0) (encP k Gs P z 0)) := ownS_nil _ _
    have hb0 : Hid (Below w3.heap.size w3 w3) := Below.refl _ _
    have hY3 := Lib.hid Y.out.lt
    have hw3s := Lib.hid E.out.size
    clear hRp hO hbw
    go_wp2_with fail
    clear p0 p1 p2
    go_loopw [8, 9] (fun v x wr => ∃ t : Nat, t ≤ N ∧ x = .int .i64 t ∧ Hid (OwnS wr w3.heap.size v (encP k Gs P z t)) ∧ Hid (Below w3.heap.size w3 wr)) (fun _ x _ => N - (intOf x).toNat)
    case atStart => exact ⟨0, by omega, rfl, hO0, hb0⟩
    case round =>
      obtain ⟨t, ht, rfl, hO, hbw⟩ := hrel
      clear hO0 hb0
      have hb := hbw.out
      replace E : Hid (Below w.heap.size w wr) := E.out.trans (hb.mono E.out.size)
      replace M := Lib.hid (M.out.keep hb)
      replace X := Lib.hid (X.out.below hb X.out.lt)
      replace Y := Lib.hid (Y.out.below hb Y.out.lt)
      clear hb
      have p0 := X.out.cell (j := 0) rfl
      have p1 := X.out.cell (j := 1) rfl
      have p2 := X.out.cell (j := 2) rfl
      go_wp2_with fail
      refine (CP.out _ M.out).mono ?_
      rintro e w4 ⟨rfl, hb⟩
      replace E : Hid (Below w.heap.size w w4) := E.out.trans (hb.mono E.out.size)
      replace M := Lib.hid (M.out.keep hb)
      replace X := Lib.hid (X.out.below hb X.out.lt)
      replace Y := Lib.hid (Y.out.below hb Y.out.lt)
      replace hO := Lib.hid (hO.out.keep hb)
      replace hbw := Lib.hid (hbw.out.trans (hb.mono hbw.out.size))
      clear hb p0 p1 p2
      have p0 := X.out.cell (j := 0) rfl
      have p1 := X.out.cell (j := 1) rfl
      have p2 := X.out.cell (j := 2) rfl
      by_cases htN : t < N
      rotate_left
      · have tt : ¬ (t : Int) < (N : Int) := by omega
        obtain rfl : t = N := by omega
        clear htN ht p0 p1 p2
        obtain ⟨A2, c2, hv, _, _, _, _⟩ := hO.out.slice
        rw [← hTe.out] at hv hO
        subst hv
        generalize hTl : TT.length = tl at hO ⊢
        have hTlH := Lib.hid hTl
        clear hTl
        go_wp2_with (refine wpList_row_store rfl 36 _ _ rfl [.slice A2 tl c2, .int .i64 0] rfl rfl Y.out size_lst7 rfl (made_one _ _ _ _) ?_; intro w5 hw5 ho5)
        refine bodyPost_ret (ret_blk rfl _ w5 (g := w.heap.size + 1) rfl hw5.out dd hdu'.out hdr size_lst7) rfl ⟨⟨A2, c2, by rw [hTlH.out], ?_⟩, E.out.trans (ho5.below (Nat.le_succ _))⟩
        obtain ⟨A3, c3, e3, _, _, _, g5⟩ := (hO.out.only ho5 (by have := hY3.out; omega)).slice
        cases e3
        exact ⟨g5, fun ad ha => by
          subst ha
          exact Nat.le_trans hw3s.out (World.ownsRow.lt hO.out ad.block rfl).1⟩
      have tt : (t : Int) < (N : Int) := by omega
      have CW := Lib.hid (row07_any k n c g t Gs A w4 M.out hd16 hn24 (by omega) hshH.out)
      unfold cdv at CW
      go_wp2_with fail
      refine CW.out.mono ?_
      rintro e w5 ⟨vr, ⟨rfl, hu⟩, hb⟩
      obtain ⟨Ar, cr, rfl, _, _, _, hRr⟩ := own_form hu
      rw [crow_len]
      have hO5 := Lib.hid (hO.out.keep hb)
      have hB5 := Lib.hid (hbw.out.trans (hb.mono hbw.out.size))
      have hRrH := Lib.hid hRr
      clear hb hu hRr CW p0 p1 p2
      have hRp5 := Lib.hid ((hRpH.out.below hB5.out).more hB5.out.size)
      go_wp2_with fail
      refine (CC.out w5 t Ar cr Ap cp hRrH.out hRp5.out).mono ?_
      rintro e w6 ⟨rfl, hb⟩
      have hO6 := Lib.hid (hO5.out.keep hb)
      have hB6 := Lib.hid (hB5.out.trans (hb.mono hB5.out.size))
      have hsz : w3.heap.size ≤ w6.heap.size := hB6.out.size
      have hnx : Hid (encP k Gs P z (t + 1) = encP k Gs P z t ++ [pce k Gs P z t]) := by show _ = _; rw [encP_next]
      have hll : (encP k Gs P z t).length ≤ 1000000 := by rw [encP_len]; omega
      obtain ⟨y, hy⟩ : ∃ y, y = pce k Gs P z t := ⟨_, rfl⟩
      rw [← hy] at hnx ⊢
      obtain ⟨YS, hYS⟩ : ∃ Y, Y = bs y := ⟨_, rfl⟩
      have hYH : Hid (Value.string YS = sv y) := by show _ = _; rw [hYS]; rfl
      rw [show sv y = .string YS from hYH.out.symm]
      have hfd : ∀ W : World, (Instr.field 67 (.agg #[.string YS, .int .i64 0]) 0).run Tryd.prog W = .ok (.string YS) W := fun _ => by kernel_rfl
      generalize encP k Gs P z t = L at hO6 hll hnx
      clear hb hO5 hB5 hy hYS hRp5 hRrH hO
      go_wp2_with (at_builtin; go_must (refine push_s rfl _ _ rfl w3.heap.size u8 L y _ hYH.out rfl rfl hO6.out hll hsz ?_); intro v' w7 ho1 hg1)
      have hb1 := Lib.hid (below_grown hB6.out hO6.out hg1.1 hsz)
      have ho1H : Hid (OwnS w7 w3.heap.size v' (encP k Gs P z (t + 1))) := by show OwnS _ _ _ _; rw [hnx.out]; exact ho1
      clear ho1 hg1
      go_roundw
      case rel => exact ⟨t + 1, by omega, by go_num, ho1H, hb1⟩
      case measure => simp [intOf]; omega
end Go.Proofs.YtcnljemnkhmfcaaDoor

namespace Go.Proofs.YtcnljemnkhmfcaaDoor
set_option linter.unusedVariables false
set_option linter.unusedSimpArgs false
open Go.RowKit

set_option maxRecDepth 100000 in
set_option maxHeartbeats 8000000 in
theorem refRows7_any {B : Nat} (D G : Int) (Gs : List (List Int)) (n c : Nat) (A : Option Addr) (w : World) (hM : CodM w B D A n c G Gs) (hsh : ∀ g ∈ Gs, g.length ≤ 1000000) :
    Calls Tryd.prog 21 #[cdv D A n c G] w fun e w' => (∃ A c, e = .returned (.slice A (rowsT D G Gs).length c) ∧ Mat w' w'.heap.size A (rowsT D G Gs)) ∧ Below w.heap.size w w' := by
  obtain ⟨W1, hW1⟩ : ∃ W1, W1 = w.alloc (.cells #[.int .i64 D, .slice A n c, .int .i64 G] 24) := ⟨_, rfl⟩
  have E : Hid (Below w.heap.size w W1) := by show Below _ _ _; rw [hW1]; exact (Below.refl _ _).alloc (Nat.le_refl _) _
  have X : Hid (Blk W1 w.heap.size [.int .i64 D, .slice A n c, .int .i64 G] 24) := by show Blk _ _ _ _; rw [hW1]; exact Blk.new _ [_, _, _] _
  have M := Lib.hid (hM.keep E.out)
  have hdd := Lib.hid size_cod
  have hun : Hid (Tryd.prog.underlying 24 = _) := Tryd.underlying24
  have hshH := Lib.hid hsh
  have hlen : Hid (n = Gs.length) := hM.len
  obtain ⟨R, hR⟩ : ∃ R, R = rowsT D G Gs := ⟨_, rfl⟩
  rw [← hR]
  obtain ⟨pz, hpz⟩ : ∃ x, x = pcs D Gs G := ⟨_, rfl⟩
  have hN : ∃ NN : Nat, pz = NN ∧ NN ≤ 24 ∧ R.length = NN ∧ (∀ k, k < NN → chkE D Gs G = 0 ∧ R[k]? = some (crow D.toNat Gs k D.toNat)) := by
    by_cases h0 : chkE D Gs G = 0
    · obtain ⟨b1, b2, b3, b4, b5, b6⟩ := cchk_ok h0
      have hRe : R = PM (fun k => crow D.toNat Gs k D.toNat) (D.toNat + (Gs.length + G.toNat)) := by rw [hR]; unfold rowsT; rw [if_pos h0]
      refine ⟨D.toNat + (Gs.length + G.toNat), ?_, by omega, by rw [hRe, PM_len], fun k hk => ⟨h0, by rw [hRe]; exact PM_get _ hk⟩⟩
      rw [hpz]; unfold pcs; rw [if_pos h0]; omega
    · refine ⟨0, by rw [hpz]; unfold pcs; rw [if_neg h0]; rfl, by omega, by rw [hR]; unfold rowsT; rw [if_neg h0]; rfl, fun k hk => by omega⟩
  obtain ⟨NN, hpn, hNN, hRl, hRk⟩ := hN
  have hRlH := Lib.hid hRl
  have hRkH := Lib.hid hRk
  have CP : Hid (∀ W, CodM W B D A n c G Gs → Calls Tryd.prog 16 #[cdv D A n c G] W fun e w' => e = .returned (.int .i64 (NN : Int)) ∧ Below W.heap.size W w') := fun W m => by
    have := refPieces7_any D G Gs n c A W m hshH.out
    rw [← hpz, hpn] at this
    exact this
  have hQ0 : Hid (OwnQ 0 W1 W1.heap.size (.slice none 0 0) (R.take 0)) := ownQ_nil _ _ _
  have hb0 : Hid (Below W1.heap.size W1 W1) := Below.refl _ _
  have hW' := Lib.hid hW1
  clear hM hsh hW1 hR hpz hpn hRl hRk
  unfold cdv at CP ⊢
  go_enter Tryd.func21, Tryd.ntmps21
  go_wp2_with fail
  generalize hg : w.alloc _ = Wg
  have hgW : W1 = Wg := by rw [← hg, hW'.out]
  clear hg hW'
  subst hgW
  go_loopw [3, 4] (fun v x wr => ∃ k : Nat, k ≤ NN ∧ x = .int .i64 k ∧ Hid (OwnQ 0 wr W1.heap.size v (R.take k)) ∧ Hid (Below W1.heap.size W1 wr)) (fun _ x _ => NN - (intOf x).toNat)
  case atStart => exact ⟨0, by omega, rfl, hQ0, hb0⟩
  case round =>
    obtain ⟨k, hk, rfl, hQ, hbw⟩ := hrel
    clear hQ0 hb0
    have hb := hbw.out
    replace E : Hid (Below w.heap.size w wr) := E.out.trans (hb.mono E.out.size)
    replace M := Lib.hid (M.out.keep hb)
    replace X := Lib.hid (X.out.below hb X.out.lt)
    clear hb
    have p0 := X.out.cell (j := 0) rfl
    have p1 := X.out.cell (j := 1) rfl
    have p2 := X.out.cell (j := 2) rfl
    go_wp2_with fail
    refine (CP.out _ M.out).mono ?_
    rintro e w4 ⟨rfl, hb⟩
    replace E : Hid (Below w.heap.size w w4) := E.out.trans (hb.mono E.out.size)
    replace M := Lib.hid (M.out.keep hb)
    replace X := Lib.hid (X.out.below hb X.out.lt)
    replace hQ := Lib.hid (hQ.out.keep hb)
    replace hbw := Lib.hid (hbw.out.trans (hb.mono hbw.out.size))
    clear hb p0 p1 p2
    have p0 := X.out.cell (j := 0) rfl
    have p1 := X.out.cell (j := 1) rfl
    have p2 := X.out.cell (j := 2) rfl
    by_cases hkN : k < NN
    rotate_left
    · have tk : ¬ (k : Int) < (NN : Int) := by omega
      obtain rfl : k = NN := by omega
      clear hkN hk
      have hQ2 := hQ.out
      rw [List.take_of_length_le (by rw [hRlH.out]; exact Nat.le_refl _)] at hQ2
      obtain ⟨A3, c3, hv, g1, g2, g3, g4⟩ := hQ2.mat
      subst hv
      have hmH := Lib.hid g4
      generalize hrl : R.length = rl at hQ2 ⊢
      clear g1 g2 g3 g4 hQ hQ2
      go_wp2_with fail
      go_ret
      exact ⟨⟨A3, c3, by rw [hrl]; rfl, hmH.out⟩, E.out⟩
    have tk : (k : Int) < (NN : Int) := by omega
    obtain ⟨h0, hRe⟩ := hRkH.out k hkN
    obtain ⟨b1, b2, b3, b4, b5, b6⟩ := cchk_ok h0
    obtain ⟨d, rfl⟩ : ∃ d : Nat, D = d := ⟨D.toNat, by omega⟩
    obtain ⟨g, rfl⟩ : ∃ g : Nat, G = g := ⟨G.toNat, by omega⟩
    rw [Int.toNat_natCast] at hRe
    have hnx : Hid (R.take (k + 1) = R.take k ++ [crow d Gs k d]) := take_nat7 hRe
    have CW := Lib.hid (row07_any d n c g k Gs A w4 M.out (by omega) (by have := hlen.out; omega) (by omega) hshH.out)
    unfold cdv at CW
    clear b1 b2 b3 b4 b5 b6 h0 hRe
    go_wp2_with fail
    refine CW.out.mono ?_
    rintro e w7 ⟨vr, ⟨rfl, hu⟩, hb7⟩
    have hpos : 0 < w4.heap.size := Nat.lt_of_le_of_lt (Nat.zero_le _) X.out.lt
    have hoff := own_off hu hQ.out hpos
    have ho4 := hQ.out.keep hb7
    have hB4 := Lib.hid (hbw.out.trans (hb7.mono hbw.out.size))
    have hln : (R.take k).length ≤ 1000000 := by rw [List.length_take]; omega
    have hsz4 : W1.heap.size ≤ w7.heap.size := hB4.out.size
    obtain ⟨Au, cu, rfl, _⟩ := hoff
    have hoff2 := own_off hu hQ.out hpos
    clear hu hb7 CW p0 p1 p2 hpos
    go_wp2_with (at_builtin; go_must (refine push_q rfl _ _ rfl W1.heap.size _ (R.take k) _ _ rfl rfl ho4 hoff2 hln hsz4 ?_); intro v' w8 ho5 hb8 hg5)
    have f1 : Hid (OwnQ 0 w8 W1.heap.size v' (R.take (k + 1))) := by show OwnQ _ _ _ _ _; rw [hnx.out]; exact ho5
    have f2 := Lib.hid (hB4.out.trans hb8)
    clear ho5 hb8 hg5 ho4 hoff2
    go_roundw
    case rel => exact ⟨k + 1, by omega, by go_num, f1, f2⟩
    case measure => simp [intOf]; omega

set_option maxRecDepth 100000 in
set_option maxHeartbeats 1000000 in
theorem sameRows07_any {B B' : Nat} (la lb : List (List UInt8)) (A A' : Option Addr) (c c' : Nat) (w : World) (ha : Mat w B A la) (hb : Mat w B' A' lb) (hl : la.length ≤ 1000000000000) :
    Calls Tryd.prog 20 #[.slice A la.length c, .slice A' lb.length c'] w (BoolEnd (la == lb) w) := by
  by_cases hlen : la.length = lb.length
  · have t : ((la.length : Int) != (lb.length : Int)) = false := by simp; omega
    have HL := Lib.hid hlen
    have hle : lb.length ≤ la.length := by omega
    have hge : la.length ≤ lb.length := by omega
    clear hlen
    go_enter Tryd.func20, Tryd.ntmps20
    go_wp2
    go_loopw [5] (fun i wr => ∃ k n : Nat, k ≤ la.length ∧ i = .int .i64 k ∧ wr = w.drewN n ∧ la.take k = lb.take k) (fun i _ => la.length - (intOf i).toNat)
    case atStart => exact ⟨0, 0, by omega, rfl, rfl, rfl⟩
    case round =>
      obtain ⟨k, n, hk, rfl, rfl, heq0⟩ := hrel
      have heq := Lib.hid heq0
      clear heq0
      by_cases hlt : k < la.length
      · have hlt2 : k < lb.length := by omega
        have g1 : la[k]? = some la[k] := List.getElem?_eq_getElem hlt
        have g2 : lb[k]? = some lb[k] := List.getElem?_eq_getElem hlt2
        obtain ⟨ad, va, rfl, _, hca, a1, c1, rfl, _, _, _, hra⟩ := ha.at g1
        obtain ⟨bd, vb, rfl, _, hcb, a2, c2, rfl, _, _, _, hrb⟩ := hb.at g2
        have G1 := Lib.hid g1
        have G2 := Lib.hid g2
        clear g1 g2
        have hva : ∀ m, (convert 57 9 (.slice a1 la[k].length c1)).run Tryd.prog (w.drewN m) = .ok (.string (bs la[k])) (w.drewN m) := fun m => run_bytes_bs (P := Tryd.prog) (w.drewN m) 57 9 5 Tryd.underlying57 Tryd.underlying5 Tryd.underlying9 c1 (B := B) hra
        have hvb : ∀ m, (convert 57 9 (.slice a2 lb[k].length c2)).run Tryd.prog (w.drewN m) = .ok (.string (bs lb[k])) (w.drewN m) := fun m => run_bytes_bs (P := Tryd.prog) (w.drewN m) 57 9 5 Tryd.underlying57 Tryd.underlying5 Tryd.underlying9 c2 (B := B') hrb
        clear hra hrb
        have s1 := bs_toList la[k]
        have s2 := bs_toList lb[k]
        generalize la[k] = x at hca G1 s1 hva
        generalize lb[k] = y at hcb G2 s2 hvb
        generalize bs x = X at s1 hva
        generalize bs y = Y at s2 hvb
        generalize x.length = lx at hca hva
        generalize y.length = ly at hcb hvb
        have S1 := Lib.hid s1
        have S2 := Lib.hid s2
        clear s1 s2
        have b1 : 0 ≤ (k : Int) := by omega
        have b2 : (k : Int) < (la.length : Int) := by omega
        have b3 : (k : Int) < (lb.length : Int) := by omega
        by_cases hxy : x = y
        · have t1 : (X.toList == Y.toList) = true := by rw [S1.out, S2.out]; simp [hxy]
          have hn := Lib.hid (take_snoc_eq G1.out (by rw [hxy]; exact G2.out) heq.out)
          clear hxy
          go_wp2
          go_quiet (fail)
          go_wp2
          go_roundw
          case rel => exact ⟨k + 1, _, by omega, by go_num, by go_simp; rfl, hn.out⟩
          case measure => simp [intOf]; omega
        · have t1 : (X.toList == Y.toList) = false := by rw [S1.out, S2.out]; simp [hxy]
          have hne : Hid ((la == lb) = false) := by
            show _ = _
            rw [beq_eq_false_iff_ne]
            rintro rfl
            have := G1.out.symm.trans G2.out
            injection this with this
            exact hxy this
          clear hxy
          go_wp2
          go_quiet (fail)
          go_wp2
          go_ret
          exact ⟨by rw [hne.out]; rfl, _, by go_simp; rfl⟩
      · have hE : Hid ((la == lb) = true) := by
          show _ = _
          rw [beq_iff_eq]
          have := heq.out
          rwa [List.take_of_length_le (by omega), List.take_of_length_le (by omega)] at this
        go_wp2
        go_ret
        exact ⟨by rw [hE.out]; rfl, n, rfl⟩
  · have t : ((la.length : Int) != (lb.length : Int)) = true := by simp; omega
    have hne : Hid ((la == lb) = false) := by
      show _ = _
      rw [beq_eq_false_iff_ne]
      rintro rfl
      exact hlen rfl
    clear hlen
    go_enter Tryd.func20, Tryd.ntmps20
    go_wp2
    go_ret
    exact ⟨by rw [hne.out]; rfl, 0, rfl⟩
end Go.Proofs.YtcnljemnkhmfcaaDoor

namespace Go.Proofs.YtcnljemnkhmfcaaDoor
set_option linter.unusedVariables false
set_option linter.unusedSimpArgs false
open Go.RowKit

theorem Mat.keep7 {w w' : World} {A : Option Addr} {M : List (List UInt8)} (h : Mat w w.heap.size A M) (hb : Below w.heap.size w w') : Mat w' w'.heap.size A M := (h.below hb).more hb.size
set_option maxRecDepth 100000 in
set_option maxHeartbeats 16000000 in
theorem encodes_walk (D : Int) (A : Option Addr) (n c : Nat) (G : Int) (Gs : List (List Int)) (d : List UInt8) (nn : Int) (w : World) (hM : CodM w w.heap.size D A n c G Gs) (hd : d.length ≤ 140737488351232) (hnn : -9223372036854775808 ≤ nn ∧ nn ≤ 9223372036854775807) (ht : PTab 0 w):
    Calls Tryd.prog 3 #[cdv D A n c G, sv d, .int .i64 nn] w fun e w' => e = .returned (.bool true) ∧ Below w.heap.size w w' := by
  have hdd := Lib.hid size_cod
  have hun : Hid (Tryd.prog.underlying 24 = _) := Tryd.underlying24
  obtain ⟨W1, hW1⟩ : ∃ W1, W1 = w.alloc (.cells #[.int .i64 D, .slice A n c, .int .i64 G] 24) := ⟨_, rfl⟩
  have E : Hid (Below w.heap.size w W1) := by show Below _ _ _; rw [hW1]; exact (Below.refl _ _).alloc (Nat.le_refl _) _
  have X : Hid (Blk W1 w.heap.size [.int .i64 D, .slice A n c, .int .i64 G] 24) := by show Blk _ _ _ _; rw [hW1]; exact Blk.new _ [_, _, _] _
  have M := Lib.hid (hM.keep E.out)
  have T := Lib.hid (ht.on E.out)
  have hlen : Hid (n = Gs.length) := hM.len
  have hW' := Lib.hid hW1
  have hsmall : n ≤ 140737488355328 := hM.small
  have hS : (bs d).size = d.length := bs_size d
  obtain ⟨m, hm⟩ : ∃ m, m = d.length := ⟨_, rfl⟩
  have hmH := Lib.hid hm
  rw [← hm] at hS hd
  obtain ⟨S, hSd⟩ : ∃ S, S = bs d := ⟨_, rfl⟩
  have hSH := Lib.hid hSd
  have hsv : sv d = .string S := by rw [hSd]; rfl
  rw [← hSd] at hS
  rw [hsv]
  have hS2 : (S.size : Int) = (m : Int) := by omega
  have CF := few07_any D G 20 n c Gs A W1 M.out
  rw [hW1] at CF
  clear hM ht hW1 hm hSd hsv
  unfold cdv at CF ⊢
  have p0 := X.out.cell (j := 0) rfl
  have p1 := X.out.cell (j := 1) rfl
  have p2 := X.out.cell (j := 2) rfl
  rw [hW'.out] at p0 p1 p2
  go_enter Tryd.func3, Tryd.ntmps3
  go_wp2_with fail
  refine CF.mono ?_
  rintro e w2 ⟨⟨b, rfl, hbf⟩, hb⟩
  have hb : Below W1.heap.size W1 w2 := by rw [hW'.out]; exact hb
  have hbfH := Lib.hid hbf
  clear CF hbf hW'
  clear p0 p1 p2
  replace E : Hid (Below w.heap.size w w2) := E.out.trans (hb.mono E.out.size)
  replace M := Lib.hid (M.out.keep hb)
  replace T := Lib.hid (T.out.on hb)
  replace X := Lib.hid (X.out.below hb X.out.lt)
  clear hb
  have p0 := X.out.cell (j := 0) rfl
  have p1 := X.out.cell (j := 1) rfl
  have p2 := X.out.cell (j := 2) rfl
  cases b with
  | false =>
    clear hbfH
    go_wp2_with fail
    refine (sanity_any7 _ T.out).mono ?_
    rintro e w3 ⟨rfl, hb⟩
    clear p0 p1 p2
    replace E : Hid (Below w.heap.size w w3) := E.out.trans (hb.mono E.out.size)
    replace M := Lib.hid (M.out.keep hb)
    replace T := Lib.hid (T.out.on hb)
    replace X := Lib.hid (X.out.below hb X.out.lt)
    clear hb
    have p0 := X.out.cell (j := 0) rfl
    have p1 := X.out.cell (j := 1) rfl
    have p2 := X.out.cell (j := 2) rfl
    go_wp2_with fail
    go_ret
    exact ⟨by first | rfl | (go_simp; done), E.out⟩
  | true =>
    have hF := hbfH.out.1 rfl
    have hshH : Hid (∀ g ∈ Gs, g.length ≤ 1000000) := fun g hg => by have := hF.2 g hg; omega
    clear hF hbfH
    by_cases c1 : 4106 < m
    · have t1 : (200 : Int) < (m : Int) := by omega
      have t2 : ¬ (m : Int) ≤ 4096 := by omega
      have t3 : (4106 : Int) < (m : Int) := by omega
      clear c1
      skip
      go_wp2_with fail
      refine (sanity_any7 _ T.out).mono ?_
      rintro e w3 ⟨rfl, hb⟩
      clear p0 p1 p2
      replace E : Hid (Below w.heap.size w w3) := E.out.trans (hb.mono E.out.size)
      replace M := Lib.hid (M.out.keep hb)
      replace T := Lib.hid (T.out.on hb)
      replace X := Lib.hid (X.out.below hb X.out.lt)
      clear hb
      have p0 := X.out.cell (j := 0) rfl
      have p1 := X.out.cell (j := 1) rfl
      have p2 := X.out.cell (j := 2) rfl
      go_wp2_with fail
      go_ret
      exact ⟨by first | rfl | (go_simp; done), E.out⟩
    by_cases c2 : 200 < m ∧ m ≤ 4096
    · have t1 : (200 : Int) < (m : Int) := by omega
      have t2 : (m : Int) ≤ 4096 := by omega
      clear c1 c2
      go_wp2_with fail
      refine (sanity_any7 _ T.out).mono ?_
      rintro e w3 ⟨rfl, hb⟩
      clear p0 p1 p2
      replace E : Hid (Below w.heap.size w w3) := E.out.trans (hb.mono E.out.size)
      replace M := Lib.hid (M.out.keep hb)
      replace T := Lib.hid (T.out.on hb)
      replace X := Lib.hid (X.out.below hb X.out.lt)
      clear hb
      have p0 := X.out.cell (j := 0) rfl
      have p1 := X.out.cell (j := 1) rfl
      have p2 := X.out.cell (j := 2) rfl
      go_wp2_with fail
      go_ret
      exact ⟨by first | rfl | (go_simp; done), E.out⟩
    obtain ⟨Ck, hCk⟩ : ∃ x, x = chkE D Gs G := ⟨_, rfl⟩
    obtain ⟨R, hR⟩ : ∃ x, x = rowsT D G Gs := ⟨_, rfl⟩
    obtain ⟨TT, hTT⟩ : ∃ x, x = encT D G Gs d := ⟨_, rfl⟩
    obtain ⟨EE, hEE⟩ : ∃ x, x = encE D G Gs d := ⟨_, rfl⟩
    obtain ⟨pz, hpz⟩ : ∃ x, x = pcs D Gs G := ⟨_, rfl⟩
    obtain ⟨sz, hsz⟩ : ∃ x, x = (if chkE D Gs G = 0 ∧ 0 ≤ nn ∧ nn ≤ 4096 then (nn + D - 1) / D else 0) := ⟨_, rfl⟩
    have CK : Hid (∀ W, CodM W w.heap.size D A n c G Gs → Calls Tryd.prog 10 #[cdv D A n c G] W fun e w' => e = .returned (.int .i64 Ck) ∧ Below W.heap.size W w') := fun W m => by rw [hCk]; exact refCheck7_any D G Gs n c A W m hshH.out
    have CK2 : Hid (∀ W, CodM W w.heap.size D A n c G Gs → Calls Tryd.prog 14 #[cdv D A n c G] W fun e w' => e = .returned (.int .i64 Ck) ∧ Below W.heap.size W w') := fun W m => by rw [hCk]; exact ccheck_any D G Gs n c A W m
    have CP : Hid (∀ W, CodM W w.heap.size D A n c G Gs → Calls Tryd.prog 16 #[cdv D A n c G] W fun e w' => e = .returned (.int .i64 pz) ∧ Below W.heap.size W w') := fun W m => by rw [hpz]; exact refPieces7_any D G Gs n c A W m hshH.out
    have CP2 : Hid (∀ W, CodM W w.heap.size D A n c G Gs → Calls Tryd.prog 15 #[cdv D A n c G] W fun e w' => e = .returned (.int .i64 pz) ∧ Below W.heap.size W w') := fun W m => by rw [hpz]; exact pieces_any D G Gs n c A W m
    have CZ : Hid (∀ W, CodM W w.heap.size D A n c G Gs → Calls Tryd.prog 18 #[cdv D A n c G, .int .i64 nn] W fun e w' => e = .returned (.int .i64 sz) ∧ Below W.heap.size W w') := fun W m => by rw [hsz]; exact refSize7_any D G nn Gs n c A W m hshH.out
    have CZ2 : Hid (∀ W, CodM W w.heap.size D A n c G Gs → Calls Tryd.prog 17 #[cdv D A n c G, .int .i64 nn] W fun e w' => e = .returned (.int .i64 sz) ∧ Below W.heap.size W w') := fun W m => by rw [hsz]; exact Size_any D G nn Gs n c A W m
    have CR : Hid (∀ W, CodM W w.heap.size D A n c G Gs → PTab 0 W → Calls Tryd.prog 11 #[cdv D A n c G] W fun e w' => ∃ A cc, e = .returned (.tuple #[.slice A R.length cc, .int .i64 Ck]) ∧ Mat w' w'.heap.size A R ∧ Below W.heap.size W w') := fun W m t => by rw [hR, hCk]; exact rows_any D G Gs n c A W m t
    have CR2 : Hid (∀ W, CodM W w.heap.size D A n c G Gs → Calls Tryd.prog 21 #[cdv D A n c G] W fun e w' => (∃ A cc, e = .returned (.slice A R.length cc) ∧ Mat w' w'.heap.size A R) ∧ Below W.heap.size W w') := fun W m => by rw [hR]; exact refRows7_any D G Gs n c A W m hshH.out
    have CE : Hid (∀ W, CodM W w.heap.size D A n c G Gs → PTab 0 W → Calls Tryd.prog 12 #[cdv D A n c G, .string S] W fun e w' => ∃ Ae ce, e = .returned (.tuple #[.slice Ae TT.length ce, .int .i64 EE]) ∧ Rds w' w'.heap.size Ae (TT.map sv) ∧ Below W.heap.size W w') := fun W m t => by
      have := encodeX_any D G Gs n c A d W m t (by rw [← hmH.out]; exact hd)
      rw [← hTT, ← hEE, show sv d = .string S by rw [hSH.out]; rfl] at this
      refine this.mono ?_
      rintro e w' ⟨v, rfl, hO, hb⟩
      obtain ⟨Ae, ce, rfl, _, _, _, hr⟩ := hO.slice
      exact ⟨Ae, ce, rfl, hr, hb⟩
    have CE2 : Hid (∀ W, CodM W w.heap.size D A n c G Gs → Calls Tryd.prog 13 #[cdv D A n c G, .string S] W fun e w' => (∃ Af cf, e = .returned (.agg #[.slice Af TT.length cf, .int .i64 EE]) ∧ Rds w' w'.heap.size Af (TT.map sv)) ∧ Below W.heap.size W w') := fun W m => by
      have := refEncode7_any D G Gs n c A d W m hshH.out (by rw [← hmH.out]; exact hd)
      rw [← hTT, ← hEE, show sv d = .string S by rw [hSH.out]; rfl] at this
      refine this.mono ?_
      rintro e w' ⟨⟨Af, cf, h1, h2, _⟩, h3⟩
      exact ⟨⟨Af, cf, h1, h2⟩, h3⟩
    have hTl : Hid (TT.length ≤ 1000000) := by
      show _ ≤ _
      rw [hTT]
      unfold encT
      by_cases h : encE D G Gs d = 0
      · rw [if_pos h, encP_len]
        have h0 : chkE D Gs G = 0 := by
          apply Classical.byContradiction
          intro hne
          unfold encE at h
          rw [if_neg hne] at h
          exact hne h
        obtain ⟨b1, b2, b3, b4, b5, b6⟩ := cchk_ok h0
        omega
      · rw [if_neg h]; simp
    have hRl : Hid (R.length ≤ 1000000) := by
      show _ ≤ _
      rw [hR]
      unfold rowsT
      by_cases h : chkE D Gs G = 0
      · rw [if_pos h, PM_len]
        obtain ⟨b1, b2, b3, b4, b5, b6⟩ := cchk_ok h
        omega
      · rw [if_neg h]; simp
    have SR : Hid (∀ W B1 B2 A1 c1 A2 c2, Mat W B1 A1 R → Mat W B2 A2 R → Calls Tryd.prog 20 #[.slice A1 R.length c1, .slice A2 R.length c2] W fun e w' => e = .returned (.bool true) ∧ Below W.heap.size W w') := fun W B1 B2 A1 c1 A2 c2 h1 h2 => by
      refine (sameRows07_any R R A1 A2 c1 c2 W h1 h2 (by have := hRl.out; omega)).mono ?_
      rintro e w' ⟨rfl, k, rfl⟩
      exact ⟨by simp, below_drewN (Below.refl _ _) k⟩
    have ST : Hid (∀ W B1 B2 A1 c1 A2 c2, Rds W B1 A1 (TT.map sv) → Rds W B2 A2 (TT.map sv) → Calls Tryd.prog 19 #[.slice A1 TT.length c1, .slice A2 TT.length c2] W fun e w' => e = .returned (.bool true) ∧ Below W.heap.size W w') := fun W B1 B2 A1 c1 A2 c2 h1 h2 => by
      refine (sameTexts07_any TT TT A1 A2 c1 c2 W h1 h2 (by have := hTl.out; omega)).mono ?_
      rintro e w' ⟨rfl, k, rfl⟩
      exact ⟨by simp, below_drewN (Below.refl _ _) k⟩
    clear hCk hR hTT hEE hpz hsz hTl hRl
    unfold cdv at CK CK2 CP CP2 CZ CZ2 CR CR2 CE CE2
    generalize hrl : R.length = rl at CR CR2 SR
    generalize htl : TT.length = tl at CE CE2 ST
    clear hrl htl
    by_cases c3 : 200 < m
    · have t1 : (200 : Int) < (m : Int) := by omega
      have t2 : ¬ (m : Int) ≤ 4096 := by omega
      have t3 : ¬ (4106 : Int) < (m : Int) := by omega
      clear c1 c2 c3
      go_wp2_with fail
      have C := CK.out w2 M.out
      try unfold cdv at C
      refine C.mono ?_
      rintro e w3 ⟨rfl, hb⟩
      clear C
      clear p0 p1 p2
      replace E : Hid (Below w.heap.size w w3) := E.out.trans (hb.mono E.out.size)
      replace M := Lib.hid (M.out.keep hb)
      replace T := Lib.hid (T.out.on hb)
      replace X := Lib.hid (X.out.below hb X.out.lt)
      clear hb
      have p0 := X.out.cell (j := 0) rfl
      have p1 := X.out.cell (j := 1) rfl
      have p2 := X.out.cell (j := 2) rfl
      go_wp2_with fail
      have C := CR.out w3 M.out T.out
      try unfold cdv at C
      refine C.mono ?_
      rintro e w4 ⟨Ar, cr, rfl, hRm, hb⟩
      clear C
      clear p0 p1 p2
      replace E : Hid (Below w.heap.size w w4) := E.out.trans (hb.mono E.out.size)
      replace M := Lib.hid (M.out.keep hb)
      replace T := Lib.hid (T.out.on hb)
      replace X := Lib.hid (X.out.below hb X.out.lt)
      clear hb
      have Rm := Lib.hid hRm
      clear hRm
      have p0 := X.out.cell (j := 0) rfl
      have p1 := X.out.cell (j := 1) rfl
      have p2 := X.out.cell (j := 2) rfl
      go_wp2_with fail
      have C := CE.out w4 M.out T.out
      try unfold cdv at C
      refine C.mono ?_
      rintro e w5 ⟨Ae, ce, rfl, hRe, hb⟩
      clear C
      clear p0 p1 p2
      replace E : Hid (Below w.heap.size w w5) := E.out.trans (hb.mono E.out.size)
      replace M := Lib.hid (M.out.keep hb)
      replace T := Lib.hid (T.out.on hb)
      replace X := Lib.hid (X.out.below hb X.out.lt)
      replace Rm := Lib.hid (Rm.out.keep7 hb)
      clear hb
      have Re := Lib.hid hRe
      clear hRe
      have p0 := X.out.cell (j := 0) rfl
      have p1 := X.out.cell (j := 1) rfl
      have p2 := X.out.cell (j := 2) rfl
      go_wp2_with fail
      have C := CE2.out w5 M.out
      refine C.mono ?_
      rintro e w6 ⟨⟨Af, cf, rfl, hRf⟩, hb⟩
      clear C
      clear p0 p1 p2
      replace E : Hid (Below w.heap.size w w6) := E.out.trans (hb.mono E.out.size)
      replace M := Lib.hid (M.out.keep hb)
      replace T := Lib.hid (T.out.on hb)
      replace X := Lib.hid (X.out.below hb X.out.lt)
      replace Rm := Lib.hid (Rm.out.keep7 hb)
      replace Re := Lib.hid ((Re.out.below hb).more hb.size)
      clear hb
      have Rf := Lib.hid hRf
      clear hRf
      obtain ⟨w8, hw8⟩ : ∃ x, x = w6.alloc (.cells #[.slice Af tl cf, .int .i64 EE] 36) := ⟨_, rfl⟩
      obtain ⟨g8, hg8⟩ : ∃ x, x = w6.heap.size := ⟨_, rfl⟩
      have Y : Hid (Blk w8 g8 [.slice Af tl cf, .int .i64 EE] 36) := by show Blk _ _ _ _; rw [hw8, hg8]; exact Blk.new _ [_, _] _
      have hb8 : Hid (Below w6.heap.size w6 w8) := by show Below _ _ _; rw [hw8]; exact (Below.refl _ _).alloc (Nat.le_refl _) _
      have hw8H := Lib.hid hw8
      clear hw8
      have p0 := X.out.cell (j := 0) rfl
      have p1 := X.out.cell (j := 1) rfl
      have p2 := X.out.cell (j := 2) rfl
      go_wp2_with fail
      generalize hx : World.alloc _ _ = Wx
      have hW8 : w8 = Wx := by rw [← hx, hw8H.out]
      clear hx hw8H
      subst hW8
      rw [← hg8]
      clear p0 p1 p2
      have hb := hb8.out
      clear hb8 hg8
      replace E : Hid (Below w.heap.size w w8) := E.out.trans (hb.mono E.out.size)
      replace M := Lib.hid (M.out.keep hb)
      replace T := Lib.hid (T.out.on hb)
      replace X := Lib.hid (X.out.below hb X.out.lt)
      replace Rm := Lib.hid (Rm.out.keep7 hb)
      replace Re := Lib.hid ((Re.out.below hb).more hb.size)
      replace Rf := Lib.hid ((Rf.out.below hb).more hb.size)
      clear hb
      refine wp_region_planM [] [(true, 0), (true, 2), (false, 1), (true, 3), (true, 4), (true, 5), (true, 6), (true, 7), (true, 8), (true, 9), (true, 10), (true, 12), (false, 11), (false, 13), (true, 14), (true, 15), (true, 16), (true, 17), (true, 18), (true, 20), (true, 21), (false, 19), (false, 22), (true, 23), (true, 24), (true, 25), (true, 26), (true, 27), (true, 28), (true, 29), (true, 30), (true, 31), (true, 32), (true, 33), (true, 34), (false, 35), (true, 36), (true, 37)] (by decide) (by kernel_rfl) (by kernel_rfl) (by decide) (by intro c a d v w h; cases d <;> exact h) ?_
      change wpPlanM _ _ _ _ _ _ w8.drew
      have hb : Below w8.heap.size w8 w8.drew := (Below.refl _ _).drew
      generalize hgd : w8.drew = w9 at hb ⊢
      clear hgd
      replace E : Hid (Below w.heap.size w w9) := E.out.trans (hb.mono E.out.size)
      replace M := Lib.hid (M.out.keep hb)
      replace T := Lib.hid (T.out.on hb)
      replace X := Lib.hid (X.out.below hb X.out.lt)
      replace Rm := Lib.hid (Rm.out.keep7 hb)
      replace Re := Lib.hid ((Re.out.below hb).more hb.size)
      replace Rf := Lib.hid ((Rf.out.below hb).more hb.size)
      replace Y := Lib.hid (Y.out.below hb Y.out.lt)
      clear hb
      refine wpPlanM_runW rfl (by rfl) _ (fun q => load_run 24 _ rfl w.heap.size 0 rfl [.int .i64 D, .slice A n c, .int .i64 G] _ hun.out rfl hdd.out q.world ((Blk.below X.out q.ext X.out.lt).range 0 _ (take_all0 _))) ?_
      iterate 1 (refine wpPlanM_plain rfl (fun K hK => ?_); go_simp; refine hK _ ?_; clear hK K)
      refine wpPlanM_call rfl (fun K hK => ?_)
      go_wp2_with fail
      have C := CK2.out w9 M.out
      refine C.mono ?_
      rintro e w10 ⟨rfl, hb⟩
      clear C
      have hbp := Lib.hid hb
      replace E : Hid (Below w.heap.size w w10) := E.out.trans (hb.mono E.out.size)
      replace M := Lib.hid (M.out.keep hb)
      replace T := Lib.hid (T.out.on hb)
      replace X := Lib.hid (X.out.below hb X.out.lt)
      replace Rm := Lib.hid (Rm.out.keep7 hb)
      replace Re := Lib.hid ((Re.out.below hb).more hb.size)
      replace Rf := Lib.hid ((Rf.out.below hb).more hb.size)
      replace Y := Lib.hid (Y.out.below hb Y.out.lt)
      clear hb
      go_wp2_with fail
      refine planPostL_normal ⟨.inr hbp.out, hK _ _ ?_⟩
      clear hK K hbp
      iterate 7 (refine wpPlanM_plain rfl (fun K hK => ?_); go_simp; refine hK _ ?_; clear hK K)
      refine wpPlanM_runW rfl (by rfl) _ (fun q => load_run 24 _ rfl w.heap.size 0 rfl [.int .i64 D, .slice A n c, .int .i64 G] _ hun.out rfl hdd.out q.world ((Blk.below X.out q.ext X.out.lt).range 0 _ (take_all0 _))) ?_
      refine wpPlanM_runW rfl (by rfl) _ (fun q => load_run 24 _ rfl w.heap.size 0 rfl [.int .i64 D, .slice A n c, .int .i64 G] _ hun.out rfl hdd.out q.world ((Blk.below X.out q.ext X.out.lt).range 0 _ (take_all0 _))) ?_
      refine wpPlanM_call rfl (fun K hK => ?_)
      go_wp2_with fail
      have C := CP2.out w10 M.out
      refine C.mono ?_
      rintro e w11 ⟨rfl, hb⟩
      clear C
      have hbp := Lib.hid hb
      replace E : Hid (Below w.heap.size w w11) := E.out.trans (hb.mono E.out.size)
      replace M := Lib.hid (M.out.keep hb)
      replace T := Lib.hid (T.out.on hb)
      replace X := Lib.hid (X.out.below hb X.out.lt)
      replace Rm := Lib.hid (Rm.out.keep7 hb)
      replace Re := Lib.hid ((Re.out.below hb).more hb.size)
      replace Rf := Lib.hid ((Rf.out.below hb).more hb.size)
      replace Y := Lib.hid (Y.out.below hb Y.out.lt)
      clear hb
      go_wp2_with fail
      refine planPostL_normal ⟨.inr hbp.out, hK _ _ ?_⟩
      clear hK K hbp
      refine wpPlanM_call rfl (fun K hK => ?_)
      go_wp2_with fail
      have C := CP.out w11 M.out
      refine C.mono ?_
      rintro e w12 ⟨rfl, hb⟩
      clear C
      have hbp := Lib.hid hb
      replace E : Hid (Below w.heap.size w w12) := E.out.trans (hb.mono E.out.size)
      replace M := Lib.hid (M.out.keep hb)
      replace T := Lib.hid (T.out.on hb)
      replace X := Lib.hid (X.out.below hb X.out.lt)
      replace Rm := Lib.hid (Rm.out.keep7 hb)
      replace Re := Lib.hid ((Re.out.below hb).more hb.size)
      replace Rf := Lib.hid ((Rf.out.below hb).more hb.size)
      replace Y := Lib.hid (Y.out.below hb Y.out.lt)
      clear hb
      go_wp2_with fail
      refine planPostL_normal ⟨.inr hbp.out, hK _ _ ?_⟩
      clear hK K hbp
      iterate 3 (refine wpPlanM_plain rfl (fun K hK => ?_); go_simp; refine hK _ ?_; clear hK K)
      refine wpPlanM_runW rfl (by rfl) _ (fun q => load_run 24 _ rfl w.heap.size 0 rfl [.int .i64 D, .slice A n c, .int .i64 G] _ hun.out rfl hdd.out q.world ((Blk.below X.out q.ext X.out.lt).range 0 _ (take_all0 _))) ?_
      iterate 1 (refine wpPlanM_plain rfl (fun K hK => ?_); go_simp; refine hK _ ?_; clear hK K)
      refine wpPlanM_runW rfl (by rfl) _ (fun q => load_run 24 _ rfl w.heap.size 0 rfl [.int .i64 D, .slice A n c, .int .i64 G] _ hun.out rfl hdd.out q.world ((Blk.below X.out q.ext X.out.lt).range 0 _ (take_all0 _))) ?_
      iterate 1 (refine wpPlanM_plain rfl (fun K hK => ?_); go_simp; refine hK _ ?_; clear hK K)
      refine wpPlanM_call rfl (fun K hK => ?_)
      go_wp2_with fail
      have C := CZ2.out w12 M.out
      refine C.mono ?_
      rintro e w13 ⟨rfl, hb⟩
      clear C
      have hbp := Lib.hid hb
      replace E : Hid (Below w.heap.size w w13) := E.out.trans (hb.mono E.out.size)
      replace M := Lib.hid (M.out.keep hb)
      replace T := Lib.hid (T.out.on hb)
      replace X := Lib.hid (X.out.below hb X.out.lt)
      replace Rm := Lib.hid (Rm.out.keep7 hb)
      replace Re := Lib.hid ((Re.out.below hb).more hb.size)
      replace Rf := Lib.hid ((Rf.out.below hb).more hb.size)
      replace Y := Lib.hid (Y.out.below hb Y.out.lt)
      clear hb
      go_wp2_with fail
      refine planPostL_normal ⟨.inr hbp.out, hK _ _ ?_⟩
      clear hK K hbp
      refine wpPlanM_call rfl (fun K hK => ?_)
      go_wp2_with fail
      have C := CZ.out w13 M.out
      refine C.mono ?_
      rintro e w14 ⟨rfl, hb⟩
      clear C
      have hbp := Lib.hid hb
      replace E : Hid (Below w.heap.size w w14) := E.out.trans (hb.mono E.out.size)
      replace M := Lib.hid (M.out.keep hb)
      replace T := Lib.hid (T.out.on hb)
      replace X := Lib.hid (X.out.below hb X.out.lt)
      replace Rm := Lib.hid (Rm.out.keep7 hb)
      replace Re := Lib.hid ((Re.out.below hb).more hb.size)
      replace Rf := Lib.hid ((Rf.out.below hb).more hb.size)
      replace Y := Lib.hid (Y.out.below hb Y.out.lt)
      clear hb
      go_wp2_with fail
      refine planPostL_normal ⟨.inr hbp.out, hK _ _ ?_⟩
      clear hK K hbp
      iterate 5 (refine wpPlanM_plain rfl (fun K hK => ?_); go_simp; refine hK _ ?_; clear hK K)
      have yq1 : ∀ q : ExtOf w14, q.world.cell? ⟨g8, 1, none⟩ = some (.int .i64 EE) := fun q => (Blk.below Y.out q.ext Y.out.lt).cell (j := 1) rfl
      have yq0 : ∀ q : ExtOf w14, q.world.cell? ⟨g8, 0, none⟩ = some (.slice Af tl cf) := fun q => (Blk.below Y.out q.ext Y.out.lt).cell (j := 0) rfl
      iterate 7 (refine wpPlanM_plain rfl (fun K hK => ?_); go_simp; refine hK _ ?_; clear hK K)
      clear yq0 yq1
      refine wpPlanM_call rfl (fun K hK => ?_)
      go_wp2_with fail
      have C := ST.out w14 _ _ Ae ce Af cf Re.out Rf.out
      refine C.mono ?_
      rintro e w15 ⟨rfl, hb⟩
      clear C
      have hbp := Lib.hid hb
      replace E : Hid (Below w.heap.size w w15) := E.out.trans (hb.mono E.out.size)
      replace M := Lib.hid (M.out.keep hb)
      replace T := Lib.hid (T.out.on hb)
      replace X := Lib.hid (X.out.below hb X.out.lt)
      replace Rm := Lib.hid (Rm.out.keep7 hb)
      replace Re := Lib.hid ((Re.out.below hb).more hb.size)
      replace Rf := Lib.hid ((Rf.out.below hb).more hb.size)
      replace Y := Lib.hid (Y.out.below hb Y.out.lt)
      clear hb
      go_wp2_with fail
      refine planPostL_normal ⟨.inr hbp.out, hK _ _ ?_⟩
      clear hK K hbp
      iterate 2 (refine wpPlanM_plain rfl (fun K hK => ?_); go_simp; refine hK _ ?_; clear hK K)
      refine wpPlanM_nil ?_
      have p0 := X.out.cell (j := 0) rfl
      have p1 := X.out.cell (j := 1) rfl
      have p2 := X.out.cell (j := 2) rfl
      go_wp2_with fail
      refine (sanity_any7 _ T.out).mono ?_
      rintro e w16 ⟨rfl, hb⟩
      clear p0 p1 p2
      replace E : Hid (Below w.heap.size w w16) := E.out.trans (hb.mono E.out.size)
      replace M := Lib.hid (M.out.keep hb)
      replace T := Lib.hid (T.out.on hb)
      replace X := Lib.hid (X.out.below hb X.out.lt)
      replace Rm := Lib.hid (Rm.out.keep7 hb)
      replace Re := Lib.hid ((Re.out.below hb).more hb.size)
      replace Rf := Lib.hid ((Rf.out.below hb).more hb.size)
      replace Y := Lib.hid (Y.out.below hb Y.out.lt)
      clear hb
      have p0 := X.out.cell (j := 0) rfl
      have p1 := X.out.cell (j := 1) rfl
      have p2 := X.out.cell (j := 2) rfl
      go_wp2_with fail
      have C := CR2.out w16 M.out
      refine C.mono ?_
      rintro e w17 ⟨⟨A2, c2, rfl, hm2⟩, hb⟩
      clear C
      clear p0 p1 p2
      replace E : Hid (Below w.heap.size w w17) := E.out.trans (hb.mono E.out.size)
      replace M := Lib.hid (M.out.keep hb)
      replace T := Lib.hid (T.out.on hb)
      replace X := Lib.hid (X.out.below hb X.out.lt)
      replace Rm := Lib.hid (Rm.out.keep7 hb)
      replace Re := Lib.hid ((Re.out.below hb).more hb.size)
      replace Rf := Lib.hid ((Rf.out.below hb).more hb.size)
      replace Y := Lib.hid (Y.out.below hb Y.out.lt)
      clear hb
      have Rn := Lib.hid hm2
      clear hm2
      go_wp2_with fail
      have C := SR.out w17 _ _ Ar cr A2 c2 Rm.out Rn.out
      refine C.mono ?_
      rintro e w18 ⟨rfl, hb⟩
      clear C
      replace E : Hid (Below w.heap.size w w18) := E.out.trans (hb.mono E.out.size)
      clear hb
      go_wp2_with fail
      go_ret
      exact ⟨by first | rfl | (go_simp; done), E.out⟩
    · have t1 : ¬ (200 : Int) < (m : Int) := by omega
      have t3 : ¬ (4106 : Int) < (m : Int) := by omega
      clear c1 c2 c3
      go_wp2_with fail
      have C := CK.out w2 M.out
      try unfold cdv at C
      refine C.mono ?_
      rintro e w3 ⟨rfl, hb⟩
      clear C
      clear p0 p1 p2
      replace E : Hid (Below w.heap.size w w3) := E.out.trans (hb.mono E.out.size)
      replace M := Lib.hid (M.out.keep hb)
      replace T := Lib.hid (T.out.on hb)
      replace X := Lib.hid (X.out.below hb X.out.lt)
      clear hb
      have p0 := X.out.cell (j := 0) rfl
      have p1 := X.out.cell (j := 1) rfl
      have p2 := X.out.cell (j := 2) rfl
      go_wp2_with fail
      have C := CR.out w3 M.out T.out
      try unfold cdv at C
      refine C.mono ?_
      rintro e w4 ⟨Ar, cr, rfl, hRm, hb⟩
      clear C
      clear p0 p1 p2
      replace E : Hid (Below w.heap.size w w4) := E.out.trans (hb.mono E.out.size)
      replace M := Lib.hid (M.out.keep hb)
      replace T := Lib.hid (T.out.on hb)
      replace X := Lib.hid (X.out.below hb X.out.lt)
      clear hb
      have Rm := Lib.hid hRm
      clear hRm
      have p0 := X.out.cell (j := 0) rfl
      have p1 := X.out.cell (j := 1) rfl
      have p2 := X.out.cell (j := 2) rfl
      go_wp2_with fail
      have C := CE.out w4 M.out T.out
      try unfold cdv at C
      refine C.mono ?_
      rintro e w5 ⟨Ae, ce, rfl, hRe, hb⟩
      clear C
      clear p0 p1 p2
      replace E : Hid (Below w.heap.size w w5) := E.out.trans (hb.mono E.out.size)
      replace M := Lib.hid (M.out.keep hb)
      replace T := Lib.hid (T.out.on hb)
      replace X := Lib.hid (X.out.below hb X.out.lt)
      replace Rm := Lib.hid (Rm.out.keep7 hb)
      clear hb
      have Re := Lib.hid hRe
      clear hRe
      have p0 := X.out.cell (j := 0) rfl
      have p1 := X.out.cell (j := 1) rfl
      have p2 := X.out.cell (j := 2) rfl
      go_wp2_with fail
      have C := CE2.out w5 M.out
      refine C.mono ?_
      rintro e w6 ⟨⟨Af, cf, rfl, hRf⟩, hb⟩
      clear C
      clear p0 p1 p2
      replace E : Hid (Below w.heap.size w w6) := E.out.trans (hb.mono E.out.size)
      replace M := Lib.hid (M.out.keep hb)
      replace T := Lib.hid (T.out.on hb)
      replace X := Lib.hid (X.out.below hb X.out.lt)
      replace Rm := Lib.hid (Rm.out.keep7 hb)
      replace Re := Lib.hid ((Re.out.below hb).more hb.size)
      clear hb
      have Rf := Lib.hid hRf
      clear hRf
      obtain ⟨w8, hw8⟩ : ∃ x, x = w6.alloc (.cells #[.slice Af tl cf, .int .i64 EE] 36) := ⟨_, rfl⟩
      obtain ⟨g8, hg8⟩ : ∃ x, x = w6.heap.size := ⟨_, rfl⟩
      have Y : Hid (Blk w8 g8 [.slice Af tl cf, .int .i64 EE] 36) := by show Blk _ _ _ _; rw [hw8, hg8]; exact Blk.new _ [_, _] _
      have hb8 : Hid (Below w6.heap.size w6 w8) := by show Below _ _ _; rw [hw8]; exact (Below.refl _ _).alloc (Nat.le_refl _) _
      have hw8H := Lib.hid hw8
      clear hw8
      have p0 := X.out.cell (j := 0) rfl
      have p1 := X.out.cell (j := 1) rfl
      have p2 := X.out.cell (j := 2) rfl
      go_wp2_with fail
      generalize hx : World.alloc _ _ = Wx
      have hW8 : w8 = Wx := by rw [← hx, hw8H.out]
      clear hx hw8H
      subst hW8
      rw [← hg8]
      clear p0 p1 p2
      have hb := hb8.out
      clear hb8 hg8
      replace E : Hid (Below w.heap.size w w8) := E.out.trans (hb.mono E.out.size)
      replace M := Lib.hid (M.out.keep hb)
      replace T := Lib.hid (T.out.on hb)
      replace X := Lib.hid (X.out.below hb X.out.lt)
      replace Rm := Lib.hid (Rm.out.keep7 hb)
      replace Re := Lib.hid ((Re.out.below hb).more hb.size)
      replace Rf := Lib.hid ((Rf.out.below hb).more hb.size)
      clear hb
      refine wp_region_planM [] [(true, 0), (true, 2), (false, 1), (true, 3), (true, 4), (true, 5), (true, 6), (true, 7), (true, 8), (true, 9), (true, 10), (true, 12), (false, 11), (false, 13), (true, 14), (true, 15), (true, 16), (true, 17), (true, 18), (true, 20), (true, 21), (false, 19), (false, 22), (true, 23), (true, 24), (true, 25), (true, 26), (true, 27), (true, 28), (true, 29), (true, 30), (true, 31), (true, 32), (true, 33), (true, 34), (false, 35), (true, 36), (true, 37)] (by decide) (by kernel_rfl) (by kernel_rfl) (by decide) (by intro c a d v w h; cases d <;> exact h) ?_
      change wpPlanM _ _ _ _ _ _ w8.drew
      have hb : Below w8.heap.size w8 w8.drew := (Below.refl _ _).drew
      generalize hgd : w8.drew = w9 at hb ⊢
      clear hgd
      replace E : Hid (Below w.heap.size w w9) := E.out.trans (hb.mono E.out.size)
      replace M := Lib.hid (M.out.keep hb)
      replace T := Lib.hid (T.out.on hb)
      replace X := Lib.hid (X.out.below hb X.out.lt)
      replace Rm := Lib.hid (Rm.out.keep7 hb)
      replace Re := Lib.hid ((Re.out.below hb).more hb.size)
      replace Rf := Lib.hid ((Rf.out.below hb).more hb.size)
      replace Y := Lib.hid (Y.out.below hb Y.out.lt)
      clear hb
      refine wpPlanM_runW rfl (by rfl) _ (fun q => load_run 24 _ rfl w.heap.size 0 rfl [.int .i64 D, .slice A n c, .int .i64 G] _ hun.out rfl hdd.out q.world ((Blk.below X.out q.ext X.out.lt).range 0 _ (take_all0 _))) ?_
      iterate 1 (refine wpPlanM_plain rfl (fun K hK => ?_); go_simp; refine hK _ ?_; clear hK K)
      refine wpPlanM_call rfl (fun K hK => ?_)
      go_wp2_with fail
      have C := CK2.out w9 M.out
      refine C.mono ?_
      rintro e w10 ⟨rfl, hb⟩
      clear C
      have hbp := Lib.hid hb
      replace E : Hid (Below w.heap.size w w10) := E.out.trans (hb.mono E.out.size)
      replace M := Lib.hid (M.out.keep hb)
      replace T := Lib.hid (T.out.on hb)
      replace X := Lib.hid (X.out.below hb X.out.lt)
      replace Rm := Lib.hid (Rm.out.keep7 hb)
      replace Re := Lib.hid ((Re.out.below hb).more hb.size)
      replace Rf := Lib.hid ((Rf.out.below hb).more hb.size)
      replace Y := Lib.hid (Y.out.below hb Y.out.lt)
      clear hb
      go_wp2_with fail
      refine planPostL_normal ⟨.inr hbp.out, hK _ _ ?_⟩
      clear hK K hbp
      iterate 7 (refine wpPlanM_plain rfl (fun K hK => ?_); go_simp; refine hK _ ?_; clear hK K)
      refine wpPlanM_runW rfl (by rfl) _ (fun q => load_run 24 _ rfl w.heap.size 0 rfl [.int .i64 D, .slice A n c, .int .i64 G] _ hun.out rfl hdd.out q.world ((Blk.below X.out q.ext X.out.lt).range 0 _ (take_all0 _))) ?_
      refine wpPlanM_runW rfl (by rfl) _ (fun q => load_run 24 _ rfl w.heap.size 0 rfl [.int .i64 D, .slice A n c, .int .i64 G] _ hun.out rfl hdd.out q.world ((Blk.below X.out q.ext X.out.lt).range 0 _ (take_all0 _))) ?_
      refine wpPlanM_call rfl (fun K hK => ?_)
      go_wp2_with fail
      have C := CP2.out w10 M.out
      refine C.mono ?_
      rintro e w11 ⟨rfl, hb⟩
      clear C
      have hbp := Lib.hid hb
      replace E : Hid (Below w.heap.size w w11) := E.out.trans (hb.mono E.out.size)
      replace M := Lib.hid (M.out.keep hb)
      replace T := Lib.hid (T.out.on hb)
      replace X := Lib.hid (X.out.below hb X.out.lt)
      replace Rm := Lib.hid (Rm.out.keep7 hb)
      replace Re := Lib.hid ((Re.out.below hb).more hb.size)
      replace Rf := Lib.hid ((Rf.out.below hb).more hb.size)
      replace Y := Lib.hid (Y.out.below hb Y.out.lt)
      clear hb
      go_wp2_with fail
      refine planPostL_normal ⟨.inr hbp.out, hK _ _ ?_⟩
      clear hK K hbp
      refine wpPlanM_call rfl (fun K hK => ?_)
      go_wp2_with fail
      have C := CP.out w11 M.out
      refine C.mono ?_
      rintro e w12 ⟨rfl, hb⟩
      clear C
      have hbp := Lib.hid hb
      replace E : Hid (Below w.heap.size w w12) := E.out.trans (hb.mono E.out.size)
      replace M := Lib.hid (M.out.keep hb)
      replace T := Lib.hid (T.out.on hb)
      replace X := Lib.hid (X.out.below hb X.out.lt)
      replace Rm := Lib.hid (Rm.out.keep7 hb)
      replace Re := Lib.hid ((Re.out.below hb).more hb.size)
      replace Rf := Lib.hid ((Rf.out.below hb).more hb.size)
      replace Y := Lib.hid (Y.out.below hb Y.out.lt)
      clear hb
      go_wp2_with fail
      refine planPostL_normal ⟨.inr hbp.out, hK _ _ ?_⟩
      clear hK K hbp
      iterate 3 (refine wpPlanM_plain rfl (fun K hK => ?_); go_simp; refine hK _ ?_; clear hK K)
      refine wpPlanM_runW rfl (by rfl) _ (fun q => load_run 24 _ rfl w.heap.size 0 rfl [.int .i64 D, .slice A n c, .int .i64 G] _ hun.out rfl hdd.out q.world ((Blk.below X.out q.ext X.out.lt).range 0 _ (take_all0 _))) ?_
      iterate 1 (refine wpPlanM_plain rfl (fun K hK => ?_); go_simp; refine hK _ ?_; clear hK K)
      refine wpPlanM_runW rfl (by rfl) _ (fun q => load_run 24 _ rfl w.heap.size 0 rfl [.int .i64 D, .slice A n c, .int .i64 G] _ hun.out rfl hdd.out q.world ((Blk.below X.out q.ext X.out.lt).range 0 _ (take_all0 _))) ?_
      iterate 1 (refine wpPlanM_plain rfl (fun K hK => ?_); go_simp; refine hK _ ?_; clear hK K)
      refine wpPlanM_call rfl (fun K hK => ?_)
      go_wp2_with fail
      have C := CZ2.out w12 M.out
      refine C.mono ?_
      rintro e w13 ⟨rfl, hb⟩
      clear C
      have hbp := Lib.hid hb
      replace E : Hid (Below w.heap.size w w13) := E.out.trans (hb.mono E.out.size)
      replace M := Lib.hid (M.out.keep hb)
      replace T := Lib.hid (T.out.on hb)
      replace X := Lib.hid (X.out.below hb X.out.lt)
      replace Rm := Lib.hid (Rm.out.keep7 hb)
      replace Re := Lib.hid ((Re.out.below hb).more hb.size)
      replace Rf := Lib.hid ((Rf.out.below hb).more hb.size)
      replace Y := Lib.hid (Y.out.below hb Y.out.lt)
      clear hb
      go_wp2_with fail
      refine planPostL_normal ⟨.inr hbp.out, hK _ _ ?_⟩
      clear hK K hbp
      refine wpPlanM_call rfl (fun K hK => ?_)
      go_wp2_with fail
      have C := CZ.out w13 M.out
      refine C.mono ?_
      rintro e w14 ⟨rfl, hb⟩
      clear C
      have hbp := Lib.hid hb
      replace E : Hid (Below w.heap.size w w14) := E.out.trans (hb.mono E.out.size)
      replace M := Lib.hid (M.out.keep hb)
      replace T := Lib.hid (T.out.on hb)
      replace X := Lib.hid (X.out.below hb X.out.lt)
      replace Rm := Lib.hid (Rm.out.keep7 hb)
      replace Re := Lib.hid ((Re.out.below hb).more hb.size)
      replace Rf := Lib.hid ((Rf.out.below hb).more hb.size)
      replace Y := Lib.hid (Y.out.below hb Y.out.lt)
      clear hb
      go_wp2_with fail
      refine planPostL_normal ⟨.inr hbp.out, hK _ _ ?_⟩
      clear hK K hbp
      iterate 5 (refine wpPlanM_plain rfl (fun K hK => ?_); go_simp; refine hK _ ?_; clear hK K)
      have yq1 : ∀ q : ExtOf w14, q.world.cell? ⟨g8, 1, none⟩ = some (.int .i64 EE) := fun q => (Blk.below Y.out q.ext Y.out.lt).cell (j := 1) rfl
      have yq0 : ∀ q : ExtOf w14, q.world.cell? ⟨g8, 0, none⟩ = some (.slice Af tl cf) := fun q => (Blk.below Y.out q.ext Y.out.lt).cell (j := 0) rfl
      iterate 7 (refine wpPlanM_plain rfl (fun K hK => ?_); go_simp; refine hK _ ?_; clear hK K)
      clear yq0 yq1
      refine wpPlanM_call rfl (fun K hK => ?_)
      go_wp2_with fail
      have C := ST.out w14 _ _ Ae ce Af cf Re.out Rf.out
      refine C.mono ?_
      rintro e w15 ⟨rfl, hb⟩
      clear C
      have hbp := Lib.hid hb
      replace E : Hid (Below w.heap.size w w15) := E.out.trans (hb.mono E.out.size)
      replace M := Lib.hid (M.out.keep hb)
      replace T := Lib.hid (T.out.on hb)
      replace X := Lib.hid (X.out.below hb X.out.lt)
      replace Rm := Lib.hid (Rm.out.keep7 hb)
      replace Re := Lib.hid ((Re.out.below hb).more hb.size)
      replace Rf := Lib.hid ((Rf.out.below hb).more hb.size)
      replace Y := Lib.hid (Y.out.below hb Y.out.lt)
      clear hb
      go_wp2_with fail
      refine planPostL_normal ⟨.inr hbp.out, hK _ _ ?_⟩
      clear hK K hbp
      iterate 2 (refine wpPlanM_plain rfl (fun K hK => ?_); go_simp; refine hK _ ?_; clear hK K)
      refine wpPlanM_nil ?_
      have p0 := X.out.cell (j := 0) rfl
      have p1 := X.out.cell (j := 1) rfl
      have p2 := X.out.cell (j := 2) rfl
      go_wp2_with fail
      refine (sanity_any7 _ T.out).mono ?_
      rintro e w16 ⟨rfl, hb⟩
      clear p0 p1 p2
      replace E : Hid (Below w.heap.size w w16) := E.out.trans (hb.mono E.out.size)
      replace M := Lib.hid (M.out.keep hb)
      replace T := Lib.hid (T.out.on hb)
      replace X := Lib.hid (X.out.below hb X.out.lt)
      replace Rm := Lib.hid (Rm.out.keep7 hb)
      replace Re := Lib.hid ((Re.out.below hb).more hb.size)
      replace Rf := Lib.hid ((Rf.out.below hb).more hb.size)
      replace Y := Lib.hid (Y.out.below hb Y.out.lt)
      clear hb
      have p0 := X.out.cell (j := 0) rfl
      have p1 := X.out.cell (j := 1) rfl
      have p2 := X.out.cell (j := 2) rfl
      go_wp2_with fail
      have C := CR2.out w16 M.out
      refine C.mono ?_
      rintro e w17 ⟨⟨A2, c2, rfl, hm2⟩, hb⟩
      clear C
      clear p0 p1 p2
      replace E : Hid (Below w.heap.size w w17) := E.out.trans (hb.mono E.out.size)
      replace M := Lib.hid (M.out.keep hb)
      replace T := Lib.hid (T.out.on hb)
      replace X := Lib.hid (X.out.below hb X.out.lt)
      replace Rm := Lib.hid (Rm.out.keep7 hb)
      replace Re := Lib.hid ((Re.out.below hb).more hb.size)
      replace Rf := Lib.hid ((Rf.out.below hb).more hb.size)
      replace Y := Lib.hid (Y.out.below hb Y.out.lt)
      clear hb
      have Rn := Lib.hid hm2
      clear hm2
      go_wp2_with fail
      have C := SR.out w17 _ _ Ar cr A2 c2 Rm.out Rn.out
      refine C.mono ?_
      rintro e w18 ⟨rfl, hb⟩
      clear C
      replace E : Hid (Below w.heap.size w w18) := E.out.trans (hb.mono E.out.size)
      clear hb
      go_wp2_with fail
      go_ret
      exact ⟨by first | rfl | (go_simp; done), E.out⟩
end Go.Proofs.YtcnljemnkhmfcaaDoor

namespace Go.Proofs.YtcnljemnkhmfcaaDoor
set_option linter.unusedVariables false
set_option linter.unusedSimpArgs false
open Go.RowKit

theorem OwnB.up7 {w : World} {base base' : Nat} {v : Value} {l : List UInt8} (h : OwnB w base v l) (hb : base' ≤ base) : OwnB w base' v l := by
  refine ⟨h.1, ?_⟩
  rcases h.2 with hn | ⟨g, cap, cur, hv, hg, rest⟩
  · exact .inl hn
  · exact .inr ⟨g, cap, cur, hv, Nat.le_trans hb hg, rest⟩
set_option maxRecDepth 100000 in
set_option maxHeartbeats 4000000 in
theorem refEquation7_any {B : Nat} (d n c g k : Nat) (b : UInt8) (Gs : List (List Int)) (A : Option Addr) (w : World) (hM : CodM w B (d : Int) A n c (g : Int) Gs) (hd : d ≤ 16) (hn : n ≤ 24) (hk : k ≤ 50) (hsh : ∀ g ∈ Gs, g.length ≤ 1000000) :
    Calls Tryd.prog 71 #[cdv (d : Int) A n c (g : Int), .int .i64 (k : Int), .int .u8 (b.toNat : Int)] w fun e w' => ∃ v, (e = .returned v ∧ OwnB w' w.heap.size v (crow d Gs k d ++ [b])) ∧ Below w.heap.size w w' := by
  obtain ⟨W1, hW1⟩ : ∃ W1, W1 = w.alloc (.cells #[.int .i64 d, .slice A n c, .int .i64 g] 24) := ⟨_, rfl⟩
  have hB1 : Hid (Below w.heap.size w W1) := by show Below _ _ _; rw [hW1]; exact (Below.refl _ _).alloc (Nat.le_refl _) _
  have hR1 : Hid (Blk W1 w.heap.size [.int .i64 d, .slice A n c, .int .i64 g] 24) := by show Blk _ _ _ _; rw [hW1]; exact Blk.new _ [_, _, _] _
  have hM' := Lib.hid (hM.keep hB1.out)
  have hdd := Lib.hid size_cod
  have hun : Hid (Tryd.prog.underlying 24 = _) := Tryd.underlying24
  have p0 := hR1.out.cell (j := 0) rfl
  have p1 := hR1.out.cell (j := 1) rfl
  have p2 := hR1.out.cell (j := 2) rfl
  have CW := row07_any d n c g k Gs A W1 hM'.out hd hn hk hsh
  have hln : (crow d Gs k d).length ≤ 140737488355300 := by rw [crow_len]; omega
  have hlH := Lib.hid hln
  subst hW1
  clear hM hsh hln
  unfold cdv at CW ⊢
  generalize crow d Gs k d = R at CW hlH ⊢
  go_enter Tryd.func71, Tryd.ntmps71
  go_wp2_with fail
  refine CW.mono ?_
  rintro e w2 ⟨v, ⟨rfl, hu⟩, hb⟩
  have hu2 : OwnB w2 w.heap.size v R := hu.up7 hB1.out.size
  have hB2 := Lib.hid (hB1.out.trans (hb.mono hB1.out.size))
  have hsz : w.heap.size ≤ w2.heap.size := hB2.out.size
  have huH := Lib.hid hu2
  clear hu hb CW hu2 p0 p1 p2
  go_wp2_with (at_builtin; go_must (refine push_byte rfl _ _ rfl w.heap.size v R b (.int .u8 b.toNat) rfl rfl rfl huH.out hlH.out hsz ?_); intro v' w6 ho6 hon6)
  have f2 := Lib.hid (hB2.out.trans (hon6.below huH.out hsz))
  have f1 := Lib.hid ho6
  clear ho6 hon6
  go_ret
  first | exact ⟨_, ⟨rfl, f1.out⟩, f2.out⟩ | exact ⟨⟨_, rfl, f1.out⟩, f2.out⟩ | exact ⟨f1.out, f2.out⟩

/-- Two rows exchanged. -/
def swF (f : Nat → List UInt8) (a p t : Nat) : List UInt8 := if t = a then f p else if t = p then f a else f t
/-- The first k rows but one made 0 at a place. -/
def clF (f : Nat → List UInt8) (a k t : Nat) : List UInt8 := if t < k ∧ t ≠ a then lessF (f t) (f a) a (f t).length else f t
def Orth (f : Nat → List UInt8) (N m : Nat) (z : Nat → UInt8) : Prop := ∀ t, t < N → dot7 m (rfn (f t)) z = 0
structure SolI (n N : Nat) (f0 f : Nat → List UInt8) (a : Nat) : Prop where
  len : ∀ t, t < N → (f t).length = n + 1
  orth : ∀ z, Orth f0 N (n + 1) z → Orth f N (n + 1) z
  full : ∀ x, Orth f N n x → ∀ k, k < n → x k = 0
  diag : ∀ t, t < a → (f t).getD t 0 ≠ 0
  zero : ∀ t j, t < N → j < a → j ≠ t → (f t).getD j 0 = 0
  le : a ≤ N
theorem sol_piv {n N a : Nat} {f0 f : Nat → List UInt8} (h : SolI n N f0 f a) (ha : a < n) : ∃ p, a ≤ p ∧ p < N ∧ (f p).getD a 0 ≠ 0 := by
  apply Classical.byContradiction
  intro hn
  have h0 : ∀ p, a ≤ p → p < N → (f p).getD a 0 = 0 := fun p h1 h2 => Classical.byContradiction fun hh => hn ⟨p, h1, h2, hh⟩
  obtain ⟨X, hX1, hX2, hX3⟩ : ∃ X : Nat → UInt8, (∀ j, j < a → X j = Gf.mul (Gf.inv ((f j).getD j 0)) ((f j).getD a 0)) ∧ X a = 1 ∧ ∀ j, a < j → X j = 0 :=
    ⟨fun j => if j < a then Gf.mul (Gf.inv ((f j).getD j 0)) ((f j).getD a 0) else if j = a then 1 else 0, fun j hj => if_pos hj, by simp, fun j hj => by show (if j < a then _ else if j = a then _ else _) = _; rw [if_neg (by omega), if_neg (by omega)]⟩
  have key := h.full X (fun t ht => by
    unfold dot7
    by_cases hta : t < a
    · rw [xsum_two (a := t) (b := a) _ (by omega) ha (by omega) (fun j hj h1 h2 => by
        show Gf.mul ((f t).getD j 0) (X j) = 0
        by_cases hja : j < a
        · rw [h.zero t j ht hja h1, Gf.zero_mul]
        · rw [hX3 j (by omega), Gf.mul_zero])]
      show Gf.mul ((f t).getD t 0) (X t) ^^^ Gf.mul ((f t).getD a 0) (X a) = 0
      rw [hX1 t hta, hX2, ← Gf.mul_assoc, Gf.mul_inv (h.diag t hta), Gf.one_mul, Gf.mul_one, UInt8.xor_self]
    · refine xsum_none _ fun j hj => ?_
      show Gf.mul ((f t).getD j 0) (X j) = 0
      by_cases hja : j < a
      · rw [h.zero t j ht hja (by omega), Gf.zero_mul]
      · by_cases hje : j = a
        · subst hje; rw [h0 t (by omega) ht, Gf.zero_mul]
        · rw [hX3 j (by omega), Gf.mul_zero]) a ha
  rw [hX2] at key
  exact absurd key (by decide)
theorem dot_lessF {r o : List UInt8} {a m : Nat} (h : m ≤ r.length) (z : Nat → UInt8) : dot7 m (rfn (lessF r o a r.length)) z = dot7 m (rfn r) z ^^^ Gf.mul (Gf.mul (r.getD a 0) (Gf.inv (o.getD a 0))) (dot7 m (rfn o) z) := by
  rw [← dot7_smul, ← dot7_add]
  refine dot7_congr fun k hk => ?_
  unfold rfn
  rw [lessF_at _ _ _ _ _ (by omega)]
theorem orth_sw {f : Nat → List UInt8} {a p N m : Nat} (ha : a < N) (hp : p < N) (z : Nat → UInt8) : Orth (swF f a p) N m z ↔ Orth f N m z := by
  constructor
  · intro h t ht
    by_cases h1 : t = a
    · subst h1
      have := h p hp
      unfold swF at this
      by_cases h2 : p = t
      · rw [if_pos h2, h2] at this; exact this
      · rw [if_neg h2, if_pos rfl] at this; exact this
    · by_cases h2 : t = p
      · subst h2
        have := h a ha
        unfold swF at this
        rw [if_pos rfl] at this
        exact this
      · have := h t ht
        unfold swF at this
        rw [if_neg h1, if_neg h2] at this
        exact this
  · intro h t ht
    unfold swF
    by_cases h1 : t = a
    · rw [if_pos h1]; exact h p hp
    · rw [if_neg h1]
      by_cases h2 : t = p
      · rw [if_pos h2]; exact h a ha
      · rw [if_neg h2]; exact h t ht
theorem orth_cl {g : Nat → List UInt8} {a N m : Nat} (ha : a < N) (hl : ∀ t, t < N → m ≤ (g t).length) (z : Nat → UInt8) : Orth (clF g a N) N m z ↔ Orth g N m z := by
  have haa : clF g a N a = g a := by unfold clF; rw [if_neg (by simp)]
  constructor
  · intro h t ht
    by_cases h1 : t = a
    · subst h1; have := h t ht; rw [haa] at this; exact this
    · have h2 := h t ht
      have h3 := h a ha
      rw [haa] at h3
      unfold clF at h2
      rw [if_pos ⟨ht, h1⟩, dot_lessF (hl t ht), h3, Gf.mul_zero, UInt8.xor_zero] at h2
      exact h2
  · intro h t ht
    unfold clF
    by_cases h1 : t = a
    · rw [if_neg (by simp [h1])]; exact h t ht
    · rw [if_pos ⟨ht, h1⟩, dot_lessF (hl t ht), h t ht, h a ha, Gf.mul_zero, UInt8.xor_zero]
theorem sol_step {n N a p : Nat} {f0 f : Nat → List UInt8} (h : SolI n N f0 f a) (ha : a < n) (hp : a ≤ p) (hpN : p < N) (hne : (f p).getD a 0 ≠ 0) : SolI n N f0 (clF (swF f a p) a N) (a + 1) := by
  have haN : a < N := by omega
  have gl : ∀ t, t < N → (swF f a p t).length = n + 1 := fun t ht => by
    unfold swF
    split
    · exact h.len p hpN
    · split
      · exact h.len a haN
      · exact h.len t ht
  have ga : swF f a p a = f p := if_pos rfl
  have gt : ∀ t, t ≠ a → t ≠ p → swF f a p t = f t := fun t h1 h2 => by unfold swF; rw [if_neg h1, if_neg h2]
  have haa : clF (swF f a p) a N a = f p := by unfold clF; rw [if_neg (by simp), ga]
  have htt : ∀ t, t < N → t ≠ a → ∀ j, j < n + 1 → (clF (swF f a p) a N t).getD j 0 = (swF f a p t).getD j 0 ^^^ Gf.mul (Gf.mul ((swF f a p t).getD a 0) (Gf.inv ((f p).getD a 0))) ((f p).getD j 0) := fun t ht h1 j hj => by
    unfold clF
    rw [if_pos ⟨ht, h1⟩, lessF_at _ _ _ _ _ (by rw [gl t ht]; exact hj), ga]
  refine ⟨fun t ht => ?_, fun z hz => ?_, fun x hx => ?_, fun t ht => ?_, fun t j ht hj hjt => ?_, by omega⟩
  · unfold clF
    split
    · rw [lessF_len]; exact gl t ht
    · exact gl t ht
  · exact (orth_cl haN (fun t ht => by rw [gl t ht]; exact Nat.le_refl _) z).2 ((orth_sw haN hpN z).2 (h.orth z hz))
  · exact h.full x ((orth_sw haN hpN x).1 ((orth_cl haN (fun t ht => by rw [gl t ht]; omega) x).1 hx))
  · by_cases h1 : t = a
    · subst h1; rw [haa]; exact hne
    · rw [htt t (by omega) h1 t (by omega), gt t h1 (by omega), h.zero p t hpN (by omega) (by omega), Gf.mul_zero, UInt8.xor_zero]
      exact h.diag t (by omega)
  · by_cases h1 : t = a
    · subst h1
      rw [haa]
      exact h.zero p j hpN (by omega) (by omega)
    · rw [htt t ht h1 j (by omega)]
      by_cases hja : j = a
      · subst hja
        rw [Gf.mul_assoc, Gf.mul_comm (Gf.inv _), Gf.mul_inv hne, Gf.mul_one, UInt8.xor_self]
      · rw [h.zero p j hpN (by omega) (by omega), Gf.mul_zero, UInt8.xor_zero]
        by_cases htp : t = p
        · subst htp
          unfold swF
          rw [if_neg h1, if_pos rfl]
          exact h.zero a j haN (by omega) (by omega)
        · rw [gt t h1 htp]
          exact h.zero t j ht (by omega) hjt
def solB (f : Nat → List UInt8) (n : Nat) : List UInt8 := rowF (fun j => Gf.mul ((f j).getD n 0) (Gf.inv ((f j).getD j 0))) n
theorem sol_end {n N : Nat} {f0 f : Nat → List UInt8} (h : SolI n N f0 f n) {x : Nat → UInt8} (hx : ∀ t, t < N → dot7 n (rfn (f0 t)) x = (f0 t).getD n 0) : ∀ j, j < n → (solB f n).getD j 0 = x j := fun j hj => by
  obtain ⟨X, hX1, hX2⟩ : ∃ X : Nat → UInt8, (∀ k, k < n → X k = x k) ∧ X n = 1 := ⟨fun k => if k < n then x k else 1, fun k hk => if_pos hk, if_neg (Nat.lt_irrefl n)⟩
  have hz := h.orth X (fun t ht => by
    unfold dot7
    rw [xsum_succ, hX2, Gf.mul_one]
    show xsum n _ ^^^ (f0 t).getD n 0 = 0
    rw [← hx t ht]
    unfold dot7
    rw [xsum_congr (g := fun k => Gf.mul (rfn (f0 t) k) (x k)) fun k hk => by rw [hX1 k hk], UInt8.xor_self])
  have hjN : j < N := Nat.lt_of_lt_of_le hj h.le
  have h1 := hz j hjN
  unfold dot7 at h1
  rw [xsum_succ, hX2, Gf.mul_one, xsum_one (a := j) _ hj (fun k hk hkj => by
    show Gf.mul ((f j).getD k 0) _ = 0
    rw [h.zero j k hjN hk hkj, Gf.zero_mul]), hX1 j hj] at h1
  have h2 : Gf.mul ((f j).getD j 0) (x j) = (f j).getD n 0 := xor_eq7 h1
  unfold solB
  rw [List.getD_eq_getElem?_getD, rowF_get _ hj]
  show Gf.mul ((f j).getD n 0) (Gf.inv ((f j).getD j 0)) = x j
  rw [← h2, Gf.mul_comm ((f j).getD j 0), Gf.mul_assoc, Gf.mul_inv (h.diag j hj), Gf.mul_one]
theorem solI_zero {n N : Nat} {f : Nat → List UInt8} (hl : ∀ t, t < N → (f t).length = n + 1) (hf : ∀ x, Orth f N n x → ∀ k, k < n → x k = 0) : SolI n N f f 0 := ⟨hl, fun z hz => hz, hf, fun t ht => by omega, fun t j _ hj => by omega, Nat.zero_le _⟩
theorem solB_len (f : Nat → List UInt8) (n : Nat) : (solB f n).length = n := rowF_len _ _

theorem RowOff.only7 {x g : Nat} {w w' : World} {u : Value} {m : List UInt8} (h : RowOff x w (some g) u m) (ho : Only g w w') : RowOff x w' (some g) u m := by
  obtain ⟨a, c, e1, e2, e3, e4, e5, e6⟩ := h
  have hgb : w.grownBy w' (some g) := ⟨ho.os, ho.tape, ho.output, Nat.le_of_eq ho.size.symm, fun j _ hj => ho.block j (fun e => hj (by rw [e]))⟩
  exact ⟨a, c, e1, e2, e3, e4, e5.apart hgb (fun ad ha => (e6 ad ha).1), fun ad ha => ⟨(e6 ad ha).1, by rw [ho.size]; exact (e6 ad ha).2.1, (e6 ad ha).2.2⟩⟩
theorem look_off {x base : Nat} {w : World} {g n cap k : Nat} {K : List (List UInt8)} {m : List UInt8} (h : OwnQ x w base (.slice (some ⟨g, 0, none⟩) n cap) K) (hk : K[k]? = some m) (hm : 0 < m.length) :
    ∃ a c, w.cell? ⟨g, k, none⟩ = some (.slice (some a) m.length c) ∧ RowOff x w (some g) (.slice (some a) m.length c) m ∧ a.block < w.heap.size ∧ Rds w w.heap.size (some a) (m.map bv) ∧ (∀ j, j < m.length → w.cell? (a.add j) = some (bv (m.getD j 0))) ∧ g < w.heap.size := by
  obtain ⟨a, c, h1, h2, h3, h4, h5⟩ := look_q h hk hm
  refine ⟨a, c, h1, ?_, h3, h4, h5, h2⟩
  obtain ⟨vs, g1, g2, g3⟩ := h
  obtain ⟨A, c', e, _, _, _, hr⟩ := own_form g2
  cases e
  obtain ⟨u, hu⟩ : ∃ u, vs[k]? = some u := ⟨_, List.getElem?_eq_getElem (by rw [g1]; exact (List.getElem?_eq_some_iff.1 hk).1)⟩
  obtain ⟨ad, e2, _, hc⟩ := hr.look hu
  cases e2
  have e3 : (⟨g, 0, none⟩ : Addr).add k = ⟨g, k, none⟩ := by unfold Addr.add; simp <;> omega
  rw [e3, h1] at hc
  obtain rfl := Option.some.inj hc
  exact g3 k _ m hu hk
end Go.Proofs.YtcnljemnkhmfcaaDoor

namespace Go.Proofs.YtcnljemnkhmfcaaDoor
set_option linter.unusedVariables false
set_option linter.unusedSimpArgs false
open Go.RowKit

theorem pm_swap (f : Nat → List UInt8) (N a p : Nat) : ((PM f N).set p (f a)).set a (f p) = PM (swF f a p) N := by
  rw [PM_set f (fun t => if t = p then f a else f t) N p (f a) (if_pos rfl) (fun t ht => if_neg ht)]
  refine PM_set _ _ N a (f p) (if_pos rfl) fun t ht => ?_
  unfold swF
  rw [if_neg ht]
theorem clF_zero (f : Nat → List UInt8) (a : Nat) : clF f a 0 = f := funext fun t => by unfold clF; rw [if_neg (by omega)]
theorem clF_skip (f : Nat → List UInt8) (a N : Nat) : PM (clF f a (a + 1)) N = PM (clF f a a) N := PM_congr fun t _ => by
  unfold clF
  by_cases h : t < a
  · rw [if_pos ⟨by omega, by omega⟩, if_pos ⟨h, by omega⟩]
  · rw [if_neg (by omega), if_neg (by omega)]
theorem clF_next {f : Nat → List UInt8} {a k N : Nat} (hk : k ≠ a) : (PM (clF f a k) N).set k (lessF (f k) (f a) a (f k).length) = PM (clF f a (k + 1)) N := by
  refine PM_set _ _ N k _ ?_ fun t ht => ?_
  · unfold clF; rw [if_pos ⟨by omega, hk⟩]
  · unfold clF
    by_cases h : t < k ∧ t ≠ a
    · rw [if_pos h, if_pos ⟨by omega, h.2⟩]
    · rw [if_neg h, if_neg (by omega)]
theorem clF_at (f : Nat → List UInt8) (a k : Nat) : clF f a k k = f k ∧ clF f a k a = f a := by
  unfold clF
  rw [if_neg (by omega), if_neg (by simp)]
  exact ⟨rfl, rfl⟩

/-- The blocks below B have not changed. -/
def KB (B : Nat) (a b : World) : Prop := ∀ k, k < B → b.heap[k]? = a.heap[k]?
theorem KB.refl (B : Nat) (a : World) : KB B a a := fun _ _ => rfl
theorem KB.of {B : Nat} {a b : World} (h : Below B a b) : KB B a b := fun k hk => h.block k hk
theorem KB.cell {B : Nat} {a b : World} (h : KB B a b) {p : Addr} (hp : p.block < B) : b.cell? p = a.cell? p := World.cell?_of_block (h p.block hp)
/-- What solved returns: the only solution, where there is one. -/
def SolvedR (f0 : Nat → List UInt8) (n N base : Nat) (w : World) (e : Ending) (w' : World) : Prop := (∃ v B, e = .returned v ∧ OwnB w' w.heap.size v B ∧ B.length = n ∧ ∀ x : Nat → UInt8, (∀ t, t < N → dot7 n (rfn (f0 t)) x = (f0 t).getD n 0) → ∀ j, j < n → B.getD j 0 = x j) ∧ Below base w w'
set_option maxRecDepth 100000 in
set_option maxHeartbeats 16000000 in
theorem refSolved7_any (n N gl cap base : Nat) (f0 : Nat → List UInt8) (w : World) (hQ : OwnQ 0 w base (.slice (some ⟨gl, 0, none⟩) N cap) (PM f0 N)) (hI : SolI n N f0 f0 0) (hn : n ≤ 16) (hN : N ≤ 1000) (hbase : base ≤ gl) (hb0 : 0 < base) (hNp : 0 < N) :
    Calls Tryd.prog 72 #[.slice (some ⟨gl, 0, none⟩) N cap, .int .i64 (n : Int)] w (SolvedR f0 n N base w) := by
  have hQ0 := Lib.hid hQ
  have hI0 := Lib.hid hI
  have hB0 : Hid (Below base w w) := Below.refl _ _
  have hblH := Lib.hid hbase
  have hb0H := Lib.hid hb0
  obtain ⟨n1, hn1⟩ : ∃ x, x = n + 1 := ⟨_, rfl⟩
  have hn1H := Lib.hid hn1
  have hn1p : Hid (0 < n1) := by show _ < _; omega
  have hlt1 : Hid (∀ j, j < n → j < n1) := fun j hj => by omega
  have hnn1 : Hid (n < n1) := by show _ < _; omega
  clear hn1
  have hNpos := Lib.hid hNp
  clear hNp
  clear hQ hI hbase hb0
  go_enter Tryd.func72, Tryd.ntmps72
  go_wp2_with fail
  go_loopw [5] (fun x wr => ∃ (a : Nat) (f : Nat → List UInt8), a ≤ n ∧ x = .int .i64 a ∧ Hid (OwnQ 0 wr base (.slice (some ⟨gl, 0, none⟩) N cap) (PM f N)) ∧ Hid (SolI n N f0 f a) ∧ Hid (Below base w wr) ∧ Hid (w.heap.size ≤ wr.heap.size)) (fun x _ => n - (intOf x).toNat)
  case atStart => exact ⟨0, f0, by omega, rfl, hQ0, hI0, hB0, Nat.le_refl _⟩
  case round =>
    obtain ⟨a, f, ha, rfl, hQ, hI, hB, hsw⟩ := hrel
    clear hQ0 hI0 hB0
    by_cases han : a < n
    rotate_left
    · have ta : ¬ (a : Int) < (n : Int) := by omega
      obtain rfl : a = n := by omega
      have hOB0 : Hid (OwnB wr wr.heap.size (.slice none 0 0) ((solB f a).take 0)) := ownB_nil _ _
      have hBB0 : Hid (Below wr.heap.size wr wr) := Below.refl _ _
      have hQlt : Hid (gl < wr.heap.size) := by
        obtain ⟨g', cap', e, _, h3, _⟩ := open_q hQ.out (by rw [PM_len]; exact hNpos.out)
        rw [PM_len] at e
        cases e
        exact h3
      clear han ha
      go_wp2_with fail
      obtain ⟨wo, hwo⟩ : ∃ x, x = wr := ⟨_, rfl⟩
      subst hwo
      go_loopw [9, 10] (fun v x wr => ∃ k : Nat, k ≤ a ∧ x = .int .i64 k ∧ Hid (OwnB wr wo.heap.size v ((solB f a).take k)) ∧ Hid (Below wo.heap.size wo wr)) (fun _ x _ => a - (intOf x).toNat)
      case atStart => exact ⟨0, by omega, rfl, hOB0, hBB0⟩
      case round =>
        obtain ⟨k, hk, rfl, hO, hBw⟩ := hrel
        clear hOB0 hBB0
        have hQ2 := Lib.hid (hQ.out.keep hBw.out)
        have hB2 : Hid (Below base w wr) := hB.out.trans (hBw.out.mono (by have := hblH.out; have := hQlt.out; omega))
        by_cases hka : k < a
        rotate_left
        · have tk : ¬ (k : Int) < (a : Int) := by omega
          obtain rfl : k = a := by omega
          have hOf : Hid (OwnB wr w.heap.size u9 (solB f k)) := by
            have := hO.out
            rw [List.take_of_length_le (by rw [solB_len]; exact Nat.le_refl _)] at this
            exact this.up7 hsw.out
          clear hka hO
          go_wp2_with fail
          go_ret
          first | exact ⟨⟨_, _, rfl, hOf.out, solB_len _ _, fun x hx => sol_end hI.out hx⟩, hB2.out⟩ | exact ⟨⟨_, hOf.out, solB_len _ _, fun x hx => sol_end hI.out hx⟩, hB2.out⟩
        have tk : (k : Int) < (a : Int) := by omega
        have tk0 : 0 ≤ (k : Int) := Int.natCast_nonneg k
        have hkN : k < N := Nat.lt_of_lt_of_le hka hI.out.le
        have tkN : (k : Int) < (N : Int) := by omega
        have hfl : Hid ((f k).length = n1) := by show _ = _; rw [hn1H.out]; exact hI.out.len k hkN
        obtain ⟨ar, cr, hc1, hoff, hab, hrd, hby, hgl⟩ := look_off hQ.out (PM_get f hkN) (by rw [hfl.out]; exact hn1p.out)
        rw [hfl.out] at hc1
        obtain ⟨x, hx⟩ : ∃ x, x = (f k).getD a 0 := ⟨_, rfl⟩
        obtain ⟨y, hy⟩ : ∃ y, y = (f k).getD k 0 := ⟨_, rfl⟩
        have hyne : y ≠ 0 := by rw [hy]; exact hI.out.diag k hka
        obtain ⟨yi, hyi⟩ : ∃ z, z = Gf.inv y := ⟨_, rfl⟩
        obtain ⟨z, hz⟩ : ∃ z, z = Gf.mul x yi := ⟨_, rfl⟩
        have hnx : Hid ((solB f a).take (k + 1) = (solB f a).take k ++ [z]) := by
          show _ = _
          exact take_nat7 (by rw [hz, hx, hyi, hy]; exact rowF_get _ hka)
        have CI := Lib.hid fun W => refInv_any y W hyne
        rw [← hyi] at CI
        have CM := Lib.hid fun W => refMul_any x yi W
        rw [← hz] at CM
        have q1 : ∀ q : ROf (KB wo.heap.size) wr.drew, q.world.cell? ⟨gl, k, none⟩ = some (.slice (some ar) n1 cr) := fun q => by rw [q.rel.cell (p := ⟨gl, k, none⟩) hgl, hBw.out.drew.cell (p := ⟨gl, k, none⟩) hgl]; exact hc1
        have q2 : ∀ q : ROf (KB wo.heap.size) wr.drew, q.world.cell? (ar.add a) = some (bv x) := fun q => by rw [q.rel.cell (p := ar.add a) (by rw [add_block]; exact hab), hBw.out.drew.cell (p := ar.add a) (by rw [add_block]; exact hab), hx]; exact hby a (by rw [hfl.out]; exact hnn1.out)
        have q3 : ∀ q : ROf (KB wo.heap.size) wr.drew, q.world.cell? (ar.add k) = some (bv y) := fun q => by rw [q.rel.cell (p := ar.add k) (by rw [add_block]; exact hab), hBw.out.drew.cell (p := ar.add k) (by rw [add_block]; exact hab), hy]; exact hby k (by rw [hfl.out]; exact hlt1.out k hka)
        have ta1 : (a : Int) < (n1 : Int) := Int.ofNat_lt.2 hnn1.out
        have tk1 : (k : Int) < (n1 : Int) := Int.ofNat_lt.2 (hlt1.out k hka)
        have ta0 : 0 ≤ (a : Int) := Int.natCast_nonneg a
        have hlnH : Hid (((solB f a).take k).length ≤ 140737488355300) := by show _ ≤ _; rw [List.length_take, solB_len]; omega
        unfold bv at q2 q3 CI CM
        generalize hTk : (solB f a).take k = TK at hO hnx hlnH
        clear hc1 hoff hab hrd hby hgl hx hy hyne hyi hz hTk
        go_wp2_with fail
        refine wp_region_planR (R := KB wo.heap.size) (KB.refl _) (fun _ _ _ h k i hi => (k i hi).trans (h i hi)) [] [(true, 0), (true, 1), (true, 2), (true, 3), (true, 4), (true, 5), (true, 6), (true, 7), (true, 8), (true, 9), (true, 10), (true, 11), (true, 12), (true, 13), (true, 14), (false, 15), (false, 16), (false, 17), (false, 18), (true, 19)] (by decide) (by kernel_rfl) (by kernel_rfl) (by decide) (by intro c a d v w h; cases d <;> exact h) ?_
        change wpPlanR _ _ _ _ _ _ _ wr.drew
        have hOd : Hid (OwnB wr.drew wo.heap.size u9 TK) := hO.out
        have hBd : Hid (Below wo.heap.size wo wr.drew) := hBw.out.drew
        have hsd : Hid (wo.heap.size ≤ wr.drew.heap.size) := hBw.out.size
        iterate 15 (refine wpPlanR_plain rfl (fun K hK => ?_); go_simp; first | refine hK _ ?_ | refine ⟨_, fun _ => rfl, hK _ ?_⟩; clear hK K)
        clear q1 q2 q3
        generalize wr.drew = wd at hOd hBd hsd ⊢
        refine wpPlanR_call rfl (fun K hK => ?_)
        go_wp2_with fail
        refine (CI.out _).mono ?_
        rintro e w2 ⟨rfl, rfl⟩
        go_wp2_with fail
        refine planPostR_normal ⟨.inr (KB.refl _ _), hK _ _ ?_⟩
        clear hK K
        refine wpPlanR_call rfl (fun K hK => ?_)
        go_wp2_with fail
        refine (CM.out _).mono ?_
        rintro e w3 ⟨rfl, rfl⟩
        go_wp2_with fail
        refine planPostR_normal ⟨.inr (KB.refl _ _), hK _ _ ?_⟩
        clear hK K
        refine wpPlanR_call rfl (fun K hK => ?_)
        go_wp2_with fail
        refine planPostR_normal ⟨.inr (KB.of ((Below.refl _ _).alloc hsd.out _)), hK _ _ ?_⟩
        clear hK K
        refine wpPlanR_call rfl (fun K hK => ?_)
        refine push_byte rfl _ _ rfl wo.heap.size u9 TK z (.int .u8 z.toNat) rfl rfl rfl hOd.out hlnH.out hsd.out ?_
        intro v' w6 ho6 hon6
        refine wpList_end (planPostR_normal ⟨.inr (fun i hi => ((hon6.below hOd.out hsd.out).block i hi).trans (Below.heap_alloc _ _ i (Nat.lt_of_lt_of_le hi hsd.out)).symm), hK _ _ ?_⟩)
        clear hK K
        iterate 1 (refine wpPlanR_plain rfl (fun K hK => ?_); go_simp; first | refine hK _ ?_ | refine ⟨_, fun _ => rfl, hK _ ?_⟩; clear hK K)
        refine wpPlanR_nil ?_
        have f1 : Hid (OwnB w6 wo.heap.size v' ((solB f a).take (k + 1))) := by show OwnB _ _ _ _; rw [hnx.out]; exact ho6
        have f2 := Lib.hid (hBd.out.trans (hon6.below hOd.out hsd.out))
        clear ho6 hon6
        go_wp2_with fail
        go_roundw
        case rel => exact ⟨k + 1, by omega, by go_num, f1, f2⟩
        case measure => simp [intOf]; omega
    have ta : (a : Int) < (n : Int) := by omega
    have ta0 : 0 ≤ (a : Int) := Int.natCast_nonneg a
    obtain ⟨p, hp1, hp2, hp3⟩ := sol_piv hI.out han
    have hpv : Hid (∃ p, a ≤ p ∧ p < N ∧ (f p).getD a 0 ≠ 0) := ⟨p, hp1, hp2, hp3⟩
    have haN : a < N := by omega
    clear hp1 hp2 hp3 p
    go_wp2_with fail
    obtain ⟨wo, hwo⟩ : ∃ x, x = wr := ⟨_, rfl⟩
    subst hwo
    go_loopw [6] (fun x wr => ∃ q : Nat, a ≤ q ∧ q < N ∧ x = .int .i64 q ∧ Hid (∃ p, q ≤ p ∧ p < N ∧ (f p).getD a 0 ≠ 0) ∧ wo = wr) (fun x _ => N - (intOf x).toNat)
    case atStart => exact ⟨a, Nat.le_refl _, haN, rfl, hpv, rfl⟩
    case round =>
      obtain ⟨q, haq, hqN, rfl, hpq, rfl⟩ := hrel
      clear hpv
      have tq0 : 0 ≤ (q : Int) := Int.natCast_nonneg q
      have tqN : (q : Int) < (N : Int) := by omega
      have taN : (a : Int) < (N : Int) := by omega
      have hfl : Hid ((f q).length = n1) := by show _ = _; rw [hn1H.out]; exact hI.out.len q hqN
      have hfa : Hid ((f a).length = n1) := by show _ = _; rw [hn1H.out]; exact hI.out.len a haN
      obtain ⟨ar, cr, hc1, hoff, hab, hrd, hby, hgl⟩ := look_off hQ.out (PM_get f hqN) (by rw [hfl.out]; exact hn1p.out)
      obtain ⟨x, hx⟩ : ∃ x, x = (f q).getD a 0 := ⟨_, rfl⟩
      have hcx : wo.cell? (ar.add a) = some (.int .u8 (x.toNat : Int)) := by rw [hx]; exact hby a (by rw [hfl.out]; exact hlt1.out a han)
      rw [hfl.out] at hc1
      have ta1 : (a : Int) < (n1 : Int) := Int.ofNat_lt.2 (hlt1.out a han)
      by_cases hx0 : x = 0
      · have z : ((x.toNat : Int) == 0) = true := by rw [hx0]; rfl
        have hpn : Hid (∃ p, q + 1 ≤ p ∧ p < N ∧ (f p).getD a 0 ≠ 0) := by
          obtain ⟨p, h1, h2, h3⟩ := hpq.out
          have : p ≠ q := fun h => h3 (by rw [h, ← hx, hx0])
          exact ⟨p, by omega, h2, h3⟩
        have hq1 : q + 1 < N := by obtain ⟨p, h1, h2, _⟩ := hpn.out; omega
        clear hx hx0 hoff hab hrd hby hgl
        go_wp2_with fail
        go_roundw
        case rel => exact ⟨q + 1, by omega, hq1, by go_num, hpn, trivial⟩
        case measure => simp [intOf]; omega
      have z : ((x.toNat : Int) == 0) = false := by
        have := nz_int (y := x)
        rw [decide_eq_true hx0] at this
        simpa using this
      have hpne : Hid ((f q).getD a 0 ≠ 0) := by show _ ≠ _; rw [← hx]; exact hx0
      obtain ⟨aa, ca, hca, hoffa, haba, hrda, hbya, _⟩ := look_off hQ.out (PM_get f haN) (by rw [hfa.out]; exact hn1p.out)
      rw [hfa.out] at hca
      have hoffH := Lib.hid hoff
      have hoffaH := Lib.hid hoffa
      rw [hfl.out] at hoffH
      rw [hfa.out] at hoffaH
      clear hx hx0 hoff hrd hby hoffa haba hrda hbya hab
      have hPl : Hid ((PM f N).length = N) := PM_len _ _
      have hglH := Lib.hid hgl
      go_wp2_with (first | (refine set_q (x := 0) rfl _ _ rfl gl N cap q (PM f N) (.slice (some aa) n1 ca) (f a) rfl rfl hQ.out (by rw [hPl.out]; exact hqN) hoffaH.out ?_; intro w5 hq5 ho5 hc5; have Q5 := Lib.hid hq5.out; have O5 := Lib.hid ho5; have R5 := Lib.hid (hoffH.out.only7 ho5); clear hq5 ho5 hc5 hcx hc1 hca) | (refine set_q (x := 0) rfl _ _ rfl gl N cap a ((PM f N).set q (f a)) (.slice (some ar) n1 cr) (f q) rfl rfl Q5.out (by rw [List.length_set, hPl.out]; exact haN) R5.out ?_; intro w6 hq6 ho6 hc6; have Q6 := Lib.hid hq6.out; have O6 := Lib.hid ho6; clear hq6 ho6 hc6))
      have Q7 : Hid (OwnQ 0 w6 base (.slice (some ⟨gl, 0, none⟩) N cap) (PM (clF (swF f a q) a 0) N)) := by show OwnQ _ _ _ _ _; rw [clF_zero, ← pm_swap]; exact Q6.out
      have B7 : Hid (Below base w w6) := (hB.out.trans (O5.out.below hblH.out)).trans (O6.out.below hblH.out)
      have S7 : Hid (w.heap.size ≤ w6.heap.size) := by show _ ≤ _; rw [O6.out.size, O5.out.size]; exact hsw.out
      have hIn : Hid (SolI n N f0 (clF (swF f a q) a N) (a + 1)) := sol_step hI.out han haq hqN hpne.out
      have hga : Hid ((swF f a q a).getD a 0 ≠ 0 ∧ ∀ t, t < N → (swF f a q t).length = n1) := ⟨by unfold swF; rw [if_pos rfl]; exact hpne.out, fun t ht => by
        rw [hn1H.out]
        unfold swF
        split
        · exact hI.out.len q hqN
        · split
          · exact hI.out.len a haN
          · exact hI.out.len t ht⟩
      generalize swF f a q = g at Q7 hIn hga
      clear Q6 Q5 O5 O6 R5 hQ hB hsw hI hfl hfa hpq hpne hoffH hoffaH
      go_loopw [8] (fun x wr => ∃ k : Nat, k ≤ N ∧ x = .int .i64 k ∧ Hid (OwnQ 0 wr base (.slice (some ⟨gl, 0, none⟩) N cap) (PM (clF g a k) N)) ∧ Hid (Below base w wr) ∧ Hid (w.heap.size ≤ wr.heap.size)) (fun x _ => N - (intOf x).toNat)
      case atStart => exact ⟨0, by omega, rfl, Q7, B7, S7⟩
      case round =>
        obtain ⟨k, hk, rfl, hQ, hB, hsw⟩ := hrel
        clear Q7 B7 S7
        by_cases hkN : k < N
        rotate_left
        · have tk : ¬ (k : Int) < (N : Int) := by omega
          obtain rfl : k = N := by omega
          clear hkN
          go_wp2_with fail
          go_roundw
          case rel => exact ⟨a + 1, clF g a k, by omega, by go_num, hQ, hIn, hB, hsw⟩
          case measure => simp [intOf]; omega
        have tk : (k : Int) < (N : Int) := by omega
        have tk0 : 0 ≤ (k : Int) := Int.natCast_nonneg k
        by_cases hka : k = a
        · subst hka
          have zk : ((k : Int) != (k : Int)) = false := by simp
          have hQn : Hid (OwnQ 0 wr base (.slice (some ⟨gl, 0, none⟩) N cap) (PM (clF g k (k + 1)) N)) := by show OwnQ _ _ _ _ _; rw [clF_skip]; exact hQ.out
          go_wp2_with fail
          go_roundw
          case rel => exact ⟨k + 1, by omega, by go_num, hQn, hB, hsw⟩
          case measure => simp [intOf]; omega
        have zk : ((k : Int) != (a : Int)) = true := by simp; omega
        have hlk : Hid ((g k).length = n1) := hga.out.2 k hkN
        have hla : Hid ((g a).length = n1) := hga.out.2 a haN
        have e1 := (clF_at g a k).1
        have e2 := (clF_at g a k).2
        obtain ⟨ak, ck, hck, hofk, habk, hrdk, _, hglk⟩ := look_off hQ.out (by rw [PM_get _ hkN, e1]) (by rw [hlk.out]; exact hn1p.out)
        obtain ⟨aa, ca', hcaa, hofa, haba, hrda, _, _⟩ := look_off hQ.out (by rw [PM_get _ haN, e2]) (by rw [hla.out]; exact hn1p.out)
        rw [hlk.out] at hck
        rw [hla.out] at hcaa
        have CL : Hid (Calls Tryd.prog 74 #[.slice (some ak) n1 ck, .slice (some aa) n1 ca', .int .i64 a] wr.drew fun e w' => ∃ v, (e = .returned v ∧ OwnB w' wr.drew.heap.size v (lessF (g k) (g a) a (g k).length)) ∧ Below wr.drew.heap.size wr.drew w') := by
          have := less07_any (g k) (g a) a ck ca' (some ak) (some aa) wr.drew hrdk hrda (by rw [hlk.out, hla.out]; exact Nat.le_refl _) (by rw [hlk.out]; exact hlt1.out a han) (by rw [hlk.out, hn1H.out]; omega) hga.out.1
          rw [hlk.out, hla.out] at this
          rw [hlk.out]
          exact this
        have q1 : ∀ z : ExtOf wr.drew, z.world.cell? ⟨gl, k, none⟩ = some (.slice (some ak) n1 ck) := fun z => by rw [(z.below (Nat.le_refl _)).cell (p := ⟨gl, k, none⟩) hglk]; exact hck
        have q2 : ∀ z : ExtOf wr.drew, z.world.cell? ⟨gl, a, none⟩ = some (.slice (some aa) n1 ca') := fun z => by rw [(z.below (Nat.le_refl _)).cell (p := ⟨gl, a, none⟩) hglk]; exact hcaa
        have hglkH := Lib.hid hglk
        clear hck hcaa hofk hofa habk haba hrdk hrda hglk e1 e2
        go_wp2_with fail
        refine wp_region_planM [13] [(true, 0), (true, 1), (true, 2), (true, 3), (true, 4), (true, 5), (true, 6), (true, 7), (true, 8), (true, 9), (true, 10), (false, 11), (true, 12), (false, 13)] (by decide) (by kernel_rfl) (by kernel_rfl) (by decide) (by intro c a d v w h; cases d <;> exact h) ?_
        change wpPlanM _ _ _ _ _ _ wr.drew
        have hQd : Hid (OwnQ 0 wr.drew base (.slice (some ⟨gl, 0, none⟩) N cap) (PM (clF g a k) N)) := hQ.out.keep ((Below.refl _ _).drew)
        have hBd : Hid (Below base w wr.drew) := hB.out.drew
        have hsd : Hid (w.heap.size ≤ wr.drew.heap.size) := hsw.out
        have hgd : Hid (gl < wr.drew.heap.size) := hglkH.out
        iterate 11 (refine wpPlanM_plain rfl (fun K hK => ?_); go_simp; refine hK _ ?_; clear hK K)
        clear q1 q2
        generalize wr.drew = wd at hQd hBd hsd hgd CL ⊢
        refine wpPlanM_call rfl (fun K hK => ?_)
        go_wp2_with fail
        refine CL.out.mono ?_
        rintro e w7 ⟨v, ⟨rfl, hu⟩, hb7⟩
        have RO7 := Lib.hid (own_off (x := 0) hu hQd.out (by have := hgd.out; have := hblH.out; have := hb0H.out; omega))
        have Q8 := Lib.hid (hQd.out.keep hb7)
        have B8 : Hid (Below base w w7) := hBd.out.trans (hb7.mono (by have := hgd.out; have := hblH.out; omega))
        have S8 : Hid (w.heap.size ≤ w7.heap.size) := Nat.le_trans hsd.out hb7.size
        have hb7H := Lib.hid hb7
        obtain ⟨Aw, cw, hve, _⟩ := own_form hu
        subst hve
        clear hu hb7 CL
        go_wp2_with fail
        refine planPostL_normal ⟨.inr hb7H.out, hK _ _ ?_⟩
        clear hK K hQd hBd hsd hb7H
        refine wpPlanM_plain rfl (fun K hK => ?_)
        go_simp
        refine hK _ ?_
        clear hK K
        have hPl : Hid ((PM (clF g a k) N).length = N) := PM_len _ _
        refine wpPlanM_call rfl (fun K hK => ?_)
        refine set_q (x := 0) rfl _ _ rfl gl N cap k (PM (clF g a k) N) _ (lessF (g k) (g a) a (g k).length) rfl rfl Q8.out (by rw [hPl.out]; exact hkN) RO7.out ?_
        intro w8 hq8 ho8 hc8
        have f1 : Hid (OwnQ 0 w8 base (.slice (some ⟨gl, 0, none⟩) N cap) (PM (clF g a (k + 1)) N)) := by
          show OwnQ _ _ _ _ _
          rw [← clF_next hka]
          exact hq8.out
        have f2 := Lib.hid (B8.out.trans (ho8.below hblH.out))
        have f3 : Hid (w.heap.size ≤ w8.heap.size) := by show _ ≤ _; rw [ho8.size]; exact S8.out
        refine wpList_end (planPostL_normal ⟨.inl (by simp), hK _ _ ?_⟩)
        clear hK K hq8 ho8 hc8
        refine wpPlanM_nil ?_
        go_wp2_with fail
        try simp (config := { decide := true }) only [Act.put]
        go_roundw
        case rel => exact ⟨k + 1, by omega, by go_num, f1, f2, f3⟩
        case measure => simp [intOf]; omega
end Go.Proofs.YtcnljemnkhmfcaaDoor

namespace Go.Proofs.YtcnljemnkhmfcaaDoor
set_option linter.unusedVariables false
set_option linter.unusedSimpArgs false
open Go.RowKit

/-- The equations of the first k pieces that are in a set. -/
def eqE (d : Nat) (Gs : List (List Int)) (s : Nat) (ps : List (List UInt8)) (x k : Nat) : List (List UInt8) := ((List.range k).filter fun j => s.testBit j).map fun j => crow d Gs j d ++ [(ps.getD j []).getD x 0]
theorem eqE_zero (d : Nat) (Gs : List (List Int)) (s : Nat) (ps : List (List UInt8)) (x : Nat) : eqE d Gs s ps x 0 = [] := rfl
theorem eqE_yes {d s x k : Nat} {Gs : List (List Int)} {ps : List (List UInt8)} (h : s.testBit k = true) : eqE d Gs s ps x (k + 1) = eqE d Gs s ps x k ++ [crow d Gs k d ++ [(ps.getD k []).getD x 0]] := by
  unfold eqE; rw [List.range_succ, List.filter_append, List.map_append]; simp [h]
theorem eqE_no {d s x k : Nat} {Gs : List (List Int)} {ps : List (List UInt8)} (h : s.testBit k = false) : eqE d Gs s ps x (k + 1) = eqE d Gs s ps x k := by
  unfold eqE; rw [List.range_succ, List.filter_append]; simp [h]
theorem eqE_len (d s x : Nat) (Gs : List (List Int)) (ps : List (List UInt8)) (k : Nat) : (eqE d Gs s ps x k).length ≤ k := by
  have := List.length_filter_le (fun k => s.testBit k) (List.range k)
  unfold eqE
  rw [List.length_map]
  rw [List.length_range] at this
  exact this
theorem eqE_mem {d s x k : Nat} {Gs : List (List Int)} {ps : List (List UInt8)} {r : List UInt8} : r ∈ eqE d Gs s ps x k ↔ ∃ j, j < k ∧ s.testBit j = true ∧ r = crow d Gs j d ++ [(ps.getD j []).getD x 0] := by
  unfold eqE
  rw [List.mem_map]
  constructor
  · rintro ⟨j, hj, rfl⟩
    rw [List.mem_filter, List.mem_range] at hj
    exact ⟨j, hj.1, hj.2, rfl⟩
  · rintro ⟨j, h1, h2, rfl⟩
    exact ⟨j, by rw [List.mem_filter, List.mem_range]; exact ⟨h1, h2⟩, rfl⟩
theorem eq_dot {d j : Nat} {Gs : List (List Int)} (b : UInt8) (X : Nat → UInt8) : dot7 d (rfn (crow d Gs j d ++ [b])) X = dot7 d (rfn (crow d Gs j d)) X := dot7_congr fun k hk => by
  unfold rfn
  rw [List.getD_eq_getElem?_getD, List.getElem?_append_left (by rw [crow_len]; exact hk), List.getD_eq_getElem?_getD]
theorem eq_last {d j : Nat} {Gs : List (List Int)} (b : UInt8) : (crow d Gs j d ++ [b]).getD d 0 = b := by
  rw [List.getD_eq_getElem?_getD, List.getElem?_append_right (by rw [crow_len]; exact Nat.le_refl _), crow_len, Nat.sub_self]; rfl
/-- The equations are of full rank. -/
theorem eq_start {d s x N M : Nat} {Gs : List (List Int)} {ps : List (List UInt8)} (hf : Full7 (pcL d Gs s N) d) (hM : M = (eqE d Gs s ps x N).length) : SolI d M (fun t => (eqE d Gs s ps x N).getD t []) (fun t => (eqE d Gs s ps x N).getD t []) 0 := by
  have hget : ∀ t, t < M → (eqE d Gs s ps x N).getD t [] ∈ eqE d Gs s ps x N := fun t ht => by
    rw [List.getD_eq_getElem?_getD, List.getElem?_eq_getElem (by omega)]
    exact List.getElem_mem _
  refine solI_zero (fun t ht => ?_) fun X hX => hf X fun r hr => ?_
  · obtain ⟨j, _, _, e⟩ := eqE_mem.1 (hget t ht)
    show ((eqE d Gs s ps x N).getD t []).length = d + 1
    rw [e, List.length_append, crow_len]; rfl
  · obtain ⟨j, h1, h2, rfl⟩ := pcL_mem.1 hr
    obtain ⟨t, ht⟩ := List.getElem?_of_mem (eqE_mem (x := x) (ps := ps) (Gs := Gs) (d := d) |>.2 ⟨j, h1, h2, rfl⟩)
    have := hX t (by rw [hM]; exact (List.getElem?_eq_some_iff.1 ht).1)
    rw [show (fun t => (eqE d Gs s ps x N).getD t []) t = crow d Gs j d ++ [(ps.getD j []).getD x 0] by show (eqE d Gs s ps x N).getD t [] = _; rw [List.getD_eq_getElem?_getD, ht]; rfl, eq_dot] at this
    exact this
theorem eq_pm {d s x N M : Nat} {Gs : List (List Int)} {ps : List (List UInt8)} (hM : M = (eqE d Gs s ps x N).length) : eqE d Gs s ps x N = PM (fun t => (eqE d Gs s ps x N).getD t []) M := by
  apply List.ext_getElem?
  intro t
  by_cases ht : t < M
  · rw [PM_get _ ht, List.getD_eq_getElem?_getD, List.getElem?_eq_getElem (by omega)]; rfl
  · rw [List.getElem?_eq_none (by omega), List.getElem?_eq_none (by rw [PM_len]; omega)]
theorem eq_some {d s x N : Nat} {Gs : List (List Int)} {ps : List (List UInt8)} (hd : 1 ≤ d) (hf : Full7 (pcL d Gs s N) d) : 0 < (eqE d Gs s ps x N).length := by
  apply Nat.pos_of_ne_zero
  intro h0
  have hnil := List.length_eq_zero_iff.1 h0
  have := hf (fun _ => 1) (fun r hr => by
    obtain ⟨j, h1, h2, rfl⟩ := pcL_mem.1 hr
    have hm := eqE_mem (x := x) (ps := ps) (Gs := Gs) (d := d) |>.2 ⟨j, h1, h2, rfl⟩
    rw [hnil] at hm
    cases hm) 0 (by omega)
  exact absurd this (by decide)
/-- A chunk that has the pieces solves the equations. -/
theorem eq_sol {d s x N M z : Nat} {Gs : List (List Int)} {ps : List (List UInt8)} {P : List UInt8} (hM : M = (eqE d Gs s ps x N).length) (hP : HasP d Gs s N z ps P) (hx : x < z) : ∀ t, t < M → dot7 d (rfn ((fun t => (eqE d Gs s ps x N).getD t []) t)) (fun i => P.getD (i * z + x) 0) = ((fun t => (eqE d Gs s ps x N).getD t []) t).getD d 0 := fun t ht => by
  have hmem : (eqE d Gs s ps x N).getD t [] ∈ eqE d Gs s ps x N := by
    rw [List.getD_eq_getElem?_getD, List.getElem?_eq_getElem (by omega)]
    exact List.getElem_mem _
  obtain ⟨j, h1, h2, e⟩ := eqE_mem.1 hmem
  show dot7 d (rfn ((eqE d Gs s ps x N).getD t [])) _ = ((eqE d Gs s ps x N).getD t []).getD d 0
  rw [e, eq_dot, eq_last, crow_dot, ← hP j h1 h2, pce_at hx]

/-- The columns so far, and some of the next one, are those of each chunk that has the pieces. -/
def ColP (d : Nat) (Gs : List (List Int)) (s N z : Nat) (ps : List (List UInt8)) (x i : Nat) (O : List UInt8) : Prop := ∀ P, P.length = d * z → HasP d Gs s N z ps P → ∀ j t, j < d → t < z → (t < x ∨ t = x ∧ j < i) → O.getD (j * z + t) 0 = P.getD (j * z + t) 0
theorem colP_zero (d : Nat) (Gs : List (List Int)) (s N z : Nat) (ps : List (List UInt8)) (O : List UInt8) : ColP d Gs s N z ps 0 0 O := fun P _ _ j t _ _ h => by omega
theorem place_inj {z j t i x : Nat} (ht : t < z) (hx : x < z) (h : j * z + t = i * z + x) : j = i ∧ t = x := by
  have h1 : (j * z + t) / z = j := by rw [Nat.mul_comm, Nat.mul_add_div (by omega), Nat.div_eq_of_lt ht, Nat.add_zero]
  have h2 : (i * z + x) / z = i := by rw [Nat.mul_comm, Nat.mul_add_div (by omega), Nat.div_eq_of_lt hx, Nat.add_zero]
  have h3 : j = i := by rw [← h1, ← h2, h]
  subst h3
  exact ⟨rfl, by omega⟩
theorem colP_next {d s N z x i : Nat} {Gs : List (List Int)} {ps : List (List UInt8)} {O : List UInt8} {b : UInt8} (h : ColP d Gs s N z ps x i O) (hi : i < d) (hx : x < z) (hO : O.length = d * z) (hb : ∀ P, P.length = d * z → HasP d Gs s N z ps P → b = P.getD (i * z + x) 0) : ColP d Gs s N z ps x (i + 1) (O.set (i * z + x) b) := fun P h1 h2 j t hj ht hc => by
  have hlt : i * z + x < O.length := by
    rw [hO]
    have : (i + 1) * z ≤ d * z := Nat.mul_le_mul_right z hi
    rw [Nat.succ_mul] at this
    omega
  by_cases e : j * z + t = i * z + x
  · obtain ⟨rfl, rfl⟩ := place_inj ht hx e
    rw [List.getD_eq_getElem?_getD, List.getElem?_set_self hlt]
    exact hb P h1 h2
  · rw [List.getD_eq_getElem?_getD, List.getElem?_set_ne (Ne.symm e), ← List.getD_eq_getElem?_getD]
    refine h P h1 h2 j t hj ht ?_
    rcases hc with hc | ⟨rfl, hc⟩
    · exact .inl hc
    · refine .inr ⟨rfl, ?_⟩
      by_cases hji : j = i
      · subst hji; exact absurd rfl e
      · omega
theorem colP_line {d s N z x : Nat} {Gs : List (List Int)} {ps : List (List UInt8)} {O : List UInt8} (h : ColP d Gs s N z ps x d O) : ColP d Gs s N z ps (x + 1) 0 O := fun P h1 h2 j t hj ht hc => h P h1 h2 j t hj ht (by omega)
theorem colP_end {d s N z : Nat} {Gs : List (List Int)} {ps : List (List UInt8)} {O P : List UInt8} (h : ColP d Gs s N z ps z 0 O) (hO : O.length = d * z) (h1 : P.length = d * z) (h2 : HasP d Gs s N z ps P) : O = P := row_ext hO h1 fun j hj => by
  have hz : 0 < z := by
    rcases Nat.eq_zero_or_pos z with e | e
    · rw [e, Nat.mul_zero] at hj; omega
    · exact e
  have hi : j / z < d := (Nat.div_lt_iff_lt_mul hz).2 hj
  have ht : j % z < z := Nat.mod_lt _ hz
  have e : j / z * z + j % z = j := by rw [Nat.mul_comm]; exact Nat.div_add_mod j z
  have := h P h1 h2 (j / z) (j % z) hi ht (.inl ht)
  rw [e] at this
  exact this

theorem OwnB.only7 {x : Nat} {w w' : World} {base : Nat} {v : Value} {l : List UInt8} (h : OwnB w base v l) (ho : Only x w w') (hx : x < base) : OwnB w' base v l := by
  refine ⟨h.1, ?_⟩
  rcases h.2 with hn | ⟨g, cap, cur, hv, hg, hh, rest⟩
  · exact .inl hn
  · exact .inr ⟨g, cap, cur, hv, hg, by rw [ho.block g (by omega)]; exact hh, rest⟩
/-- What data returns. -/
def DataR (d : Nat) (Gs : List (List Int)) (s N z : Nat) (ps : List (List UInt8)) (w : World) (e : Ending) (w' : World) : Prop := (∃ O, e = .returned (sv O) ∧ O.length = d * z ∧ ∀ P, P.length = d * z → HasP d Gs s N z ps P → O = P) ∧ Below w.heap.size w w'

set_option maxRecDepth 100000 in
set_option maxHeartbeats 16000000 in
theorem refData7_any {B : Nat} (d n c g z s N pc : Nat) (Gs : List (List Int)) (A PA : Option Addr) (ps : List (List UInt8)) (w : World) (hM : CodM w B (d : Int) A n c (g : Int) Gs) (hsh : ∀ g ∈ Gs, g.length ≤ 1000000) (hd1 : 1 ≤ d) (hd16 : d ≤ 16) (hn24 : n ≤ 24) (hN24 : N ≤ 24) (hs : s < 2 ^ N) (hps : ps.length = N) (hr : Rds w w.heap.size PA (ps.map sv)) (hz : ∀ k, k < N → s.testBit k = true → (ps.getD k []).length = z) (hz5 : z ≤ 5000) (hf : Full7 (pcL d Gs s N) d) :
    Calls Tryd.prog 47 #[cdv (d : Int) A n c (g : Int), .int .i64 (z : Int), .int .i64 (s : Int), .slice PA N pc] w (DataR d Gs s N z ps w) := by
  obtain ⟨T, hT⟩ : ∃ T, T = d * z := ⟨_, rfl⟩
  have hTl : T ≤ 80000 := by rw [hT]; exact Nat.le_trans (Nat.mul_le_mul hd16 hz5) (by decide)
  have eT : (d : Int) * (z : Int) = (T : Int) := by rw [hT, Int.natCast_mul]
  obtain ⟨W1, hW1⟩ : ∃ W1, W1 = w.alloc (.cells #[.int .i64 d, .slice A n c, .int .i64 g] 24) := ⟨_, rfl⟩
  have hB1 : Hid (Below w.heap.size w W1) := by show Below _ _ _; rw [hW1]; exact (Below.refl _ _).alloc (Nat.le_refl _) _
  have hR1 : Hid (Blk W1 w.heap.size [.int .i64 d, .slice A n c, .int .i64 g] 24) := by show Blk _ _ _ _; rw [hW1]; exact Blk.new _ [_, _, _] _
  obtain ⟨go, hgo⟩ : ∃ x, x = W1.heap.size := ⟨_, rfl⟩
  have hgoH : Hid (w.heap.size < go) := by show _ < _; rw [hgo]; exact hR1.out.lt
  obtain ⟨W2, hW2⟩ : ∃ W2, W2 = W1.alloc (.cells (madeCells #[.int .u8 0] T) 5) := ⟨_, rfl⟩
  have hb2 : Hid (Below W1.heap.size W1 W2) := by show Below _ _ _; rw [hW2]; exact (Below.refl _ _).alloc (Nat.le_refl _) _
  have hZ2 : Hid (Blk W2 go ((List.replicate T (0 : UInt8)).map bv) 5) := by
    show Blk _ _ _ _
    rw [hW2, made_zeros, zeros_row, hgo]
    exact Blk.new _ _ _
  have hmk := run_make_row' (P := Tryd.prog) 57 5 (.int .u8 0) 1 Tryd.underlying57 infoByte rfl .i64 .i64 T (by omega) (by omega) W1
  rw [← hW2, ← hgo, hW1] at hmk
  have hX2 : Hid (Blk W2 w.heap.size [.int .i64 d, .slice A n c, .int .i64 g] 24) := hR1.out.below hb2.out hR1.out.lt
  have hE2 : Hid (Below w.heap.size w W2) := hB1.out.trans (hb2.out.mono hB1.out.size)
  have hdd := Lib.hid size_cod
  have hun : Hid (Tryd.prog.underlying 24 = _) := Tryd.underlying24
  have p0 := hR1.out.cell (j := 0) rfl
  have p1 := hR1.out.cell (j := 1) rfl
  have p2 := hR1.out.cell (j := 2) rfl
  rw [hW1] at p0 p1 p2
  have hMH := Lib.hid hM
  have hshH := Lib.hid hsh
  have hrH := Lib.hid hr
  have hzH := Lib.hid hz
  have hfH := Lib.hid hf
  have hpsH := Lib.hid hps
  have hTH := Lib.hid hT
  have hs62 : s ≤ 4611686018427387904 := by have := two24n hN24; omega
  have hC0 : Hid (ColP d Gs s N z ps 0 0 (List.replicate T 0)) := colP_zero _ _ _ _ _ _ _
  have hL0 : Hid ((List.replicate T (0 : UInt8)).length = T) := List.length_replicate
  have hd1H := Lib.hid hd1
  clear hM hsh hr hz hf hps hW1 hW2 hT hgo hs hb2 hB1 hR1 hd1
  generalize List.replicate T (0 : UInt8) = O0 at hZ2 hC0 hL0
  unfold cdv
  go_enter Tryd.func47, Tryd.ntmps47
  go_wp2_with fail
  clear hmk p0 p1 p2
  go_loopw [10] (fun v wr => ∃ (x : Nat) (O : List UInt8), x ≤ z ∧ v = .int .i64 x ∧ Hid (O.length = T) ∧ Hid (Blk wr go (O.map bv) 5) ∧ Hid (ColP d Gs s N z ps x 0 O) ∧ Hid (Blk wr w.heap.size [.int .i64 d, .slice A n c, .int .i64 g] 24) ∧ Hid (Below w.heap.size w wr)) (fun v _ => z - (intOf v).toNat)
  case atStart => exact ⟨0, O0, by omega, rfl, hL0, hZ2, hC0, hX2, hE2⟩
  case round =>
    obtain ⟨x, O, hx, rfl, hOl, hO, hC, X, E⟩ := hrel
    clear hL0 hZ2 hC0 hX2 hE2
    by_cases hxz : x < z
    rotate_left
    · have tx : ¬ (x : Int) < (z : Int) := by omega
      obtain rfl : x = z := by omega
      have hrd := hO.out.rds 0 T
      rw [List.drop_zero, List.take_of_length_le (by rw [List.length_map, hOl.out]; exact Nat.le_refl _)] at hrd
      have hcv := run_bytes_bs (P := Tryd.prog) wr 57 9 5 Tryd.underlying57 Tryd.underlying5 Tryd.underlying9 T hrd
      rw [hOl.out] at hcv
      clear hrd hxz hx
      go_wp2_with fail
      go_ret
      exact ⟨⟨O, rfl, hOl.out.trans hTH.out, fun P h1 h2 => colP_end hC.out (hOl.out.trans hTH.out) h1 h2⟩, E.out⟩
    have tx : (x : Int) < (z : Int) := by omega
    have tx0 : 0 ≤ (x : Int) := Int.natCast_nonneg x
    have hQ0 : Hid (OwnQ 0 wr wr.heap.size (.slice none 0 0) (eqE d Gs s ps x 0)) := ownQ_nil _ _ _
    have hb0 : Hid (Below wr.heap.size wr wr) := Below.refl _ _
    go_wp2_with fail
    obtain ⟨wo, hwo⟩ : ∃ x, x = wr := ⟨_, rfl⟩
    subst hwo
    go_loopw [11, 12] (fun v y wr => ∃ k : Nat, k ≤ N ∧ y = .int .i64 k ∧ Hid (OwnQ 0 wr wo.heap.size v (eqE d Gs s ps x k)) ∧ Hid (Below wo.heap.size wo wr)) (fun _ y _ => N - (intOf y).toNat)
    case atStart => exact ⟨0, by omega, rfl, hQ0, hb0⟩
    case round =>
      obtain ⟨k, hk, rfl, hQ, hbw⟩ := hrel
      clear hQ0 hb0
      have hXr := Lib.hid (X.out.below hbw.out X.out.lt)
      have hEr := Lib.hid (E.out.trans (hbw.out.mono E.out.size))
      have hMr := Lib.hid (hMH.out.keep hEr.out)
      have hposH : Hid (0 < wo.heap.size) := Nat.lt_of_le_of_lt (Nat.zero_le _) X.out.lt
      by_cases hkN : k < N
      rotate_left
      · have tk : ¬ (k : Int) < (N : Int) := by omega
        obtain rfl : k = N := by omega
        clear hkN hk
        obtain ⟨M, hMe⟩ : ∃ M, M = (eqE d Gs s ps x k).length := ⟨_, rfl⟩
        have hMpos : 0 < M := by rw [hMe]; exact eq_some hd1H.out hfH.out
        have hMl : M ≤ 1000 := by rw [hMe]; have := eqE_len d s x Gs ps k; omega
        obtain ⟨gl, cap, hv, hgb, hgl, _, _⟩ := open_q hQ.out (by rw [← hMe]; exact hMpos)
        rw [← hMe] at hv
        subst hv
        have hQ2 := hQ.out
        rw [eq_pm hMe] at hQ2
        have CS := Lib.hid (refSolved7_any d M gl cap wo.heap.size _ wr hQ2 (eq_start hfH.out hMe) hd16 hMl hgb hposH.out hMpos)
        have hsolH : Hid (∀ P, P.length = d * z → HasP d Gs s k z ps P → ∀ t, t < M → dot7 d (rfn ((fun t => (eqE d Gs s ps x k).getD t []) t)) (fun i => P.getD (i * z + x) 0) = ((fun t => (eqE d Gs s ps x k).getD t []) t).getD d 0) := fun P h1 h2 => eq_sol hMe h2 hxz
        generalize (fun t => (eqE d Gs s ps x k).getD t []) = f0 at CS hsolH
        have p0 := hXr.out.cell (j := 0) rfl
        have p1 := hXr.out.cell (j := 1) rfl
        have p2 := hXr.out.cell (j := 2) rfl
        clear hQ2 hQ hMe hMpos hMl hgb hgl
        go_wp2_with fail
        refine CS.out.mono ?_
        rintro e w3 ⟨⟨vB, Bs, rfl, hOB, hBl, hBs⟩, hb3⟩
        have hBx : Hid (∀ P, P.length = d * z → HasP d Gs s k z ps P → ∀ j, j < d → Bs.getD j 0 = P.getD (j * z + x) 0) := fun P h1 h2 j hj => hBs (fun i => P.getD (i * z + x) 0) (hsolH.out P h1 h2) j hj
        obtain ⟨Ab, cb, hve, _, _, _, _⟩ := own_form hOB
        rw [hBl] at hve
        subst hve
        have X3 := Lib.hid (X.out.below (hbw.out.trans hb3) X.out.lt)
        have E3 := Lib.hid (E.out.trans ((hbw.out.trans hb3).mono E.out.size))
        have O3 := Lib.hid (hO.out.below (hbw.out.trans hb3) hO.out.lt)
        have hgoW : Hid (go < wo.heap.size) := hO.out.lt
        have hOB3 := Lib.hid hOB
        have hBlH := Lib.hid hBl
        have hwl : Hid (wo.heap.size ≤ wr.heap.size) := hbw.out.size
        clear hb3 hBs hOB hBl CS hsolH hbw hXr hEr hMr p0 p1 p2
        have hC3 : Hid (ColP d Gs s k z ps x 0 O) := hC.out
        go_wp2_with fail
        obtain ⟨wq, hwq⟩ : ∃ x, x = wr := ⟨_, rfl⟩
        subst hwq
        clear X E hO hC
        go_loopw [15] (fun v wr => ∃ (i : Nat) (O : List UInt8), i ≤ d ∧ v = .int .i64 i ∧ Hid (O.length = T) ∧ Hid (Blk wr go (O.map bv) 5) ∧ Hid (ColP d Gs s k z ps x i O) ∧ Hid (Blk wr w.heap.size [.int .i64 d, .slice A n c, .int .i64 g] 24) ∧ Hid (Below w.heap.size w wr) ∧ Hid (OwnB wr wq.heap.size (.slice Ab d cb) Bs)) (fun v _ => d - (intOf v).toNat)
        case atStart => exact ⟨0, O, by omega, rfl, hOl, O3, hC3, X3, E3, hOB3⟩
        case round =>
          clear hOl O3 hC3 X3 E3 hOB3
          obtain ⟨i, O', hi, rfl, hOl, hO, hC, X, E, hOB⟩ := hrel
          have p0 := X.out.cell (j := 0) rfl
          have p1 := X.out.cell (j := 1) rfl
          have p2 := X.out.cell (j := 2) rfl
          by_cases hid : i < d
          rotate_left
          · have ti : ¬ (i : Int) < (d : Int) := by omega
            obtain rfl : i = d := by omega
            have hCn : Hid (ColP i Gs s k z ps (x + 1) 0 O') := colP_line hC.out
            clear hid
            go_wp2_with fail
            go_roundw
            case rel => exact ⟨x + 1, O', by omega, by go_num, hOl, hO, hCn, X, E⟩
            case measure => simp [intOf]; omega
          have ti : (i : Int) < (d : Int) := by omega
          have ti0 : 0 ≤ (i : Int) := Int.natCast_nonneg i
          obtain ⟨kz, hkz⟩ : ∃ m, m = i * z := ⟨_, rfl⟩
          obtain ⟨ix, hix⟩ : ∃ m, m = kz + x := ⟨_, rfl⟩
          have e1 : (i : Int) * (z : Int) = (kz : Int) := by rw [hkz, Int.natCast_mul]
          have e2 : (kz : Int) + (x : Int) = (ix : Int) := by omega
          have hixT : ix < T := by
            rw [hix, hkz, hTH.out]
            have : (i + 1) * z ≤ d * z := Nat.mul_le_mul_right z hid
            rw [Nat.succ_mul] at this
            omega
          have hkzl : kz ≤ 80000 := by omega
          have tiT : (ix : Int) < (T : Int) := by omega
          have tix0 : 0 ≤ (ix : Int) := Int.natCast_nonneg ix
          obtain ⟨b, hb⟩ : ∃ b, b = Bs.getD i 0 := ⟨_, rfl⟩
          obtain ⟨Ab', cb', hve, _, _, _, hRB⟩ := own_form hOB.out
          have hve2 : Ab = Ab' ∧ cb = cb' := by injection hve with h1 h2 h3; exact ⟨h1, h3⟩
          obtain ⟨rfl, rfl⟩ := hve2
          obtain ⟨ab, hab, _, hcb⟩ := hRB.look (k := i) (u := bv b) (by rw [List.getElem?_map, List.getElem?_eq_getElem (by rw [hBlH.out]; exact hid), hb, List.getD_eq_getElem?_getD, List.getElem?_eq_getElem (by rw [hBlH.out]; exact hid)]; rfl)
          subst hab
          have hcbH : wr.cell? (ab.add i) = some (.int .u8 (b.toNat : Int)) := hcb
          have hCn : Hid (ColP d Gs s k z ps x (i + 1) (O'.set ix b)) := by
            show ColP _ _ _ _ _ _ _ _ _
            rw [hix, hkz]
            exact colP_next hC.out hid hxz (hOl.out.trans hTH.out) fun P h1 h2 => by rw [hb]; exact hBx.out P h1 h2 i hid
          have hfit : Hid (ix + (bv b).cells.size ≤ (O'.map bv).length) := by show ix + 1 ≤ _; rw [List.length_map, hOl.out]; exact hixT
          have hixO : Hid (ix < O'.length) := by show _ < _; rw [hOl.out]; exact hixT
          clear hb hcb hve hRB hkz hix
          go_wp2_with (refine wpList_blk_store rfl 5 _ _ rfl ix (bv b) rfl rfl hO.out size_u8 hfit.out (one_u8b b) ?_; intro w5 hw5 ho5)
          have f1 : Hid ((O'.set ix b).length = T) := by show _ = _; rw [List.length_set]; exact hOl.out
          have f2 : Hid (Blk w5 go ((O'.set ix b).map bv) 5) := by
            have h := hw5.out
            have e := set_row (r := O') (rest := []) (z := b) hixO.out
            rw [List.append_nil, List.append_nil] at e
            rw [e] at h
            exact h
          have f3 := Lib.hid (X.out.only ho5 (Nat.ne_of_lt hgoH.out))
          have f4 : Hid (Below w.heap.size w w5) := E.out.trans (ho5.below (Nat.le_of_lt hgoH.out))
          have f5 := Lib.hid (hOB.out.only7 ho5 (Nat.lt_of_lt_of_le hgoW.out hwl.out))
          clear hw5 ho5 hcbH
          try simp (config := { decide := true }) only [Act.put]
          go_roundw
          case rel => exact ⟨i + 1, O'.set ix b, by omega, by go_num, f1, f2, hCn, f3, f4, f5⟩
          case measure => simp [intOf]; omega
      have tk : (k : Int) < (N : Int) := by omega
      have tk0 : 0 ≤ (k : Int) := Int.natCast_nonneg k
      have CI := Lib.hid fun W => in07_any s k W hs62 (by omega)
      go_wp2_with fail
      refine (CI.out _).mono ?_
      rintro e w4 ⟨rfl, rfl⟩
      cases hbit : s.testBit k with
      | false =>
        have hnx : Hid (OwnQ 0 w4 wo.heap.size u11 (eqE d Gs s ps x (k + 1))) := by show OwnQ _ _ _ _ _; rw [eqE_no hbit]; exact hQ.out
        clear hbit CI
        go_wp2_with fail
        go_roundw
        case rel => exact ⟨k + 1, by omega, by go_num, hnx, hbw⟩
        case measure => simp [intOf]; omega
      | true =>
        have hnx := Lib.hid (eqE_yes (d := d) (Gs := Gs) (ps := ps) (x := x) hbit)
        obtain ⟨y, hy⟩ : ∃ y, y = ps.getD k [] := ⟨_, rfl⟩
        have hyl : Hid (y.length = z) := by show _ = _; rw [hy]; exact hzH.out k hkN hbit
        obtain ⟨b, hb⟩ : ∃ b, b = y.getD x 0 := ⟨_, rfl⟩
        rw [← hy, ← hb] at hnx
        have hyx : y[x]? = some b := by rw [hb, List.getD_eq_getElem?_getD, List.getElem?_eq_getElem (by rw [hyl.out]; exact hxz)]; rfl
        have gy := sv_get hyx
        have hsy := bs_size y
        obtain ⟨YS, hYS⟩ : ∃ Y, Y = bs y := ⟨_, rfl⟩
        rw [← hYS] at gy hsy
        have tyx : (x : Int) < (YS.size : Int) := by have := hyl.out; omega
        have tyx2 : x < YS.size := by have := hyl.out; omega
        obtain ⟨ap, hap, hapb, hcp⟩ := hrH.out.look (k := k) (u := .string YS) (by rw [List.getElem?_map, List.getElem?_eq_getElem (by rw [hpsH.out]; exact hkN), hYS, hy, List.getD_eq_getElem?_getD, List.getElem?_eq_getElem (by rw [hpsH.out]; exact hkN)]; rfl)
        subst hap
        have CE : Hid (∀ W, Below w.heap.size w W → Calls Tryd.prog 71 #[.agg #[.int .i64 (d : Int), .slice A n c, .int .i64 (g : Int)], .int .i64 (k : Int), .int .u8 (b.toNat : Int)] W fun e w' => ∃ v, (e = .returned v ∧ OwnB w' W.heap.size v (crow d Gs k d ++ [b])) ∧ Below W.heap.size W w') := fun W hW => refEquation7_any d n c g k b Gs A W (hMH.out.keep hW) hd16 hn24 (by omega) hshH.out
        obtain ⟨RQ, hRQ⟩ : ∃ r, r = crow d Gs k d ++ [b] := ⟨_, rfl⟩
        rw [← hRQ] at CE hnx
        clear hRQ
        have hln : (eqE d Gs s ps x k).length ≤ 1000000 := by have := eqE_len d s x Gs ps k; omega
        have hlnH := Lib.hid hln
        generalize eqE d Gs s ps x k = EK at hQ hnx hlnH
        clear hbit CI hy hb hyx hYS hsy hln
        have yq : ∀ q : ExtOf w4.drew, q.world.cell? (ap.add k) = some (.string YS) := fun q => by
          rw [((hEr.out.drew).trans (q.ext.mono (by have := hEr.out.size; simpa using this))).cell (p := ap.add k) (by rw [add_block]; exact hapb)]
          exact hcp
        go_wp2_with fail
        refine wp_region_planM [11] [(true, 0), (true, 1), (true, 2), (true, 3), (true, 4), (true, 5), (true, 6), (true, 7), (true, 8), (false, 9), (false, 10), (false, 11), (true, 12)] (by decide) (by kernel_rfl) (by kernel_rfl) (by decide) (by intro c a d v w h; cases d <;> exact h) ?_
        change wpPlanM _ _ _ _ _ _ w4.drew
        have hQd : Hid (OwnQ 0 w4.drew wo.heap.size u11 EK) := hQ.out.keep ((Below.refl _ _).drew)
        have hBd : Hid (Below wo.heap.size wo w4.drew) := hbw.out.drew
        have hEd : Hid (Below w.heap.size w w4.drew) := hEr.out.drew
        have hXd : Hid (Blk w4.drew w.heap.size [.int .i64 d, .slice A n c, .int .i64 g] 24) := hXr.out
        iterate 1 (refine wpPlanM_plain rfl (fun K hK => ?_); go_simp; refine hK _ ?_; clear hK K)
        refine wpPlanM_runW rfl (by rfl) _ (fun q => load_run 24 _ rfl w.heap.size 0 rfl [.int .i64 d, .slice A n c, .int .i64 g] _ hun.out rfl hdd.out q.world ((Blk.below hXd.out q.ext hXd.out.lt).range 0 _ (take_all0 _))) ?_
        iterate 7 (refine wpPlanM_plain rfl (fun K hK => ?_); go_simp; refine hK _ ?_; clear hK K)
        clear yq gy
        generalize w4.drew = wd at hQd hBd hEd hXd ⊢
        refine wpPlanM_call rfl (fun K hK => ?_)
        go_wp2_with fail
        refine (CE.out _ hEd.out).mono ?_
        rintro e w6 ⟨vr, ⟨rfl, hu⟩, hb6⟩
        have hoffH := Lib.hid (own_off hu hQd.out (Nat.lt_of_lt_of_le hposH.out hBd.out.size))
        have ho4 := Lib.hid (hQd.out.keep hb6)
        have hB4 := Lib.hid (hBd.out.trans (hb6.mono hBd.out.size))
        have hsz4 : Hid (wo.heap.size ≤ w6.heap.size) := hB4.out.size
        have hb6H := Lib.hid hb6
        obtain ⟨Au, cu, hve, _⟩ := own_form hu
        subst hve
        clear hu hb6 CE
        go_wp2_with fail
        refine planPostL_normal ⟨.inr hb6H.out, hK _ _ ?_⟩
        clear hK K
        refine wpPlanM_call rfl (fun K hK => ?_)
        go_wp2_with fail
        refine planPostL_normal ⟨.inr ((Below.refl _ _).alloc (Nat.le_refl _) _), hK _ _ ?_⟩
        clear hK K
        refine wpPlanM_call rfl (fun K hK => ?_)
        refine push_q rfl _ _ rfl wo.heap.size _ EK _ _ rfl rfl ho4.out hoffH.out hlnH.out hsz4.out ?_
        intro v5 w7 ho5 hb5 hg5
        refine wpList_end (planPostL_normal ⟨.inl (by simp), hK _ _ ?_⟩)
        clear hK K
        iterate 1 (refine wpPlanM_plain rfl (fun K hK => ?_); go_simp; refine hK _ ?_; clear hK K)
        refine wpPlanM_nil ?_
        have f1 : Hid (OwnQ 0 w7 wo.heap.size v5 (eqE d Gs s ps x (k + 1))) := by show OwnQ _ _ _ _ _; rw [hnx.out]; exact ho5
        have f2 := Lib.hid (hB4.out.trans hb5)
        clear ho5 hb5 hg5
        go_wp2_with fail
        go_roundw
        case rel => exact ⟨k + 1, by omega, by go_num, f1, f2⟩
        case measure => simp [intOf]; omega
end Go.Proofs.YtcnljemnkhmfcaaDoor

namespace Go.Proofs.YtcnljemnkhmfcaaDoor
set_option linter.unusedVariables false
set_option linter.unusedSimpArgs false
open Go.RowKit

theorem size_dec7 : (Tryd.prog.info? 48).map (·.size) = some 2 := by kernel_rfl
theorem row_dec7 : ∃ d, Tryd.prog.underlying 48 = some d ∧ d.isRow = true := ⟨_, Tryd.underlying48, rfl⟩
def Dec7End (D G : Int) (Gs : List (List Int)) (nn mk : Int) (ps : List (List UInt8)) (w : World) (e : Ending) (w' : World) : Prop := ∃ x E, e = .returned (.agg #[sv x, .int .i64 E]) ∧ DecR D G Gs nn mk ps x E ∧ Below w.heap.size w w'
/-- The first k pieces that are given have a length. -/
def FitTo (s z : Nat) (ps : List (List UInt8)) (k : Nat) : Prop := ∀ t, t < k → s.testBit t = true → (ps.getD t []).length = z
def AllTo (s : Nat) (ps qs : List (List UInt8)) (k : Nat) : Prop := ∀ t, t < k → s.testBit t = true → qs.getD t [] = ps.getD t []
/-- What stands behind the region that encodes again. -/
def AgR (w1 : World) (tl : Nat) (TX : List (List UInt8)) (v : Value) (W : World) : Prop := ∃ gL A2 c2, v = .pointer (some ⟨gL, 0, none⟩) ∧ w1.heap.size ≤ gL ∧ Blk W gL [.slice A2 tl c2, .int .i64 0] 36 ∧ Rds W W.heap.size A2 (TX.map sv) ∧ Below w1.heap.size w1 W
theorem Rds.only7 {w w' : World} {B g : Nat} {A : Option Addr} {xs : List Value} (h : Rds w B A xs) (ho : Only g w w') (hg : B ≤ g) : Rds w' B A xs := h.keep fun p hp => World.cell?_of_block (ho.block p.block (by omega))

set_option maxRecDepth 100000 in
set_option maxHeartbeats 16000000 in
theorem refDecode7_any {B pc : Nat} (D G nn mk : Int) (Gs : List (List Int)) (n c : Nat) (A PA : Option Addr) (ps : List (List UInt8)) (w : World) (hM : CodM w B D A n c G Gs) (hsh : ∀ g ∈ Gs, g.length ≤ 1000000) (hr : Rds w w.heap.size PA (ps.map sv)) (hpl : ps.length ≤ 1000) (hpz : ∀ p ∈ ps, p.length ≤ 1000000) :
    Calls Tryd.prog 23 #[cdv D A n c G, .int .i64 nn, .int .i64 mk, .slice PA ps.length pc] w (Dec7End D G Gs nn mk ps w) := by
  obtain ⟨dd, hdu, hdr⟩ := row_dec7
  have hdu' := Lib.hid hdu
  obtain ⟨W1, hW1⟩ : ∃ W1, W1 = (w.alloc (.cells #[.int .i64 D, .slice A n c, .int .i64 G] 24)).alloc (.cells #[.string ⟨#[]⟩, .int .i64 0] 48) := ⟨_, rfl⟩
  have E : Hid (Below w.heap.size w W1) := by show Below _ _ _; rw [hW1]; exact ((Below.refl _ _).alloc (Nat.le_refl _) _).alloc (by simp) _
  have X : Hid (Blk W1 w.heap.size [.int .i64 D, .slice A n c, .int .i64 G] 24) := by show Blk _ _ _ _; rw [hW1]; exact (Blk.new _ [_, _, _] _).alloc _
  have Y : Hid (Blk W1 (w.heap.size + 1) [.string ⟨#[]⟩, .int .i64 0] 48) := by show Blk _ _ _ _; rw [hW1]; exact (Blk.new _ [_, _] _).at (by simp)
  have M := Lib.hid (hM.keep E.out)
  have hdd := Lib.hid size_cod
  have hun : Hid (Tryd.prog.underlying 24 = _) := Tryd.underlying24
  have hshH := Lib.hid hsh
  have hlen : Hid (n = Gs.length) := hM.len
  have hrH := Lib.hid hr
  have hMw := Lib.hid hM
  have hpzH := Lib.hid hpz
  have CK := refCheck7_any D G Gs n c A W1 M.out hsh
  obtain ⟨Ex, hEx⟩ : ∃ E : Int, E = chkE D Gs G := ⟨_, rfl⟩
  rw [← hEx] at CK
  have hEH := Lib.hid hEx
  have hW' := Lib.hid hW1
  obtain ⟨pl, hplv⟩ : ∃ x, x = ps.length := ⟨_, rfl⟩
  have hplH := Lib.hid hplv
  rw [← hplv] at hpl ⊢
  have p0 := X.out.cell (j := 0) rfl
  have p1 := X.out.cell (j := 1) rfl
  have p2 := X.out.cell (j := 2) rfl
  rw [hW1] at p0 p1 p2 CK
  clear hM hsh hEx hW1 hplv hdu hr hpz
  unfold cdv at CK ⊢
  go_enter Tryd.func23, Tryd.ntmps23
  go_wp2_with fail
  refine CK.mono ?_
  rintro e w2 ⟨rfl, hb0⟩
  have hb : Below W1.heap.size W1 w2 := by rw [hW'.out]; exact hb0
  clear hb0 CK hW' p0 p1 p2
  replace E : Hid (Below w.heap.size w w2) := E.out.trans (hb.mono E.out.size)
  replace M := Lib.hid (M.out.keep hb)
  replace X := Lib.hid (X.out.below hb X.out.lt)
  replace Y := Lib.hid (Y.out.below hb Y.out.lt)
  clear hb
  by_cases hE0 : Ex = 0
  rotate_left
  · have z : (Ex != 0) = true := by simpa using hE0
    have hde : Hid (DecR D G Gs nn mk ps [] Ex) := .inl ⟨by rw [← hEH.out]; exact hE0, hEH.out, rfl⟩
    clear hE0
    go_wp2_with (refine wpList_row_store rfl 48 _ _ rfl [.string ⟨#[]⟩, .int .i64 Ex] rfl rfl Y.out size_dec7 rfl (two_one _ _) ?_; intro wz hwz hoz)
    exact bodyPost_ret (ret_blk rfl _ wz (g := w.heap.size + 1) rfl hwz.out dd hdu'.out hdr size_dec7) rfl ⟨[], Ex, rfl, hde.out, E.out.trans (hoz.below (Nat.le_succ _))⟩
  subst hE0
  obtain ⟨b1, b2, b3, b4, b5, b6⟩ := cchk_ok hEH.out.symm
  obtain ⟨d, rfl⟩ : ∃ d : Nat, D = d := ⟨D.toNat, by omega⟩
  obtain ⟨g, rfl⟩ : ∃ g : Nat, G = g := ⟨G.toNat, by omega⟩
  have h0 : Hid (chkE (d : Int) Gs (g : Int) = 0) := hEH.out.symm
  obtain ⟨N, hN⟩ : ∃ N, N = d + (Gs.length + g) := ⟨_, rfl⟩
  have hNH : Hid (d + (Gs.length + g) = N) := hN.symm
  have hN24 : N ≤ 24 := by omega
  have hd16 : d ≤ 16 := by omega
  have hd1 : Hid (1 ≤ d) := by show _ ≤ _; omega
  have hn24 : n ≤ 24 := by have := hlen.out; omega
  clear b1 b2 b3 b4 b5 b6 hN hEH
  have e2p : Hid (((2 ^ N : Nat) : Int) = (2 : Int) ^ N) := by show _ = _; rw [Int.natCast_pow]; rfl
  have hAn : Hid (¬ DecA d (d + Gs.length + g) nn mk ps → DecR (d : Int) (g : Int) Gs nn mk ps [] 1) := fun h => .inr (.inl ⟨h0.out, by rw [Int.toNat_natCast, Int.toNat_natCast]; exact h, rfl, rfl⟩)
  have hcnt : Hid (d + Gs.length + g = N) := by show _ = _; rw [Nat.add_assoc]; exact hNH.out
  have CS : Hid (∀ W, CodM W B (d : Int) A n c (g : Int) Gs → Calls Tryd.prog 27 #[cdv (d : Int) A n c (g : Int), .int .i64 mk] W (SayEnd W (SetP mk N))) := fun W m => refIsSet7_any d g mk Gs n c N A W m hshH.out h0.out hNH.out hN24
  have CP : Hid (∀ W, CodM W B (d : Int) A n c (g : Int) Gs → Calls Tryd.prog 16 #[cdv (d : Int) A n c (g : Int)] W fun e w' => e = .returned (.int .i64 (N : Int)) ∧ Below W.heap.size W w') := fun W m => by
    have := refPieces7_any (d : Int) (g : Int) Gs n c A W m hshH.out
    rw [pcs_nat h0.out hNH.out] at this
    exact this
  unfold cdv at CS CP
  have p0 := X.out.cell (j := 0) rfl
  have p1 := X.out.cell (j := 1) rfl
  have p2 := X.out.cell (j := 2) rfl
  go_wp2_with fail
  have C := CS.out w2 M.out
  try unfold cdv at C
  refine C.mono ?_
  rintro e w3 ⟨⟨b, rfl, hbs⟩, hb⟩
  clear C
  clear p0 p1 p2
  replace E : Hid (Below w.heap.size w w3) := E.out.trans (hb.mono E.out.size)
  replace M := Lib.hid (M.out.keep hb)
  replace X := Lib.hid (X.out.below hb X.out.lt)
  replace Y := Lib.hid (Y.out.below hb Y.out.lt)
  clear hb
  have hbsH := Lib.hid hbs
  clear hbs
  have p0 := X.out.cell (j := 0) rfl
  have p1 := X.out.cell (j := 1) rfl
  have p2 := X.out.cell (j := 2) rfl
  by_cases t1 : nn < 0
  · skip
    have hde : Hid (DecR (d : Int) (g : Int) Gs nn mk ps [] 1) := hAn.out fun h => by have := h.1; omega
    clear p0 p1 p2
    go_wp2_with (refine wpList_row_store rfl 48 _ _ rfl [.string ⟨#[]⟩, .int .i64 1] rfl rfl Y.out size_dec7 rfl (two_one _ _) ?_; intro wz hwz hoz)
    exact bodyPost_ret (ret_blk rfl _ wz (g := w.heap.size + 1) rfl hwz.out dd hdu'.out hdr size_dec7) rfl ⟨[], 1, rfl, hde.out, E.out.trans (hoz.below (Nat.le_succ _))⟩
  by_cases t2 : nn > 4096
  · skip
    have hde : Hid (DecR (d : Int) (g : Int) Gs nn mk ps [] 1) := hAn.out fun h => by have := h.2.1; omega
    clear p0 p1 p2
    go_wp2_with (refine wpList_row_store rfl 48 _ _ rfl [.string ⟨#[]⟩, .int .i64 1] rfl rfl Y.out size_dec7 rfl (two_one _ _) ?_; intro wz hwz hoz)
    exact bodyPost_ret (ret_blk rfl _ wz (g := w.heap.size + 1) rfl hwz.out dd hdu'.out hdr size_dec7) rfl ⟨[], 1, rfl, hde.out, E.out.trans (hoz.below (Nat.le_succ _))⟩
  cases b with
  | false =>
    have hde : Hid (DecR (d : Int) (g : Int) Gs nn mk ps [] 1) := hAn.out fun h => by
      have h3 := h.2.2.1
      have h4 := h.2.2.2.1
      rw [hcnt.out, ← e2p.out] at h4
      have := hbsH.out.2 ⟨h3, h4⟩
      cases this
    clear p0 p1 p2
    go_wp2_with (refine wpList_row_store rfl 48 _ _ rfl [.string ⟨#[]⟩, .int .i64 1] rfl rfl Y.out size_dec7 rfl (two_one _ _) ?_; intro wz hwz hoz)
    exact bodyPost_ret (ret_blk rfl _ wz (g := w.heap.size + 1) rfl hwz.out dd hdu'.out hdr size_dec7) rfl ⟨[], 1, rfl, hde.out, E.out.trans (hoz.below (Nat.le_succ _))⟩
  | true =>
    have hset := hbsH.out.1 rfl
    obtain ⟨s, rfl⟩ : ∃ s : Nat, mk = s := ⟨mk.toNat, by have := hset.1; omega⟩
    obtain ⟨q, rfl⟩ : ∃ q : Nat, nn = q := ⟨nn.toNat, by omega⟩
    have hsN : Hid (s < 2 ^ N) := Int.ofNat_lt.1 hset.2
    have hq4 : q ≤ 4096 := by omega
    have hs62 : s ≤ 4611686018427387904 := by have := hsN.out; have := two24n hN24; omega
    clear hset hbsH CS
    by_cases hpn : pl = N
    rotate_left
    · have z : ((pl : Int) != (N : Int)) = true := by simp; omega
      have hde : Hid (DecR (d : Int) (g : Int) Gs (q : Int) (s : Int) ps [] 1) := hAn.out fun h => hpn (by have := h.2.2.2.2.1; rw [hcnt.out, ← hplH.out] at this; exact this)
      clear hpn
      go_wp2_with fail
      have C := CP.out w3 M.out
      try unfold cdv at C
      refine C.mono ?_
      rintro e w5 ⟨rfl, hb⟩
      clear C
      clear p0 p1 p2
      replace E : Hid (Below w.heap.size w w5) := E.out.trans (hb.mono E.out.size)
      replace M := Lib.hid (M.out.keep hb)
      replace X := Lib.hid (X.out.below hb X.out.lt)
      replace Y := Lib.hid (Y.out.below hb Y.out.lt)
      clear hb
      have p0 := X.out.cell (j := 0) rfl
      have p1 := X.out.cell (j := 1) rfl
      have p2 := X.out.cell (j := 2) rfl
      clear p0 p1 p2
      go_wp2_with (refine wpList_row_store rfl 48 _ _ rfl [.string ⟨#[]⟩, .int .i64 1] rfl rfl Y.out size_dec7 rfl (two_one _ _) ?_; intro wz hwz hoz)
      exact bodyPost_ret (ret_blk rfl _ wz (g := w.heap.size + 1) rfl hwz.out dd hdu'.out hdr size_dec7) rfl ⟨[], 1, rfl, hde.out, E.out.trans (hoz.below (Nat.le_succ _))⟩
    subst hpn
    have z0 : ((pl : Int) != (pl : Int)) = false := by simp
    obtain ⟨z, hz⟩ : ∃ z, z = szP d q := ⟨_, rfl⟩
    have hm := szP_mul (n := q) hd1.out
    rw [← hz] at hm
    obtain ⟨T, hT⟩ : ∃ T, T = d * z := ⟨_, rfl⟩
    rw [← hT] at hm
    have hqT : q ≤ T := hm.1
    have hT5 : T ≤ 4200 := by omega
    have hz5 : z ≤ 5000 := by
      have : 1 * z ≤ d * z := Nat.mul_le_mul_right z hd1.out
      omega
    have hzH := Lib.hid hz
    have hTH := Lib.hid hT
    have hzi : Hid (((q : Int) + d - 1) / d = (z : Int)) := by
      show _ = _
      rw [hz]
      unfold szP
      have := hd1.out
      rw [Int.natCast_ediv]
      congr 1
      omega
    clear hz hm hT
    have CZ : Hid (∀ W, CodM W B (d : Int) A n c (g : Int) Gs → Calls Tryd.prog 18 #[cdv (d : Int) A n c (g : Int), .int .i64 (q : Int)] W fun e w' => e = .returned (.int .i64 (z : Int)) ∧ Below W.heap.size W w') := fun W m => by
      have := refSize7_any (d : Int) (g : Int) (q : Int) Gs n c A W m hshH.out
      rw [if_pos ⟨h0.out, Int.natCast_nonneg _, by omega⟩, hzi.out] at this
      exact this
    have hFm : Hid (FitTo s z ps pl → DecA d (d + Gs.length + g) (q : Int) (s : Int) ps) := fun h => by
      refine ⟨Int.natCast_nonneg _, by omega, Int.natCast_nonneg _, by rw [hcnt.out, ← e2p.out]; exact Int.ofNat_lt.2 hsN.out, ?_⟩
      rw [Int.toNat_natCast, Int.toNat_natCast, hcnt.out, ← hzH.out]
      exact ⟨hplH.out.symm, fun t ht hb => h t (by rw [hplH.out]; exact ht) hb⟩
    have hFn : Hid (∀ k, k < pl → s.testBit k = true → (ps.getD k []).length ≠ z → ¬ DecA d (d + Gs.length + g) (q : Int) (s : Int) ps) := fun k hk hb hne h => by
      have h5 := h.2.2.2.2
      rw [Int.toNat_natCast, Int.toNat_natCast, hcnt.out, ← hzH.out] at h5
      exact hne (h5.2 k (by rw [← hplH.out]; exact hk) hb)
    have hpa : Hid (∀ k, k < pl → ∃ pa YS, PA = some pa ∧ pa.block < w.heap.size ∧ w.cell? (pa.add k) = some (.string YS) ∧ YS = bs (ps.getD k []) ∧ YS.size = (ps.getD k []).length) := fun k hk => by
      have hk' : k < ps.length := by rw [← hplH.out]; exact hk
      have e : ps.getD k [] = ps[k] := by rw [List.getD_eq_getElem?_getD, List.getElem?_eq_getElem hk']; rfl
      obtain ⟨pa, h1, h2, h3⟩ := hrH.out.look (k := k) (u := sv (ps.getD k [])) (by rw [List.getElem?_map, List.getElem?_eq_getElem hk', e]; rfl)
      exact ⟨pa, _, h1, h2, h3, rfl, bs_size _⟩
    unfold cdv at CZ
    have hf0 : Hid (FitTo s z ps 0) := fun t ht => by omega
    go_wp2_with fail
    have C := CP.out w3 M.out
    try unfold cdv at C
    refine C.mono ?_
    rintro e w5 ⟨rfl, hb⟩
    clear C
    clear p0 p1 p2
    replace E : Hid (Below w.heap.size w w5) := E.out.trans (hb.mono E.out.size)
    replace M := Lib.hid (M.out.keep hb)
    replace X := Lib.hid (X.out.below hb X.out.lt)
    replace Y := Lib.hid (Y.out.below hb Y.out.lt)
    clear hb
    have p0 := X.out.cell (j := 0) rfl
    have p1 := X.out.cell (j := 1) rfl
    have p2 := X.out.cell (j := 2) rfl
    go_wp2_with fail
    clear CP
    have hb0 : Hid (Below w5.heap.size w5 w5) := Below.refl _ _
    clear p0 p1 p2
    go_loopw [11] (fun x wr => ∃ k : Nat, k ≤ pl ∧ x = .int .i64 k ∧ Hid (FitTo s z ps k) ∧ Hid (Below w5.heap.size w5 wr)) (fun x _ => pl - (intOf x).toNat)
    case atStart => exact ⟨0, by omega, rfl, hf0, hb0⟩
    case round =>
      obtain ⟨k, hk, rfl, hFit, hbw⟩ := hrel
      clear hf0 hb0
      have hb := hbw.out
      replace E : Hid (Below w.heap.size w wr) := E.out.trans (hb.mono E.out.size)
      replace M := Lib.hid (M.out.keep hb)
      replace X := Lib.hid (X.out.below hb X.out.lt)
      replace Y := Lib.hid (Y.out.below hb Y.out.lt)
      clear hb
      by_cases hkp : k < pl
      rotate_left
      · have tk : ¬ (k : Int) < (pl : Int) := by omega
        obtain rfl : k = pl := by omega
        have hA := Lib.hid (hFm.out hFit.out)
        clear hkp hk hFm hFn hAn
        have CR : Hid (∀ W, CodM W B (d : Int) A n c (g : Int) Gs → Calls Tryd.prog 25 #[cdv (d : Int) A n c (g : Int), .int .i64 (s : Int)] W (SayEnd W (Full7 (pcL d Gs s k) d))) := fun W m => by
          refine (refRecoverable7_any (d : Int) (g : Int) (s : Int) Gs n c A W m hshH.out).mono ?_
          rintro e w' ⟨⟨b, rfl, hb⟩, h⟩
          refine ⟨⟨b, rfl, ?_⟩, h⟩
          rw [hb]
          unfold RecP
          rw [Int.toNat_natCast, Int.toNat_natCast, Int.toNat_natCast, Nat.add_assoc, hNH.out, ← e2p.out]
          exact ⟨fun h => h.2.2.2, fun h => ⟨h0.out, Int.natCast_nonneg _, Int.ofNat_lt.2 hsN.out, h⟩⟩
        unfold cdv at CR
        have p0 := X.out.cell (j := 0) rfl
        have p1 := X.out.cell (j := 1) rfl
        have p2 := X.out.cell (j := 2) rfl
        go_wp2_with fail
        have C := CR.out wr M.out
        try unfold cdv at C
        refine C.mono ?_
        rintro e w11 ⟨⟨b, rfl, hbf⟩, hb⟩
        clear C
        clear p0 p1 p2
        replace E : Hid (Below w.heap.size w w11) := E.out.trans (hb.mono E.out.size)
        replace M := Lib.hid (M.out.keep hb)
        replace X := Lib.hid (X.out.below hb X.out.lt)
        replace Y := Lib.hid (Y.out.below hb Y.out.lt)
        clear hb
        have hbfH := Lib.hid hbf
        clear hbf CR
        have p0 := X.out.cell (j := 0) rfl
        have p1 := X.out.cell (j := 1) rfl
        have p2 := X.out.cell (j := 2) rfl
        cases b with
        | false =>
          have hnf : Hid (¬ Full7 (pcL d Gs s k) d) := fun h => by have := hbfH.out.2 h; cases this
          have hde : Hid (DecR (d : Int) (g : Int) Gs (q : Int) (s : Int) ps [] 17) := .inr (.inr (.inl ⟨h0.out, by rw [Int.toNat_natCast, Int.toNat_natCast]; exact hA.out, by rw [Int.toNat_natCast, Int.toNat_natCast, Int.toNat_natCast, hNH.out]; exact hnf.out, rfl, rfl⟩))
          clear p0 p1 p2
          go_wp2_with (refine wpList_row_store rfl 48 _ _ rfl [.string ⟨#[]⟩, .int .i64 17] rfl rfl Y.out size_dec7 rfl (two_one _ _) ?_; intro wz hwz hoz)
          exact bodyPost_ret (ret_blk rfl _ wz (g := w.heap.size + 1) rfl hwz.out dd hdu'.out hdr size_dec7) rfl ⟨[], 17, rfl, hde.out, E.out.trans (hoz.below (Nat.le_succ _))⟩
        | true =>
          have hfull : Hid (Full7 (pcL d Gs s k) d) := hbfH.out.1 rfl
          clear hbfH
          have CD : Hid (∀ W, Below w.heap.size w W → Calls Tryd.prog 47 #[cdv (d : Int) A n c (g : Int), .int .i64 (z : Int), .int .i64 (s : Int), .slice PA k pc] W (DataR d Gs s k z ps W)) := fun W hW => refData7_any d n c g z s k pc Gs A PA ps W (hMw.out.keep hW) hshH.out hd1.out hd16 hn24 hN24 hsN.out hplH.out.symm ((hrH.out.below hW).more hW.size) (fun t ht hb => hFit.out t ht hb) hz5 hfull.out
          unfold cdv at CD
          go_wp2_with fail
          refine wp_region_planM [] [(true, 0), (true, 1), (true, 2), (true, 4), (true, 5), (false, 3), (false, 6), (true, 7)] (by decide) (by kernel_rfl) (by kernel_rfl) (by decide) (by intro c a d v w h; cases d <;> exact h) ?_
          change wpPlanM _ _ _ _ _ _ w11.drew
          have hb : Below w11.heap.size w11 w11.drew := (Below.refl _ _).drew
          generalize hgd : w11.drew = w20 at hb ⊢
          clear hgd
          clear p0 p1 p2
          replace E : Hid (Below w.heap.size w w20) := E.out.trans (hb.mono E.out.size)
          replace M := Lib.hid (M.out.keep hb)
          replace X := Lib.hid (X.out.below hb X.out.lt)
          replace Y := Lib.hid (Y.out.below hb Y.out.lt)
          clear hb
          refine wpPlanM_runW rfl (by rfl) _ (fun q => load_run 24 _ rfl w.heap.size 0 rfl [.int .i64 d, .slice A n c, .int .i64 g] _ hun.out rfl hdd.out q.world ((Blk.below X.out q.ext X.out.lt).range 0 _ (take_all0 _))) ?_
          refine wpPlanM_runW rfl (by rfl) _ (fun q => load_run 24 _ rfl w.heap.size 0 rfl [.int .i64 d, .slice A n c, .int .i64 g] _ hun.out rfl hdd.out q.world ((Blk.below X.out q.ext X.out.lt).range 0 _ (take_all0 _))) ?_
          iterate 3 (refine wpPlanM_plain rfl (fun K hK => ?_); go_simp; refine hK _ ?_; clear hK K)
          refine wpPlanM_call rfl (fun K hK => ?_)
          go_wp2_with fail
          have C := CZ.out w20 M.out
          refine C.mono ?_
          rintro e w21 ⟨rfl, hb⟩
          clear C
          have hbp := Lib.hid hb
          replace E : Hid (Below w.heap.size w w21) := E.out.trans (hb.mono E.out.size)
          replace M := Lib.hid (M.out.keep hb)
          replace X := Lib.hid (X.out.below hb X.out.lt)
          replace Y := Lib.hid (Y.out.below hb Y.out.lt)
          clear hb
          go_wp2_with fail
          refine planPostL_normal ⟨.inr hbp.out, hK _ _ ?_⟩
          clear hK K hbp
          refine wpPlanM_call rfl (fun K hK => ?_)
          go_wp2_with fail
          have C := CD.out w21 E.out
          refine C.mono ?_
          rintro e w22 ⟨⟨O, rfl, hOl, hOP⟩, hb⟩
          clear C
          have hbp := Lib.hid hb
          replace E : Hid (Below w.heap.size w w22) := E.out.trans (hb.mono E.out.size)
          replace M := Lib.hid (M.out.keep hb)
          replace X := Lib.hid (X.out.below hb X.out.lt)
          replace Y := Lib.hid (Y.out.below hb Y.out.lt)
          clear hb
          have hOlH := Lib.hid hOl
          have hOPH := Lib.hid hOP
          clear hOl hOP
          obtain ⟨SO, hSO⟩ : ∃ S, S = bs O := ⟨_, rfl⟩
          have hSOs : SO.size = T := by rw [hSO, bs_size, hOlH.out, hTH.out]
          have hSOH := Lib.hid hSO
          rw [show sv O = .string SO by rw [hSO]; rfl]
          clear hSO
          go_wp2_with fail
          refine planPostL_normal ⟨.inr hbp.out, hK _ _ ?_⟩
          clear hK K hbp
          iterate 1 (refine wpPlanM_plain rfl (fun K hK => ?_); go_simp; refine hK _ ?_; clear hK K)
          refine wpPlanM_nil ?_
          obtain ⟨y, hy⟩ : ∃ y, y = O.take q := ⟨_, rfl⟩
          have hyl : y.length = q := by rw [hy, List.length_take, hOlH.out, ← hTH.out]; omega
          obtain ⟨YY, hYY⟩ : ∃ Y, Y = bs y := ⟨_, rfl⟩
          have hext : SO.extract 0 q = YY := by rw [hSOH.out, hYY, hy]; exact bs_extract O q
          have hYs : YY.size = q := by rw [hYY, bs_size, hyl]
          have hyH := Lib.hid hy
          have hylH := Lib.hid hyl
          have hYYH := Lib.hid hYY
          obtain ⟨TX, hTX⟩ : ∃ x, x = encP d Gs (filP d z y) z k := ⟨_, rfl⟩
          obtain ⟨tl, htl⟩ : ∃ x, x = TX.length := ⟨_, rfl⟩
          have htlk : tl = k := by rw [htl, hTX, encP_len]
          have CE : Hid (∀ W, CodM W B (d : Int) A n c (g : Int) Gs → Calls Tryd.prog 13 #[cdv (d : Int) A n c (g : Int), .string YY] W fun e w' => (∃ A2 c2, e = .returned (.agg #[.slice A2 tl c2, .int .i64 0]) ∧ Rds w' w'.heap.size A2 (TX.map sv) ∧ ∀ ad, A2 = some ad → W.heap.size ≤ ad.block) ∧ Below W.heap.size W w') := fun W m => by
            have := refEncode7_any (d : Int) (g : Int) Gs n c A y W m hshH.out (by rw [hyl]; omega)
            have h1 : encE (d : Int) (g : Int) Gs y = 0 := by unfold encE; rw [if_pos h0.out, if_neg (by omega)]
            have h2 : encT (d : Int) (g : Int) Gs y = TX := by
              unfold encT
              rw [if_pos h1, Int.toNat_natCast, Int.toNat_natCast, hcnt.out, hyl, ← hzH.out, hTX]
            rw [h1, h2, show sv y = .string YY by rw [hYY]; rfl] at this
            rw [htl]
            exact this
          have hTXg : Hid (∀ t, t < k → TX.getD t [] = pce d Gs (filP d z y) z t) := fun t ht => by rw [hTX]; exact rt_get ht
          have hTXl : Hid (TX.length = k) := htl.symm.trans htlk
          subst htlk
          clear hTX htl hy hyl hYY
          unfold cdv at CE
          go_wp2_with fail
          go_cut [15] from 80 to 84 (fun v W => Hid (AgR w22 tl TX v W))
          case first J KK hJ hKK =>
            refine wp_region_planH (fun W => Below w22.heap.size w22 W) [0, 1, 2, 3] 3 (by kernel_rfl) (by kernel_rfl) (by kernel_rfl) (by kernel_rfl) (by intro c a d v w h; cases d <;> exact h) ((Below.refl _ _).drew) ?_
            change wpPlanH _ _ _ _ _ _ _ _ _ w22.drew
            refine wpPlanH_runW rfl (by rfl) _ (fun q => load_run 24 _ rfl w.heap.size 0 rfl [.int .i64 d, .slice A n c, .int .i64 g] _ hun.out rfl hdd.out q.world ((Blk.below X.out q.meets X.out.lt).range 0 _ (take_all0 _))) ?_
            iterate 3 (refine wpPlanH_plain rfl (fun K hK => ?_); go_simp; first | refine hK _ ?_ | refine ⟨_, fun _ => rfl, hK _ ?_⟩; clear hK K)
            have F0 : Hid (Below w22.heap.size w22 w22.drew) := (Below.refl _ _).drew
            have Ma := Lib.hid (M.out.keep F0.out)
            generalize w22.drew = u0 at F0 Ma ⊢
            refine wpAnyH_each (rs := [4, 5]) (by kernel_rfl) (by decide) (fun K hK i hi => ?_)
            simp only [List.mem_cons, List.not_mem_nil, or_false] at hi
            rcases hi with rfl | rfl
            · skip
              refine wpOp_listed rfl ?_
              go_wp2_with fail
              refine (CE.out u0 Ma.out).mono ?_
              rintro e u0x ⟨⟨A2, c2, rfl, hRd, hfr⟩, hb⟩
              replace F0 : Hid (Below w22.heap.size w22 u0x) := F0.out.trans (hb.mono F0.out.size)
              replace Ma := Lib.hid (Ma.out.keep hb)
              have R2 := Lib.hid hRd
              clear hRd hfr
              go_wp2_with fail
              refine postH_normal (hK _ _ _ F0.out ?_)
              clear hK K hb
              refine wpAnyH_each (rs := [5]) (by kernel_rfl) (by decide) (fun K hK i hi => ?_)
              obtain rfl := List.mem_singleton.1 hi
              refine wpOp_listed rfl ?_
              go_wp2_with fail
              obtain ⟨gL, hgL⟩ : ∃ x, x = u0x.heap.size := ⟨_, rfl⟩
              have hb : Below u0x.heap.size u0x (u0x.alloc (.cells #[.slice none 0 0, .int .i64 0] 36)) := (Below.refl _ _).alloc (Nat.le_refl _) _
              have BX : Hid (Blk (u0x.alloc (.cells #[.slice none 0 0, .int .i64 0] 36)) gL [.slice none 0 0, .int .i64 0] 36) := by show Blk _ _ _ _; rw [hgL]; exact Blk.new _ [_, _] _
              have hgl : Hid (w22.heap.size ≤ gL) := by show _ ≤ _; rw [hgL]; exact F0.out.size
              replace F0 : Hid (Below w22.heap.size w22 (u0x.alloc (.cells #[.slice none 0 0, .int .i64 0] 36))) := F0.out.trans (hb.mono F0.out.size)
              replace Ma := Lib.hid (Ma.out.keep hb)
              have R3 := Lib.hid (R2.out.below hb)
              rw [← hgL]
              refine postH_normal (hK _ _ _ F0.out ?_)
              rw [← hgL] at R3
              clear hK K hb hgL
              generalize u0x.alloc _ = u0xx at F0 Ma BX R3 ⊢
              refine wpAnyH_each (rs := [6]) (by kernel_rfl) (by decide) (fun K hK i hi => ?_)
              obtain rfl := List.mem_singleton.1 hi
              refine wpOp_listed rfl ?_
              have hK2 : ∀ wx, Only gL u0xx wx → Rds wx wx.heap.size A2 (TX.map sv) := fun wx ho => by rw [ho.size]; exact (R3.out.only7 ho (Nat.le_refl _)).more (Nat.le_of_lt BX.out.lt)
              have hK2H := Lib.hid hK2
              clear hK2
              refine wpList_row_store rfl 36 _ _ rfl [.slice A2 tl c2, .int .i64 0] rfl rfl BX.out size_lst7 rfl (made_one _ _ _ _) ?_
              intro u0xxx hw6 ho6
              have BXn : Hid (Blk u0xxx gL [.slice A2 tl c2, .int .i64 0] 36) := hw6.out
              replace F0 : Hid (Below w22.heap.size w22 u0xxx) := F0.out.trans (ho6.below hgl.out)
              have Rf := Lib.hid (hK2H.out _ ho6)
              refine wpList_end (postH_normal (hK _ _ _ F0.out ?_))
              clear hK K hw6 ho6 Ma BX
              refine wpAnyH_done (by kernel_rfl) ?_ _
              try go_wp2_with fail
              go_meet
              exact ⟨gL, A2, c2, by first | rfl | (go_simp; done), hgl.out, BXn.out, Rf.out, F0.out⟩
            · skip
              refine wpOp_listed rfl ?_
              go_wp2_with fail
              obtain ⟨gL, hgL⟩ : ∃ x, x = u0.heap.size := ⟨_, rfl⟩
              have hb : Below u0.heap.size u0 (u0.alloc (.cells #[.slice none 0 0, .int .i64 0] 36)) := (Below.refl _ _).alloc (Nat.le_refl _) _
              have BX : Hid (Blk (u0.alloc (.cells #[.slice none 0 0, .int .i64 0] 36)) gL [.slice none 0 0, .int .i64 0] 36) := by show Blk _ _ _ _; rw [hgL]; exact Blk.new _ [_, _] _
              have hgl : Hid (w22.heap.size ≤ gL) := by show _ ≤ _; rw [hgL]; exact F0.out.size
              replace F0 : Hid (Below w22.heap.size w22 (u0.alloc (.cells #[.slice none 0 0, .int .i64 0] 36))) := F0.out.trans (hb.mono F0.out.size)
              replace Ma := Lib.hid (Ma.out.keep hb)
              rw [← hgL]
              refine postH_normal (hK _ _ _ F0.out ?_)
              clear hK K hb hgL
              generalize u0.alloc _ = u0x at F0 Ma BX ⊢
              refine wpAnyH_each (rs := [4]) (by kernel_rfl) (by decide) (fun K hK i hi => ?_)
              obtain rfl := List.mem_singleton.1 hi
              refine wpOp_listed rfl ?_
              go_wp2_with fail
              refine (CE.out u0x Ma.out).mono ?_
              rintro e u0xx ⟨⟨A2, c2, rfl, hRd, hfr⟩, hb⟩
              replace F0 : Hid (Below w22.heap.size w22 u0xx) := F0.out.trans (hb.mono F0.out.size)
              replace Ma := Lib.hid (Ma.out.keep hb)
              have hne : Hid (∀ ad, A2 = some ad → ad.block ≠ gL) := fun ad ha => by have := hfr ad ha; have := BX.out.lt; omega
              replace BX := Lib.hid (BX.out.below hb BX.out.lt)
              have R2 := Lib.hid hRd
              clear hRd hfr
              go_wp2_with fail
              refine postH_normal (hK _ _ _ F0.out ?_)
              clear hK K hb
              refine wpAnyH_each (rs := [6]) (by kernel_rfl) (by decide) (fun K hK i hi => ?_)
              obtain rfl := List.mem_singleton.1 hi
              refine wpOp_listed rfl ?_
              have hK2 : ∀ wx, Only gL u0xx wx → Rds wx wx.heap.size A2 (TX.map sv) := fun wx ho => R2.out.apart (row := some gL) ⟨ho.os, ho.tape, ho.output, Nat.le_of_eq ho.size.symm, fun j _ hj => ho.block j (fun e => hj (by rw [e]))⟩ (fun ad ha hh => hne.out ad ha (Option.some.inj hh).symm)
              have hK2H := Lib.hid hK2
              clear hK2
              refine wpList_row_store rfl 36 _ _ rfl [.slice A2 tl c2, .int .i64 0] rfl rfl BX.out size_lst7 rfl (made_one _ _ _ _) ?_
              intro u0xxx hw6 ho6
              have BXn : Hid (Blk u0xxx gL [.slice A2 tl c2, .int .i64 0] 36) := hw6.out
              replace F0 : Hid (Below w22.heap.size w22 u0xxx) := F0.out.trans (ho6.below hgl.out)
              have Rf := Lib.hid (hK2H.out _ ho6)
              refine wpList_end (postH_normal (hK _ _ _ F0.out ?_))
              clear hK K hw6 ho6 Ma BX
              refine wpAnyH_done (by kernel_rfl) ?_ _
              try go_wp2_with fail
              go_meet
              exact ⟨gL, A2, c2, by first | rfl | (go_simp; done), hgl.out, BXn.out, Rf.out, F0.out⟩
          case rest =>
            obtain ⟨gL, A2, c2, rfl, hgl0, BX0, R20, E0⟩ := hcut.out
            have BX := Lib.hid BX0
            have R2 := Lib.hid R20
            have hb := E0
            clear hcut hgl0 BX0 R20 E0
            replace E : Hid (Below w.heap.size w wc) := E.out.trans (hb.mono E.out.size)
            replace M := Lib.hid (M.out.keep hb)
            replace X := Lib.hid (X.out.below hb X.out.lt)
            replace Y := Lib.hid (Y.out.below hb Y.out.lt)
            clear hb
            have ho0 : Hid (AllTo s ps TX 0) := fun t ht => by omega
            have hb0 : Hid (Below wc.heap.size wc wc) := Below.refl _ _
            have hqT0 : 0 ≤ (q : Int) := Int.natCast_nonneg q
            have hqS : (q : Int) ≤ (SO.size : Int) := by omega
            have hqS2 : q ≤ SO.size := by omega
            go_wp2_with fail
            go_loopw [16] (fun x wr => ∃ k : Nat, k ≤ tl ∧ x = .int .i64 k ∧ Hid (AllTo s ps TX k) ∧ Hid (Below wc.heap.size wc wr)) (fun x _ => tl - (intOf x).toNat)
            case atStart => exact ⟨0, by omega, rfl, ho0, hb0⟩
            case round =>
              obtain ⟨k, hk, rfl, hAll, hbw⟩ := hrel
              clear ho0 hb0
              have hb := hbw.out
              replace E : Hid (Below w.heap.size w wr) := E.out.trans (hb.mono E.out.size)
              replace M := Lib.hid (M.out.keep hb)
              replace X := Lib.hid (X.out.below hb X.out.lt)
              replace Y := Lib.hid (Y.out.below hb Y.out.lt)
              replace BX := Lib.hid (BX.out.below hb BX.out.lt)
              replace R2 := Lib.hid ((R2.out.below hb).more hb.size)
              clear hb
              by_cases hkt : k < tl
              rotate_left
              · have tk : ¬ (k : Int) < (tl : Int) := by omega
                obtain rfl : k = tl := by omega
                have hde : Hid (DecR (d : Int) (g : Int) Gs (q : Int) (s : Int) ps y 0) := by
                  refine .inr (.inr (.inr ⟨h0.out, by rw [Int.toNat_natCast, Int.toNat_natCast]; exact hA.out, by rw [Int.toNat_natCast, Int.toNat_natCast, Int.toNat_natCast, hNH.out]; exact hfull.out, .inl ⟨rfl, by rw [Int.toNat_natCast]; exact hylH.out, ?_⟩⟩))
                  rw [Int.toNat_natCast, Int.toNat_natCast, Int.toNat_natCast, Int.toNat_natCast, hNH.out, ← hzH.out]
                  exact fun t ht hb => by rw [← hTXg.out t ht]; exact hAll.out t ht hb
                have hyy : Hid (sv y = .string YY) := by show _ = _; rw [hYYH.out]; rfl
                clear hkt hk
                go_wp2_with (refine wpList_row_store rfl 48 _ _ rfl [.string YY, .int .i64 0] rfl rfl Y.out size_dec7 rfl (two_one _ _) ?_; intro wz hwz hoz)
                exact bodyPost_ret (ret_blk rfl _ wz (g := w.heap.size + 1) rfl hwz.out dd hdu'.out hdr size_dec7) rfl ⟨y, 0, by rw [hyy.out], hde.out, E.out.trans (hoz.below (Nat.le_succ _))⟩
              have tk : (k : Int) < (tl : Int) := by omega
              have tk0 : 0 ≤ (k : Int) := Int.natCast_nonneg k
              have CI := Lib.hid fun W => in07_any s k W hs62 (by omega)
              go_wp2_with fail
              refine (CI.out _).mono ?_
              rintro e wi ⟨rfl, rfl⟩
              cases hbit : s.testBit k with
              | false =>
                have hnx : Hid (AllTo s ps TX (k + 1)) := fun t ht hb => by
                  by_cases e : t = k
                  · subst e; rw [hbit] at hb; cases hb
                  · exact hAll.out t (by omega) hb
                have hbd : Hid (Below wc.heap.size wc wi.drew) := hbw.out.drew
                clear hbit CI
                go_wp2_with fail
                go_quiet (fail)
                go_wp2_with fail
                go_roundw
                case rel => exact ⟨k + 1, by omega, by go_num, hnx, by first | exact hbd | exact below_drewN hbw.out _⟩
                case measure => simp [intOf]; omega
              | true =>
                obtain ⟨pa, YSk, hPA, hpb, hcp, hYSk, _⟩ := hpa.out k hkt
                subst hPA
                have hcp2 : wi.cell? (pa.add k) = some (.string YSk) := by rw [E.out.cell (p := pa.add k) (by rw [add_block]; exact hpb)]; exact hcp
                have gx : TX[k]? = some (TX.getD k []) := by rw [List.getD_eq_getElem?_getD, List.getElem?_eq_getElem (by rw [hTXl.out]; exact hkt)]; rfl
                obtain ⟨XS, hXS⟩ : ∃ X, X = bs (TX.getD k []) := ⟨_, rfl⟩
                obtain ⟨a2, hA2, _, hc2⟩ := R2.out.look (k := k) (u := .string XS) (by rw [List.getElem?_map, gx, hXS]; rfl)
                subst hA2
                have hc2b : wi.cell? (a2.add k) = some (.string XS) := hc2
                have q0 := BX.out.cell (j := 0) rfl
                have hXSH := Lib.hid hXS
                have hYSH := Lib.hid hYSk
                have hbitH := Lib.hid hbit
                clear hXS hYSk hbit gx hc2 hcp CI
                by_cases heq : TX.getD k [] = ps.getD k []
                · have t1 : (XS.toList == YSk.toList) = true := by rw [hXSH.out, hYSH.out, bs_toList, bs_toList, heq]; exact beq_self_eq_true _
                  have hnx : Hid (AllTo s ps TX (k + 1)) := fun t ht hb => by
                    by_cases e : t = k
                    · subst e; exact heq
                    · exact hAll.out t (by omega) hb
                  have hbd : Hid (Below wc.heap.size wc wi.drew) := hbw.out.drew
                  clear heq
                  go_wp2_with fail
                  go_quiet (fail)
                  go_wp2_with fail
                  go_roundw
                  case rel => exact ⟨k + 1, by omega, by go_num, hnx, by first | exact hbd | exact below_drewN hbw.out _⟩
                  case measure => simp [intOf]; omega
                · have t1 : (XS.toList == YSk.toList) = false := by rw [hXSH.out, hYSH.out, bs_toList, bs_toList]; exact beq_eq_false_iff_ne.2 heq
                  have hde : Hid (DecR (d : Int) (g : Int) Gs (q : Int) (s : Int) ps [] 14) := by
                    refine .inr (.inr (.inr ⟨h0.out, by rw [Int.toNat_natCast, Int.toNat_natCast]; exact hA.out, by rw [Int.toNat_natCast, Int.toNat_natCast, Int.toNat_natCast, hNH.out]; exact hfull.out, .inr ⟨rfl, rfl, ?_⟩⟩))
                    rw [Int.toNat_natCast, Int.toNat_natCast, Int.toNat_natCast, Int.toNat_natCast, hNH.out, ← hzH.out]
                    intro x' hx' hP
                    refine heq ?_
                    rw [hTXg.out k hkt]
                    have e1 := hOPH.out (filP d z x') (fil_len0 (by rw [hx', ← hTH.out]; exact hqT)) hP
                    have e2 : y = x' := by rw [hyH.out, e1]; exact fil_take hx' (by rw [← hTH.out]; exact hqT)
                    rw [e2]
                    exact hP k hkt hbitH.out
                  have Yd : Hid (Blk wi.drew (w.heap.size + 1) [.string ⟨#[]⟩, .int .i64 0] 48) := Y.out
                  have Ed : Hid (Below w.heap.size w wi.drew) := E.out.drew
                  clear heq
                  go_wp2_with fail
                  go_quiet (fail)
                  go_wp2_with (refine wpList_row_store rfl 48 _ _ rfl [.string ⟨#[]⟩, .int .i64 14] rfl rfl Yd.out size_dec7 rfl (two_one _ _) ?_; intro wz hwz hoz)
                  exact bodyPost_ret (ret_blk rfl _ wz (g := w.heap.size + 1) rfl hwz.out dd hdu'.out hdr size_dec7) rfl ⟨[], 14, rfl, hde.out, (below_drewN E.out _).trans (hoz.below (Nat.le_succ _))⟩
      have tk : (k : Int) < (pl : Int) := by omega
      have tk0 : 0 ≤ (k : Int) := Int.natCast_nonneg k
      have CI := Lib.hid fun W => in07_any s k W hs62 (by omega)
      go_wp2_with fail
      refine (CI.out _).mono ?_
      rintro e wi ⟨rfl, rfl⟩
      cases hbit : s.testBit k with
      | false =>
        have hnx : Hid (FitTo s z ps (k + 1)) := fun t ht hb => by
          by_cases e : t = k
          · subst e; rw [hbit] at hb; cases hb
          · exact hFit.out t (by omega) hb
        have hbd : Hid (Below w5.heap.size w5 wi.drew) := hbw.out.drew
        clear hbit CI
        go_wp2_with fail
        go_quiet (fail)
        go_wp2_with fail
        go_roundw
        case rel => exact ⟨k + 1, by omega, by go_num, hnx, by first | exact hbd | exact below_drewN hbw.out _⟩
        case measure => simp [intOf]; omega
      | true =>
        obtain ⟨pa, YSk, hPA, hpb, hcp, hYSk, hYl⟩ := hpa.out k hkp
        subst hPA
        obtain ⟨ly, hly⟩ : ∃ x, x = (ps.getD k []).length := ⟨_, rfl⟩
        have hYl2 : (YSk.size : Int) = (ly : Int) := by omega
        have hlyH := Lib.hid hly
        have hbitH := Lib.hid hbit
        clear hbit CI hYSk hYl hly
        go_wp2_with fail
        refine wp_region_planM [] [(true, 0), (true, 1), (true, 2), (true, 3), (true, 4), (true, 5), (true, 6), (true, 7), (true, 8), (false, 9), (true, 10), (true, 11)] (by decide) (by kernel_rfl) (by kernel_rfl) (by decide) (by intro c a d v w h; cases d <;> exact h) ?_
        change wpPlanM _ _ _ _ _ _ wi.drew
        have hb : Below wi.heap.size wi wi.drew := (Below.refl _ _).drew
        generalize hgd : wi.drew = wj at hb ⊢
        clear hgd
        replace hbw := Lib.hid (hbw.out.trans (hb.mono hbw.out.size))
        replace E : Hid (Below w.heap.size w wj) := E.out.trans (hb.mono E.out.size)
        replace M := Lib.hid (M.out.keep hb)
        replace X := Lib.hid (X.out.below hb X.out.lt)
        replace Y := Lib.hid (Y.out.below hb Y.out.lt)
        clear hb
        have yq : ∀ q : ExtOf wj, q.world.cell? (pa.add k) = some (.string YSk) := fun q => by rw [(E.out.trans (q.ext.mono E.out.size)).cell (p := pa.add k) (by rw [add_block]; exact hpb)]; exact hcp
        iterate 7 (refine wpPlanM_plain rfl (fun K hK => ?_); go_simp; refine hK _ ?_; clear hK K)
        refine wpPlanM_runW rfl (by rfl) _ (fun q => load_run 24 _ rfl w.heap.size 0 rfl [.int .i64 d, .slice A n c, .int .i64 g] _ hun.out rfl hdd.out q.world ((Blk.below X.out q.ext X.out.lt).range 0 _ (take_all0 _))) ?_
        iterate 1 (refine wpPlanM_plain rfl (fun K hK => ?_); go_simp; refine hK _ ?_; clear hK K)
        clear yq hcp
        refine wpPlanM_call rfl (fun K hK => ?_)
        go_wp2_with fail
        have C := CZ.out wj M.out
        refine C.mono ?_
        rintro e wl ⟨rfl, hb⟩
        clear C
        have hbp := Lib.hid hb
        replace hbw := Lib.hid (hbw.out.trans (hb.mono hbw.out.size))
        replace E : Hid (Below w.heap.size w wl) := E.out.trans (hb.mono E.out.size)
        replace M := Lib.hid (M.out.keep hb)
        replace X := Lib.hid (X.out.below hb X.out.lt)
        replace Y := Lib.hid (Y.out.below hb Y.out.lt)
        clear hb
        go_wp2_with fail
        refine planPostL_normal ⟨.inr hbp.out, hK _ _ ?_⟩
        clear hK K hbp
        by_cases hlz : ly = z
        · have tz : ((ly : Int) != (z : Int)) = false := by simp; omega
          have hnx : Hid (FitTo s z ps (k + 1)) := fun t ht hb => by
            by_cases e : t = k
            · subst e; rw [← hlyH.out]; exact hlz
            · exact hFit.out t (by omega) hb
          clear hlz
          iterate 2 (refine wpPlanM_plain rfl (fun K hK => ?_); go_simp; refine hK _ ?_; clear hK K)
          refine wpPlanM_nil ?_
          go_wp2_with fail
          go_roundw
          case rel => exact ⟨k + 1, by omega, by go_num, hnx, hbw⟩
          case measure => simp [intOf]; omega
        · have tz : ((ly : Int) != (z : Int)) = true := by simp; omega
          have hde : Hid (DecR (d : Int) (g : Int) Gs (q : Int) (s : Int) ps [] 1) := hAn.out (hFn.out k hkp hbitH.out (by rw [← hlyH.out]; exact hlz))
          clear hlz
          iterate 2 (refine wpPlanM_plain rfl (fun K hK => ?_); go_simp; refine hK _ ?_; clear hK K)
          refine wpPlanM_nil ?_
          go_wp2_with (refine wpList_row_store rfl 48 _ _ rfl [.string ⟨#[]⟩, .int .i64 1] rfl rfl Y.out size_dec7 rfl (two_one _ _) ?_; intro wz hwz hoz)
          exact bodyPost_ret (ret_blk rfl _ wz (g := w.heap.size + 1) rfl hwz.out dd hdu'.out hdr size_dec7) rfl ⟨[], 1, rfl, hde.out, E.out.trans (hoz.below (Nat.le_succ _))⟩
end Go.Proofs.YtcnljemnkhmfcaaDoor

namespace Go.Proofs.YtcnljemnkhmfcaaDoor
set_option linter.unusedVariables false
set_option linter.unusedSimpArgs false
open Go.RowKit

theorem dec_same {D G : Int} {Gs : List (List Int)} {nn mk : Int} {ps : List (List UInt8)} {x x' : List UInt8} {E E' : Int} (h : DecR D G Gs nn mk ps x E) (h' : DecR D G Gs nn mk ps x' E') : x = x' ∧ E = E' := by
  rcases h with ⟨a1, a2, a3⟩ | ⟨a1, a2, a3, a4⟩ | ⟨a1, a2, a3, a4, a5⟩ | ⟨a1, a2, a3, a4⟩
  · rcases h' with ⟨c1, c2, c3⟩ | ⟨c1, _⟩ | ⟨c1, _⟩ | ⟨c1, _⟩
    · exact ⟨a3.trans c3.symm, a2.trans c2.symm⟩
    all_goals exact absurd c1 a1
  · rcases h' with ⟨c1, _⟩ | ⟨c1, c2, c3, c4⟩ | ⟨c1, c2, _⟩ | ⟨c1, c2, _⟩
    · exact absurd a1 c1
    · exact ⟨a4.trans c4.symm, a3.trans c3.symm⟩
    all_goals exact absurd c2 a2
  · rcases h' with ⟨c1, _⟩ | ⟨c1, c2, _⟩ | ⟨c1, c2, c3, c4, c5⟩ | ⟨c1, c2, c3, _⟩
    · exact absurd a1 c1
    · exact absurd a2 c2
    · exact ⟨a5.trans c5.symm, a4.trans c4.symm⟩
    · exact absurd c3 a3
  · rcases h' with ⟨c1, _⟩ | ⟨c1, c2, _⟩ | ⟨c1, c2, c3, _⟩ | ⟨c1, c2, c3, c4⟩
    · exact absurd a1 c1
    · exact absurd a2 c2
    · exact absurd a3 c3
    · obtain ⟨b1, b2, b3, b4, b5, b6⟩ := cchk_ok a1
      have hm := (szP_mul (D := D.toNat) (n := nn.toNat) (by omega)).1
      rcases a4 with ⟨e1, e2, e3⟩ | ⟨e1, e2, e3⟩
      · rcases c4 with ⟨f1, f2, f3⟩ | ⟨f1, f2, f3⟩
        · have hq := has_uniq a3 e3 f3 (fil_len0 (by rw [e2]; exact hm)) (fil_len0 (by rw [f2]; exact hm))
          have g1 := fil_take (z := szP D.toNat nn.toNat) e2 hm
          have g2 := fil_take (z := szP D.toNat nn.toNat) f2 hm
          rw [hq] at g1
          exact ⟨g1.symm.trans g2, e1.trans f1.symm⟩
        · exact absurd e3 (f3 x e2)
      · rcases c4 with ⟨f1, f2, f3⟩ | ⟨f1, f2, f3⟩
        · exact absurd f3 (e3 x' f2)
        · exact ⟨e2.trans f2.symm, e1.trans f1.symm⟩
/-- The first k pieces are short. -/
def ShortTo (ps : List (List UInt8)) (k : Nat) : Prop := ∀ t y, t < k → ps[t]? = some y → y.length ≤ 30

set_option maxRecDepth 100000 in
set_option maxHeartbeats 16000000 in
theorem decodes_walk (D : Int) (A : Option Addr) (n c : Nat) (G : Int) (Gs : List (List Int)) (nn mk : Int) (PA : Option Addr) (pc : Nat) (ps : List (List UInt8)) (w : World) (hM : CodM w w.heap.size D A n c G Gs) (hS : SlS w PA ps.length pc ps) (ht : PTab 0 w) :
    Calls Tryd.prog 4 #[cdv D A n c G, .agg #[.int .i64 nn, .int .i64 mk], .slice PA ps.length pc] w fun e w' => e = .returned (.bool true) ∧ Below w.heap.size w w' := by
  have hdd := Lib.hid size_cod
  have hun : Hid (Tryd.prog.underlying 24 = _) := Tryd.underlying24
  obtain ⟨W1, hW1⟩ : ∃ W1, W1 = (w.alloc (.cells #[.int .i64 D, .slice A n c, .int .i64 G] 24)).alloc (.cells #[.int .i64 nn, .int .i64 mk] 44) := ⟨_, rfl⟩
  have E : Hid (Below w.heap.size w W1) := by show Below _ _ _; rw [hW1]; exact ((Below.refl _ _).alloc (Nat.le_refl _) _).alloc (by simp) _
  have X : Hid (Blk W1 w.heap.size [.int .i64 D, .slice A n c, .int .i64 G] 24) := by show Blk _ _ _ _; rw [hW1]; exact (Blk.new _ [_, _, _] _).alloc _
  have Y : Hid (Blk W1 (w.heap.size + 1) [.int .i64 nn, .int .i64 mk] 44) := by show Blk _ _ _ _; rw [hW1]; exact (Blk.new _ [_, _] _).at (by simp)
  have M := Lib.hid (hM.keep E.out)
  have T := Lib.hid (ht.on E.out)
  have hlen : Hid (n = Gs.length) := hM.len
  have hW' := Lib.hid hW1
  have hsmall : n ≤ 140737488355328 := hM.small
  have hrH := Lib.hid hS.rds
  have hcapH := Lib.hid hS.cap
  have hreach := hS.reach
  have hszH := Lib.hid hS.size
  obtain ⟨pl, hplv⟩ : ∃ x, x = ps.length := ⟨_, rfl⟩
  have hplH := Lib.hid hplv
  rw [← hplv] at hreach ⊢
  have CF := few07_any D G 20 n c Gs A W1 M.out
  rw [hW1] at CF
  clear hM ht hW1 hplv hS
  unfold cdv at CF ⊢
  have p0 := X.out.cell (j := 0) rfl
  have p1 := X.out.cell (j := 1) rfl
  have p2 := X.out.cell (j := 2) rfl
  rw [hW'.out] at p0 p1 p2
  go_enter Tryd.func4, Tryd.ntmps4
  go_wp2_with fail
  refine CF.mono ?_
  rintro e w2 ⟨⟨b, rfl, hbf⟩, hb⟩
  have hb : Below W1.heap.size W1 w2 := by rw [hW'.out]; exact hb
  have hbfH := Lib.hid hbf
  clear CF hbf hW'
  clear p0 p1 p2
  replace E : Hid (Below w.heap.size w w2) := E.out.trans (hb.mono E.out.size)
  replace M := Lib.hid (M.out.keep hb)
  replace T := Lib.hid (T.out.on hb)
  replace X := Lib.hid (X.out.below hb X.out.lt)
  replace Y := Lib.hid (Y.out.below hb Y.out.lt)
  clear hb
  cases b with
  | false =>
    clear hbfH
    go_wp2_with fail
    refine (sanity_any7 _ T.out).mono ?_
    rintro e w3 ⟨rfl, hb⟩
    have Ez : Hid (Below w.heap.size w w3) := E.out.trans (hb.mono E.out.size)
    clear hb
    go_wp2_with fail
    go_ret
    exact ⟨by first | rfl | (go_simp; done), Ez.out⟩
  | true =>
    have hF := hbfH.out.1 rfl
    have hshH : Hid (∀ g ∈ Gs, g.length ≤ 1000000) := fun g hg => by have := hF.2 g hg; omega
    clear hF hbfH
    by_cases c1 : 30 < pl
    · have t1 : (30 : Int) < (pl : Int) := by omega
      clear c1
      go_wp2_with fail
      refine (sanity_any7 _ T.out).mono ?_
      rintro e w3 ⟨rfl, hb⟩
      have Ez : Hid (Below w.heap.size w w3) := E.out.trans (hb.mono E.out.size)
      clear hb
      go_wp2_with fail
      go_ret
      exact ⟨by first | rfl | (go_simp; done), Ez.out⟩
    have t1 : ¬ (30 : Int) < (pl : Int) := by omega
    have hs0 : Hid (ShortTo ps 0) := fun t y ht => by omega
    go_wp2_with fail
    go_loopw [27] (fun x wr => ∃ k : Nat, k ≤ pl ∧ x = .int .i64 k ∧ Hid (ShortTo ps k) ∧ w2 = wr) (fun x _ => pl - (intOf x).toNat)
    case atStart => exact ⟨0, by omega, rfl, hs0, rfl⟩
    case round =>
      obtain ⟨k, hk, rfl, hSh, rfl⟩ := hrel
      clear hs0
      by_cases hkp : k < pl
      · have tk : (k : Int) < (pl : Int) := by omega
        obtain ⟨y, hy⟩ : ∃ y, ps[k]? = some y := ⟨_, List.getElem?_eq_getElem (by rw [← hplH.out]; exact hkp)⟩
        obtain ⟨pa, hPA, hpb, hcp0⟩ := hrH.out.look (k := k) (u := sv y) (by rw [List.getElem?_map, hy]; rfl)
        subst hPA
        obtain ⟨YS, hYS⟩ : ∃ Y, Y = bs y := ⟨_, rfl⟩
        have hcp : w2.cell? (pa.add k) = some (.string YS) := by rw [E.out.cell (p := pa.add k) (by rw [add_block]; exact hpb), hYS]; exact hcp0
        have hYs : YS.size = y.length := by rw [hYS, bs_size]
        obtain ⟨ly, hly⟩ : ∃ x, x = y.length := ⟨_, rfl⟩
        have hYs2 : (YS.size : Int) = (ly : Int) := by omega
        have hyH := Lib.hid hy
        have hlyH := Lib.hid hly
        clear hy hpb hcp0 hYS hYs hly
        by_cases h30 : 30 < ly
        · have tl : (30 : Int) < (ly : Int) := by omega
          clear h30
          go_wp2_with fail
          refine (sanity_any7 _ T.out).mono ?_
          rintro e w3 ⟨rfl, hb⟩
          have Ez : Hid (Below w.heap.size w w3) := E.out.trans (hb.mono E.out.size)
          clear hb
          go_wp2_with fail
          go_ret
          exact ⟨by first | rfl | (go_simp; done), Ez.out⟩
        · have tl : ¬ (30 : Int) < (ly : Int) := by omega
          have hnx : Hid (ShortTo ps (k + 1)) := fun t y' ht hh => by
            by_cases e : t = k
            · subst e; rw [hyH.out] at hh; obtain rfl := Option.some.inj hh; have := hlyH.out; omega
            · exact hSh.out t y' (by omega) hh
          clear h30
          go_wp2_with fail
          go_roundw
          case rel => exact ⟨k + 1, by omega, by go_num, hnx, trivial⟩
          case measure => simp [intOf]; omega
      have tk : ¬ (k : Int) < (pl : Int) := by omega
      obtain rfl : k = pl := by omega
      have hpz : Hid (∀ p ∈ ps, p.length ≤ 1000000) := fun p hp => by
        obtain ⟨t, ht⟩ := List.getElem?_of_mem hp
        have := hSh.out t p (by rw [hplH.out]; exact (List.getElem?_eq_some_iff.1 ht).1) ht
        omega
      clear hkp hk hSh
      have a0 := Y.out.cell (j := 0) rfl
      have a1 := Y.out.cell (j := 1) rfl
      obtain ⟨bR, hbR⟩ : ∃ b : Bool, b = true ↔ RecP D Gs G mk := by
        by_cases h : RecP D Gs G mk
        · exact ⟨true, ⟨fun _ => h, fun _ => rfl⟩⟩
        · exact ⟨false, ⟨fun h2 => (by cases h2), fun h2 => absurd h2 h⟩⟩
      have CR : Hid (∀ W, CodM W w.heap.size D A n c G Gs → PTab 0 W → Calls Tryd.prog 24 #[.agg #[.int .i64 D, .slice A n c, .int .i64 G], .int .i64 mk] W fun e w' => e = .returned (.bool bR) ∧ Below W.heap.size W w') := fun W m t => by
        refine (recoverable_any D G mk Gs n c A W m t).mono ?_
        rintro e w' ⟨⟨b, rfl, hb⟩, h⟩
        have : b = bR := by rw [Bool.eq_iff_iff, hb, hbR]
        rw [this]
        exact ⟨rfl, h⟩
      have CR2 : Hid (∀ W, CodM W w.heap.size D A n c G Gs → Calls Tryd.prog 25 #[.agg #[.int .i64 D, .slice A n c, .int .i64 G], .int .i64 mk] W fun e w' => e = .returned (.bool bR) ∧ Below W.heap.size W w') := fun W m => by
        refine (refRecoverable7_any D G mk Gs n c A W m hshH.out).mono ?_
        rintro e w' ⟨⟨b, rfl, hb⟩, h⟩
        have : b = bR := by rw [Bool.eq_iff_iff, hb, hbR]
        rw [this]
        exact ⟨rfl, h⟩
      have hbb : (bR == bR) = true := by cases bR <;> rfl
      have CD : Hid (∀ W, Below w.heap.size w W → CodM W w.heap.size D A n c G Gs → PTab 0 W → Calls Tryd.prog 22 #[.agg #[.int .i64 D, .slice A n c, .int .i64 G], .int .i64 nn, .int .i64 mk, .slice PA k pc] W (DecEnd7 D G Gs nn mk ps W)) := fun W hW m t => by
        have := decode_any D G nn mk Gs n c A PA ps W m t ((hrH.out.below hW).more hW.size) (by rw [← hplH.out]; omega) hcapH.out
        rw [← hplH.out] at this
        exact this
      have CD2 : Hid (∀ W, Below w.heap.size w W → CodM W w.heap.size D A n c G Gs → Calls Tryd.prog 23 #[.agg #[.int .i64 D, .slice A n c, .int .i64 G], .int .i64 nn, .int .i64 mk, .slice PA k pc] W (Dec7End D G Gs nn mk ps W)) := fun W hW m => by
        have := refDecode7_any (pc := pc) D G nn mk Gs n c A PA ps W m hshH.out ((hrH.out.below hW).more hW.size) (by rw [← hplH.out]; omega) hpz.out
        rw [← hplH.out] at this
        exact this
      clear hbR
      go_wp2_with fail
      go_quiet (fail)
      clear a0 a1
      have hb : Below w2.heap.size w2 (w2.drewN nq) := below_drewN (Below.refl _ _) _
      generalize w2.drewN nq = w3 at hb ⊢
      replace E : Hid (Below w.heap.size w w3) := E.out.trans (hb.mono E.out.size)
      replace M := Lib.hid (M.out.keep hb)
      replace T := Lib.hid (T.out.on hb)
      replace X := Lib.hid (X.out.below hb X.out.lt)
      replace Y := Lib.hid (Y.out.below hb Y.out.lt)
      clear hb
      have p0 := X.out.cell (j := 0) rfl
      have p1 := X.out.cell (j := 1) rfl
      have p2 := X.out.cell (j := 2) rfl
      go_wp2_with fail
      have C := CD.out w3 E.out M.out T.out
      try unfold cdv at C
      refine C.mono ?_
      rintro e w4 ⟨x, EE, rfl, hDr, hb⟩
      clear C
      clear p0 p1 p2
      replace E : Hid (Below w.heap.size w w4) := E.out.trans (hb.mono E.out.size)
      replace M := Lib.hid (M.out.keep hb)
      replace T := Lib.hid (T.out.on hb)
      replace X := Lib.hid (X.out.below hb X.out.lt)
      replace Y := Lib.hid (Y.out.below hb Y.out.lt)
      clear hb
      have hDrH := Lib.hid hDr
      clear hDr
      obtain ⟨XS, hXS⟩ : ∃ X, X = bs x := ⟨_, rfl⟩
      have hXSH : Hid (sv x = .string XS) := by show _ = _; rw [hXS]; rfl
      rw [hXSH.out]
      clear hXS
      have p0 := X.out.cell (j := 0) rfl
      have p1 := X.out.cell (j := 1) rfl
      have p2 := X.out.cell (j := 2) rfl
      go_wp2_with fail
      have C := CD2.out w4 E.out M.out
      refine C.mono ?_
      rintro e w5 ⟨x2, E2, rfl, hDr2, hb⟩
      clear C
      obtain ⟨rfl, rfl⟩ := dec_same hDrH.out hDr2
      rw [hXSH.out]
      clear hDr2 hDrH
      clear p0 p1 p2
      replace E : Hid (Below w.heap.size w w5) := E.out.trans (hb.mono E.out.size)
      replace M := Lib.hid (M.out.keep hb)
      replace T := Lib.hid (T.out.on hb)
      replace X := Lib.hid (X.out.below hb X.out.lt)
      replace Y := Lib.hid (Y.out.below hb Y.out.lt)
      clear hb
      obtain ⟨w8, hw8⟩ : ∃ x, x = w5.alloc (.cells #[.string XS, .int .i64 EE] 48) := ⟨_, rfl⟩
      obtain ⟨g8, hg8⟩ : ∃ x, x = w5.heap.size := ⟨_, rfl⟩
      have Z : Hid (Blk w8 g8 [.string XS, .int .i64 EE] 48) := by show Blk _ _ _ _; rw [hw8, hg8]; exact Blk.new _ [_, _] _
      have hb8 : Hid (Below w5.heap.size w5 w8) := by show Below _ _ _; rw [hw8]; exact (Below.refl _ _).alloc (Nat.le_refl _) _
      have hw8H := Lib.hid hw8
      clear hw8
      have p0 := X.out.cell (j := 0) rfl
      have p1 := X.out.cell (j := 1) rfl
      have p2 := X.out.cell (j := 2) rfl
      go_wp2_with fail
      generalize hx : World.alloc _ _ = Wx
      have hW8 : w8 = Wx := by rw [← hx, hw8H.out]
      clear hx hw8H
      subst hW8
      rw [← hg8]
      clear p0 p1 p2
      have hb := hb8.out
      clear hb8 hg8
      replace E : Hid (Below w.heap.size w w8) := E.out.trans (hb.mono E.out.size)
      replace M := Lib.hid (M.out.keep hb)
      replace T := Lib.hid (T.out.on hb)
      replace X := Lib.hid (X.out.below hb X.out.lt)
      replace Y := Lib.hid (Y.out.below hb Y.out.lt)
      clear hb
      refine wp_region_planM [] [(false, 0), (true, 1), (true, 2), (true, 3), (true, 5), (true, 6), (false, 4), (false, 7), (true, 8), (true, 9), (true, 10), (true, 11), (true, 12), (true, 13), (true, 14), (true, 15), (true, 16), (true, 17), (true, 18), (true, 19), (true, 20), (true, 21), (true, 22)] (by decide) (by kernel_rfl) (by kernel_rfl) (by decide) (by intro c a d v w h; cases d <;> exact h) ?_
      change wpPlanM _ _ _ _ _ _ w8.drew
      have hb : Below w8.heap.size w8 w8.drew := (Below.refl _ _).drew
      generalize hgd : w8.drew = w9 at hb ⊢
      clear hgd
      replace E : Hid (Below w.heap.size w w9) := E.out.trans (hb.mono E.out.size)
      replace M := Lib.hid (M.out.keep hb)
      replace T := Lib.hid (T.out.on hb)
      replace X := Lib.hid (X.out.below hb X.out.lt)
      replace Y := Lib.hid (Y.out.below hb Y.out.lt)
      replace Z := Lib.hid (Z.out.below hb Z.out.lt)
      clear hb
      refine wpPlanM_call rfl (fun K hK => ?_)
      go_wp2_with fail
      have C := sanity_any7 w9 T.out
      refine C.mono ?_
      rintro e w10 ⟨rfl, hb⟩
      clear C
      have hbp := Lib.hid hb
      replace E : Hid (Below w.heap.size w w10) := E.out.trans (hb.mono E.out.size)
      replace M := Lib.hid (M.out.keep hb)
      replace T := Lib.hid (T.out.on hb)
      replace X := Lib.hid (X.out.below hb X.out.lt)
      replace Y := Lib.hid (Y.out.below hb Y.out.lt)
      replace Z := Lib.hid (Z.out.below hb Z.out.lt)
      clear hb
      go_wp2_with fail
      refine planPostL_normal ⟨.inr hbp.out, hK _ _ ?_⟩
      clear hK K hbp
      iterate 1 (refine wpPlanM_plain rfl (fun K hK => ?_); go_simp; refine hK _ ?_; clear hK K)
      refine wpPlanM_runW rfl (by rfl) _ (fun q => load_run 24 _ rfl w.heap.size 0 rfl [.int .i64 D, .slice A n c, .int .i64 G] _ hun.out rfl hdd.out q.world ((Blk.below X.out q.ext X.out.lt).range 0 _ (take_all0 _))) ?_
      iterate 1 (refine wpPlanM_plain rfl (fun K hK => ?_); go_simp; refine hK _ ?_; clear hK K)
      refine wpPlanM_runW rfl (by rfl) _ (fun q => load_run 24 _ rfl w.heap.size 0 rfl [.int .i64 D, .slice A n c, .int .i64 G] _ hun.out rfl hdd.out q.world ((Blk.below X.out q.ext X.out.lt).range 0 _ (take_all0 _))) ?_
      iterate 1 (refine wpPlanM_plain rfl (fun K hK => ?_); go_simp; refine hK _ ?_; clear hK K)
      refine wpPlanM_call rfl (fun K hK => ?_)
      go_wp2_with fail
      have C := CR.out w10 M.out T.out
      refine C.mono ?_
      rintro e w11 ⟨rfl, hb⟩
      clear C
      have hbp := Lib.hid hb
      replace E : Hid (Below w.heap.size w w11) := E.out.trans (hb.mono E.out.size)
      replace M := Lib.hid (M.out.keep hb)
      replace T := Lib.hid (T.out.on hb)
      replace X := Lib.hid (X.out.below hb X.out.lt)
      replace Y := Lib.hid (Y.out.below hb Y.out.lt)
      replace Z := Lib.hid (Z.out.below hb Z.out.lt)
      clear hb
      go_wp2_with fail
      refine planPostL_normal ⟨.inr hbp.out, hK _ _ ?_⟩
      clear hK K hbp
      refine wpPlanM_call rfl (fun K hK => ?_)
      go_wp2_with fail
      have C := CR2.out w11 M.out
      refine C.mono ?_
      rintro e w12 ⟨rfl, hb⟩
      clear C
      have hbp := Lib.hid hb
      replace E : Hid (Below w.heap.size w w12) := E.out.trans (hb.mono E.out.size)
      replace M := Lib.hid (M.out.keep hb)
      replace T := Lib.hid (T.out.on hb)
      replace X := Lib.hid (X.out.below hb X.out.lt)
      replace Y := Lib.hid (Y.out.below hb Y.out.lt)
      replace Z := Lib.hid (Z.out.below hb Z.out.lt)
      clear hb
      go_wp2_with fail
      refine planPostL_normal ⟨.inr hbp.out, hK _ _ ?_⟩
      clear hK K hbp
      have hxx : (XS.toList == XS.toList) = true := by simp
      have hee : (EE == EE) = true := by simp
      have yq1 : ∀ q : ExtOf w12, q.world.cell? ⟨g8, 1, none⟩ = some (.int .i64 EE) := fun q => (Blk.below Z.out q.ext Z.out.lt).cell (j := 1) rfl
      have yq0 : ∀ q : ExtOf w12, q.world.cell? ⟨g8, 0, none⟩ = some (.string XS) := fun q => (Blk.below Z.out q.ext Z.out.lt).cell (j := 0) rfl
      iterate 15 (refine wpPlanM_plain rfl (fun K hK => ?_); go_simp; refine hK _ ?_; clear hK K)
      clear yq0 yq1
      refine wpPlanM_nil ?_
      go_wp2_with fail
      go_ret
      exact ⟨by first | rfl | (go_simp; done), E.out⟩
end Go.Proofs.YtcnljemnkhmfcaaDoor
