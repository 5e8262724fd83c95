/-
  Contracts: the reference's byte strings and lists.
-/
import Derived.Test.YthnbiegpfjnadaaRef
import Derived.Test.YthnbiegpfjnadaaRefG
import Derived.Test.YthnbiegpfjnadaaDig
import Derived.Test.YthnbiegpfjnadaaSan
namespace Go.Proofs.Ythnbiegpfjnadaa
open Go.RowKit

set_option maxRecDepth 100000 in
set_option maxHeartbeats 400000 in
theorem refLength_any (l : List UInt8) (un : Nat) (hu : 0 < un) (hu2 : un < 1000) (A : Option Addr) (c : Nat) (w : World) (hr : Rds w w.heap.size A (l.map bv)) (hl : l.length ≤ maxLen) :
    Calls Try.prog 48 #[.slice A l.length c, .int .i64 un] w (LenEnd l un w) := by
  have H := Lib.hid (refGetInt_any l A c w hr hl)
  have hus := (Wm.getInt_used l).1
  unfold maxLen at hl
  rcases hg : Wm.getInt l with ⟨n, u, x⟩
  rw [hg] at hus
  have D := Lib.hid hg
  have hfit : Wm.Fits n := by have := Wm.getInt_fits l; rwa [hg] at this
  obtain ⟨hf1, hf2⟩ := hfit
  have R : Hid (Wm.getLen l un = if x ≠ 0 then (0, 0, x) else if n < 0 then (0, 0, 11) else if (((l.length - u) / un : Nat) : Int) < n then (0, 0, 10) else (n, u, 0)) := by
    show _ = _
    unfold Wm.getLen; rw [hg]
  clear hg
  simp only at hus
  by_cases hx : x = 0
  · have t : (x != 0) = false := by simp; omega
    by_cases hn : n < 0
    · have R' : Hid (Wm.getLen l un = (0, 0, 11)) := by show _ = _; rw [R.out, if_neg (by omega), if_pos hn]
      clear R hx
      go_enter Try.func48, Try.ntmps48
      go_wp2_with fail
      refine H.out.mono ?_
      rintro e w' ⟨rfl, rfl⟩
      rw [D.out]
      go_wp2
      go_ret3
      exact lenEnd R'.out rfl rfl rfl
    · have hq : Hid (((l.length : Int) - u) / un = (((l.length - u) / un : Nat) : Int)) := by
        show _ = _
        rw [show ((l.length : Int) - u) = ((l.length - u : Nat) : Int) from by omega]; rfl
      by_cases hgt : (((l.length - u) / un : Nat) : Int) < n
      · have R' : Hid (Wm.getLen l un = (0, 0, 10)) := by show _ = _; rw [R.out, if_neg (by omega), if_neg hn, if_pos hgt]
        have t2 : ((l.length : Int) - u) / un < n := by rw [hq.out]; exact hgt
        clear R hx hgt
        go_enter Try.func48, Try.ntmps48
        go_wp2_with fail
        refine H.out.mono ?_
        rintro e w' ⟨rfl, rfl⟩
        rw [D.out]
        go_wp2
        go_ret3
        exact lenEnd R'.out rfl rfl rfl
      · have R' : Hid (Wm.getLen l un = (n, u, 0)) := by show _ = _; rw [R.out, if_neg (by omega), if_neg hn, if_neg hgt]
        have t2 : ¬ ((l.length : Int) - u) / un < n := by rw [hq.out]; exact hgt
        clear R hx hgt
        go_enter Try.func48, Try.ntmps48
        go_wp2_with fail
        refine H.out.mono ?_
        rintro e w' ⟨rfl, rfl⟩
        rw [D.out]
        go_wp2
        go_ret3
        exact lenEnd R'.out rfl rfl rfl
  · have t : (x != 0) = true := by simp; omega
    have R' : Hid (Wm.getLen l un = (0, 0, x)) := by show _ = _; rw [R.out, if_pos hx]
    clear R hx
    go_enter Try.func48, Try.ntmps48
    go_wp2_with fail
    refine H.out.mono ?_
    rintro e w' ⟨rfl, rfl⟩
    rw [D.out]
    go_wp2
    go_ret3
    exact lenEnd R'.out rfl rfl rfl

set_option maxRecDepth 100000 in
set_option maxHeartbeats 400000 in
theorem refGetBytes_any (l : List UInt8) (A : Option Addr) (c : Nat) (w : World) (hr : Rds w w.heap.size A (l.map bv)) (hl : l.length ≤ 1000000000000) (hc : l.length ≤ c) :
    Calls Try.prog 27 #[.slice A l.length c] w (GbEnd l w) := by
  have H := Lib.hid (refGetInt_any l A c w hr (by unfold maxLen; omega))
  have hus := (Wm.getInt_used l).1
  rcases hg : Wm.getInt l with ⟨n, u, x⟩
  rw [hg] at hus
  simp only at hus
  have D := Lib.hid hg
  have hfit : Wm.Fits n := by have := Wm.getInt_fits l; rwa [hg] at this
  obtain ⟨hf1, hf2⟩ := hfit
  have R0 : Hid (Wm.getLen l 1 = if x ≠ 0 then (0, 0, x) else if n < 0 then (0, 0, 11) else if (((l.length - u) / 1 : Nat) : Int) < n then (0, 0, 10) else (n, u, 0)) := by
    show _ = _
    unfold Wm.getLen; rw [hg]
  have RB : Hid (∀ m j y, Wm.getLen l 1 = (m, j, y) → Wm.getBytes l = if y ≠ 0 then ([], 0, y) else ((l.drop j).take m.toNat, j + m.toNat, 0)) := by
    intro m j y h
    unfold Wm.getBytes; rw [h]
  clear hg
  by_cases hx : x = 0
  · have t : (x != 0) = false := by simp; omega
    by_cases hn : n < 0
    · have R' := Lib.hid ((RB.out _ _ _ (by rw [R0.out, if_neg (by omega), if_pos hn])).trans (if_pos (by decide)))
      clear R0 RB hx
      go_enter Try.func27, Try.ntmps27
      go_wp2_with fail
      refine H.out.mono ?_
      rintro e w' ⟨rfl, rfl⟩
      rw [D.out]
      go_wp2
      go_ret3
      exact gbEnd R'.out rfl rfl rfl
    · obtain ⟨N, rfl⟩ := Int.eq_ofNat_of_zero_le (show 0 ≤ n by omega)
      by_cases hgt : l.length - u < N
      · have R' := Lib.hid ((RB.out _ _ _ (by rw [R0.out, if_neg (by omega), if_neg hn, if_pos (by rw [Nat.div_one]; omega)])).trans (if_pos (by decide)))
        have t2 : (l.length : Int) - u < N := by omega
        clear R0 RB hx
        go_enter Try.func27, Try.ntmps27
        go_wp2_with fail
        refine H.out.mono ?_
        rintro e w' ⟨rfl, rfl⟩
        rw [D.out]
        go_wp2
        go_ret3
        exact gbEnd R'.out rfl rfl rfl
      · have R' := Lib.hid ((RB.out _ _ _ (by rw [R0.out, if_neg (by omega), if_neg hn, if_neg (by rw [Nat.div_one]; omega)])).trans (if_neg (by decide)))
        have t2 : ¬ (l.length : Int) - u < N := by omega
        have hsum : u + N ≤ l.length := by omega
        have hlen : ((l.drop u).take N).length = N := by rw [List.length_take, List.length_drop]; omega
        have k1 := run_bytes_bs (P := Try.prog) w 28 9 5 Try.underlying28 Try.underlying5 Try.underlying9 (c - u) (by have := (hr.cut (k := u) (cap := c) (by simpa using hc)).take N; rw [← List.map_drop, ← List.map_take] at this; exact this)
        rw [hlen] at k1
        clear R0 RB hx hlen
        go_enter Try.func27, Try.ntmps27
        go_wp2_with fail
        refine H.out.mono ?_
        rintro e w' ⟨rfl, rfl⟩
        rw [D.out]
        go_wp2
        all_goals
          go_ret3
          exact gbEnd R'.out rfl (by simp) rfl
  · have t : (x != 0) = true := by simp; omega
    have R' := Lib.hid ((RB.out _ _ _ (by rw [R0.out, if_pos hx])).trans (if_pos hx))
    clear R0 RB hx
    go_enter Try.func27, Try.ntmps27
    go_wp2_with fail
    refine H.out.mono ?_
    rintro e w' ⟨rfl, rfl⟩
    rw [D.out]
    go_wp2
    go_ret3
    exact gbEnd R'.out rfl rfl rfl

set_option maxRecDepth 100000 in
set_option maxHeartbeats 400000 in
theorem refBytes_any (s : List UInt8) (w : World) (hs : s.length ≤ 1000000000000) : Calls Try.prog 17 #[sv s] w (NewEnd (Wm.encBytes s) w) := by
  have HS := Lib.hid (bs_size s)
  have hel := Wm.enc_len s.length
  have H := Lib.hid (refInt_any (s.length : Int) w ⟨by omega, by omega⟩)
  unfold sv
  generalize hS : bs s = S at HS
  have HS2 := Lib.hid hS
  clear hS
  go_enter Try.func17, Try.ntmps17
  go_wp2_with fail
  rw [HS.out]
  refine H.out.mono ?_
  rintro e w1 ⟨v1, rfl, h2, hb1⟩
  have hsz := hb1.size
  go_wp2_with (at_builtin; go_must (refine push_str rfl _ _ rfl w.heap.size v1 (Wm.enc s.length) s S HS2.out.symm rfl rfl h2 (by omega) (by omega) ?_); intro v2 w2 ho2 hb2)
  go_ret
  exact ⟨_, rfl, ho2, hb1.trans hb2⟩

set_option maxRecDepth 100000 in
set_option maxHeartbeats 1000000 in
theorem refInts_any (xs : List Int) (A : Option Addr) (c : Nat) (w : World) (hr : Rds w w.heap.size A (xs.map iv)) (hl : xs.length ≤ 1000000000000) (hf : ∀ n ∈ xs, Wm.Fits n) :
    Calls Try.prog 19 #[.slice A xs.length c] w (NewEnd (Wm.encList Wm.enc xs) w) := by
  have H := Lib.hid (refInt_any (xs.length : Int) w ⟨by omega, by omega⟩)
  have hel := Wm.enc_len xs.length
  have hF := Lib.hid hf
  clear hf
  go_enter Try.func19, Try.ntmps19
  go_wp2_with fail
  refine H.out.mono ?_
  rintro e w1 ⟨v1, rfl, h2, hb1⟩
  go_wp2
  go_loopw [3, 4] (fun b i wr => ∃ k : Nat, k ≤ xs.length ∧ i = .int .i64 k ∧ OwnB wr w.heap.size b (Wm.enc xs.length ++ (xs.take k).flatMap Wm.enc) ∧ Below w.heap.size w wr) (fun _ i _ => xs.length - (intOf i).toNat)
  case atStart => exact ⟨0, by omega, rfl, by simpa using h2, hb1⟩
  case round =>
    obtain ⟨k, hk, rfl, ho, hbw⟩ := hrel
    have hsz := hbw.size
    by_cases hlt : k < xs.length
    · obtain ⟨ad, rfl, hab, hcell⟩ := (hr.below hbw).look (k := k) (u := iv xs[k]) (by simp [hlt])
      have hfl := Wm.flat_len Wm.enc 10 (xs.take k) (fun x _ => Wm.enc_len x)
      rw [List.length_take] at hfl
      have hfk := hF.out xs[k] (List.getElem_mem hlt)
      have hxl := Wm.enc_len xs[k]
      have htf := Lib.hid (Wm.take_flat Wm.enc xs k xs[k] (List.getElem?_eq_getElem hlt))
      have HA := Lib.hid (refInt_any xs[k] wr hfk)
      unfold iv at hcell
      generalize xs[k] = x at hcell hfk htf HA hxl
      go_wp2_with fail
      refine HA.out.mono ?_
      intro e w2 h2'
      obtain ⟨A2, c2, rfl, _, _, hn2, hr2, hb2⟩ := NewEnd.slice h2'
      clear h2'
      have ho2 : OwnB w2 w.heap.size u3 _ := own_below ho hb2
      have hsz2 := hb2.size
      go_wp2_with (at_builtin; go_must (refine push_bytes rfl _ _ rfl w.heap.size u3 _ _ _ A2 _ c2 rfl hn2 rfl rfl hr2 ho2 (by rw [List.length_append]; omega) (by omega) ?_); intro v3 w3 ho3 hb3)
      go_roundw
      case rel => exact ⟨k + 1, by omega, by go_num, by rw [htf.out, ← List.append_assoc]; exact ho3, hbw.trans ((hb2.mono hsz).trans hb3)⟩
      case measure => simp [intOf]; omega
    · go_wp2
      go_ret
      refine ⟨_, rfl, ?_, hbw⟩
      rw [List.take_of_length_le (by omega)] at ho
      exact ho

set_option maxRecDepth 100000 in
set_option maxHeartbeats 1000000 in
theorem refStrings_any (xs : List (List UInt8)) (A : Option Addr) (c : Nat) (w : World) (hr : Rds w w.heap.size A (xs.map sv)) (hl : xs.length ≤ 1000000000000) (hf : (xs.flatMap Wm.encBytes).length ≤ 1000000000000) :
    Calls Try.prog 21 #[.slice A xs.length c] w (NewEnd (Wm.encList Wm.encBytes xs) w) := by
  have H := Lib.hid (refInt_any (xs.length : Int) w ⟨by omega, by omega⟩)
  have hel := Wm.enc_len xs.length
  have hF := Lib.hid hf
  clear hf
  go_enter Try.func21, Try.ntmps21
  go_wp2_with fail
  refine H.out.mono ?_
  rintro e w1 ⟨v1, rfl, h2, hb1⟩
  go_wp2
  go_loopw [3, 4] (fun b i wr => ∃ k : Nat, k ≤ xs.length ∧ i = .int .i64 k ∧ OwnB wr w.heap.size b (Wm.enc xs.length ++ (xs.take k).flatMap Wm.encBytes) ∧ Below w.heap.size w wr) (fun _ i _ => xs.length - (intOf i).toNat)
  case atStart => exact ⟨0, by omega, rfl, by simpa using h2, hb1⟩
  case round =>
    obtain ⟨k, hk, rfl, ho, hbw⟩ := hrel
    have hsz := hbw.size
    by_cases hlt : k < xs.length
    · obtain ⟨ad, rfl, hab, hcell⟩ := (hr.below hbw).look (k := k) (u := sv xs[k]) (by simp [hlt])
      have hfl := Wm.flat_take_len Wm.encBytes xs k
      have hfl1 := Wm.flat_take_len Wm.encBytes xs (k + 1)
      have hff := hF.out
      rw [Wm.take_flat Wm.encBytes xs k xs[k] (List.getElem?_eq_getElem hlt), List.length_append] at hfl1
      have hle : xs[k].length ≤ (Wm.encBytes xs[k]).length := by simp [Wm.encBytes]
      have htf := Lib.hid (Wm.take_flat Wm.encBytes xs k xs[k] (List.getElem?_eq_getElem hlt))
      have HA := Lib.hid (refBytes_any xs[k] wr (by omega))
      unfold sv at hcell HA
      generalize bs xs[k] = S at hcell HA
      go_wp2_with fail
      refine HA.out.mono ?_
      intro e w2 h2'
      obtain ⟨A2, c2, rfl, _, _, hn2, hr2, hb2⟩ := NewEnd.slice h2'
      clear h2'
      have ho2 : OwnB w2 w.heap.size u3 _ := own_below ho hb2
      have hsz2 := hb2.size
      go_wp2_with (at_builtin; go_must (refine push_bytes rfl _ _ rfl w.heap.size u3 _ _ _ A2 _ c2 rfl hn2 rfl rfl hr2 ho2 (by rw [List.length_append]; omega) (by omega) ?_); intro v3 w3 ho3 hb3)
      go_roundw
      case rel => exact ⟨k + 1, by omega, by go_num, by rw [htf.out, ← List.append_assoc]; exact ho3, hbw.trans ((hb2.mono hsz).trans hb3)⟩
      case measure => simp [intOf]; omega
    · go_wp2
      go_ret
      refine ⟨_, rfl, ?_, hbw⟩
      rw [List.take_of_length_le (by omega)] at ho
      exact ho
end Go.Proofs.Ythnbiegpfjnadaa
