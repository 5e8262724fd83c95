/-
  Contracts: the reference's digests.
-/
import Derived.Test.YthnbiegpfjnadaaRefL
namespace Go.Proofs.Ythnbiegpfjnadaa
open Go.RowKit

set_option maxRecDepth 100000 in
set_option maxHeartbeats 1000000 in
theorem refDigests_any (xs : List (List UInt8)) (A : Option Addr) (c : Nat) (w : World) (hr : Rds w w.heap.size A ((xs.flatMap id).map bv)) (hl : xs.length ≤ 1000000000000) (hd : ∀ d ∈ xs, d.length = 16) :
    Calls Try.prog 23 #[.slice A xs.length c] w (NewEnd (Wm.encList id xs) w) := by
  have H := Lib.hid (refInt_any (xs.length : Int) w ⟨by omega, by omega⟩)
  have hel := Wm.enc_len xs.length
  have hD := Lib.hid hd
  clear hd
  go_enter Try.func23, Try.ntmps23
  go_wp2_with fail
  refine H.out.mono ?_
  rintro e w1 ⟨v1, rfl, h2, hb1⟩
  go_wp2
  go_loopw [3, 4] (fun b i wr => ∃ k : Nat, k ≤ xs.length ∧ i = .int .i64 k ∧ OwnB wr w.heap.size b (Wm.enc xs.length ++ (xs.take k).flatMap id) ∧ Below w.heap.size w wr) (fun _ i _ => xs.length - (intOf i).toNat)
  case atStart => exact ⟨0, by omega, rfl, by simpa using h2, hb1⟩
  case round =>
    obtain ⟨k, hk, rfl, ho, hbw⟩ := hrel
    have hsz := hbw.size
    by_cases hlt : k < xs.length
    · obtain ⟨ad, rfl, hab, hcell0⟩ := (hr.below hbw).dig hD.out hlt
      have hrd : Hid (Rds wr w.heap.size (some (ad.add (k * 16))) (xs[k].map bv)) := fun _ => ⟨_, rfl, by rw [add_block]; exact hab, hcell0⟩
      have hfl : ((xs.take k).flatMap id).length ≤ 16 * k := by
        rw [flat_dig (fun d hd => hD.out d (List.mem_of_mem_take hd)), List.length_take]; omega
      have hfk := Lib.hid (hD.out xs[k] (List.getElem_mem hlt))
      have htf := Lib.hid (Wm.take_flat id xs k xs[k] (List.getElem?_eq_getElem hlt))
      clear hcell0
      generalize xs[k] = d at hrd hfk htf
      have hbound : (Wm.enc xs.length ++ (xs.take k).flatMap id).length + d.length ≤ 140737488355328 := by rw [List.length_append, hfk.out]; omega
      clear hfl
      go_wp2_with (at_builtin; go_must (refine push_bytes rfl _ _ rfl w.heap.size u3 _ d _ _ 16 16 hfk.out.symm (by simp) rfl rfl hrd.out ho hbound hsz ?_); intro v3 w3 ho3 hb3)
      go_roundw
      case rel => exact ⟨k + 1, by omega, by go_num, by rw [htf.out, ← List.append_assoc]; exact ho3, hbw.trans hb3⟩
      case measure => simp [intOf]; omega
    · go_wp2
      go_ret
      refine ⟨_, rfl, ?_, hbw⟩
      rw [List.take_of_length_le (by omega)] at ho
      exact ho

theorem take_set_map {cs : Array Value} {l : List UInt8} {a j : Nat} {b : UInt8} (hs : cs.size = 16) (hj : j < 16) (hb : l[a + j]? = some b) (h : cs.toList.take j = ((l.drop a).take j).map bv) :
    (cs.setIfInBounds j (bv b)).toList.take (j + 1) = ((l.drop a).take (j + 1)).map bv := by
  have hjl : j < cs.toList.length := by rw [Array.length_toList]; omega
  have hbd : (l.drop a)[j]? = some b := by rw [List.getElem?_drop]; exact hb
  obtain ⟨hjd, hbd⟩ := List.getElem?_eq_some_iff.1 hbd
  rw [Array.toList_setIfInBounds, List.take_succ_eq_append_getElem (by rw [List.length_set]; exact hjl), List.take_succ_eq_append_getElem hjd, List.map_append, hbd, List.getElem_set_self, List.take_set_of_le (Nat.le_refl _), h]
  rfl

set_option maxRecDepth 100000 in
set_option maxHeartbeats 1000000 in
theorem refGetDigests_any (l : List UInt8) (A : Option Addr) (c : Nat) (w : World) (hr : Rds w w.heap.size A (l.map bv)) (hl : l.length ≤ 1000000000000) (hc : l.length ≤ c) :
    Calls Try.prog 35 #[.slice A l.length c] w (GxEnd (Wm.getList Wm.getDigest 16 l) w) := by
  have H := Lib.hid (refLength_any l 16 (by omega) (by omega) A c w hr (by unfold maxLen; omega))
  rcases hg : Wm.getLen l 16 with ⟨n, u, x⟩
  have D := Lib.hid hg
  have R : Hid (Wm.getList Wm.getDigest 16 l = if x ≠ 0 then ([], 0, x) else Wm.getSome Wm.getDigest l n.toNat u []) := by
    show _ = _
    unfold Wm.getList; rw [hg]
  by_cases hx : x = 0
  · subst hx
    obtain ⟨hgi, hn0, hn1, hu⟩ := Wm.getLen_ok hg
    clear hgi
    have R' := Lib.hid (R.out.trans (if_neg (by simp)))
    obtain ⟨N, rfl⟩ := Int.eq_ofNat_of_zero_le hn0
    have hN : u + 16 * N ≤ l.length := by omega
    clear hg R hn1
    go_enter Try.func35, Try.ntmps35
    go_wp2_with fail
    refine H.out.mono ?_
    rintro e w' ⟨rfl, rfl⟩
    rw [D.out]
    go_wp2
    go_loopw [6, 8, 9] (fun at_ v i wr => ∃ (k : Nat) (acc : List (List UInt8)), k ≤ N ∧ i = .int .i64 k ∧ at_ = .int .i64 ((u + 16 * k : Nat) : Int) ∧ Wm.getSome Wm.getDigest l (N - k) (u + 16 * k) acc = Wm.getList Wm.getDigest 16 l ∧ wr.ownsRow w.heap.size 57 16 v k ((acc.flatMap id).map bv) ∧ acc.length = k ∧ Below w.heap.size w wr) (fun _ _ i _ => N - (intOf i).toNat)
    case atStart => exact ⟨0, [], by omega, rfl, rfl, R'.out.symm, World.ownsRow_nil _ _ _ _, rfl, Below.refl _ _⟩
    case round =>
      obtain ⟨k, acc, hk, rfl, rfl, hinv0, ho, hacc0, hbw⟩ := hrel
      have hinv := Lib.hid hinv0
      have hacc := Lib.hid hacc0
      clear hinv0 hacc0
      have hsz := hbw.size
      by_cases hlt : k < N
      · have hab : u + 16 * k + 16 ≤ l.length := by omega
        have hsum : Hid (((u + 16 * k : Nat) : Int) + 16 = ((u + 16 * (k + 1) : Nat) : Int)) := by show _ = _; omega
        generalize hA : u + 16 * k = a at hinv hab hsum
        have HA := Lib.hid hA
        clear hA
        have hrw := (hr.below hbw).more hsz
        have S' : Hid (Wm.getSome Wm.getDigest l (N - (k + 1)) (u + 16 * (k + 1)) (acc ++ [(l.drop a).take 16]) = Wm.getList Wm.getDigest 16 l) := by
          show _ = _
          rw [← hinv.out, show N - k = (N - (k + 1)) + 1 from by omega, Wm.getSome]
          simp only [Wm.getDigest, ne_eq, not_true_eq_false, if_false]
          rw [show a + 16 = u + 16 * (k + 1) from by have := HA.out; omega]
        have hd : Hid (((l.drop a).take 16).length = 16) := by show _ = _; rw [List.length_take, List.length_drop]; omega
        clear hinv
        go_wp2_with fail
        go_loopw [11] (fun i wi => ∃ (j : Nat) (cs : Array Value), j ≤ 16 ∧ i = .int .i64 j ∧ cs.size = 16 ∧ cs.toList.take j = ((l.drop a).take j).map bv ∧ wi = wr.alloc (.cells cs 57)) (fun i _ => 16 - (intOf i).toNat)
        case atStart => exact ⟨0, _, by omega, rfl, by rfl, by simp, rfl⟩
        case round =>
          obtain ⟨j, cs, hj, rfl, hcs0, hin0, rfl⟩ := hrel
          have hcs := Lib.hid hcs0
          have hin := Lib.hid hin0
          by_cases hj16 : j < 16
          · have hb0 : l[a + j]? = some l[a + j] := List.getElem?_eq_getElem (by omega)
            obtain ⟨ad, rfl, _, hcell⟩ := (hrw.alloc (Nat.le_refl _) (.cells cs 57)).look (k := a + j) (u := bv l[a + j]) (by simp [show a + j < l.length by omega])
            have hset := Lib.hid (take_set_map hcs0 hj16 hb0 hin0)
            have hcj : cs[j]? = some cs[j] := Array.getElem?_eq_getElem (by omega)
            have hcs2 : Hid ((cs.setIfInBounds j (bv l[a + j])).size = 16) := by show _ = _; rw [Array.size_setIfInBounds]; exact hcs0
            clear hb0 hin0
            generalize l[a + j] = b at hcell hset hcs2
            unfold bv at hcell
            have i1 : (0 : Int) ≤ j := by omega
            have i2 : (j : Int) < 16 := by omega
            have i3 : (0 : Int) ≤ (a : Int) + j := by omega
            have i4 : (a : Int) + j < l.length := by omega
            go_wp2_with fail
            go_roundw
            case rel => exact ⟨j + 1, _, by omega, by go_num, hcs2.out, hset.out, rfl⟩
            case measure => simp [intOf]; omega
          · obtain rfl : j = 16 := by omega
            have hce : cs = (((l.drop a).take 16).map bv).toArray := by
              rw [← hin0, List.take_of_length_le (by rw [Array.length_toList]; omega), Array.toArray_toList]
            subst hce
            clear hcs0 hin0 hcs hin
            generalize (l.drop a).take 16 = d at S' hd
            have hsd : Hid ((Try.prog.info? 57).map (·.size) = some (d.map bv).length) := by show _ = _; rw [List.length_map, hd.out]; exact sizeDig
            go_wp2_with (first | (refine wpList_load_arr rfl 57 _ rfl ⟨wr.heap.size, 0, none⟩ rfl (d.map bv) 16 5 (new_cells wr d _) arrDig hsd.out ?_) | (refine step_buildDig rfl _ rfl d hd.out rfl ?_) | (at_builtin; go_must (refine push_dig rfl _ _ rfl w.heap.size u8 k acc d hd.out rfl _ rfl (by simp) (World.ownsRow.alloc ho _) (by omega) (by simp; omega) ?_); intro v3 w3 ho3 hb3))
            go_roundw
            case rel => exact ⟨k + 1, acc ++ [d], by omega, by go_num, by rw [← hsum.out], S'.out, ho3, by simp [hacc.out], hbw.trans (((Below.refl _ _).alloc (by omega) _).trans hb3)⟩
            case measure => simp [intOf]; omega
      · have E : Hid (Wm.getList Wm.getDigest 16 l = (acc, u + 16 * k, 0)) := by
          show _ = _
          rw [← hinv.out, show N - k = 0 from by omega]; rfl
        clear hinv
        go_wp2
        go_ret3
        unfold GxEnd
        rw [E.out]
        exact glEnd rfl rfl hacc.out.symm rfl rfl rfl ho hbw
  · have t : (x != 0) = true := by simp; omega
    have R' := Lib.hid (R.out.trans (if_pos hx))
    clear R hx hg
    go_enter Try.func35, Try.ntmps35
    go_wp2_with fail
    refine H.out.mono ?_
    rintro e w' ⟨rfl, rfl⟩
    rw [D.out]
    go_wp2
    go_ret3
    unfold GxEnd
    rw [R'.out]
    exact glEnd rfl rfl rfl rfl rfl rfl (World.ownsRow_nil _ _ _ _) (Below.refl _ _)
end Go.Proofs.Ythnbiegpfjnadaa
