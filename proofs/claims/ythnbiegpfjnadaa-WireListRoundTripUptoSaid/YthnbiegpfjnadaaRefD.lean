/-
  Contracts: the reference's decoding of lists.
-/
import Derived.Test.YthnbiegpfjnadaaRefL
namespace Go.Proofs.Ythnbiegpfjnadaa
open Go.RowKit

theorem refGetInt_cutat (l : List UInt8) (a : Nat) (hl : l.length ≤ 1000000000000) (ha : a ≤ l.length) (W : World) (A' : Option Addr) (n' c' : Nat) (hn : n' = l.length - a) (hr : Rds W W.heap.size A' ((l.drop a).map bv)) :
    Calls Try.prog 25 #[.slice A' n' c'] W (GetEnd (l.drop a) W) := by
  have := refGetInt_any (l.drop a) A' c' W hr (by rw [List.length_drop]; unfold maxLen; omega)
  rw [List.length_drop, ← hn] at this
  exact this

set_option maxRecDepth 100000 in
set_option maxHeartbeats 1000000 in
theorem refGetInts_any (l : List UInt8) (A : Option Addr) (c : Nat) (w : World) (hr : Rds w w.heap.size A (l.map bv)) (hl : l.length ≤ 1000000000000) (hc : l.length ≤ c) :
    Calls Try.prog 29 #[.slice A l.length c] w (GiEnd (Wm.getList Wm.getInt 1 l) w) := by
  have H := Lib.hid (refLength_any l 1 (by omega) (by omega) A c w hr (by unfold maxLen; omega))
  rcases hg : Wm.getLen l 1 with ⟨n, u, x⟩
  have D := Lib.hid hg
  have R : Hid (Wm.getList Wm.getInt 1 l = if x ≠ 0 then ([], 0, x) else Wm.getSome Wm.getInt l n.toNat u []) := by
    show _ = _
    unfold Wm.getList; rw [hg]
  by_cases hx : x = 0
  · subst hx
    obtain ⟨hgi, hn0, hn1, hu⟩ := Wm.getLen_ok hg
    clear hgi
    have R' := Lib.hid (R.out.trans (if_neg (by simp)))
    obtain ⟨N, rfl⟩ := Int.eq_ofNat_of_zero_le hn0
    rw [Nat.div_one] at hn1
    have hN : N ≤ l.length := by omega
    clear hg R hn1
    go_enter Try.func29, Try.ntmps29
    go_wp2_with fail
    refine H.out.mono ?_
    rintro e w' ⟨rfl, rfl⟩
    rw [D.out]
    go_wp2
    go_loopw [6, 8, 9] (fun at_ v i wr => ∃ (k a : Nat) (acc : List Int), k ≤ N ∧ i = .int .i64 k ∧ at_ = .int .i64 a ∧ a ≤ l.length ∧ Wm.getSome Wm.getInt l (N - k) a acc = Wm.getList Wm.getInt 1 l ∧ wr.ownsRow w.heap.size 3 1 v k (acc.map iv) ∧ acc.length = k ∧ Below w.heap.size w wr) (fun _ _ i _ => N - (intOf i).toNat)
    case atStart => exact ⟨0, u, [], by omega, rfl, rfl, hu, R'.out.symm, World.ownsRow_nil _ _ _ _, rfl, Below.refl _ _⟩
    case round =>
      obtain ⟨k, a, acc, hk, rfl, rfl, ha, hinv0, ho, hacc0, hbw⟩ := hrel
      have hinv := Lib.hid hinv0
      have hacc := Lib.hid hacc0
      clear hinv0 hacc0
      have hsz := hbw.size
      by_cases hlt : k < N
      · rcases hq : Wm.getInt (l.drop a) with ⟨y, q, z⟩
        have Q := Lib.hid hq
        have hus := (Wm.getInt_used (l.drop a)).1
        rw [hq, List.length_drop] at hus
        simp only at hus
        have HC := Lib.hid (refGetInt_cutat l a hl ha wr)
        have hra := Lib.hid (fun (h : ¬ c = a) => ((hr.below hbw).more hsz).drop a)
        have hrb : Hid (c = a → (l.drop a).map bv = []) := by intro h; rw [List.drop_eq_nil_of_le (by omega)]; rfl
        have S : Hid (Wm.getSome Wm.getInt l (N - k) a acc = if z ≠ 0 then ([], 0, z) else Wm.getSome Wm.getInt l (N - (k + 1)) (a + q) (acc ++ [y])) := by
          show _ = _
          rw [show N - k = (N - (k + 1)) + 1 from by omega, Wm.getSome, hq]
        clear hq
        by_cases hz : z = 0
        · have S' := Lib.hid (S.out.symm.trans hinv.out)
          rw [if_neg (by omega)] at S'
          subst hz
          clear S hinv
          by_cases hca : c = a
          · subst hca
            have hnil := Lib.hid (hrb.out rfl)
            clear hrb
            go_wp2_with fail
            refine (HC.out _ _ _ (by omega) (by rw [hnil.out]; exact Rds.empty)).mono ?_
            rintro e w' ⟨rfl, rfl⟩
            rw [Q.out]
            go_wp2_with (at_builtin; go_must (refine push_int rfl _ _ rfl w.heap.size u8 k acc y rfl rfl ho (by omega) hsz ?_); intro v2 w2 ho2 hb2)
            go_roundw
            case rel => exact ⟨k + 1, c + q, acc ++ [y], by omega, by go_num, by go_num, by omega, S'.out, ho2, by simp [hacc.out], hbw.trans hb2⟩
            case measure => simp [intOf]; omega
          · go_wp2_with fail
            refine (HC.out _ _ _ (by omega) (by rw [List.map_drop]; exact hra.out hca)).mono ?_
            rintro e w' ⟨rfl, rfl⟩
            rw [Q.out]
            go_wp2_with (at_builtin; go_must (refine push_int rfl _ _ rfl w.heap.size u8 k acc y rfl rfl ho (by omega) hsz ?_); intro v2 w2 ho2 hb2)
            go_roundw
            case rel => exact ⟨k + 1, a + q, acc ++ [y], by omega, by go_num, by go_num, by omega, S'.out, ho2, by simp [hacc.out], hbw.trans hb2⟩
            case measure => simp [intOf]; omega
        · have S' := Lib.hid (S.out.symm.trans hinv.out)
          rw [if_pos hz] at S'
          have t : (z != 0) = true := by simp; omega
          clear S hinv hz
          by_cases hca : c = a
          · subst hca
            have hnil := Lib.hid (hrb.out rfl)
            clear hrb
            go_wp2_with fail
            refine (HC.out _ _ _ (by omega) (by rw [hnil.out]; exact Rds.empty)).mono ?_
            rintro e w' ⟨rfl, rfl⟩
            rw [Q.out]
            go_wp2
            go_ret3
            unfold GiEnd
            rw [← S'.out]
            exact glEnd rfl rfl rfl rfl rfl rfl (World.ownsRow_nil _ _ _ _) hbw
          · go_wp2_with fail
            refine (HC.out _ _ _ (by omega) (by rw [List.map_drop]; exact hra.out hca)).mono ?_
            rintro e w' ⟨rfl, rfl⟩
            rw [Q.out]
            go_wp2
            go_ret3
            unfold GiEnd
            rw [← S'.out]
            exact glEnd rfl rfl rfl rfl rfl rfl (World.ownsRow_nil _ _ _ _) hbw
      · have E : Hid (Wm.getList Wm.getInt 1 l = (acc, a, 0)) := by
          show _ = _
          rw [← hinv.out, show N - k = 0 from by omega]; rfl
        clear hinv
        go_wp2
        go_ret3
        unfold GiEnd
        rw [E.out]
        exact glEnd rfl rfl hacc.out.symm rfl rfl rfl ho hbw
  · have t : (x != 0) = true := by simp; omega
    have R' := Lib.hid (R.out.trans (if_pos hx))
    clear R hx hg
    go_enter Try.func29, Try.ntmps29
    go_wp2_with fail
    refine H.out.mono ?_
    rintro e w' ⟨rfl, rfl⟩
    rw [D.out]
    go_wp2
    go_ret3
    unfold GiEnd
    rw [R'.out]
    exact glEnd rfl rfl rfl rfl rfl rfl (World.ownsRow_nil _ _ _ _) (Below.refl _ _)
theorem refGetBytes_cutat (l : List UInt8) (a : Nat) (hl : l.length ≤ 1000000000000) (ha : a ≤ l.length) (W : World) (A' : Option Addr) (n' c' : Nat) (hn : n' = l.length - a) (hc : n' ≤ c') (hr : Rds W W.heap.size A' ((l.drop a).map bv)) :
    Calls Try.prog 27 #[.slice A' n' c'] W (GbEnd (l.drop a) W) := by
  have := refGetBytes_any (l.drop a) A' c' W hr (by rw [List.length_drop]; omega) (by rw [List.length_drop]; omega)
  rw [List.length_drop, ← hn] at this
  exact this

set_option maxRecDepth 100000 in
set_option maxHeartbeats 1000000 in
theorem refGetStrings_any (l : List UInt8) (A : Option Addr) (c : Nat) (w : World) (hr : Rds w w.heap.size A (l.map bv)) (hl : l.length ≤ 1000000000000) (hc : l.length ≤ c) :
    Calls Try.prog 32 #[.slice A l.length c] w (GsEnd (Wm.getList Wm.getBytes 1 l) w) := by
  have H := Lib.hid (refLength_any l 1 (by omega) (by omega) A c w hr (by unfold maxLen; omega))
  rcases hg : Wm.getLen l 1 with ⟨n, u, x⟩
  have D := Lib.hid hg
  have R : Hid (Wm.getList Wm.getBytes 1 l = if x ≠ 0 then ([], 0, x) else Wm.getSome Wm.getBytes l n.toNat u []) := by
    show _ = _
    unfold Wm.getList; rw [hg]
  by_cases hx : x = 0
  · subst hx
    obtain ⟨hgi, hn0, hn1, hu⟩ := Wm.getLen_ok hg
    clear hgi
    have R' := Lib.hid (R.out.trans (if_neg (by simp)))
    obtain ⟨N, rfl⟩ := Int.eq_ofNat_of_zero_le hn0
    rw [Nat.div_one] at hn1
    have hN : N ≤ l.length := by omega
    clear hg R hn1
    go_enter Try.func32, Try.ntmps32
    go_wp2_with fail
    refine H.out.mono ?_
    rintro e w' ⟨rfl, rfl⟩
    rw [D.out]
    go_wp2
    go_loopw [6, 8, 9] (fun at_ v i wr => ∃ (k a : Nat) (acc : List (List UInt8)), k ≤ N ∧ i = .int .i64 k ∧ at_ = .int .i64 a ∧ a ≤ l.length ∧ Wm.getSome Wm.getBytes l (N - k) a acc = Wm.getList Wm.getBytes 1 l ∧ wr.ownsRow w.heap.size 9 1 v k (acc.map sv) ∧ acc.length = k ∧ Below w.heap.size w wr) (fun _ _ i _ => N - (intOf i).toNat)
    case atStart => exact ⟨0, u, [], by omega, rfl, rfl, hu, R'.out.symm, World.ownsRow_nil _ _ _ _, rfl, Below.refl _ _⟩
    case round =>
      obtain ⟨k, a, acc, hk, rfl, rfl, ha, hinv0, ho, hacc0, hbw⟩ := hrel
      have hinv := Lib.hid hinv0
      have hacc := Lib.hid hacc0
      clear hinv0 hacc0
      have hsz := hbw.size
      by_cases hlt : k < N
      · rcases hq : Wm.getBytes (l.drop a) with ⟨y, q, z⟩
        have Q := Lib.hid hq
        have hus := Wm.getBytes_used (l.drop a)
        rw [hq, List.length_drop] at hus
        simp only at hus
        have HC := Lib.hid (refGetBytes_cutat l a hl ha wr)
        have hra := Lib.hid (fun (h : ¬ c = a) => ((hr.below hbw).more hsz).drop a)
        have hrb : Hid (c = a → (l.drop a).map bv = []) := by intro h; rw [List.drop_eq_nil_of_le (by omega)]; rfl
        have S : Hid (Wm.getSome Wm.getBytes l (N - k) a acc = if z ≠ 0 then ([], 0, z) else Wm.getSome Wm.getBytes l (N - (k + 1)) (a + q) (acc ++ [y])) := by
          show _ = _
          rw [show N - k = (N - (k + 1)) + 1 from by omega, Wm.getSome, hq]
        clear hq
        by_cases hz : z = 0
        · have S' := Lib.hid (S.out.symm.trans hinv.out)
          rw [if_neg (by omega)] at S'
          subst hz
          clear S hinv
          by_cases hca : c = a
          · subst hca
            have hnil := Lib.hid (hrb.out rfl)
            clear hrb
            go_wp2_with fail
            refine (HC.out _ _ _ (by omega) (by omega) (by rw [hnil.out]; exact Rds.empty)).mono ?_
            rintro e w' ⟨rfl, rfl⟩
            rw [Q.out]
            unfold sv
            go_wp2_with (at_builtin; go_must (refine push_text rfl _ _ rfl w.heap.size u8 k acc y rfl rfl ho (by omega) hsz ?_); intro v2 w2 ho2 hb2)
            go_roundw
            case rel => exact ⟨k + 1, c + q, acc ++ [y], by omega, by go_num, by go_num, by omega, S'.out, ho2, by simp [hacc.out], hbw.trans hb2⟩
            case measure => simp [intOf]; omega
          · go_wp2_with fail
            refine (HC.out _ _ _ (by omega) (by omega) (by rw [List.map_drop]; exact hra.out hca)).mono ?_
            rintro e w' ⟨rfl, rfl⟩
            rw [Q.out]
            unfold sv
            go_wp2_with (at_builtin; go_must (refine push_text rfl _ _ rfl w.heap.size u8 k acc y rfl rfl ho (by omega) hsz ?_); intro v2 w2 ho2 hb2)
            go_roundw
            case rel => exact ⟨k + 1, a + q, acc ++ [y], by omega, by go_num, by go_num, by omega, S'.out, ho2, by simp [hacc.out], hbw.trans hb2⟩
            case measure => simp [intOf]; omega
        · have S' := Lib.hid (S.out.symm.trans hinv.out)
          rw [if_pos hz] at S'
          have t : (z != 0) = true := by simp; omega
          clear S hinv hz
          by_cases hca : c = a
          · subst hca
            have hnil := Lib.hid (hrb.out rfl)
            clear hrb
            go_wp2_with fail
            refine (HC.out _ _ _ (by omega) (by omega) (by rw [hnil.out]; exact Rds.empty)).mono ?_
            rintro e w' ⟨rfl, rfl⟩
            rw [Q.out]
            unfold sv
            go_wp2
            go_ret3
            unfold GsEnd
            rw [← S'.out]
            exact glEnd rfl rfl rfl rfl rfl rfl (World.ownsRow_nil _ _ _ _) hbw
          · go_wp2_with fail
            refine (HC.out _ _ _ (by omega) (by omega) (by rw [List.map_drop]; exact hra.out hca)).mono ?_
            rintro e w' ⟨rfl, rfl⟩
            rw [Q.out]
            unfold sv
            go_wp2
            go_ret3
            unfold GsEnd
            rw [← S'.out]
            exact glEnd rfl rfl rfl rfl rfl rfl (World.ownsRow_nil _ _ _ _) hbw
      · have E : Hid (Wm.getList Wm.getBytes 1 l = (acc, a, 0)) := by
          show _ = _
          rw [← hinv.out, show N - k = 0 from by omega]; rfl
        clear hinv
        go_wp2
        go_ret3
        unfold GsEnd
        rw [E.out]
        exact glEnd rfl rfl hacc.out.symm rfl rfl rfl ho hbw
  · have t : (x != 0) = true := by simp; omega
    have R' := Lib.hid (R.out.trans (if_pos hx))
    clear R hx hg
    go_enter Try.func32, Try.ntmps32
    go_wp2_with fail
    refine H.out.mono ?_
    rintro e w' ⟨rfl, rfl⟩
    rw [D.out]
    go_wp2
    go_ret3
    unfold GsEnd
    rw [R'.out]
    exact glEnd rfl rfl rfl rfl rfl rfl (World.ownsRow_nil _ _ _ _) (Below.refl _ _)
end Go.Proofs.Ythnbiegpfjnadaa
