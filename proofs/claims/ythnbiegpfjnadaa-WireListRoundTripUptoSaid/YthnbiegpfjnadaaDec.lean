/-
  Contracts: decoding byte strings and lists; the functions that are wrapped around the general ones.
-/
import Derived.Test.YthnbiegpfjnadaaLst
namespace Go.Proofs.Ythnbiegpfjnadaa
open Go.RowKit

theorem bytes_any (s : List UInt8) (w : World) (hs : s.length ≤ 1000000000000) : Calls Try.prog 16 #[sv s] w (NewEnd (Wm.encBytes s) w) := by
  have H := Lib.hid (appendBytes_any w.heap.size (.slice none 0 0) [] s w (ownB_nil w _) (Nat.le_refl _) (by simp; omega))
  unfold sv at H ⊢
  generalize bs s = S at H
  go_enter Try.func16, Try.ntmps16
  go_wp2_with fail
  refine H.out.mono ?_
  rintro e w' ⟨v', rfl, h2, h3⟩
  go_wp2
  go_ret
  exact ⟨_, rfl, h2, h3⟩
theorem ints_any (xs : List Int) (A : Option Addr) (c : Nat) (w : World) (hr : Rds w w.heap.size A (xs.map iv)) (hl : xs.length ≤ 1000000000000) (hf : ∀ n ∈ xs, Wm.Fits n) :
    Calls Try.prog 18 #[.slice A xs.length c] w (NewEnd (Wm.encList Wm.enc xs) w) := by
  have H := Lib.hid (list_int xs A c w hr hl hf)
  clear hf
  go_enter Try.func18, Try.ntmps18
  go_wp2_with fail
  refine H.out.mono ?_
  rintro e w' ⟨v', rfl, h2, h3⟩
  go_wp2
  go_ret
  exact ⟨_, rfl, h2, h3⟩
theorem strings_any (xs : List (List UInt8)) (A : Option Addr) (c : Nat) (w : World) (hr : Rds w w.heap.size A (xs.map sv)) (hl : xs.length ≤ 1000000000000) (hl2 : (xs.flatMap Wm.encBytes).length ≤ 1000000000000) :
    Calls Try.prog 20 #[.slice A xs.length c] w (NewEnd (Wm.encList Wm.encBytes xs) w) := by
  have H := Lib.hid (list_str xs A c w hr hl hl2)
  clear hl2
  go_enter Try.func20, Try.ntmps20
  go_wp2_with fail
  refine H.out.mono ?_
  rintro e w' ⟨v', rfl, h2, h3⟩
  go_wp2
  go_ret
  exact ⟨_, rfl, h2, h3⟩
theorem digests_any (xs : List (List UInt8)) (A : Option Addr) (c : Nat) (w : World) (hr : Rds w w.heap.size A ((xs.flatMap id).map bv)) (hl : xs.length ≤ 1000000000000) (hd : ∀ d ∈ xs, d.length = 16) :
    Calls Try.prog 22 #[.slice A xs.length c] w (NewEnd (Wm.encList id xs) w) := by
  have H := Lib.hid (list_dig xs A c w hr hl hd)
  clear hd
  go_enter Try.func22, Try.ntmps22
  go_wp2_with fail
  refine H.out.mono ?_
  rintro e w' ⟨v', rfl, h2, h3⟩
  go_wp2
  go_ret
  exact ⟨_, rfl, h2, h3⟩

/-- What GetBytes returns. -/
def GbEnd (l : List UInt8) (w : World) (e : Ending) (w' : World) : Prop :=
  e = .returned (.tuple #[sv (Wm.getBytes l).1, .int .i64 ((Wm.getBytes l).2.1 : Int), .int .i64 (Wm.getBytes l).2.2]) ∧ w = w'
theorem gbEnd {l : List UInt8} {w : World} {s : List UInt8} {u : Nat} {x : Int} {a b c : Value} (h : Wm.getBytes l = (s, u, x)) (ha : a = sv s) (hb : b = .int .i64 u) (hc : c = .int .i64 x) : GbEnd l w (.returned (.tuple #[a, b, c])) w := by
  subst ha; subst hb; subst hc
  unfold GbEnd
  rw [h]
  exact ⟨rfl, rfl⟩

set_option maxRecDepth 100000 in
set_option maxHeartbeats 400000 in
theorem getBytes_any (l : List UInt8) (A : Option Addr) (c : Nat) (w : World) (hr : Rds w w.heap.size A (l.map bv)) (hl : l.length ≤ 1000000000000) (hc : l.length ≤ c) :
    Calls Try.prog 26 #[.slice A l.length c] w (GbEnd l w) := by
  have H := Lib.hid (length_any l 1 (by omega) (by omega) A c w hr (by unfold maxLen; omega))
  rcases hg : Wm.getLen l 1 with ⟨n, u, x⟩
  have D := Lib.hid hg
  have R : Hid (Wm.getBytes l = if x ≠ 0 then ([], 0, x) else ((l.drop u).take n.toNat, u + n.toNat, 0)) := by
    show _ = _
    unfold Wm.getBytes; rw [hg]
  by_cases hx : x = 0
  · subst hx
    obtain ⟨hgi, hn0, hn1, hu⟩ := Wm.getLen_ok hg
    clear hgi
    have R' := Lib.hid (R.out.trans (if_neg (by simp)))
    obtain ⟨N, rfl⟩ := Int.eq_ofNat_of_zero_le hn0
    rw [Nat.div_one] at hn1
    have hsum : u + N ≤ l.length := by omega
    have hlen : ((l.drop u).take N).length = N := by rw [List.length_take, List.length_drop]; omega
    have k1 := run_bytes_bs (P := Try.prog) w 28 9 5 Try.underlying28 Try.underlying5 Try.underlying9 (c - u) (by have := (hr.cut (k := u) (cap := c) (by simpa using hc)).take N; rw [← List.map_drop, ← List.map_take] at this; exact this)
    rw [hlen] at k1
    clear hg R hn1 hlen
    go_enter Try.func26, Try.ntmps26
    go_wp2_with fail
    refine H.out.mono ?_
    rintro e w' ⟨rfl, rfl⟩
    rw [D.out]
    go_wp2
    all_goals
      go_ret3
      exact gbEnd R'.out rfl (by simp) rfl
  · have t : (x != 0) = true := by simp; omega
    have R' := Lib.hid (R.out.trans (if_pos hx))
    clear R hx hg
    go_enter Try.func26, Try.ntmps26
    go_wp2_with fail
    refine H.out.mono ?_
    rintro e w' ⟨rfl, rfl⟩
    rw [D.out]
    go_wp2
    go_ret3
    exact gbEnd R'.out rfl rfl rfl

/-- What decoding a list returns: a row of the call's own, the bytes that are used, the error. -/
def GlEnd (et : TypeId) (size : Nat) (n : Nat) (cells : List Value) (u : Nat) (x : Int) (w : World) (e : Ending) (w' : World) : Prop :=
  ∃ v', e = .returned (.tuple #[v', .int .i64 (u : Int), .int .i64 x]) ∧ w'.ownsRow w.heap.size et size v' n cells ∧ Below w.heap.size w w'
theorem glEnd {et : TypeId} {size n n' : Nat} {cells cells' : List Value} {u u' : Nat} {x x' : Int} {w w' : World} {v a b : Value} (ha : a = .int .i64 (u' : Int)) (hb : b = .int .i64 x') (hn : n' = n) (hc : cells' = cells) (hu : u' = u) (hx : x' = x)
    (ho : w'.ownsRow w.heap.size et size v n' cells') (hbw : Below w.heap.size w w') : GlEnd et size n cells u x w (.returned (.tuple #[v, a, b])) w' := by
  subst ha hb hn hc hu hx
  exact ⟨_, rfl, ho, hbw⟩

def GiEnd (r : List Int × Nat × Int) (w : World) : Ending → World → Prop := GlEnd 3 1 r.1.length (r.1.map iv) r.2.1 r.2.2 w

theorem getInt_cutat (l : List UInt8) (a : Nat) (hl : l.length ≤ 1000000000000) (ha : a ≤ l.length) (W : World) (A' : Option Addr) (n' c' : Nat) (hn : n' = l.length - a) (hr : Rds W W.heap.size A' ((l.drop a).map bv)) :
    Calls Try.prog 24 #[.slice A' n' c'] W (GetEnd (l.drop a) W) := by
  have := getInt_any (l.drop a) A' c' W hr (by rw [List.length_drop]; unfold maxLen; omega)
  rw [List.length_drop, ← hn] at this
  exact this

set_option maxRecDepth 100000 in
set_option maxHeartbeats 1000000 in
theorem getList_int (l : List UInt8) (A : Option Addr) (c : Nat) (w : World) (hr : Rds w w.heap.size A (l.map bv)) (hl : l.length ≤ 1000000000000) (hc : l.length ≤ c) :
    Calls Try.prog 47 #[.slice A l.length c, .int .i64 1, .func (.func 24) #[] #[]] w (GiEnd (Wm.getList Wm.getInt 1 l) w) := by
  have H := Lib.hid (length_any l 1 (by omega) (by omega) A c w hr (by unfold maxLen; omega))
  rcases hg : Wm.getLen l 1 with ⟨n, u, x⟩
  have D := Lib.hid hg
  have R : Hid (Wm.getList Wm.getInt 1 l = if x ≠ 0 then ([], 0, x) else Wm.getSome Wm.getInt l n.toNat u []) := by
    show _ = _
    unfold Wm.getList; rw [hg]
  by_cases hx : x = 0
  · subst hx
    obtain ⟨hgi, hn0, hn1, hu⟩ := Wm.getLen_ok hg
    clear hgi
    have R' := Lib.hid (R.out.trans (if_neg (by simp)))
    obtain ⟨N, rfl⟩ := Int.eq_ofNat_of_zero_le hn0
    rw [Nat.div_one] at hn1
    have hN : N ≤ l.length := by omega
    obtain ⟨i0, hi, hz0, hz1, hz2⟩ := info_parts infoInt
    obtain ⟨wm, hmk0, hom, hgm⟩ := run_make_own (P := Try.prog) w w.heap.size 22 3 i0 (.int .i64 0) 1 Try.underlying22 hi hz0 hz1 .i64 .i64 N (by rw [hz2]; omega) (by unfold maxLen; omega) (Nat.le_refl _)
    have hmk := hmk0
    have hbm : Below w.heap.size w wm := (Below.refl _ _).grown hgm (Nat.le_refl _) (by simp)
    clear hg R hn1 hmk0 hi hz0 hz1 hz2 hgm
    go_enter Try.func47, Try.ntmps47
    go_wp2_with fail
    refine H.out.mono ?_
    rintro e w' ⟨rfl, rfl⟩
    rw [D.out]
    go_wp2
    go_loopw [10, 12, 29] (fun at_ v i wr => ∃ (k a : Nat) (acc : List Int), k ≤ N ∧ i = .int .i64 k ∧ at_ = .int .i64 a ∧ a ≤ l.length ∧ Wm.getSome Wm.getInt l (N - k) a acc = Wm.getList Wm.getInt 1 l ∧ wr.ownsRow w.heap.size 3 1 v k (acc.map iv) ∧ acc.length = k ∧ Below w.heap.size w wr) (fun _ _ i _ => N - (intOf i).toNat)
    case atStart => exact ⟨0, u, [], by omega, rfl, rfl, hu, R'.out.symm, hom, rfl, hbm⟩
    case round =>
      obtain ⟨k, a, acc, hk, rfl, rfl, ha, hinv0, ho, hacc0, hbw⟩ := hrel
      have hinv := Lib.hid hinv0
      have hacc := Lib.hid hacc0
      clear hinv0 hacc0
      have hsz := hbw.size
      by_cases hlt : k < N
      · rcases hq : Wm.getInt (l.drop a) with ⟨y, q, z⟩
        have Q := Lib.hid hq
        have hus := (Wm.getInt_used (l.drop a)).1
        rw [hq, List.length_drop] at hus
        simp only at hus
        have HC := Lib.hid (getInt_cutat l a hl ha wr)
        have hra := Lib.hid (fun (h : ¬ c = a) => ((hr.below hbw).more hsz).drop a)
        have hrb : Hid (c = a → (l.drop a).map bv = []) := by intro h; rw [List.drop_eq_nil_of_le (by omega)]; rfl
        have S : Hid (Wm.getSome Wm.getInt l (N - k) a acc = if z ≠ 0 then ([], 0, z) else Wm.getSome Wm.getInt l (N - (k + 1)) (a + q) (acc ++ [y])) := by
          show _ = _
          rw [show N - k = (N - (k + 1)) + 1 from by omega, Wm.getSome, hq]
        clear hq
        by_cases hz : z = 0
        · have S' := Lib.hid (S.out.symm.trans hinv.out)
          rw [if_neg (by omega)] at S'
          subst hz
          clear S hinv
          by_cases hca : c = a
          · subst hca
            have hnil := Lib.hid (hrb.out rfl)
            clear hrb
            go_wp2_with fail
            refine (HC.out _ _ _ (by omega) (by rw [hnil.out]; exact Rds.empty)).mono ?_
            rintro e w' ⟨rfl, rfl⟩
            rw [Q.out]
            go_wp2_with (at_builtin; go_must (refine push_int rfl _ _ rfl w.heap.size u12 k acc y rfl rfl ho (by omega) hsz ?_); intro v2 w2 ho2 hb2)
            go_roundw
            case rel => exact ⟨k + 1, c + q, acc ++ [y], by omega, by go_num, by go_num, by omega, S'.out, ho2, by simp [hacc.out], hbw.trans hb2⟩
            case measure => simp [intOf]; omega
          · go_wp2_with fail
            refine (HC.out _ _ _ (by omega) (by rw [List.map_drop]; exact hra.out hca)).mono ?_
            rintro e w' ⟨rfl, rfl⟩
            rw [Q.out]
            go_wp2_with (at_builtin; go_must (refine push_int rfl _ _ rfl w.heap.size u12 k acc y rfl rfl ho (by omega) hsz ?_); intro v2 w2 ho2 hb2)
            go_roundw
            case rel => exact ⟨k + 1, a + q, acc ++ [y], by omega, by go_num, by go_num, by omega, S'.out, ho2, by simp [hacc.out], hbw.trans hb2⟩
            case measure => simp [intOf]; omega
        · have S' := Lib.hid (S.out.symm.trans hinv.out)
          rw [if_pos hz] at S'
          have t : (z != 0) = true := by simp; omega
          clear S hinv hz
          by_cases hca : c = a
          · subst hca
            have hnil := Lib.hid (hrb.out rfl)
            clear hrb
            go_wp2_with fail
            refine (HC.out _ _ _ (by omega) (by rw [hnil.out]; exact Rds.empty)).mono ?_
            rintro e w' ⟨rfl, rfl⟩
            rw [Q.out]
            go_wp2
            go_ret3
            unfold GiEnd
            rw [← S'.out]
            exact glEnd rfl rfl rfl rfl rfl rfl (World.ownsRow_nil _ _ _ _) hbw
          · go_wp2_with fail
            refine (HC.out _ _ _ (by omega) (by rw [List.map_drop]; exact hra.out hca)).mono ?_
            rintro e w' ⟨rfl, rfl⟩
            rw [Q.out]
            go_wp2
            go_ret3
            unfold GiEnd
            rw [← S'.out]
            exact glEnd rfl rfl rfl rfl rfl rfl (World.ownsRow_nil _ _ _ _) hbw
      · have E : Hid (Wm.getList Wm.getInt 1 l = (acc, a, 0)) := by
          show _ = _
          rw [← hinv.out, show N - k = 0 from by omega]; rfl
        clear hinv
        go_wp2
        go_ret3
        unfold GiEnd
        rw [E.out]
        exact glEnd rfl rfl hacc.out.symm rfl rfl rfl ho hbw
  · have t : (x != 0) = true := by simp; omega
    have R' := Lib.hid (R.out.trans (if_pos hx))
    clear R hx hg
    go_enter Try.func47, Try.ntmps47
    go_wp2_with fail
    refine H.out.mono ?_
    rintro e w' ⟨rfl, rfl⟩
    rw [D.out]
    go_wp2
    go_ret3
    unfold GiEnd
    rw [R'.out]
    exact glEnd rfl rfl rfl rfl rfl rfl (World.ownsRow_nil _ _ _ _) (Below.refl _ _)
def GsEnd (r : List (List UInt8) × Nat × Int) (w : World) : Ending → World → Prop := GlEnd 9 1 r.1.length (r.1.map sv) r.2.1 r.2.2 w

theorem getBytes_cutat (l : List UInt8) (a : Nat) (hl : l.length ≤ 1000000000000) (ha : a ≤ l.length) (W : World) (A' : Option Addr) (n' c' : Nat) (hn : n' = l.length - a) (hc : n' ≤ c') (hr : Rds W W.heap.size A' ((l.drop a).map bv)) :
    Calls Try.prog 26 #[.slice A' n' c'] W (GbEnd (l.drop a) W) := by
  have := getBytes_any (l.drop a) A' c' W hr (by rw [List.length_drop]; omega) (by rw [List.length_drop]; omega)
  rw [List.length_drop, ← hn] at this
  exact this

set_option maxRecDepth 100000 in
set_option maxHeartbeats 1000000 in
theorem getList_str (l : List UInt8) (A : Option Addr) (c : Nat) (w : World) (hr : Rds w w.heap.size A (l.map bv)) (hl : l.length ≤ 1000000000000) (hc : l.length ≤ c) :
    Calls Try.prog 49 #[.slice A l.length c, .int .i64 1, .func (.func 26) #[] #[]] w (GsEnd (Wm.getList Wm.getBytes 1 l) w) := by
  have H := Lib.hid (length_any l 1 (by omega) (by omega) A c w hr (by unfold maxLen; omega))
  rcases hg : Wm.getLen l 1 with ⟨n, u, x⟩
  have D := Lib.hid hg
  have R : Hid (Wm.getList Wm.getBytes 1 l = if x ≠ 0 then ([], 0, x) else Wm.getSome Wm.getBytes l n.toNat u []) := by
    show _ = _
    unfold Wm.getList; rw [hg]
  by_cases hx : x = 0
  · subst hx
    obtain ⟨hgi, hn0, hn1, hu⟩ := Wm.getLen_ok hg
    clear hgi
    have R' := Lib.hid (R.out.trans (if_neg (by simp)))
    obtain ⟨N, rfl⟩ := Int.eq_ofNat_of_zero_le hn0
    rw [Nat.div_one] at hn1
    have hN : N ≤ l.length := by omega
    obtain ⟨i0, hi, hz0, hz1, hz2⟩ := info_parts infoStr
    obtain ⟨wm, hmk0, hom, hgm⟩ := run_make_own (P := Try.prog) w w.heap.size 23 9 i0 (.string .empty) 1 Try.underlying23 hi hz0 hz1 .i64 .i64 N (by rw [hz2]; omega) (by unfold maxLen; omega) (Nat.le_refl _)
    have hmk := hmk0
    have hbm : Below w.heap.size w wm := (Below.refl _ _).grown hgm (Nat.le_refl _) (by simp)
    clear hg R hn1 hmk0 hi hz0 hz1 hz2 hgm
    go_enter Try.func49, Try.ntmps49
    go_wp2_with fail
    refine H.out.mono ?_
    rintro e w' ⟨rfl, rfl⟩
    rw [D.out]
    go_wp2
    go_loopw [10, 12, 29] (fun at_ v i wr => ∃ (k a : Nat) (acc : List (List UInt8)), k ≤ N ∧ i = .int .i64 k ∧ at_ = .int .i64 a ∧ a ≤ l.length ∧ Wm.getSome Wm.getBytes l (N - k) a acc = Wm.getList Wm.getBytes 1 l ∧ wr.ownsRow w.heap.size 9 1 v k (acc.map sv) ∧ acc.length = k ∧ Below w.heap.size w wr) (fun _ _ i _ => N - (intOf i).toNat)
    case atStart => exact ⟨0, u, [], by omega, rfl, rfl, hu, R'.out.symm, hom, rfl, hbm⟩
    case round =>
      obtain ⟨k, a, acc, hk, rfl, rfl, ha, hinv0, ho, hacc0, hbw⟩ := hrel
      have hinv := Lib.hid hinv0
      have hacc := Lib.hid hacc0
      clear hinv0 hacc0
      have hsz := hbw.size
      by_cases hlt : k < N
      · rcases hq : Wm.getBytes (l.drop a) with ⟨y, q, z⟩
        have Q := Lib.hid hq
        have hus := Wm.getBytes_used (l.drop a)
        rw [hq, List.length_drop] at hus
        simp only at hus
        have HC := Lib.hid (getBytes_cutat l a hl ha wr)
        have hra := Lib.hid (fun (h : ¬ c = a) => ((hr.below hbw).more hsz).drop a)
        have hrb : Hid (c = a → (l.drop a).map bv = []) := by intro h; rw [List.drop_eq_nil_of_le (by omega)]; rfl
        have S : Hid (Wm.getSome Wm.getBytes l (N - k) a acc = if z ≠ 0 then ([], 0, z) else Wm.getSome Wm.getBytes l (N - (k + 1)) (a + q) (acc ++ [y])) := by
          show _ = _
          rw [show N - k = (N - (k + 1)) + 1 from by omega, Wm.getSome, hq]
        clear hq
        by_cases hz : z = 0
        · have S' := Lib.hid (S.out.symm.trans hinv.out)
          rw [if_neg (by omega)] at S'
          subst hz
          clear S hinv
          by_cases hca : c = a
          · subst hca
            have hnil := Lib.hid (hrb.out rfl)
            clear hrb
            go_wp2_with fail
            refine (HC.out _ _ _ (by omega) (by omega) (by rw [hnil.out]; exact Rds.empty)).mono ?_
            rintro e w' ⟨rfl, rfl⟩
            rw [Q.out]
            unfold sv
            go_wp2_with (at_builtin; go_must (refine push_text rfl _ _ rfl w.heap.size u12 k acc y rfl rfl ho (by omega) hsz ?_); intro v2 w2 ho2 hb2)
            go_roundw
            case rel => exact ⟨k + 1, c + q, acc ++ [y], by omega, by go_num, by go_num, by omega, S'.out, ho2, by simp [hacc.out], hbw.trans hb2⟩
            case measure => simp [intOf]; omega
          · go_wp2_with fail
            refine (HC.out _ _ _ (by omega) (by omega) (by rw [List.map_drop]; exact hra.out hca)).mono ?_
            rintro e w' ⟨rfl, rfl⟩
            rw [Q.out]
            unfold sv
            go_wp2_with (at_builtin; go_must (refine push_text rfl _ _ rfl w.heap.size u12 k acc y rfl rfl ho (by omega) hsz ?_); intro v2 w2 ho2 hb2)
            go_roundw
            case rel => exact ⟨k + 1, a + q, acc ++ [y], by omega, by go_num, by go_num, by omega, S'.out, ho2, by simp [hacc.out], hbw.trans hb2⟩
            case measure => simp [intOf]; omega
        · have S' := Lib.hid (S.out.symm.trans hinv.out)
          rw [if_pos hz] at S'
          have t : (z != 0) = true := by simp; omega
          clear S hinv hz
          by_cases hca : c = a
          · subst hca
            have hnil := Lib.hid (hrb.out rfl)
            clear hrb
            go_wp2_with fail
            refine (HC.out _ _ _ (by omega) (by omega) (by rw [hnil.out]; exact Rds.empty)).mono ?_
            rintro e w' ⟨rfl, rfl⟩
            rw [Q.out]
            unfold sv
            go_wp2
            go_ret3
            unfold GsEnd
            rw [← S'.out]
            exact glEnd rfl rfl rfl rfl rfl rfl (World.ownsRow_nil _ _ _ _) hbw
          · go_wp2_with fail
            refine (HC.out _ _ _ (by omega) (by omega) (by rw [List.map_drop]; exact hra.out hca)).mono ?_
            rintro e w' ⟨rfl, rfl⟩
            rw [Q.out]
            unfold sv
            go_wp2
            go_ret3
            unfold GsEnd
            rw [← S'.out]
            exact glEnd rfl rfl rfl rfl rfl rfl (World.ownsRow_nil _ _ _ _) hbw
      · have E : Hid (Wm.getList Wm.getBytes 1 l = (acc, a, 0)) := by
          show _ = _
          rw [← hinv.out, show N - k = 0 from by omega]; rfl
        clear hinv
        go_wp2
        go_ret3
        unfold GsEnd
        rw [E.out]
        exact glEnd rfl rfl hacc.out.symm rfl rfl rfl ho hbw
  · have t : (x != 0) = true := by simp; omega
    have R' := Lib.hid (R.out.trans (if_pos hx))
    clear R hx hg
    go_enter Try.func49, Try.ntmps49
    go_wp2_with fail
    refine H.out.mono ?_
    rintro e w' ⟨rfl, rfl⟩
    rw [D.out]
    go_wp2
    go_ret3
    unfold GsEnd
    rw [R'.out]
    exact glEnd rfl rfl rfl rfl rfl rfl (World.ownsRow_nil _ _ _ _) (Below.refl _ _)
end Go.Proofs.Ythnbiegpfjnadaa
