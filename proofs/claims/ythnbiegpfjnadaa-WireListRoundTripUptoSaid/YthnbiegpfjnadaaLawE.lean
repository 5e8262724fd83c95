/-
  WireTruncated: the walk.
-/
import Derived.Test.YthnbiegpfjnadaaSan
import Derived.Test.YthnbiegpfjnadaaOpen
import Derived.Test.YthnbiegpfjnadaaWm2
namespace Go.Proofs.Ythnbiegpfjnadaa
open Go.RowKit

/-- The sum of the lengths. -/
def tot (xs : List (List UInt8)) : Nat := (xs.map List.length).sum
theorem tot_take {xs : List (List UInt8)} {k : Nat} {x : List UInt8} (h : xs[k]? = some x) : tot (xs.take (k + 1)) = tot (xs.take k) + x.length := by
  obtain ⟨hk, rfl⟩ := List.getElem?_eq_some_iff.1 h
  unfold tot
  rw [List.take_succ_eq_append_getElem hk, List.map_append, List.sum_append]
  simp
theorem tot_le {xs : List (List UInt8)} {m : Nat} (h : ∀ x ∈ xs, x.length ≤ m) : tot xs ≤ xs.length * m := by
  induction xs with
  | nil => simp [tot]
  | cons x xs ih =>
    have h1 := ih (fun y hy => h y (by simp [hy]))
    have h2 := h x (by simp)
    unfold tot at h1 ⊢
    rw [List.map_cons, List.sum_cons, List.length_cons, Nat.succ_mul]
    omega
theorem tot_flat (xs : List (List UInt8)) : (xs.flatMap Wm.encBytes).length ≤ xs.length * 10 + tot xs := by
  induction xs with
  | nil => simp [tot]
  | cons x xs ih =>
    have h2 := Wm.enc_len x.length
    unfold tot at ih ⊢
    rw [List.map_cons, List.sum_cons, List.length_cons, Nat.succ_mul, List.flatMap_cons, List.length_append]
    unfold Wm.encBytes at ih ⊢
    rw [List.length_append]
    omega

set_option maxRecDepth 100000 in
set_option maxHeartbeats 1000000 in
theorem few_any {B : Nat} (xs : List (List UInt8)) (A : Option Addr) (c : Nat) (w : World) (hr : Rds w B A (xs.map sv)) (hl : xs.length ≤ 1000) (hs : ∀ x ∈ xs, x.length ≤ 140737488351232) (b : Bool) (hb : decide (xs.length + tot xs ≤ 2000) = b) :
    Calls Try.prog 11 #[.slice A xs.length c] w fun e w' => e = .returned (.bool b) ∧ w = w' := by
  have HB := Lib.hid hb
  have HSZ := Lib.hid hs
  clear hb hs
  have t0 : (xs.length : Int) ≤ 1000 := by omega
  go_enter Try.func11, Try.ntmps11
  go_wp2
  go_loopw [3, 10] (fun n i wr => ∃ k : Nat, k ≤ xs.length ∧ i = .int .i64 k ∧ n = .int .i64 ((xs.length + tot (xs.take k) : Nat) : Int) ∧ w = wr) (fun _ i _ => xs.length - (intOf i).toNat)
  case atStart => exact ⟨0, by omega, rfl, by simp [tot], rfl⟩
  case round =>
    obtain ⟨k, hk, rfl, rfl, rfl⟩ := hrel
    have hm : tot (xs.take k) ≤ 1000 * 140737488351232 := by
      refine Nat.le_trans (tot_le (fun x hx => HSZ.out x (List.mem_of_mem_take hx))) (Nat.mul_le_mul_right _ ?_)
      rw [List.length_take]; omega
    by_cases hlt : k < xs.length
    · obtain ⟨ad, rfl, hab, hcell⟩ := hr.look (k := k) (u := sv xs[k]) (by simp [hlt])
      have htf := Lib.hid (tot_take (xs := xs) (List.getElem?_eq_getElem hlt))
      have HS := Lib.hid (bs_size xs[k])
      have hx := HSZ.out xs[k] (List.getElem_mem hlt)
      unfold sv at hcell
      generalize bs xs[k] = S at hcell HS
      generalize xs[k] = x at htf HS hx
      have hS : S.size ≤ 281474976710656 := by rw [HS.out]; omega
      have hn := Lib.hid (show xs.length + tot (xs.take (k + 1)) = xs.length + tot (xs.take k) + S.size by rw [htf.out, HS.out]; omega)
      have hT : xs.length + tot (xs.take k) ≤ 1000 * 281474976710656 + 1000 := by omega
      clear hm hx
      generalize xs.length + tot (xs.take k) = T at hn hT ⊢
      have b1 : (T : Int) + S.size ≤ 1000000000000000000 := by omega
      go_wp2
      go_roundw
      case rel => exact ⟨k + 1, by omega, by go_num, by rw [hn.out]; go_num, trivial⟩
      case measure => simp [intOf]; omega
    · have hb2 := HB.out
      rw [List.take_of_length_le (by omega)] at hm ⊢
      have hT : xs.length + tot xs ≤ 1000 * 281474976710656 + 1000 := by omega
      generalize xs.length + tot xs = T at hb2 hT ⊢
      have hq := Lib.hid (show decide ((T : Int) ≤ 2000) = b by rw [← hb2]; simp; omega)
      clear hb2 hm
      go_wp2
      go_ret
      exact ⟨by rw [← hq.out]; rfl, rfl⟩

/-- What decoding a beginning of L answers: 10, whatever else. -/
def CutEnd (w : World) (e : Ending) (w' : World) : Prop := ∃ v u, e = .returned (.tuple #[v, u, .int .i64 10]) ∧ Below w.heap.size w w'

theorem cut_int (n : Int) (hn : Wm.Fits n) (A : Option Addr) (c i : Nat) (hi : i < (Wm.enc n).length) (_ : (Wm.enc n).length ≤ c) (W : World) (hr : Rds W W.heap.size A ((Wm.enc n).map bv)) :
    Calls Try.prog 24 #[.slice A i c] W (CutEnd W) := by
  have hl : ((Wm.enc n).take i).length = i := by rw [List.length_take]; omega
  have hn10 := Wm.enc_len n
  have H := getInt_any ((Wm.enc n).take i) A c W (by rw [List.map_take]; exact hr.take i) (by unfold maxLen; omega)
  rw [hl] at H
  refine H.mono ?_
  rintro e w' ⟨rfl, rfl⟩
  rw [Wm.getInt_cut n hn i hi]
  exact ⟨_, _, rfl, Below.refl _ _⟩
theorem cut_bytes (s : List UInt8) (hs : s.length ≤ 1000000) (A : Option Addr) (c i : Nat) (hi : i < (Wm.encBytes s).length) (hc : (Wm.encBytes s).length ≤ c) (W : World) (hr : Rds W W.heap.size A ((Wm.encBytes s).map bv)) :
    Calls Try.prog 26 #[.slice A i c] W (CutEnd W) := by
  have hl : ((Wm.encBytes s).take i).length = i := by rw [List.length_take]; omega
  have hb : (Wm.encBytes s).length ≤ 10 + s.length := by unfold Wm.encBytes; rw [List.length_append]; have := Wm.enc_len s.length; omega
  have H := getBytes_any ((Wm.encBytes s).take i) A c W (by rw [List.map_take]; exact hr.take i) (by omega) (by omega)
  rw [hl] at H
  refine H.mono ?_
  rintro e w' ⟨rfl, rfl⟩
  rw [Wm.getBytes_cut s (by omega) i hi]
  exact ⟨_, _, rfl, Below.refl _ _⟩
theorem cut_ints (l : List Int) (hll : l.length ≤ 1000000) (hf : ∀ x ∈ l, Wm.Fits x) (A : Option Addr) (c i : Nat) (hi : i < (Wm.encList Wm.enc l).length) (hc : (Wm.encList Wm.enc l).length ≤ c) (hL : (Wm.encList Wm.enc l).length ≤ 1000000000) (W : World) (hr : Rds W W.heap.size A ((Wm.encList Wm.enc l).map bv)) :
    Calls Try.prog 28 #[.slice A i c] W (CutEnd W) := by
  have hl : ((Wm.encList Wm.enc l).take i).length = i := by rw [List.length_take]; omega
  have H := getInts_any ((Wm.encList Wm.enc l).take i) A c W (by rw [List.map_take]; exact hr.take i) (by omega) (by omega)
  rw [hl] at H
  refine H.mono ?_
  rintro e w' ⟨v', rfl, h2, h3⟩
  have := Wm.getList_cut (get := Wm.getInt) (f := Wm.enc) Wm.enc_pos 1 l (by omega) (fun x hx t => Wm.getInt_enc x (hf x hx) t) (fun x hx i hi => by rw [Wm.getInt_cut x (hf x hx) i hi]) i hi
  exact ⟨_, _, by rw [this], h3⟩
theorem encBytes_pos (s : List UInt8) : 0 < (Wm.encBytes s).length := by unfold Wm.encBytes; rw [List.length_append]; have := Wm.enc_pos s.length; omega
theorem cut_strings (l : List (List UInt8)) (hll : l.length ≤ 1000000) (hf : ∀ x ∈ l, x.length ≤ 140737488351232) (A : Option Addr) (c i : Nat) (hi : i < (Wm.encList Wm.encBytes l).length) (hc : (Wm.encList Wm.encBytes l).length ≤ c) (hL : (Wm.encList Wm.encBytes l).length ≤ 1000000000) (W : World) (hr : Rds W W.heap.size A ((Wm.encList Wm.encBytes l).map bv)) :
    Calls Try.prog 31 #[.slice A i c] W (CutEnd W) := by
  have hl : ((Wm.encList Wm.encBytes l).take i).length = i := by rw [List.length_take]; omega
  have H := getStrings_any ((Wm.encList Wm.encBytes l).take i) A c W (by rw [List.map_take]; exact hr.take i) (by omega) (by omega)
  rw [hl] at H
  refine H.mono ?_
  rintro e w' ⟨v', rfl, h2, h3⟩
  have := Wm.getList_cut (get := Wm.getBytes) (f := Wm.encBytes) encBytes_pos 1 l (by omega) (fun x hx t => Wm.getBytes_enc x t (by have := hf x hx; omega)) (fun x hx i hi => Wm.getBytes_cut x (by have := hf x hx; omega) i hi) i hi
  exact ⟨_, _, by rw [this], h3⟩
/-- The digests need their own words: decoding one digest never fails, the length before them does. -/
theorem getDigs_cut (l : List (List UInt8)) (hll : l.length ≤ 1000000) (hf : ∀ x ∈ l, x.length = 16) (i : Nat) (hi : i < (Wm.encList id l).length) : (Wm.getList Wm.getDigest 16 ((Wm.encList id l).take i)).2.2 = 10 := by
  have hF : Wm.Fits (l.length : Int) := ⟨by omega, by omega⟩
  have hfl : (l.flatMap id).length = l.length * 16 := by
    clear hi hll hF
    induction l with
    | nil => rfl
    | cons x xs ih =>
      rw [List.flatMap_cons, List.length_append, ih (fun y hy => hf y (by simp [hy])), List.length_cons, Nat.succ_mul]
      have := hf x (by simp)
      show x.length + _ = _
      omega
  unfold Wm.encList at hi ⊢
  rw [List.length_append, hfl] at hi
  by_cases h1 : i < (Wm.enc l.length).length
  · rw [List.take_append_of_le_length (by omega)]
    unfold Wm.getList Wm.getLen
    rw [Wm.getInt_cut _ hF i h1]
    simp
  · rw [List.take_append, List.take_of_length_le (by omega)]
    generalize hj : i - (Wm.enc l.length).length = j
    have hlj : ((l.flatMap id).take j).length = j := by rw [List.length_take, hfl]; omega
    have hl : Wm.getLen (Wm.enc l.length ++ (l.flatMap id).take j) 16 = (0, 0, 10) := by
      unfold Wm.getLen
      rw [Wm.getInt_enc _ hF]
      simp only [ne_eq, not_true_eq_false, if_false]
      rw [if_neg (by omega), if_pos (by rw [List.length_append, Nat.add_sub_cancel_left, hlj]; omega)]
    unfold Wm.getList
    rw [hl]
    simp
theorem cut_digs (l : List (List UInt8)) (hll : l.length ≤ 1000000) (hf : ∀ x ∈ l, x.length = 16) (A : Option Addr) (c i : Nat) (hi : i < (Wm.encList id l).length) (hc : (Wm.encList id l).length ≤ c) (hL : (Wm.encList id l).length ≤ 1000000000) (W : World) (hr : Rds W W.heap.size A ((Wm.encList id l).map bv)) :
    Calls Try.prog 34 #[.slice A i c] W (CutEnd W) := by
  have hl : ((Wm.encList id l).take i).length = i := by rw [List.length_take]; omega
  have H := getDigests_any ((Wm.encList id l).take i) A c W (by rw [List.map_take]; exact hr.take i) (by omega) (by omega)
  rw [hl] at H
  refine H.mono ?_
  rintro e w' ⟨v', rfl, h2, h3⟩
  exact ⟨_, _, by rw [getDigs_cut l hll hf i hi], h3⟩

/-- A list of strings, each of which fits the address space. -/
def SlT (w : World) (A : Option Addr) (n c : Nat) (l : List (List UInt8)) : Prop := SlS w A n c l ∧ ∀ x ∈ l, x.length ≤ 140737488351232
section
variable {H : Type} {enc : TypeId × Value → H} {P : Program} {w : World} {base : Nat} {spare : Nat → Bool} {held : Bool}
theorem weights_mem_all {e : TypeId} {n : Nat} : ∀ {ds : List (DataW H)} {d : DataW H}, d ∈ ds → n ∈ d.weights P e → n ∈ DataW.weightsAll P e ds
  | d0 :: ds, d, hd, hn => by
    simp only [DataW.weightsAll, List.mem_append]
    rcases List.mem_cons.1 hd with rfl | hd
    · exact .inl hn
    · exact .inr (weights_mem_all hd hn)
theorem reach_inner {ts : List TypeId} {ds : List (DataW H)} {t e : TypeId} {j : Nat} {el sp : List (DataW H)} (hz : (DataW.weightsEach P ts ds).all (· ≤ reachBytes) = true) (ht : ts[j]? = some t) (hd : ds[j]? = some (.slice el sp)) (hu : P.underlying t = some (.slice e))
    (b : List UInt8) (hb : DataW.lit (.string b) ∈ el) : b.length ≤ 140737488351232 := by
  have := List.all_eq_true.1 hz _ (DataW.weights_mem_each ht hd b.length (by
    simp only [DataW.weights, hu]
    exact List.mem_cons_of_mem _ (List.mem_append.2 (.inl (weights_mem_all hb (by simp [DataW.weights]))))))
  have h3 : reachBytes = 140737488351232 := rfl
  simp at this
  omega
theorem open_slT {t e : TypeId} {fuel : Nat} {A : Option Addr} {n c : Nat} {d : DataW H} {pl : List MemPlace} (ht : P.underlying t = some (.slice e)) (he : P.underlying e = some .string) (hce : P.cellsOf e = 1)
    (h : DataW.trod enc P w base spare held fuel t (Value.slice A n c).cells.toList = some (d, pl)) (hz : n ≤ 140737488351232) {ts : List TypeId} {ds : List (DataW H)} {j : Nat} (hsz : (DataW.weightsEach P ts ds).all (· ≤ reachBytes) = true) (htj : ts[j]? = some t) (hdj : ds[j]? = some d) : ∃ l, SlT w A n c l := by
  rcases Go.ChangeShapes.open_strings ht he hce h with ⟨hcs, _⟩ | ⟨ad, len, cap, ss, hcs, _, hl, hm, hzl, hx, hcell, hws⟩
  · simp [Value.cells] at hcs
    obtain ⟨rfl, rfl, rfl⟩ := hcs
    exact ⟨[], ⟨rfl, Nat.le_refl _, Nat.zero_le _, fun _ => rfl, hz, Rds.empty, by simp⟩, by simp⟩
  · simp [Value.cells] at hcs
    obtain ⟨rfl, rfl, rfl⟩ := hcs
    injection hx with hx _
    subst hx
    have hlen : n ≤ ss.length := by rw [hzl]; split <;> omega
    have hll : ((ss.take n).map fun s => s.data.toList).length = n := by simp; omega
    refine ⟨(ss.take n).map fun s => s.data.toList, ⟨hll.symm, hl, hm, (fun h => by cases h), hz, rds_cells (len := n) _ (by simp; omega) ?_, fun y hy => ?_⟩, fun y hy => ?_⟩
    · intro i u hu
      have hi : i < n := by
        rcases Nat.lt_or_ge i n with hi | hi
        · exact hi
        · rw [List.getElem?_eq_none (by simp; omega)] at hu; cases hu
      rw [hcell i (by omega), ← hu]
      simp [hi, List.getD_eq_getElem?_getD, show i < ss.length from by omega]
      exact sv_of _
    · obtain ⟨s, hs, rfl⟩ := List.mem_map.1 hy
      rw [size_of]
      exact hws s (List.mem_of_mem_take hs)
    · obtain ⟨s, hs, rfl⟩ := List.mem_map.1 hy
      exact reach_inner hsz htj hdj ht _ (by unfold Go.ChangeShapes.strs; exact List.mem_map.2 ⟨s, hs, rfl⟩)
end

set_option maxRecDepth 100000 in
set_option maxHeartbeats 2000000 in
theorem walk_truncated (n : Int) (s : List UInt8) (A2 : Option Addr) (c2 : Nat) (l : List Int) (A3 : Option Addr) (c3 : Nat) (x : List (List UInt8)) (A4 : Option Addr) (c4 : Nat) (d : List (List UInt8)) (w : World)
    (hn : Wm.Fits n) (hs : s.length ≤ 140737488351232) (hL : SlI w A2 l.length c2 l) (hX : SlT w A3 x.length c3 x) (hD : SlD w A4 d.length c4 d) :
    Calls Try.prog 9 #[.int .i64 n, sv s, .slice A2 l.length c2, .slice A3 x.length c3, .slice A4 d.length c4] w (OkEnd true w) := by
  have HS := Lib.hid (bs_size s)
  have z1 := hL.reach
  have z2 := hX.1.reach
  have z3 := hD.reach
  have t2 : ((bs s).size : Int) ≤ 140737488351232 := by rw [HS.out]; omega
  have t3 : (l.length : Int) ≤ 140737488351232 := by omega
  have t4 : (x.length : Int) ≤ 140737488351232 := by omega
  have t5 : (d.length : Int) ≤ 140737488351232 := by omega
  by_cases h1 : 400 < s.length + 10 * l.length + 16 * d.length
  · unfold sv
    generalize bs s = S at HS t2
    have t : 400 < (S.size : Int) + 10 * l.length + 16 * d.length := by rw [HS.out]; omega
    clear hL hX hD
    go_enter Try.func9, Try.ntmps9
    go_wp2_with fail
    refine (sanity_any _).mono ?_
    rintro e w1 ⟨rfl, hb1⟩
    go_wp2
    go_ret
    exact ⟨rfl, hb1⟩
  by_cases h2 : 40 < x.length
  · unfold sv
    generalize bs s = S at HS t2
    have t : ¬ 400 < (S.size : Int) + 10 * l.length + 16 * d.length := by rw [HS.out]; omega
    have t' : 40 < (x.length : Int) := by omega
    clear hL hX hD
    go_enter Try.func9, Try.ntmps9
    go_wp2_with fail
    refine (sanity_any _).mono ?_
    rintro e w1 ⟨rfl, hb1⟩
    go_wp2
    go_ret
    exact ⟨rfl, hb1⟩
  by_cases h3 : ¬ x.length + tot x ≤ 2000
  · have HF := Lib.hid (few_any x A3 c3 w hX.1.rds (by omega) hX.2 false (by simp; omega))
    unfold sv
    generalize bs s = S at HS t2
    have t : ¬ 400 < (S.size : Int) + 10 * l.length + 16 * d.length := by rw [HS.out]; omega
    have t' : ¬ 40 < (x.length : Int) := by omega
    clear hL hX hD
    go_enter Try.func9, Try.ntmps9
    go_wp2_with fail
    refine HF.out.mono ?_
    rintro e w1 ⟨rfl, rfl⟩
    go_wp2_with fail
    refine (sanity_any _).mono ?_
    rintro e w1 ⟨rfl, hb1⟩
    go_wp2
    go_ret
    exact ⟨rfl, hb1⟩
  rw [Classical.not_not] at h3
  have HF := Lib.hid (few_any x A3 c3 w hX.1.rds (by omega) hX.2 true (by simp; omega))
  have fl2 := Wm.flat_len Wm.enc 10 l (fun x _ => Wm.enc_len x)
  have fl3 := tot_flat x
  have fl4 := Wm.flat_len id 16 d (fun y hy => Nat.le_of_eq (hD.size y hy))
  have e0 := Wm.enc_len n
  have e1 := Wm.enc_len s.length
  have e2 := Wm.enc_len l.length
  have e3 := Wm.enc_len x.length
  have e4 := Wm.enc_len d.length
  have m1 : (Wm.encBytes s).length ≤ 5000 := by unfold Wm.encBytes; rw [List.length_append]; omega
  have m2 : (Wm.encList Wm.enc l).length ≤ 5000 := by unfold Wm.encList; rw [List.length_append]; omega
  have m3 : (Wm.encList Wm.encBytes x).length ≤ 5000 := by unfold Wm.encList; rw [List.length_append]; omega
  have m4 : (Wm.encList id d).length ≤ 5000 := by unfold Wm.encList; rw [List.length_append]; omega
  have M0 := Lib.hid (fun W => int_any n W hn)
  have M1 := Lib.hid (fun W => bytes_any s W (by omega))
  have M2 := Lib.hid (fun W hW => ints_any l A2 c2 W hW (by omega) hL.fits)
  have M3 := Lib.hid (fun W hW => strings_any x A3 c3 W hW (by omega) (by omega))
  have M4 := Lib.hid (fun W hW => digests_any d A4 c4 W hW (by omega) hD.size)
  have K0 := Lib.hid (cut_int n hn)
  have K1 := Lib.hid (cut_bytes s (by omega))
  have K2 := Lib.hid (fun A c i hi hc => cut_ints l (by omega) hL.fits A c i hi hc (by omega))
  have K3 := Lib.hid (fun A c i hi hc => cut_strings x (by omega) hX.2 A c i hi hc (by omega))
  have K4 := Lib.hid (fun A c i hi hc => cut_digs d (by omega) hD.size A c i hi hc (by omega))
  have r2 := hL.rds
  have r3 := hX.1.rds
  have r4 := hD.rds
  have m0 : (Wm.enc n).length ≤ 5000 := by omega
  unfold sv at M1 ⊢
  generalize bs s = S at HS t2 M1
  have t : ¬ 400 < (S.size : Int) + 10 * l.length + 16 * d.length := by rw [HS.out]; omega
  have t' : ¬ 40 < (x.length : Int) := by omega
  clear hL hX hD fl2 fl3 fl4 e0 e1 e2 e3 e4 h1 h2 h3
  generalize Wm.enc n = L0 at M0 K0 m0
  generalize Wm.encBytes s = L1 at M1 K1 m1
  generalize Wm.encList Wm.enc l = L2 at M2 K2 m2
  generalize Wm.encList Wm.encBytes x = L3 at M3 K3 m3
  generalize Wm.encList id d = L4 at M4 K4 m4
  go_enter Try.func9, Try.ntmps9
  go_wp2_with fail
  refine HF.out.mono ?_
  rintro e w1 ⟨rfl, rfl⟩
  go_wp2_with fail
  refine (M0.out _).mono ?_
  intro e w1 h
  obtain ⟨B0, k0, rfl, j0, _, _, q0, b1⟩ := NewEnd.slice h
  clear h
  go_wp2_with fail
  refine (M1.out _).mono ?_
  intro e w2 h
  obtain ⟨B1, k1, rfl, j1, _, _, q1, b2⟩ := NewEnd.slice h
  clear h
  have b12 := b1.trans (b2.mono b1.size)
  go_wp2_with fail
  refine (M2.out _ ((r2.below b12).more b12.size)).mono ?_
  intro e w3 h
  obtain ⟨B2, k2, rfl, j2, _, _, q2, b3⟩ := NewEnd.slice h
  clear h
  have b13 := b12.trans (b3.mono b12.size)
  go_wp2_with fail
  refine (M3.out _ ((r3.below b13).more b13.size)).mono ?_
  intro e w4 h
  obtain ⟨B3, k3, rfl, j3, _, _, q3, b4⟩ := NewEnd.slice h
  clear h
  have b14 := b13.trans (b4.mono b13.size)
  go_wp2_with fail
  refine (M4.out _ ((r4.below b14).more b14.size)).mono ?_
  intro e w5 h
  obtain ⟨B4, k4, rfl, j4, _, _, q4, b5⟩ := NewEnd.slice h
  clear h
  have b15 := b14.trans (b5.mono b14.size)
  replace q3 := q3.below b5
  replace q2 := (q2.below b4).below (b5.mono b4.size)
  replace q1 := ((q1.below b3).below (b4.mono b3.size)).below (b5.mono (Nat.le_trans b3.size b4.size))
  replace q0 := (((q0.below b2).below (b3.mono b2.size)).below (b4.mono (Nat.le_trans b2.size b3.size))).below (b5.mono (Nat.le_trans b2.size (Nat.le_trans b3.size b4.size)))
  go_wp2_with fail
  obtain ⟨W6, hW6⟩ : ∃ W, W = w5.alloc (.cells #[.slice B0 L0.length k0, .slice B1 L1.length k1, .slice B2 L2.length k2, .slice B3 L3.length k3, .slice B4 L4.length k4] 28) := ⟨_, rfl⟩
  have hz6 : W6.heap.size = w5.heap.size + 1 := by rw [hW6]; exact Array.size_push ..
  have HR : Rds W6 W6.heap.size (some ⟨w5.heap.size, 0, none⟩) [.slice B0 L0.length k0, .slice B1 L1.length k1, .slice B2 L2.length k2, .slice B3 L3.length k3, .slice B4 L4.length k4] := by
    rw [hz6, hW6]
    exact Rds.new w5 [.slice B0 L0.length k0, .slice B1 L1.length k1, .slice B2 L2.length k2, .slice B3 L3.length k3, .slice B4 L4.length k4] 28
  have b6 : Below w5.heap.size w5 W6 := by rw [hW6]; exact below_lit (Below.refl _ _)
  rw [← hW6]
  clear hW6 HF M0 M1 M2 M3 M4 r2 r3 r4 HS t2
  have y5 := b6.size
  have y4 := b5.size
  have y3 := b4.size
  have y2 := b3.size
  have y1 := b2.size
  replace q0 := q0.below (b6.mono (by omega))
  replace q1 := q1.below (b6.mono (by omega))
  replace q2 := q2.below (b6.mono (by omega))
  replace q3 := q3.below (b6.mono (by omega))
  replace q4 := q4.below b6
  replace q0 := q0.more (by omega : _ ≤ W6.heap.size)
  replace q1 := q1.more (by omega : _ ≤ W6.heap.size)
  replace q2 := q2.more (by omega : _ ≤ W6.heap.size)
  replace q3 := q3.more (by omega : _ ≤ W6.heap.size)
  replace q4 := q4.more (by omega : _ ≤ W6.heap.size)
  have b16 := b15.trans (b6.mono b15.size)
  clear b1 b2 b3 b4 b5 b6 b12 b13 b14 b15 y1 y2 y3 y4 y5 hz6
  generalize (some (⟨w5.heap.size, 0, none⟩ : Addr)) = A5 at HR ⊢
  go_loopw [49] (fun i wr => ∃ k : Nat, k ≤ 5 ∧ i = .int .i64 k ∧ Below W6.heap.size W6 wr) (fun i _ => 5 - (intOf i).toNat)
  case atStart => exact ⟨0, by omega, rfl, Below.refl _ _⟩
  case round =>
    obtain ⟨k, hk, rfl, hbw⟩ := hrel
    have hsz := hbw.size
    rcases (by omega : k = 0 ∨ k = 1 ∨ k = 2 ∨ k = 3 ∨ k = 4 ∨ k = 5) with rfl | rfl | rfl | rfl | rfl | rfl
    · obtain ⟨ad, rfl, _, hcell⟩ := (HR.below hbw).look (k := 0) (u := .slice B0 L0.length k0) rfl
      have kk := Lib.hid (fun i hi W hW => K0.out B0 k0 i hi j0 W hW)
      have qq := (q0.below hbw).more hsz
      rw [show ad.add 0 = ad from rfl] at hcell
      clear K0 K1 K2 K3 K4 q0 q1 q2 q3 q4 HR
      go_wp2_with fail
      · go_loopw [57] (fun i wi => ∃ m : Nat, m ≤ 500 ∧ i = .int .i64 m ∧ Below wr.heap.size wr wi) (fun i _ => 500 - (intOf i).toNat)
        case atStart => exact ⟨0, by omega, rfl, Below.refl _ _⟩
        case round =>
          obtain ⟨m, hm, rfl, hbi⟩ := hrel
          have hsi := hbi.size
          by_cases hlt : m < 500
          · have a1 : m < L0.length := by omega
            have HK := Lib.hid (kk.out m a1 _ ((qq.below hbi).more hsi))
            have c1 : (0 : Int) ≤ m := by omega
            have c2 : (m : Int) ≤ L0.length := by omega
            have c3 : m ≤ k0 := by omega
            clear kk qq
            go_wp2_with fail
            refine HK.out.mono ?_
            rintro e w8 ⟨v, u, rfl, hb8⟩
            go_wp2_with fail
            go_roundw
            case rel => exact ⟨m + 1, by omega, by go_num, hbi.trans (hb8.mono hsi)⟩
            case measure => simp [intOf]; omega
          · go_wp2_with fail
            go_roundw
            case rel => exact ⟨0 + 1, by omega, by go_num, hbw.trans (hbi.mono hsz)⟩
            case measure => simp [intOf]
      · go_loopw [57] (fun i wi => ∃ m : Nat, m ≤ L0.length ∧ i = .int .i64 m ∧ Below wr.heap.size wr wi) (fun i _ => 500 - (intOf i).toNat)
        case atStart => exact ⟨0, by omega, rfl, Below.refl _ _⟩
        case round =>
          obtain ⟨m, hm, rfl, hbi⟩ := hrel
          have hsi := hbi.size
          by_cases hlt : m < L0.length
          · have a1 : m < L0.length := by omega
            have HK := Lib.hid (kk.out m a1 _ ((qq.below hbi).more hsi))
            have c1 : (0 : Int) ≤ m := by omega
            have c2 : (m : Int) ≤ L0.length := by omega
            have c3 : m ≤ k0 := by omega
            clear kk qq
            go_wp2_with fail
            refine HK.out.mono ?_
            rintro e w8 ⟨v, u, rfl, hb8⟩
            go_wp2_with fail
            go_roundw
            case rel => exact ⟨m + 1, by omega, by go_num, hbi.trans (hb8.mono hsi)⟩
            case measure => simp [intOf]; omega
          · go_wp2_with fail
            go_roundw
            case rel => exact ⟨0 + 1, by omega, by go_num, hbw.trans (hbi.mono hsz)⟩
            case measure => simp [intOf]
    · obtain ⟨ad, rfl, _, hcell⟩ := (HR.below hbw).look (k := 1) (u := .slice B1 L1.length k1) rfl
      have kk := Lib.hid (fun i hi W hW => K1.out B1 k1 i hi j1 W hW)
      have qq := (q1.below hbw).more hsz
      rw [show ad.add 1 = ⟨ad.block, ad.off + 1, none⟩ from rfl] at hcell
      clear K0 K1 K2 K3 K4 q0 q1 q2 q3 q4 HR
      go_wp2_with fail
      · go_loopw [57] (fun i wi => ∃ m : Nat, m ≤ 500 ∧ i = .int .i64 m ∧ Below wr.heap.size wr wi) (fun i _ => 500 - (intOf i).toNat)
        case atStart => exact ⟨0, by omega, rfl, Below.refl _ _⟩
        case round =>
          obtain ⟨m, hm, rfl, hbi⟩ := hrel
          have hsi := hbi.size
          by_cases hlt : m < 500
          · have a1 : m < L1.length := by omega
            have HK := Lib.hid (kk.out m a1 _ ((qq.below hbi).more hsi))
            have c1 : (0 : Int) ≤ m := by omega
            have c2 : (m : Int) ≤ L1.length := by omega
            have c3 : m ≤ k1 := by omega
            clear kk qq
            go_wp2_with fail
            refine HK.out.mono ?_
            rintro e w8 ⟨v, u, rfl, hb8⟩
            go_wp2_with fail
            go_roundw
            case rel => exact ⟨m + 1, by omega, by go_num, hbi.trans (hb8.mono hsi)⟩
            case measure => simp [intOf]; omega
          · go_wp2_with fail
            go_roundw
            case rel => exact ⟨1 + 1, by omega, by go_num, hbw.trans (hbi.mono hsz)⟩
            case measure => simp [intOf]
      · go_loopw [57] (fun i wi => ∃ m : Nat, m ≤ L1.length ∧ i = .int .i64 m ∧ Below wr.heap.size wr wi) (fun i _ => 500 - (intOf i).toNat)
        case atStart => exact ⟨0, by omega, rfl, Below.refl _ _⟩
        case round =>
          obtain ⟨m, hm, rfl, hbi⟩ := hrel
          have hsi := hbi.size
          by_cases hlt : m < L1.length
          · have a1 : m < L1.length := by omega
            have HK := Lib.hid (kk.out m a1 _ ((qq.below hbi).more hsi))
            have c1 : (0 : Int) ≤ m := by omega
            have c2 : (m : Int) ≤ L1.length := by omega
            have c3 : m ≤ k1 := by omega
            clear kk qq
            go_wp2_with fail
            refine HK.out.mono ?_
            rintro e w8 ⟨v, u, rfl, hb8⟩
            go_wp2_with fail
            go_roundw
            case rel => exact ⟨m + 1, by omega, by go_num, hbi.trans (hb8.mono hsi)⟩
            case measure => simp [intOf]; omega
          · go_wp2_with fail
            go_roundw
            case rel => exact ⟨1 + 1, by omega, by go_num, hbw.trans (hbi.mono hsz)⟩
            case measure => simp [intOf]
    · obtain ⟨ad, rfl, _, hcell⟩ := (HR.below hbw).look (k := 2) (u := .slice B2 L2.length k2) rfl
      have kk := Lib.hid (fun i hi W hW => K2.out B2 k2 i hi j2 W hW)
      have qq := (q2.below hbw).more hsz
      rw [show ad.add 2 = ⟨ad.block, ad.off + 2, none⟩ from rfl] at hcell
      clear K0 K1 K2 K3 K4 q0 q1 q2 q3 q4 HR
      go_wp2_with fail
      · go_loopw [57] (fun i wi => ∃ m : Nat, m ≤ 500 ∧ i = .int .i64 m ∧ Below wr.heap.size wr wi) (fun i _ => 500 - (intOf i).toNat)
        case atStart => exact ⟨0, by omega, rfl, Below.refl _ _⟩
        case round =>
          obtain ⟨m, hm, rfl, hbi⟩ := hrel
          have hsi := hbi.size
          by_cases hlt : m < 500
          · have a1 : m < L2.length := by omega
            have HK := Lib.hid (kk.out m a1 _ ((qq.below hbi).more hsi))
            have c1 : (0 : Int) ≤ m := by omega
            have c2 : (m : Int) ≤ L2.length := by omega
            have c3 : m ≤ k2 := by omega
            clear kk qq
            go_wp2_with fail
            refine HK.out.mono ?_
            rintro e w8 ⟨v, u, rfl, hb8⟩
            go_wp2_with fail
            go_roundw
            case rel => exact ⟨m + 1, by omega, by go_num, hbi.trans (hb8.mono hsi)⟩
            case measure => simp [intOf]; omega
          · go_wp2_with fail
            go_roundw
            case rel => exact ⟨2 + 1, by omega, by go_num, hbw.trans (hbi.mono hsz)⟩
            case measure => simp [intOf]
      · go_loopw [57] (fun i wi => ∃ m : Nat, m ≤ L2.length ∧ i = .int .i64 m ∧ Below wr.heap.size wr wi) (fun i _ => 500 - (intOf i).toNat)
        case atStart => exact ⟨0, by omega, rfl, Below.refl _ _⟩
        case round =>
          obtain ⟨m, hm, rfl, hbi⟩ := hrel
          have hsi := hbi.size
          by_cases hlt : m < L2.length
          · have a1 : m < L2.length := by omega
            have HK := Lib.hid (kk.out m a1 _ ((qq.below hbi).more hsi))
            have c1 : (0 : Int) ≤ m := by omega
            have c2 : (m : Int) ≤ L2.length := by omega
            have c3 : m ≤ k2 := by omega
            clear kk qq
            go_wp2_with fail
            refine HK.out.mono ?_
            rintro e w8 ⟨v, u, rfl, hb8⟩
            go_wp2_with fail
            go_roundw
            case rel => exact ⟨m + 1, by omega, by go_num, hbi.trans (hb8.mono hsi)⟩
            case measure => simp [intOf]; omega
          · go_wp2_with fail
            go_roundw
            case rel => exact ⟨2 + 1, by omega, by go_num, hbw.trans (hbi.mono hsz)⟩
            case measure => simp [intOf]
    · obtain ⟨ad, rfl, _, hcell⟩ := (HR.below hbw).look (k := 3) (u := .slice B3 L3.length k3) rfl
      have kk := Lib.hid (fun i hi W hW => K3.out B3 k3 i hi j3 W hW)
      have qq := (q3.below hbw).more hsz
      rw [show ad.add 3 = ⟨ad.block, ad.off + 3, none⟩ from rfl] at hcell
      clear K0 K1 K2 K3 K4 q0 q1 q2 q3 q4 HR
      go_wp2_with fail
      · go_loopw [57] (fun i wi => ∃ m : Nat, m ≤ 500 ∧ i = .int .i64 m ∧ Below wr.heap.size wr wi) (fun i _ => 500 - (intOf i).toNat)
        case atStart => exact ⟨0, by omega, rfl, Below.refl _ _⟩
        case round =>
          obtain ⟨m, hm, rfl, hbi⟩ := hrel
          have hsi := hbi.size
          by_cases hlt : m < 500
          · have a1 : m < L3.length := by omega
            have HK := Lib.hid (kk.out m a1 _ ((qq.below hbi).more hsi))
            have c1 : (0 : Int) ≤ m := by omega
            have c2 : (m : Int) ≤ L3.length := by omega
            have c3 : m ≤ k3 := by omega
            clear kk qq
            go_wp2_with fail
            refine HK.out.mono ?_
            rintro e w8 ⟨v, u, rfl, hb8⟩
            go_wp2_with fail
            go_roundw
            case rel => exact ⟨m + 1, by omega, by go_num, hbi.trans (hb8.mono hsi)⟩
            case measure => simp [intOf]; omega
          · go_wp2_with fail
            go_roundw
            case rel => exact ⟨3 + 1, by omega, by go_num, hbw.trans (hbi.mono hsz)⟩
            case measure => simp [intOf]
      · go_loopw [57] (fun i wi => ∃ m : Nat, m ≤ L3.length ∧ i = .int .i64 m ∧ Below wr.heap.size wr wi) (fun i _ => 500 - (intOf i).toNat)
        case atStart => exact ⟨0, by omega, rfl, Below.refl _ _⟩
        case round =>
          obtain ⟨m, hm, rfl, hbi⟩ := hrel
          have hsi := hbi.size
          by_cases hlt : m < L3.length
          · have a1 : m < L3.length := by omega
            have HK := Lib.hid (kk.out m a1 _ ((qq.below hbi).more hsi))
            have c1 : (0 : Int) ≤ m := by omega
            have c2 : (m : Int) ≤ L3.length := by omega
            have c3 : m ≤ k3 := by omega
            clear kk qq
            go_wp2_with fail
            refine HK.out.mono ?_
            rintro e w8 ⟨v, u, rfl, hb8⟩
            go_wp2_with fail
            go_roundw
            case rel => exact ⟨m + 1, by omega, by go_num, hbi.trans (hb8.mono hsi)⟩
            case measure => simp [intOf]; omega
          · go_wp2_with fail
            go_roundw
            case rel => exact ⟨3 + 1, by omega, by go_num, hbw.trans (hbi.mono hsz)⟩
            case measure => simp [intOf]
    · obtain ⟨ad, rfl, _, hcell⟩ := (HR.below hbw).look (k := 4) (u := .slice B4 L4.length k4) rfl
      have kk := Lib.hid (fun i hi W hW => K4.out B4 k4 i hi j4 W hW)
      have qq := (q4.below hbw).more hsz
      rw [show ad.add 4 = ⟨ad.block, ad.off + 4, none⟩ from rfl] at hcell
      clear K0 K1 K2 K3 K4 q0 q1 q2 q3 q4 HR
      go_wp2_with fail
      · go_loopw [57] (fun i wi => ∃ m : Nat, m ≤ 500 ∧ i = .int .i64 m ∧ Below wr.heap.size wr wi) (fun i _ => 500 - (intOf i).toNat)
        case atStart => exact ⟨0, by omega, rfl, Below.refl _ _⟩
        case round =>
          obtain ⟨m, hm, rfl, hbi⟩ := hrel
          have hsi := hbi.size
          by_cases hlt : m < 500
          · have a1 : m < L4.length := by omega
            have HK := Lib.hid (kk.out m a1 _ ((qq.below hbi).more hsi))
            have c1 : (0 : Int) ≤ m := by omega
            have c2 : (m : Int) ≤ L4.length := by omega
            have c3 : m ≤ k4 := by omega
            clear kk qq
            go_wp2_with fail
            refine HK.out.mono ?_
            rintro e w8 ⟨v, u, rfl, hb8⟩
            go_wp2_with fail
            go_roundw
            case rel => exact ⟨m + 1, by omega, by go_num, hbi.trans (hb8.mono hsi)⟩
            case measure => simp [intOf]; omega
          · go_wp2_with fail
            go_roundw
            case rel => exact ⟨4 + 1, by omega, by go_num, hbw.trans (hbi.mono hsz)⟩
            case measure => simp [intOf]
      · go_loopw [57] (fun i wi => ∃ m : Nat, m ≤ L4.length ∧ i = .int .i64 m ∧ Below wr.heap.size wr wi) (fun i _ => 500 - (intOf i).toNat)
        case atStart => exact ⟨0, by omega, rfl, Below.refl _ _⟩
        case round =>
          obtain ⟨m, hm, rfl, hbi⟩ := hrel
          have hsi := hbi.size
          by_cases hlt : m < L4.length
          · have a1 : m < L4.length := by omega
            have HK := Lib.hid (kk.out m a1 _ ((qq.below hbi).more hsi))
            have c1 : (0 : Int) ≤ m := by omega
            have c2 : (m : Int) ≤ L4.length := by omega
            have c3 : m ≤ k4 := by omega
            clear kk qq
            go_wp2_with fail
            refine HK.out.mono ?_
            rintro e w8 ⟨v, u, rfl, hb8⟩
            go_wp2_with fail
            go_roundw
            case rel => exact ⟨m + 1, by omega, by go_num, hbi.trans (hb8.mono hsi)⟩
            case measure => simp [intOf]; omega
          · go_wp2_with fail
            go_roundw
            case rel => exact ⟨4 + 1, by omega, by go_num, hbw.trans (hbi.mono hsz)⟩
            case measure => simp [intOf]
    · go_wp2_with fail
      refine (sanity_any _).mono ?_
      rintro e w7 ⟨rfl, hb7⟩
      go_wp2
      go_ret
      have bb := b16.trans (hbw.mono b16.size)
      exact ⟨rfl, bb.trans (hb7.mono bb.size)⟩
end Go.Proofs.Ythnbiegpfjnadaa
