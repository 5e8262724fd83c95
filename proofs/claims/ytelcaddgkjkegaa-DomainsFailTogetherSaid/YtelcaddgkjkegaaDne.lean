/-
  Stage 10 (domain): sets of pieces that are left, as numbers; Count.
-/
import Derived.Test.YtelcaddgkjkegaaDmp
import Derived.Test.YtelcaddgkjkegaaDnb
namespace Go.Proofs.Ytelcaddgkjkegaa
set_option linter.unusedVariables false
set_option linter.unusedSimpArgs false
open Go.RowKit

theorem lsb_nat (a : Nat) (i : Nat) (ha : a < 4294967296) : (BitVec.ofInt 64 (a : Int)).getLsbD i = a.testBit i := by
  rw [BitVec.ofInt_natCast, BitVec.getLsbD_ofNat]
  by_cases hi : i < 64
  · simp [hi]
  · have : a.testBit i = false := Nat.testBit_lt_two_pow (Nat.lt_of_lt_of_le ha (Nat.le_trans (by decide : 4294967296 ≤ 2 ^ 64) (Nat.pow_le_pow_right (by decide) (by omega))))
    simp [hi, this]
theorem and_i64s (a b : Nat) (ha : a < 4294967296) (hb : b < 4294967296) : bits BinOp.and IntKind.i64 (a : Int) (b : Int) = ((a &&& b : Nat) : Int) := by
  have hx : a &&& b ≤ a := Nat.and_le_left
  have h1 : (BitVec.ofInt 64 (a : Int)).toNat = a := by
    rw [BitVec.ofInt_natCast, BitVec.toNat_ofNat]; exact Nat.mod_eq_of_lt (by omega)
  have h2 : (BitVec.ofInt 64 (b : Int)).toNat = b := by
    rw [BitVec.ofInt_natCast, BitVec.toNat_ofNat]; exact Nat.mod_eq_of_lt (by omega)
  show IntKind.i64.wrap ((BitVec.ofInt 64 (a : Int) &&& BitVec.ofInt 64 (b : Int)).toNat : Int) = _
  rw [BitVec.toNat_and, h1, h2, IntKind.wrap_i64]
  omega
theorem andNot_sub (a b : Nat) (ha : a < 4294967296) (hb : b < 4294967296) (h : ∀ i, a.testBit i = true → b.testBit i = true) : bits BinOp.andNot IntKind.i64 (a : Int) (b : Int) = 0 := by
  show IntKind.i64.wrap ((BitVec.ofInt 64 (a : Int) &&& ~~~ BitVec.ofInt 64 (b : Int)).toNat : Int) = _
  have : BitVec.ofInt 64 (a : Int) &&& ~~~ BitVec.ofInt 64 (b : Int) = 0#64 := by
    refine BitVec.eq_of_getLsbD_eq fun i hi => ?_
    rw [BitVec.getLsbD_and, BitVec.getLsbD_not, lsb_nat a i ha, lsb_nat b i hb]
    have := h i
    cases ha' : a.testBit i <;> cases hb' : b.testBit i <;> simp_all
  rw [this]
  rfl
theorem setB_bit (P : Nat → Bool) (n i : Nat) : (setB P n).testBit i = (decide (i < n) && P i) := by
  induction n with
  | zero => simp [setB]
  | succ n ih =>
    rw [setB]
    cases hp : P n with
    | true =>
      rw [if_pos rfl, ← or_new (setB_lt _ _), Nat.testBit_or, ih, Nat.testBit_two_pow]
      by_cases h1 : i < n
      · simp [h1, show i < n + 1 by omega, show n ≠ i by omega]
      · by_cases h2 : i = n
        · subst h2; simp [hp]
        · simp [h1, show ¬ i < n + 1 by omega, show n ≠ i by omega]
    | false =>
      rw [if_neg (by decide), Nat.add_zero, ih]
      by_cases h1 : i < n
      · simp [h1, show i < n + 1 by omega]
      · by_cases h2 : i = n
        · subst h2; simp [hp]
        · simp [h1, show ¬ i < n + 1 by omega]
theorem setB_and (P Q : Nat → Bool) (n : Nat) : setB P n &&& setB Q n = setB (fun i => P i && Q i) n := by
  refine Nat.eq_of_testBit_eq fun i => ?_
  rw [Nat.testBit_and, setB_bit, setB_bit, setB_bit]
  cases decide (i < n) <;> simp
theorem setB_congr {P Q : Nat → Bool} {n : Nat} (h : ∀ i, i < n → P i = Q i) : setB P n = setB Q n := by
  refine Nat.eq_of_testBit_eq fun i => ?_
  rw [setB_bit, setB_bit]
  by_cases hi : i < n
  · rw [h i hi]
  · simp [hi]
/-- How many bits a number has. -/
def cntN (n : Nat) : Nat := if h : n = 0 then 0 else n % 2 + cntN (n / 2)
termination_by n
theorem cntN_zero : cntN 0 = 0 := by rw [cntN]; rfl
theorem cntN_pos {n : Nat} (h : 0 < n) : cntN n = n % 2 + cntN (n / 2) := by rw [cntN, dif_neg (by omega)]
theorem cntN_all (n : Nat) : cntN n = n % 2 + cntN (n / 2) := by
  rcases Nat.eq_zero_or_pos n with h | h
  · subst h; rw [cntN_zero]
  · exact cntN_pos h
theorem cntN_le : ∀ N n, n ≤ N → cntN n ≤ n
  | 0, n, h => by obtain rfl : n = 0 := by omega
                  rw [cntN_zero]; omega
  | N + 1, n, h => by
    rcases Nat.eq_zero_or_pos n with h0 | h0
    · subst h0; rw [cntN_zero]; omega
    · rw [cntN_pos h0]
      have := cntN_le N (n / 2) (by omega)
      omega
theorem cntN_add : ∀ n s : Nat, s < 2 ^ n → cntN (s + 2 ^ n) = cntN s + 1
  | 0, s, h => by
    obtain rfl : s = 0 := by simpa using h
    rw [cntN_all]; simp [cntN_zero]
  | n + 1, s, h => by
    rw [Nat.pow_succ] at h ⊢
    rw [cntN_all (s + 2 ^ n * 2), cntN_all s, show (s + 2 ^ n * 2) % 2 = s % 2 by omega, show (s + 2 ^ n * 2) / 2 = s / 2 + 2 ^ n by omega, cntN_add n (s / 2) (by omega)]
    omega
theorem cntN_setB (P : Nat → Bool) (n : Nat) : cntN (setB P n) = ((List.range n).filter P).length := by
  induction n with
  | zero => simp [setB, cntN_zero]
  | succ n ih =>
    rw [setB, List.range_succ, List.filter_append, List.length_append, ← ih]
    cases hp : P n with
    | true => rw [if_pos rfl, cntN_add n _ (setB_lt _ _)]; simp [hp]
    | false => rw [if_neg (by decide), Nat.add_zero]; simp [hp]
set_option maxRecDepth 100000 in
set_option maxHeartbeats 1000000 in
theorem countN_any (n : Nat) (w : World) (hn : n ≤ 1125899906842624) : Calls Try.prog 9 #[.int .i64 n] w fun e w' => e = .returned (.int .i64 (cntN n : Nat)) ∧ w = w' := by
  go_enter Try.func9, Try.ntmps9
  go_wp2_with fail
  go_loopw [0, 3] (fun x k wr => ∃ m j : Nat, x = .int .i64 m ∧ k = .int .i64 j ∧ m ≤ n ∧ j ≤ n ∧ j + cntN m = cntN n ∧ w = wr) (fun x _ _ => (intOf x).toNat)
  case atStart => exact ⟨n, 0, rfl, rfl, Nat.le_refl _, by omega, by omega, rfl⟩
  case round =>
    obtain ⟨m, j, rfl, rfl, hm, hj, he0, rfl⟩ := hrel
    have hle := cntN_le n n (Nat.le_refl _)
    by_cases hp : 0 < m
    · have t : 0 < (m : Int) := by omega
      have he := Lib.hid he0
      have hst := cntN_pos hp
      obtain ⟨r, hr⟩ : ∃ r, r = m % 2 := ⟨_, rfl⟩
      obtain ⟨q, hq⟩ : ∃ q, q = m / 2 := ⟨_, rfl⟩
      rw [← hr, ← hq] at hst
      have e1 : (m : Int) % 2 = (r : Int) := by omega
      have e2 : (m : Int) / 2 = (q : Int) := by omega
      have hnext : Hid (j + r + cntN q = cntN n ∧ j + r ≤ n ∧ q ≤ n ∧ q < m) := by
        have := he.out
        refine ⟨by omega, by omega, by omega, by omega⟩
      have hb : j + r ≤ 1125899906842624 := by have := hnext.out.2.1; omega
      clear he0 hst hr hq hle
      go_wp2_with fail
      go_roundw
      case rel => exact ⟨q, j + r, by go_num, by go_num, hnext.out.2.2.1, hnext.out.2.1, hnext.out.1, trivial⟩
      case measure => have := hnext.out.2.2.2; simp [intOf]; omega
    · obtain rfl : m = 0 := by omega
      rw [cntN_zero, Nat.add_zero] at he0
      have he := Lib.hid he0
      clear he0 hle
      go_wp2_with fail
      go_ret
      exact ⟨by rw [← he.out]; rfl, rfl⟩
section
variable {d : Dm} {lv : Int} {L F F' : List Int}
theorem cap_len (L : List Int) : (Dm.cap L).length ≤ 24 := by
  unfold Dm.cap
  split
  · assumption
  · simp
theorem left_lt (d : Dm) (lv : Int) (L F : List Int) : d.left lv L F < 16777216 := by
  unfold Dm.left
  exact Nat.lt_of_lt_of_le (setB_lt _ _) (Nat.le_trans (Nat.pow_le_pow_right (by decide) (cap_len L)) (by decide))
theorem stays_app (x : Int) : d.stays lv (F ++ F') x = (d.stays lv F x && d.stays lv F' x) := by
  unfold Dm.stays
  rw [List.contains_append]
  cases decide (0 ≤ d.of lv x) <;> cases F.contains (d.of lv x) <;> cases F'.contains (d.of lv x) <;> rfl
/-- With both lists as much is left as with each of them. -/
theorem left_app : d.left lv L (F ++ F') = d.left lv L F &&& d.left lv L F' := by
  unfold Dm.left
  rw [setB_and]
  exact setB_congr fun i _ => stays_app _
theorem left_nil : ∀ i, (d.left lv L F).testBit i = true → (d.left lv L []).testBit i = true := fun i h => by
  unfold Dm.left at h ⊢
  rw [setB_bit] at h ⊢
  rw [Bool.and_eq_true] at h ⊢
  refine ⟨h.1, ?_⟩
  have h2 := h.2
  unfold Dm.stays at h2 ⊢
  rw [Bool.and_eq_true] at h2
  rw [h2.1]
  rfl
theorem left_both : ∀ i, (d.left lv L (F ++ F')).testBit i = true → (d.left lv L F).testBit i = true := fun i h => by
  rw [left_app, Nat.testBit_and, Bool.and_eq_true] at h
  exact h.1
theorem left_size0 (h : d.size lv = 0) : d.left lv L F = 0 := by
  unfold Dm.left
  refine Nat.eq_of_testBit_eq fun i => ?_
  rw [setB_bit]
  unfold Dm.stays
  rw [Dm.of_none h]
  simp
theorem range_getD (L : List Int) : (List.range L.length).map (fun i => L.getD i 0) = L := by
  refine List.ext_getElem (by simp) fun i h1 h2 => ?_
  simp
  rw [List.getElem?_eq_getElem h2]
  rfl
theorem filter_range (P : Int → Bool) (L : List Int) : ((List.range L.length).filter fun i => P (L.getD i 0)).length = (L.filter P).length := by
  have := congrArg (fun l => (l.filter P).length) (range_getD L)
  simp only [List.filter_map, List.length_map] at this
  exact this
/-- A domain that fails alone takes as many pieces as it holds. -/
theorem left_one {k : Nat} : cntN (d.left lv L []) = cntN (d.left lv L [(k : Int)]) + d.cnt lv (Dm.cap L) k := by
  unfold Dm.left Dm.cnt
  rw [cntN_setB, cntN_setB, filter_range (fun x => d.stays lv [] x), filter_range (fun x => d.stays lv [(k : Int)] x)]
  refine filter_split _ _ _ (fun x => ?_) (fun x hh => ?_) _
  · unfold Dm.stays
    rw [Bool.eq_iff_iff]
    simp
    omega
  · have h1 := hh.1
    have h2 := of_decide_eq_true hh.2
    unfold Dm.stays at h1
    rw [h2] at h1
    simp at h1
theorem holdsI_at {k : Nat} (hk : (k : Int) < d.size lv) : (d.holdsI lv L)[k]? = some ((d.cnt lv (Dm.cap L) k : Nat) : Int) := by
  unfold Dm.holdsI Dm.holds
  rw [List.getElem?_map, List.getElem?_map, List.getElem?_range (by omega)]
  rfl
theorem holdsI_len : ((d.holdsI lv L).length : Int) = d.size lv := by
  unfold Dm.holdsI Dm.holds
  have := (Dm.size_ge (d := d) lv).1
  simp
  omega
/-- The domains of the level below in which the members are. -/
def Dm.belowI (d : Dm) (lv k : Int) : List Int := (d.memI lv k).map fun x => d.of (lv - 1) x
/-- A domain that fails is as much as its domains of the level below together. -/
theorem left_below (h : d.chk = 0) {l k : Nat} (hl : l < 3) (hk : (k : Int) < d.size ((l + 1 : Nat) : Int)) : d.left ((l + 1 : Nat) : Int) L [(k : Int)] = d.left l L (d.belowI ((l + 1 : Nat) : Int) k) := by
  unfold Dm.left
  refine setB_congr fun i _ => ?_
  generalize (Dm.cap L).getD i 0 = x
  have hlv : (((l + 1 : Nat) : Int) - 1) = (l : Int) := by omega
  rw [Bool.eq_iff_iff]
  unfold Dm.stays Dm.belowI
  rw [hlv, Bool.and_eq_true, Bool.and_eq_true, decide_eq_true_iff, decide_eq_true_iff]
  have key : ∀ m : Nat, 0 ≤ d.of m x → m ≤ 3 → ∃ j : Nat, x = (j : Int) ∧ j < d.D.length := fun m h0 _ => by
    obtain ⟨_, _, _, _, h5, h6⟩ := Dm.of_lt h0
    exact ⟨x.toNat, by omega, by omega⟩
  constructor
  · rintro ⟨h0, h1⟩
    obtain ⟨j, rfl, hj⟩ := key (l + 1) h0 (by omega)
    have e1 := of_up h hj (l := l) (by omega)
    have e2 := of_up h hj (l := l + 1) (by omega)
    refine ⟨by rw [e1]; exact (Dm.ok_up h (by omega) (by omega) hj).1, ?_⟩
    rw [Bool.not_eq_true', ← Bool.not_eq_true, List.contains_iff_mem] at h1 ⊢
    intro hm
    obtain ⟨y, hy, he⟩ := List.mem_map.1 hm
    have hyk := memI_mem hy
    have hy0 : 0 ≤ d.of ((l + 1 : Nat) : Int) y := by rw [hyk]; omega
    obtain ⟨_, _, _, _, g5, g6⟩ := Dm.of_lt hy0
    obtain ⟨i2, rfl⟩ : ∃ i2 : Nat, y = (i2 : Int) := ⟨y.toNat, by omega⟩
    have hi2 : i2 < d.D.length := by omega
    rw [of_up h hi2 (by omega), e1] at he
    have := up_next h hi2 hj hl he
    rw [of_up h hi2 (by omega)] at hyk
    rw [hyk] at this
    exact h1 (by rw [e2, ← this]; simp)
  · rintro ⟨h0, h1⟩
    obtain ⟨j, rfl, hj⟩ := key l h0 (by omega)
    have e1 := of_up h hj (l := l) (by omega)
    have e2 := of_up h hj (l := l + 1) (by omega)
    refine ⟨by rw [e2]; exact (Dm.ok_up h (by omega) (by omega) hj).1, ?_⟩
    rw [Bool.not_eq_true', ← Bool.not_eq_true, List.contains_iff_mem] at h1 ⊢
    intro hm
    have hm := List.mem_singleton.1 hm
    refine h1 (List.mem_map.2 ⟨(j : Int), ?_, rfl⟩)
    unfold Dm.memI Dm.memT
    exact List.mem_map.2 ⟨j, List.mem_filter.2 ⟨List.mem_range.2 hj, decide_eq_true ⟨by omega, hm⟩⟩, rfl⟩
end
end Go.Proofs.Ytelcaddgkjkegaa
