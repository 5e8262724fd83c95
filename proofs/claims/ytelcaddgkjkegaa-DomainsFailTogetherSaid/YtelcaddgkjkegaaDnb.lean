/-
  Stage 10 (domain): domains are nested; Relate is the level of the smallest common domain; members.
-/
import Derived.Test.YtelcaddgkjkegaaDma
import Derived.Test.YtelcaddgkjkegaaDmk
namespace Go.Proofs.Ytelcaddgkjkegaa
set_option linter.unusedVariables false

section
variable {d : Dm}
/-- One domain of a level: one domain of the next level. -/
theorem up_next (h : d.chk = 0) {i j : Nat} (hi : i < d.D.length) (hj : j < d.D.length) {l : Nat} (hl : l < 3) (he : d.up l i = d.up l j) : d.up ((l + 1 : Nat) : Int) i = d.up ((l + 1 : Nat) : Int) j := by
  match l, hl with
  | 0, _ =>
    have : (i : Int) = (j : Int) := he
    have : i = j := by omega
    rw [this]
  | 1, _ =>
    have : d.rk i = d.rk j := he
    show d.hsR (d.rk i) = d.hsR (d.rk j)
    rw [this]
  | 2, _ =>
    have : d.hsR (d.rk i) = d.hsR (d.rk j) := he
    show d.owH (d.hsR (d.rk i)) = d.owH (d.hsR (d.rk j))
    rw [this]
theorem up_mono (h : d.chk = 0) {i j : Nat} (hi : i < d.D.length) (hj : j < d.D.length) {l m : Nat} (hlm : l ≤ m) (hm : m ≤ 3) (he : d.up l i = d.up l j) : d.up m i = d.up m j := by
  induction m with
  | zero => rw [show l = 0 by omega] at he; exact he
  | succ m ih =>
    by_cases e : l = m + 1
    · rw [← e]; exact he
    · exact up_next h hi hj (by omega) (ih (by omega) (by omega))
theorem of_up (h : d.chk = 0) {i : Nat} (hi : i < d.D.length) {l : Nat} (hl : l ≤ 3) : d.of l i = d.up l i := Dm.of_in h (by omega) (by omega) hi
theorem tog_iff (h : d.chk = 0) {i j : Nat} (hi : i < d.D.length) (hj : j < d.D.length) {l : Nat} (hl : l ≤ 3) : d.tog i j l ↔ d.of l i = d.of l j := by
  unfold Dm.tog
  have := (Dm.ok_up h (lv := l) (by omega) (by omega) hi).1
  rw [of_up h hi hl, of_up h hj hl]
  exact ⟨fun x => x.2, fun x => ⟨this, x⟩⟩
theorem rel_bounds (a b : Int) : 0 ≤ d.rel a b ∧ d.rel a b ≤ 4 := by
  unfold Dm.rel
  repeat' split
  all_goals omega
/-- The level that Relate names is the lowest one. -/
theorem rel_iff (h : d.chk = 0) {i j : Nat} (hi : i < d.D.length) (hj : j < d.D.length) {l : Nat} (hl : l ≤ 3) : d.of l i = d.of l j ↔ d.rel i j ≤ l := by
  have t0 := tog_iff h hi hj (l := 0) (by omega)
  have t1 := tog_iff h hi hj (l := 1) (by omega)
  have t2 := tog_iff h hi hj (l := 2) (by omega)
  have t3 := tog_iff h hi hj (l := 3) (by omega)
  have mono : ∀ l m : Nat, l ≤ m → m ≤ 3 → d.of l i = d.of l j → d.of m i = d.of m j := fun l m h1 h2 he => by
    rw [of_up h hi (by omega), of_up h hj (by omega)] at he ⊢
    exact up_mono h hi hj h1 h2 he
  have hr : d.rel i j = if d.tog i j 0 then 0 else if d.tog i j 1 then 1 else if d.tog i j 2 then 2 else if d.tog i j 3 then 3 else 4 := rfl
  by_cases h0 : d.tog i j 0
  · rw [hr, if_pos h0]
    exact ⟨fun _ => by omega, fun _ => mono 0 l (by omega) hl (t0.1 h0)⟩
  rw [hr, if_neg h0]
  by_cases h1 : d.tog i j 1
  · rw [if_pos h1]
    refine ⟨fun he => ?_, fun hh => mono 1 l (by omega) hl (t1.1 h1)⟩
    rcases Nat.eq_zero_or_pos l with e | e
    · subst e; exact absurd (t0.2 he) h0
    · omega
  rw [if_neg h1]
  by_cases h2 : d.tog i j 2
  · rw [if_pos h2]
    refine ⟨fun he => ?_, fun hh => mono 2 l (by omega) hl (t2.1 h2)⟩
    rcases Nat.lt_or_ge l 2 with e | e
    · exact absurd (t1.2 (mono l 1 (by omega) (by omega) he)) h1
    · omega
  rw [if_neg h2]
  by_cases h3 : d.tog i j 3
  · rw [if_pos h3]
    refine ⟨fun he => ?_, fun hh => mono 3 l (by omega) hl (t3.1 h3)⟩
    rcases Nat.lt_or_ge l 3 with e | e
    · exact absurd (t2.2 (mono l 2 (by omega) (by omega) he)) h2
    · omega
  rw [if_neg h3]
  refine ⟨fun he => absurd (t3.2 (mono l 3 hl (by omega) he)) h3, fun hh => by omega⟩
theorem rel_comm (a b : Int) : d.rel b a = d.rel a b := by
  have ht : ∀ l, d.tog b a l ↔ d.tog a b l := fun l => by
    unfold Dm.tog
    exact ⟨fun ⟨x, y⟩ => ⟨by rw [← y]; exact x, y.symm⟩, fun ⟨x, y⟩ => ⟨by rw [← y]; exact x, y.symm⟩⟩
  unfold Dm.rel
  simp only [ht]
/-- The greatest of three occurs twice. -/
theorem rel_ultra (h : d.chk = 0) {i j k : Nat} (hi : i < d.D.length) (hj : j < d.D.length) (hk : k < d.D.length) : d.rel i k ≤ max (d.rel i j) (d.rel j k) := by
  have b1 := rel_bounds (d := d) i j
  have b2 := rel_bounds (d := d) j k
  have b3 := rel_bounds (d := d) i k
  obtain ⟨m, hm⟩ : ∃ m : Nat, max (d.rel i j) (d.rel j k) = (m : Int) := ⟨(max (d.rel i j) (d.rel j k)).toNat, by omega⟩
  by_cases hm3 : m ≤ 3
  · have e1 := (rel_iff h hi hj hm3).2 (by omega)
    have e2 := (rel_iff h hj hk hm3).2 (by omega)
    have := (rel_iff h hi hk hm3).1 (e1.trans e2)
    omega
  · omega
/-- How many of the disks are in one of the first domains. -/
def Dm.cntB (d : Dm) (lv : Int) (k : Nat) : Nat := ((List.range d.D.length).filter fun i : Nat => decide (0 ≤ d.of lv i ∧ d.of lv i < k)).length
theorem cntB_zero (lv : Int) : d.cntB lv 0 = 0 := by
  unfold Dm.cntB
  rw [List.length_eq_zero_iff, List.filter_eq_nil_iff]
  intro i _ h
  have := of_decide_eq_true h
  omega
theorem filter_split {α : Type} (P Q R : α → Bool) (h : ∀ x, P x = (Q x || R x)) (hd : ∀ x, ¬ (Q x = true ∧ R x = true)) (l : List α) : (l.filter P).length = (l.filter Q).length + (l.filter R).length := by
  induction l with
  | nil => rfl
  | cons x l ih =>
    have h1 := h x
    have h2 := hd x
    rw [List.filter_cons, List.filter_cons, List.filter_cons, h1]
    cases hq : Q x <;> cases hr : R x
    · simpa using ih
    · simp; omega
    · simp; omega
    · exact absurd ⟨hq, hr⟩ h2
theorem cntB_next (lv : Int) (k : Nat) : d.cntB lv (k + 1) = d.cntB lv k + (d.mem lv k).length := by
  unfold Dm.cntB Dm.mem
  refine filter_split _ _ _ (fun i => ?_) (fun i hh => ?_) _
  · rw [Bool.eq_iff_iff, Bool.or_eq_true, decide_eq_true_iff, decide_eq_true_iff, decide_eq_true_iff]
    omega
  · have h1 := of_decide_eq_true hh.1
    have h2 := of_decide_eq_true hh.2
    omega
theorem cntB_all (h : d.chk = 0) {lv : Nat} (hl : lv ≤ 3) : d.cntB lv (d.size lv).toNat = d.D.length := by
  unfold Dm.cntB
  rw [List.filter_eq_self.2, List.length_range]
  intro i hi
  have hi := List.mem_range.1 hi
  rw [decide_eq_true_iff, of_up h hi hl]
  have := Dm.ok_up h (lv := lv) (by omega) (by omega) hi
  omega
theorem cntB_le (lv : Int) (k : Nat) : d.cntB lv k ≤ d.D.length := by
  unfold Dm.cntB
  refine Nat.le_trans (List.length_filter_le _ _) ?_
  rw [List.length_range]
  exact Nat.le_refl _
/-- What is in the list of members. -/
theorem memI_mem {lv n : Int} {x : Int} (h : x ∈ d.memI lv n) : d.of lv x = n := by
  unfold Dm.memI Dm.memT at h
  obtain ⟨i, hi, rfl⟩ := List.mem_map.1 h
  have := of_decide_eq_true (List.mem_filter.1 hi).2
  exact this.2
theorem memI_sorted (lv n : Int) : (d.memI lv n).Pairwise (· < ·) := by
  unfold Dm.memI Dm.memT
  rw [List.pairwise_map]
  refine List.Pairwise.filter _ ?_
  refine (List.pairwise_lt_range).imp ?_
  intro a b h
  omega
theorem memI_next {lv n x y : Int} {i : Nat} (h1 : (d.memI lv n)[i]? = some x) (h2 : (d.memI lv n)[i + 1]? = some y) : x < y := by
  have hs := memI_sorted (d := d) lv n
  obtain ⟨a1, b1⟩ := List.getElem?_eq_some_iff.1 h1
  obtain ⟨a2, b2⟩ := List.getElem?_eq_some_iff.1 h2
  have := List.pairwise_iff_getElem.1 hs i (i + 1) a1 a2 (by omega)
  rw [b1, b2] at this
  exact this
theorem memI_len (lv : Int) (k : Nat) : (d.memI lv k).length = (d.mem lv k).length := by
  unfold Dm.memI Dm.memT Dm.mem
  rw [List.length_map]
end
end Go.Proofs.Ytelcaddgkjkegaa
