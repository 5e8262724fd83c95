/-
  Stage 7: the maths of CodeRepairsLocally: Vandermonde by elimination, groups that are apart, and what a loss leaves. Stage 7: the walk of CodeRepairsLocally. (Written by tools/gencfw.py.).
-/
import Derived.Test.YtcnljemnkhmfcaaDoorCe7
namespace Go.Proofs.YtcnljemnkhmfcaaDoor
set_option linter.unusedVariables false
set_option linter.unusedSimpArgs false
open Go.RowKit

/-- Vandermonde, by elimination. -/
theorem vdm : ∀ (m : Nat) (x c : Nat → UInt8) (f : Nat → Nat → UInt8), (∀ t, t < m → f 0 t ≠ 0) → (∀ s t, s < m → t < m → x s = x t → s = t) → (∀ j t, f (j + 1) t = Gf.mul (x t) (f j t)) → (∀ j, j < m → xsum m (fun t => Gf.mul (c t) (f j t)) = 0) → ∀ i, i < m → c i = 0
  | 0, _, _, _, _, _, _, _, i, hi => absurd hi (Nat.not_lt_zero _)
  | m + 1, x, c, f, h0, hx, hf, hs, i, hi => by
    have key : ∀ t, t < m → c t = 0 := fun t ht => by
      have := vdm m x (fun t => Gf.mul (c t) (x t ^^^ x m)) f (fun t ht => h0 t (by omega)) (fun s t hs ht => hx s t (by omega) (by omega)) hf (fun j hj => by
        have e0 := hs j (by omega)
        have e1 := hs (j + 1) (by omega)
        rw [xsum_succ] at e0 e1
        have e0' := xor_eq7 e0
        have e1' := xor_eq7 e1
        have e2 : xsum m (fun t => Gf.mul (Gf.mul (c t) (x t ^^^ x m)) (f j t)) = xsum m (fun t => Gf.mul (c t) (f (j + 1) t)) ^^^ Gf.mul (xsum m fun t => Gf.mul (c t) (f j t)) (x m) := by
          rw [xsum_mul, ← xsum_add]
          refine xsum_congr fun t _ => ?_
          rw [hf, Gf.mul_xor, Gf.xor_mul, Gf.mul_assoc, Gf.mul_assoc (c t) (x m), Gf.mul_comm (x m), Gf.mul_assoc (c t) (f j t)]
        rw [e2, e0', e1', hf, Gf.mul_comm (x m), Gf.mul_assoc]
        exact UInt8.xor_self) t ht
      by_cases hc : c t = 0
      · exact hc
      · exact absurd this (Gf.mul_ne hc fun h => absurd (hx t m (by omega) (by omega) (xor_eq7 h)) (by omega))
    by_cases him : i < m
    · exact key i him
    · obtain rfl : i = m := by omega
      have e0 := hs 0 (by omega)
      rw [xsum_succ, xsum_none _ fun t ht => by rw [key t ht, Gf.zero_mul], UInt8.zero_xor] at e0
      by_cases hc : c i = 0
      · exact hc
      · exact absurd e0 (Gf.mul_ne hc (h0 i (by omega)))
theorem exi_inj16 : ∀ i, i < 16 → ∀ j, j < 16 → Gf.exi ((i : Nat) : Int) = Gf.exi ((j : Nat) : Int) → i = j := by decide +kernel

theorem or_bit {u i j : Nat} : (u ||| 1 <<< i).testBit j = (u.testBit j || decide (i = j)) := by
  rw [Nat.testBit_or, Nat.one_shiftLeft, Nat.testBit_two_pow]
def nsum (used : Nat) (f : Nat → Nat) : Nat → Nat
  | 0 => 0
  | D + 1 => nsum used f D + if used.testBit D then 0 else f D
theorem nsum_succ (used : Nat) (f : Nat → Nat) (D : Nat) : nsum used f (D + 1) = nsum used f D + if used.testBit D then 0 else f D := rfl
theorem nsum_out {used i : Nat} {f : Nat → Nat} : ∀ D, D ≤ i → nsum (used ||| 1 <<< i) f D = nsum used f D
  | 0, _ => rfl
  | D + 1, h => by
    simp only [nsum_succ]
    rw [nsum_out D (by omega), or_bit, show decide (i = D) = false from decide_eq_false (by omega), Bool.or_false]
theorem nsum_split {used i : Nat} {f : Nat → Nat} (hb : used.testBit i = false) : ∀ D, i < D → nsum used f D = f i + nsum (used ||| 1 <<< i) f D
  | 0, h => absurd h (Nat.not_lt_zero _)
  | D + 1, h => by
    simp only [nsum_succ]
    by_cases hi : i = D
    · subst hi
      rw [nsum_out i (Nat.le_refl _), or_bit, hb, show decide (i = i) = true from decide_eq_true rfl]
      simp; omega
    · rw [nsum_split hb D (by omega), or_bit, show decide (i = D) = false from decide_eq_false hi, Bool.or_false]
      omega
theorem nsum_le {used : Nat} {f g : Nat → Nat} : ∀ D, (∀ i, i < D → f i ≤ g i) → nsum used f D ≤ nsum used g D
  | 0, _ => Nat.le_refl _
  | D + 1, h => by
    simp only [nsum_succ]
    have h1 := nsum_le (used := used) D fun i hi => h i (by omega)
    have h2 := h D (by omega)
    split <;> omega
def gsum (f : Nat → Nat) : List Int → Nat
  | [] => 0
  | i :: g => f i.toNat + gsum f g
def gxor (X : Nat → UInt8) : List Int → UInt8
  | [] => 0
  | i :: g => X i.toNat ^^^ gxor X g
theorem gsum_cons (f : Nat → Nat) (i : Int) (g : List Int) : gsum f (i :: g) = f i.toNat + gsum f g := rfl
theorem gxor_cons (X : Nat → UInt8) (i : Int) (g : List Int) : gxor X (i :: g) = X i.toNat ^^^ gxor X g := rfl
theorem grp1_above {D : Nat} : ∀ (g : List Int) (used : Nat) (last : Int) {u : Nat}, grp1 D used last g = some u → ∀ v ∈ g, last < v
  | [], _, _, _, _, v, hv => by cases hv
  | i :: g, used, last, u, h, v, hv => by
    unfold grp1 at h
    by_cases c : i ≤ last ∨ i ≥ (D : Int) ∨ used.testBit i.toNat = true
    · rw [if_pos c] at h; cases h
    · rw [if_neg c] at h
      have hi : ¬ i ≤ last := fun hh => c (.inl hh)
      rcases List.mem_cons.1 hv with rfl | hv
      · omega
      · have := grp1_above g _ _ h v hv
        omega
theorem nsum_grp {D : Nat} {f : Nat → Nat} : ∀ (g : List Int) (used : Nat) (last : Int) {u : Nat}, grp1 D used last g = some u → -1 ≤ last → nsum used f D = gsum f g + nsum u f D
  | [], _, _, u, h, _ => by
    unfold grp1 at h
    obtain rfl := Option.some.inj h
    exact (Nat.zero_add _).symm
  | i :: g, used, last, u, h, hl => by
    unfold grp1 at h
    by_cases c : i ≤ last ∨ i ≥ (D : Int) ∨ used.testBit i.toNat = true
    · rw [if_pos c] at h; cases h
    · rw [if_neg c] at h
      have hb : used.testBit i.toNat = false := by
        cases hh : used.testBit i.toNat with
        | true => exact absurd (.inr (.inr hh)) c
        | false => rfl
      have hi : ¬ i ≤ last ∧ ¬ i ≥ (D : Int) := ⟨fun hh => c (.inl hh), fun hh => c (.inr (.inl hh))⟩
      rw [nsum_split hb D (by omega), nsum_grp g _ _ h (by omega)]
      rw [gsum_cons]
      omega
theorem xsum_grp {D : Nat} {X : Nat → UInt8} : ∀ (g : List Int) (used : Nat) (last : Int) {u : Nat}, grp1 D used last g = some u → -1 ≤ last → xsum D (fun i => if (i : Int) ∈ g then X i else 0) = gxor X g
  | [], _, _, u, h, _ => xsum_none _ fun j _ => if_neg (by simp)
  | i :: g, used, last, u, h, hl => by
    have hab := grp1_above _ _ _ h
    unfold grp1 at h
    by_cases c : i ≤ last ∨ i ≥ (D : Int) ∨ used.testBit i.toNat = true
    · rw [if_pos c] at h; cases h
    · rw [if_neg c] at h
      have hi : ¬ i ≤ last ∧ ¬ i ≥ (D : Int) := ⟨fun hh => c (.inl hh), fun hh => c (.inr (.inl hh))⟩
      have hab2 := grp1_above _ _ _ h
      have e1 : xsum D (fun j => if j = i.toNat then X j else 0) = X i.toNat := (xsum_one (n := D) (a := i.toNat) (fun j => if j = i.toNat then X j else 0) (by omega) (fun j _ hj => if_neg hj)).trans (if_pos rfl)
      rw [gxor_cons, ← xsum_grp g _ _ h (by omega), ← e1, ← xsum_add]
      · refine xsum_congr fun j hj => ?_
        by_cases hji : j = i.toNat
        · subst hji
          rw [if_pos rfl, if_pos (List.mem_cons.2 (.inl (by omega))), if_neg (fun hm => by have := hab2 _ hm; omega), UInt8.xor_zero]
        · rw [if_neg hji, UInt8.zero_xor]
          by_cases hm : (j : Int) ∈ g
          · rw [if_pos hm, if_pos (List.mem_cons.2 (.inr hm))]
          · rw [if_neg hm, if_neg (fun hh => by
              rcases List.mem_cons.1 hh with hh | hh
              · omega
              · exact hm hh)]
theorem grpE_at {D : Nat} : ∀ (Gs : List (List Int)) (used : Nat), grpE D used Gs = 0 → ∀ (gi : Nat) (g : List Int), Gs[gi]? = some g → ∃ us u, grp1 D us (-1) g = some u
  | [], _, _, gi, g, hg => by cases gi <;> cases hg
  | g0 :: Gs, used, h, gi, g, hg => by
    unfold grpE at h
    by_cases c : g0 = []
    · rw [if_pos c] at h; cases h
    · rw [if_neg c] at h
      cases e : grp1 D used (-1) g0 with
      | none => rw [e] at h; cases h
      | some u =>
        rw [e] at h
        cases gi with
        | zero => obtain rfl := Option.some.inj hg; exact ⟨_, _, e⟩
        | succ k => exact grpE_at Gs u h k g hg

def bitN (s i : Nat) : Nat := if s.testBit i then 1 else 0
def supp (X : Nat → UInt8) (i : Nat) : Nat := if X i = 0 then 0 else 1
/-- How many groups have lost exactly one member. -/
def aloneN (s : Nat) : List (List Int) → Nat
  | [] => 0
  | g :: Gs => (if gsum (bitN s) g = 1 then 1 else 0) + aloneN s Gs
theorem alone_cons (s : Nat) (g : List Int) (Gs : List (List Int)) : aloneN s (g :: Gs) = (if gsum (bitN s) g = 1 then 1 else 0) + aloneN s Gs := rfl
theorem alone_snoc (s : Nat) (g : List Int) : ∀ Gs, aloneN s (Gs ++ [g]) = aloneN s Gs + if gsum (bitN s) g = 1 then 1 else 0
  | [] => by simp [aloneN]
  | g0 :: Gs => by
    show (if gsum (bitN s) g0 = 1 then 1 else 0) + aloneN s (Gs ++ [g]) = _
    rw [alone_snoc s g Gs]
    show _ = (if gsum (bitN s) g0 = 1 then 1 else 0) + aloneN s Gs + _
    omega
theorem gsum_snoc (f : Nat → Nat) (i : Int) : ∀ g, gsum f (g ++ [i]) = gsum f g + f i.toNat
  | [] => by simp [gsum]
  | j :: g => by
    show f j.toNat + gsum f (g ++ [i]) = _
    rw [gsum_snoc f i g]
    show _ = f j.toNat + gsum f g + _
    omega
theorem aloneN_le (s : Nat) : ∀ Gs, aloneN s Gs ≤ Gs.length
  | [] => Nat.le_refl _
  | g :: Gs => by
    have := aloneN_le s Gs
    rw [alone_cons, List.length_cons]
    split <;> omega
theorem gsum_bit_le (s : Nat) : ∀ g, gsum (bitN s) g ≤ g.length
  | [] => Nat.le_refl _
  | i :: g => by
    have := gsum_bit_le s g
    rw [gsum_cons, List.length_cons]
    have : bitN s i.toNat ≤ 1 := by unfold bitN; split <;> omega
    omega
/-- Only one member is lost, and the sum of all is 0: nothing is left. -/
theorem one_lost {s D : Nat} {X : Nat → UInt8} : ∀ (g : List Int), (∀ i ∈ g, s.testBit i.toNat = false → X i.toNat = 0) → gsum (bitN s) g ≤ 1 → gxor X g = 0 → gsum (supp X) g = 0
  | [], _, _, _ => rfl
  | i :: g, hz, h1, hx => by
    rw [gsum_cons] at h1 ⊢
    rw [gxor_cons] at hx
    cases hb : s.testBit i.toNat with
    | false =>
      have e := hz i (List.mem_cons.2 (.inl rfl)) hb
      rw [e, UInt8.zero_xor] at hx
      have := one_lost (s := s) (D := D) g (fun j hj => hz j (List.mem_cons.2 (.inr hj))) (by omega) hx
      rw [this]
      unfold supp
      rw [if_pos e]
    | true =>
      have e1 : bitN s i.toNat = 1 := by unfold bitN; rw [if_pos hb]
      have e2 : gsum (bitN s) g = 0 := by omega
      have key : ∀ (g : List Int), (∀ i ∈ g, s.testBit i.toNat = false → X i.toNat = 0) → gsum (bitN s) g = 0 → gxor X g = 0 ∧ gsum (supp X) g = 0 := fun g => by
        induction g with
        | nil => intro _ _; exact ⟨rfl, rfl⟩
        | cons j g ih =>
          intro hz h0
          rw [gsum_cons] at h0
          have hb : s.testBit j.toNat = false := by
            cases hh : s.testBit j.toNat with
            | false => rfl
            | true => have : bitN s j.toNat = 1 := by unfold bitN; rw [if_pos hh]
                      omega
          have e := hz j (List.mem_cons.2 (.inl rfl)) hb
          obtain ⟨k1, k2⟩ := ih (fun j hj => hz j (List.mem_cons.2 (.inr hj))) (by omega)
          rw [gxor_cons, gsum_cons, e, k1, k2]
          exact ⟨by simp, by unfold supp; rw [if_pos e]⟩
      obtain ⟨k1, k2⟩ := key g (fun j hj => hz j (List.mem_cons.2 (.inr hj))) e2
      rw [k1, UInt8.xor_zero] at hx
      rw [k2]
      unfold supp
      rw [if_pos hx]
theorem gsum_le {f h : Nat → Nat} : ∀ (g : List Int), (∀ i ∈ g, f i.toNat ≤ h i.toNat) → gsum f g ≤ gsum h g
  | [], _ => Nat.le_refl _
  | i :: g, hh => by
    have h1 := gsum_le g fun j hj => hh j (List.mem_cons.2 (.inr hj))
    have h2 := hh i (List.mem_cons.2 (.inl rfl))
    rw [gsum_cons, gsum_cons]
    omega
theorem alone_le {s D : Nat} {X : Nat → UInt8} (hz : ∀ i, i < D → s.testBit i = false → X i = 0) : ∀ (Gs : List (List Int)) (used : Nat), grpE D used Gs = 0 → (∀ g ∈ Gs, gxor X g = 0) → nsum used (supp X) D + aloneN s Gs ≤ nsum used (bitN s) D
  | [], used, _, _ => by
    show nsum used (supp X) D + 0 ≤ _
    rw [Nat.add_zero]
    exact nsum_le D fun i hi => by
      unfold supp bitN
      cases hb : s.testBit i with
      | true => split <;> simp
      | false => rw [if_pos (hz i hi hb)]; simp
  | g :: Gs, used, h, hx => by
    unfold grpE at h
    by_cases c : g = []
    · rw [if_pos c] at h; cases h
    · rw [if_neg c] at h
      cases e : grp1 D used (-1) g with
      | none => rw [e] at h; cases h
      | some u =>
        rw [e] at h
        have hr := grp1_rng _ _ _ e (by omega)
        have ih := alone_le hz Gs u h fun g' hg' => hx g' (List.mem_cons.2 (.inr hg'))
        rw [nsum_grp g used (-1) e (by omega), nsum_grp g used (-1) e (by omega)]
        rw [alone_cons]
        have hz' : ∀ i ∈ g, s.testBit i.toNat = false → X i.toNat = 0 := fun i hi hb => hz _ (by have := hr i hi; omega) hb
        have h0 := hx g (List.mem_cons.2 (.inl rfl))
        by_cases h1 : gsum (bitN s) g = 1
        · rw [if_pos h1, one_lost (D := D) g hz' (by omega) h0]
          omega
        · rw [if_neg h1]
          have : gsum (supp X) g ≤ gsum (bitN s) g := gsum_le g fun i hi => by
            unfold supp bitN
            cases hb : s.testBit i.toNat with
            | true => split <;> simp
            | false => rw [if_pos (hz' i hi hb)]; simp
          omega
theorem nsum_cnt : ∀ (D s : Nat), s < 2 ^ D → nsum 0 (bitN s) D = cnt7 s
  | 0, s, h => by
    obtain rfl : s = 0 := by simpa using h
    exact cnt7_zero.symm
  | D + 1, s, h => by
    have hp : 2 ^ (D + 1) = 2 ^ D * 2 := Nat.pow_succ ..
    have hm : s % 2 ^ D < 2 ^ D := Nat.mod_lt _ (Nat.two_pow_pos D)
    have e := Nat.div_add_mod s (2 ^ D)
    have hq : s / 2 ^ D < 2 := (Nat.div_lt_iff_lt_mul (Nat.two_pow_pos D)).2 (by rw [Nat.mul_comm, ← hp]; exact h)
    have h1 := cnt7_split D (s / 2 ^ D) (s % 2 ^ D) hm
    rw [e] at h1
    rw [h1, ← nsum_cnt D (s % 2 ^ D) hm]
    simp only [nsum_succ]
    have hc : nsum 0 (bitN s) D = nsum 0 (bitN (s % 2 ^ D)) D := by
      have : ∀ E, E ≤ D → nsum 0 (bitN s) E = nsum 0 (bitN (s % 2 ^ D)) E := fun E => by
        induction E with
        | zero => intro _; rfl
        | succ E ih =>
          intro hE
          simp only [nsum_succ]
          rw [ih (by omega)]
          congr 1
          unfold bitN
          rw [Nat.testBit_mod_two_pow, decide_eq_true (by omega : E < D), Bool.true_and]
      exact this D (Nat.le_refl _)
    rw [hc, Nat.zero_testBit]
    have hb : bitN s D = cnt7 (s / 2 ^ D) := by
      unfold bitN
      rw [Nat.testBit_eq_decide_div_mod_eq]
      obtain h0 | h0 : s / 2 ^ D = 0 ∨ s / 2 ^ D = 1 := by generalize s / 2 ^ D = q at hq; omega
      · rw [h0, cnt7_zero]; simp
      · rw [h0, cnt7_odd 0, cnt7_zero]; simp
    rw [← hb]
    simp [Nat.add_comm]
theorem mis_mem {s D i : Nat} : i ∈ misL s D ↔ i < D ∧ s.testBit i = false := by
  unfold misL
  rw [List.mem_filter, List.mem_range]
  cases s.testBit i <;> simp
theorem mis_nsum {s : Nat} {X : Nat → UInt8} : ∀ D, (∀ i, i < D → (s.testBit i = true ↔ X i = 0)) → (misL s D).length = nsum 0 (supp X) D
  | 0, _ => rfl
  | D + 1, h => by
    simp only [nsum_succ]
    rw [← mis_nsum D fun i hi => h i (by omega), Nat.zero_testBit]
    cases hb : s.testBit D with
    | true => rw [misL_no hb]; unfold supp; rw [if_pos ((h D (by omega)).1 hb)]; simp
    | false =>
      rw [misL_yes hb, List.length_append]
      unfold supp
      rw [if_neg (fun hh => absurd ((h D (by omega)).2 hh) (by rw [hb]; simp))]
      simp
theorem set_of (p : Nat → Bool) : ∀ D : Nat, ∃ s : Nat, ∀ i, i < D → s.testBit i = p i
  | 0 => ⟨0, fun i hi => absurd hi (Nat.not_lt_zero _)⟩
  | D + 1 => by
    obtain ⟨s, hs⟩ := set_of p D
    refine ⟨s % 2 ^ D ||| (if p D then 1 <<< D else 0), fun i hi => ?_⟩
    rw [Nat.testBit_or, Nat.testBit_mod_two_pow]
    by_cases h : i < D
    · rw [decide_eq_true h, Bool.true_and, hs i h]
      split
      · rw [Nat.one_shiftLeft, Nat.testBit_two_pow, decide_eq_false (by omega : ¬ D = i), Bool.or_false]
      · rw [Nat.zero_testBit, Bool.or_false]
    · obtain rfl : i = D := by omega
      rw [decide_eq_false h, Bool.false_and, Bool.false_or]
      cases p i with
      | true => rw [if_pos rfl, Nat.one_shiftLeft, Nat.testBit_two_pow, decide_eq_true rfl]
      | false => rw [if_neg (by simp), Nat.zero_testBit]
/-- A loss of which at most Globals are not the only lost one of their group is recoverable. -/
theorem local_full {D G s N : Nat} {Gs : List (List Int)} (h0 : chkE D Gs G = 0) (hN : D + (Gs.length + G) = N) (hs : s < 2 ^ D) (ha : cnt7 s ≤ aloneN s Gs + G) : Full7 (pcL D Gs (2 ^ N - (s + 1)) N) D := by
  obtain ⟨b1, b2, b3, b4, b5, b6⟩ := cchk_ok h0
  rw [Int.toNat_natCast] at b6
  intro X hX
  have hsN : s < 2 ^ N := Nat.lt_of_lt_of_le hs (Nat.pow_le_pow_right (by omega) (by omega))
  have row : ∀ k, k < N → s.testBit k = false → dot7 D (rfn (crow D Gs k D)) X = 0 := fun k hk hb => hX _ (pcL_mem.2 ⟨k, hk, by
    rw [Nat.testBit_two_pow_sub_succ hsN, decide_eq_true hk, hb]; rfl, rfl⟩)
  have high : ∀ k, D ≤ k → s.testBit k = false := fun k hk => Nat.testBit_lt_two_pow (Nat.lt_of_lt_of_le hs (Nat.pow_le_pow_right (by omega) hk))
  have hz : ∀ i, i < D → s.testBit i = false → X i = 0 := fun i hi hb => by
    have := row i (by omega) hb
    rw [unit_dot hi] at this
    exact this
  have hg : ∀ g ∈ Gs, gxor X g = 0 := fun g hg => by
    obtain ⟨gi, hgi⟩ := List.getElem?_of_mem hg
    have hl : gi < Gs.length := (List.getElem?_eq_some_iff.1 hgi).1
    obtain ⟨us, u, hu⟩ := grpE_at Gs 0 b6 gi g hgi
    rw [← xsum_grp g us (-1) hu (by omega)]
    have := row (D + gi) (by omega) (high _ (by omega))
    rw [crow_dot] at this
    refine Eq.trans (xsum_congr fun i hi => ?_) this
    unfold cr
    rw [if_neg (show ¬ D + gi < D by omega), if_pos (show D + gi < D + Gs.length by omega), show D + gi - D = gi by omega, List.getD_eq_getElem?_getD, hgi]
    show _ = Gf.mul (if (i : Int) ∈ g then 1 else 0) (X i)
    split
    · rw [Gf.one_mul]
    · rw [Gf.zero_mul]
  have hc := alone_le hz Gs 0 b6 hg
  rw [nsum_cnt D s hs] at hc
  obtain ⟨t, ht⟩ := set_of (fun i => decide (X i = 0)) D
  have ht' : ∀ i, i < D → (t.testBit i = true ↔ X i = 0) := fun i hi => by rw [ht i hi]; exact decide_eq_true_iff
  have hm := mis_nsum D ht'
  obtain ⟨m, hmm⟩ : ∃ m, m = (misL t D).length := ⟨_, rfl⟩
  have hmG : m ≤ G := by omega
  have hmem : ∀ j, j < m → (misL t D).getD j 0 ∈ misL t D := fun j hj => by
    rw [List.getD_eq_getElem?_getD, List.getElem?_eq_getElem (by omega)]
    exact List.getElem_mem _
  have hnd : (misL t D).Pairwise (· < ·) := List.Pairwise.filter _ List.pairwise_lt_range
  have hv := vdm m (fun j => Gf.exi (((misL t D).getD j 0 : Nat) : Int)) (fun j => X ((misL t D).getD j 0)) (fun e j => Gf.exi (((misL t D).getD j 0 * (e + 1) : Nat) : Int))
    (fun j hj => Gf.exi_ne _)
    (fun i j hi hj h => by
      have e := exi_inj16 _ (by have := (mis_mem.1 (hmem i hi)).1; omega) _ (by have := (mis_mem.1 (hmem j hj)).1; omega) h
      rw [List.getD_eq_getElem?_getD, List.getD_eq_getElem?_getD, List.getElem?_eq_getElem (by omega), List.getElem?_eq_getElem (by omega)] at e
      have e' : (misL t D)[i]'(by omega) = (misL t D)[j]'(by omega) := e
      rcases Nat.lt_trichotomy i j with h | h | h
      · have := List.pairwise_iff_getElem.1 hnd i j (by omega) (by omega) h
        omega
      · exact h
      · have := List.pairwise_iff_getElem.1 hnd j i (by omega) (by omega) h
        omega)
    (fun e j => by
      show Gf.exi (((misL t D).getD j 0 * (e + 1 + 1) : Nat) : Int) = Gf.mul (Gf.exi _) (Gf.exi _)
      rw [← Gf.exi_add, ← Int.natCast_add]
      congr 2
      rw [Nat.mul_succ, Nat.add_comm])
    (fun e he => by
      have := row (D + Gs.length + e) (by omega) (high _ (by omega))
      rw [crow_dot] at this
      rw [hmm, ← xsum_mis t (fun i => Gf.mul (X i) (Gf.exi ((i * (e + 1) : Nat) : Int))) D]
      refine Eq.trans (xsum_congr fun i hi => ?_) this
      unfold cr
      rw [if_neg (show ¬ D + Gs.length + e < D by omega), if_neg (show ¬ D + Gs.length + e < D + Gs.length by omega), show D + Gs.length + e - D - Gs.length + 1 = e + 1 by omega, Gf.mul_comm]
      split
      · rename_i hb
        rw [(ht' i hi).1 hb, Gf.mul_zero]
      · rfl)
  intro k hk
  by_cases hX0 : X k = 0
  · exact hX0
  · have hk' : k ∈ misL t D := mis_mem.2 ⟨hk, by rw [ht k hk]; exact decide_eq_false hX0⟩
    obtain ⟨j, hj⟩ := List.getElem?_of_mem hk'
    have hjl := (List.getElem?_eq_some_iff.1 hj).1
    have := hv j (by omega)
    rw [show (misL t D).getD j 0 = k by rw [List.getD_eq_getElem?_getD, hj]; rfl] at this
    exact this

/-- The sum of a parity and members, but for one. -/
def locF (p : Nat → List UInt8) (i : Int) (S : List UInt8) (g : List Int) : List UInt8 := g.foldl (fun a k => if k = i then a else Gf.vsum a (p k.toNat)) S
theorem locF_nil (p : Nat → List UInt8) (i : Int) (S : List UInt8) : locF p i S [] = S := rfl
theorem locF_snoc (p : Nat → List UInt8) (i k : Int) (S : List UInt8) (g : List Int) : locF p i S (g ++ [k]) = if k = i then locF p i S g else Gf.vsum (locF p i S g) (p k.toNat) := by
  unfold locF
  rw [List.foldl_append]; rfl
theorem locF_len {p : Nat → List UInt8} {i : Int} {z : Nat} (hp : ∀ k, (p k).length = z) : ∀ (g : List Int) (S : List UInt8), S.length = z → (locF p i S g).length = z
  | [], S, h => h
  | k :: g, S, h => by
    show (locF p i (if k = i then S else Gf.vsum S (p k.toNat)) g).length = z
    refine locF_len hp g _ ?_
    split
    · exact h
    · rw [Gf.vsum_len, hp, h, Nat.max_self]
theorem locF_get {p : Nat → List UInt8} {i : Int} {t : Nat} : ∀ (g : List Int) (S : List UInt8), (∀ k ∈ g, 0 ≤ k) → 0 ≤ i → (locF p i S g).getD t 0 = S.getD t 0 ^^^ gxor (fun k => if k = i.toNat then 0 else (p k).getD t 0) g
  | [], S, _, _ => (UInt8.xor_zero).symm
  | k :: g, S, h, hi => by
    show (locF p i (if k = i then S else Gf.vsum S (p k.toNat)) g).getD t 0 = _
    rw [locF_get g _ (fun j hj => h j (List.mem_cons.2 (.inr hj))) hi]
    rw [gxor_cons]
    have hk := h k (List.mem_cons.2 (.inl rfl))
    by_cases c : k = i
    · rw [if_pos c, if_pos (by rw [c]), UInt8.zero_xor]
    · rw [if_neg c, if_neg (by omega), Gf.getD_vsum, UInt8.xor_assoc]
theorem loc_end {D z gi : Nat} {Gs : List (List Int)} {P : List UInt8} {g : List Int} {i : Int} (hD : grpE D 0 Gs = 0) (hg : Gs[gi]? = some g) (hi : i ∈ g) : locF (pce D Gs P z) i (pce D Gs P z (D + gi)) g = pce D Gs P z i.toNat := by
  obtain ⟨us, u, hu⟩ := grpE_at Gs 0 hD gi g hg
  have hl : gi < Gs.length := (List.getElem?_eq_some_iff.1 hg).1
  have hr := grp1_rng _ _ _ hu (by omega)
  have hir := hr i hi
  refine row_ext (n := z) (locF_len (fun k => pce_len _ _ _ _ _) g _ (pce_len _ _ _ _ _)) (pce_len _ _ _ _ _) fun t ht => ?_
  rw [locF_get g _ (fun k hk => (hr k hk).1) hir.1, pce_at ht, pce_at ht, ← xsum_grp g us (-1) hu (by omega), ← xsum_add, xsum_one (a := i.toNat) _ (by omega), xsum_one (a := i.toNat) _ (by omega)]
  · unfold cr
    rw [if_neg (show ¬ D + gi < D by omega), if_pos (show D + gi < D + Gs.length by omega), show D + gi - D = gi by omega, List.getD_eq_getElem?_getD, hg, if_pos (show i.toNat < D by omega)]
    simp [show ((i.toNat : Nat) : Int) = i by omega, hi]
  · intro j hj hji
    unfold cr
    rw [if_pos (show i.toNat < D by omega), if_neg hji, Gf.zero_mul]
  · intro j hj hji
    unfold cr
    rw [if_neg (show ¬ D + gi < D by omega), if_pos (show D + gi < D + Gs.length by omega), show D + gi - D = gi by omega, List.getD_eq_getElem?_getD, hg, if_neg hji, pce_at ht, xsum_one (a := j) _ hj]
    · unfold cr
      rw [if_pos hj, if_pos rfl, Gf.one_mul]
      show Gf.mul (if (j : Int) ∈ g then 1 else 0) _ ^^^ _ = 0
      split
      · rw [Gf.one_mul, UInt8.xor_self]
      · rw [Gf.zero_mul, UInt8.xor_zero]
    · intro k hk hkj
      unfold cr
      rw [if_pos hj, if_neg hkj, Gf.zero_mul]
end Go.Proofs.YtcnljemnkhmfcaaDoor

namespace Go.Proofs.YtcnljemnkhmfcaaDoor
set_option linter.unusedVariables false
set_option linter.unusedSimpArgs false
open Go.RowKit

theorem grp_short {D : Nat} {g : List Int} {us u : Nat} (h : grp1 D us (-1) g = some u) : g.length ≤ D := by
  have h1 := nsum_grp (f := fun _ => 1) g us (-1) h (by omega)
  have h2 : ∀ (g : List Int), gsum (fun _ => 1) g = g.length := fun g => by
    induction g with
    | nil => rfl
    | cons i g ih => unfold gsum; rw [ih, List.length_cons, Nat.add_comm]
  have h3 : ∀ D us, nsum us (fun _ => 1) D ≤ D := fun D us => by
    induction D with
    | zero => exact Nat.le_refl _
    | succ D ih => unfold nsum; split <;> omega
  have := h3 D us
  rw [h2] at h1
  omega
theorem bit_val {s k : Nat} (hs : s < 4294967296) : bits BinOp.and IntKind.i64 ((s : Int) / 2 ^ k) 1 = ((bitN s k : Nat) : Int) := by
  rw [shr_bit hs]
  unfold bitN
  split <;> rfl
theorem take_nat {α : Type} {l : List α} {k : Nat} {x : α} (h : l[k]? = some x) : l.take (k + 1) = l.take k ++ [x] := by
  obtain ⟨h1, h2⟩ := List.getElem?_eq_some_iff.1 h
  rw [List.take_succ_eq_append_getElem h1, h2]
theorem wrap_u16 {a : Nat} (h : a < 65536) : IntKind.i64.wrap (a : Int) = (a : Int) := by rw [IntKind.wrap_i64]; omega
theorem ones_facts {N s : Nat} (hN : N ≤ 24) (hs : s < 2 ^ N) : ∃ t : Nat, t = 2 ^ N - (s + 1) ∧ t < 2 ^ N ∧ ∃ PP : Nat, wrap64 ((2 : Int) ^ N) = (PP : Int) ∧ IntKind.i64.wrap ((2 : Int) ^ N) = (PP : Int) ∧ 1 ≤ PP ∧ PP ≤ 16777216 ∧ wrap64 ((PP : Int) - 1) = ((PP - 1 : Nat) : Int) ∧ IntKind.i64.wrap ((PP : Int) - 1) = ((PP - 1 : Nat) : Int) ∧ wrap64 (((PP - 1 : Nat) : Int) - (s : Int)) = (t : Int) ∧ IntKind.i64.wrap (((PP - 1 : Nat) : Int) - (s : Int)) = (t : Int) := by
  obtain ⟨PP, hPP, hPpos, hP2, hP1, hPw⟩ := pp_facts hN
  have hsl : s < PP := by rw [hPP]; exact hs
  have e1 : ((PP : Int) - 1) = ((PP - 1 : Nat) : Int) := by omega
  obtain ⟨t, ht⟩ : ∃ t, t = PP - (s + 1) := ⟨_, rfl⟩
  have e2 : (((PP - 1 : Nat) : Int) - (s : Int)) = (t : Int) := by omega
  have htl : t < PP := by omega
  refine ⟨t, by rw [ht, hPP], by rw [← hPP]; exact htl, PP, hP1, hPw, hPpos, hP2, ?_, ?_, ?_, ?_⟩
  · rw [e1]; generalize PP - 1 = q at *; unfold wrap64; omega
  · rw [e1, IntKind.wrap_i64]; generalize PP - 1 = q at *; omega
  · rw [e2]; unfold wrap64; omega
  · rw [e2, IntKind.wrap_i64]; omega
theorem add_nat7 {a b : Nat} (ha : a ≤ 100) (hb : b ≤ 100) : wrap64 ((a : Int) + (b : Int)) = ((a + b : Nat) : Int) := by
  unfold wrap64; omega
theorem sub_any {a b : Nat} (ha : a ≤ 100) (hb : b ≤ 100) : wrap64 ((a : Int) - (b : Int)) = (a : Int) - (b : Int) ∧ IntKind.i64.wrap ((a : Int) - (b : Int)) = (a : Int) - (b : Int) := by
  refine ⟨by unfold wrap64; omega, by rw [IntKind.wrap_i64]; omega⟩

set_option maxRecDepth 100000 in
set_option maxHeartbeats 16000000 in
theorem local_walk (D : Int) (A : Option Addr) (n c : Nat) (G : Int) (Gs : List (List Int)) (d : List UInt8) (a1 : Nat) (w : World) (hM : CodM w w.heap.size D A n c G Gs) (hd : d.length ≤ 140737488351232) (h1 : a1 < 65536) (ht : PTab 0 w) :
    Calls Tryd.prog 7 #[cdv D A n c G, sv d, .int .u16 a1] w fun e w' => e = .returned (.bool true) ∧ Below w.heap.size w w' := by
  have hdd := Lib.hid size_cod
  have hun : Hid (Tryd.prog.underlying 24 = _) := Tryd.underlying24
  obtain ⟨W1, hW1⟩ : ∃ W1, W1 = w.alloc (.cells #[.int .i64 D, .slice A n c, .int .i64 G] 24) := ⟨_, rfl⟩
  have E : Hid (Below w.heap.size w W1) := by show Below _ _ _; rw [hW1]; exact (Below.refl _ _).alloc (Nat.le_refl _) _
  have X : Hid (Blk W1 w.heap.size [.int .i64 D, .slice A n c, .int .i64 G] 24) := by show Blk _ _ _ _; rw [hW1]; exact Blk.new _ [_, _, _] _
  have M := Lib.hid (hM.keep E.out)
  have T := Lib.hid (ht.on E.out)
  have HT := Lib.hid ht
  have hlen : Hid (n = Gs.length) := hM.len
  have hS : (bs d).size = d.length := bs_size d
  have hW' := Lib.hid hW1
  obtain ⟨m, hm⟩ : ∃ m, m = d.length := ⟨_, rfl⟩
  have hmH := Lib.hid hm
  rw [← hm] at hS hd
  obtain ⟨Ck, hCk⟩ : ∃ x, x = chkE D Gs G := ⟨_, rfl⟩
  have CC : Hid (∀ W, CodM W w.heap.size D A n c G Gs → Calls Tryd.prog 14 #[cdv D A n c G] W fun e w' => e = .returned (.int .i64 Ck) ∧ Below W.heap.size W w') := fun W m => by rw [hCk]; exact ccheck_any D G Gs n c A W m
  have hCkH := Lib.hid hCk
  obtain ⟨S, hSd⟩ : ∃ S, S = bs d := ⟨_, rfl⟩
  have hSH := Lib.hid hSd
  have hsv : sv d = .string S := by rw [hSd]; rfl
  rw [← hSd] at hS
  rw [hsv]
  have hsmall : n ≤ 140737488355328 := hM.small
  unfold cdv at CC ⊢
  clear hM ht hm hCk hSd hW1 hsv
  by_cases c1 : 20 < n
  · have t1 : (20 : Int) < (n : Int) := by omega
    clear c1
    have p0 := X.out.cell (j := 0) rfl
    have p1 := X.out.cell (j := 1) rfl
    have p2 := X.out.cell (j := 2) rfl
    go_enter Tryd.func7, Tryd.ntmps7
    rw [hW'.out] at p0 p1 p2
    go_wp2_with fail
    generalize hg : w.alloc _ = Wg
    have hgW : W1 = Wg := by rw [← hg, hW'.out]
    clear hg hW'
    subst hgW
    refine (sanity_any7 _ T.out).mono ?_
    rintro e wz ⟨rfl, hb⟩
    have Ez : Hid (Below w.heap.size w wz) := E.out.trans (hb.mono E.out.size)
    clear hb
    go_wp2_with fail
    go_ret
    exact ⟨rfl, Ez.out⟩
  have t1 : ¬ (20 : Int) < (n : Int) := by omega
  by_cases c3 : 200 < m
  · have t3 : (200 : Int) < (m : Int) := by omega
    clear c1 c3
    have p0 := X.out.cell (j := 0) rfl
    have p1 := X.out.cell (j := 1) rfl
    have p2 := X.out.cell (j := 2) rfl
    go_enter Tryd.func7, Tryd.ntmps7
    rw [hW'.out] at p0 p1 p2
    go_wp2_with fail
    generalize hg : w.alloc _ = Wg
    have hgW : W1 = Wg := by rw [← hg, hW'.out]
    clear hg hW'
    subst hgW
    refine (sanity_any7 _ T.out).mono ?_
    rintro e wz ⟨rfl, hb⟩
    have Ez : Hid (Below w.heap.size w wz) := E.out.trans (hb.mono E.out.size)
    clear hb
    go_wp2_with fail
    go_ret
    exact ⟨rfl, Ez.out⟩
  have t3 : ¬ (200 : Int) < (m : Int) := by omega
  by_cases c4 : Ck = 0
  rotate_left
  · have t4 : (Ck != 0) = true := by simpa using c4
    clear c1 c3 c4
    have p0 := X.out.cell (j := 0) rfl
    have p1 := X.out.cell (j := 1) rfl
    have p2 := X.out.cell (j := 2) rfl
    go_enter Tryd.func7, Tryd.ntmps7
    rw [hW'.out] at p0 p1 p2
    go_wp2_with fail
    generalize hg : w.alloc _ = Wg
    have hgW : W1 = Wg := by rw [← hg, hW'.out]
    clear hg hW'
    subst hgW
    have C := CC.out W1 M.out
    try unfold cdv at C
    refine C.mono ?_
    rintro e w2 ⟨rfl, hb⟩
    clear C
    clear p0 p1 p2
    replace E : Hid (Below w.heap.size w w2) := E.out.trans (hb.mono E.out.size)
    replace M := Lib.hid (M.out.keep hb)
    replace T := Lib.hid (T.out.on hb)
    replace X := Lib.hid (X.out.below hb X.out.lt)
    clear hb
    have p0 := X.out.cell (j := 0) rfl
    have p1 := X.out.cell (j := 1) rfl
    have p2 := X.out.cell (j := 2) rfl
    go_wp2_with fail
    refine (sanity_any7 _ T.out).mono ?_
    rintro e wz ⟨rfl, hb⟩
    have Ez : Hid (Below w.heap.size w wz) := E.out.trans (hb.mono E.out.size)
    clear hb
    go_wp2_with fail
    go_ret
    exact ⟨rfl, Ez.out⟩
  have t4 : (Ck != 0) = false := by simpa using c4
  have h0 : Hid (chkE D Gs G = 0) := hCkH.out.symm.trans c4
  obtain ⟨b1, b2, b3, b4, b5, b6⟩ := cchk_ok h0.out
  obtain ⟨d7, rfl⟩ : ∃ d7 : Nat, D = d7 := ⟨D.toNat, by omega⟩
  obtain ⟨g7, rfl⟩ : ∃ g7 : Nat, G = g7 := ⟨G.toNat, by omega⟩
  rw [Int.toNat_natCast] at b6
  have hgE : Hid (grpE d7 0 Gs = 0) := b6
  obtain ⟨N, hN⟩ : ∃ N, N = d7 + (Gs.length + g7) := ⟨_, rfl⟩
  have hNH : Hid (d7 + (Gs.length + g7) = N) := hN.symm
  have hD1 : Hid (1 ≤ d7) := by show 1 ≤ d7; omega
  have hD16 : Hid (d7 ≤ 16) := by show d7 ≤ 16; omega
  have hd16 : d7 ≤ 16 := hD16.out
  have hN24 : N ≤ 24 := by have := hlen.out; omega
  have hN1 : 1 ≤ N := by omega
  have hnN : d7 + n ≤ N := by have := hlen.out; omega
  have hm200 : Hid (d.length ≤ 200) := by show _ ≤ _; rw [← hmH.out]; omega
  have hg4 : g7 ≤ 4 := by omega
  have hn20 : n ≤ 20 := by omega
  clear b1 b2 b3 b4 b5 b6 c1 c3 c4 hN
  have p0 := X.out.cell (j := 0) rfl
  have p1 := X.out.cell (j := 1) rfl
  have p2 := X.out.cell (j := 2) rfl
  go_enter Tryd.func7, Tryd.ntmps7
  rw [hW'.out] at p0 p1 p2
  go_wp2_with fail
  generalize hg : w.alloc _ = Wg
  have hgW : W1 = Wg := by rw [← hg, hW'.out]
  clear hg hW'
  subst hgW
  have C := CC.out W1 M.out
  try unfold cdv at C
  refine C.mono ?_
  rintro e w3 ⟨rfl, hb⟩
  clear C
  clear p0 p1 p2
  replace E : Hid (Below w.heap.size w w3) := E.out.trans (hb.mono E.out.size)
  replace M := Lib.hid (M.out.keep hb)
  replace T := Lib.hid (T.out.on hb)
  replace X := Lib.hid (X.out.below hb X.out.lt)
  clear hb
  have p0 := X.out.cell (j := 0) rfl
  have p1 := X.out.cell (j := 1) rfl
  have p2 := X.out.cell (j := 2) rfl
  obtain ⟨TX, hTX⟩ : ∃ TX, TX = encT (d7 : Int) (g7 : Int) Gs d := ⟨_, rfl⟩
  have hTXH := Lib.hid hTX
  have hTl : Hid (TX.length = N) := by show _ = _; rw [hTX, (rt_enc h0.out hm200.out).2, rt_len, hNH.out]
  obtain ⟨pk, hpk⟩ : ∃ pk, pk = pce d7 Gs (filP d7 (szP d7 d.length) d) (szP d7 d.length) := ⟨_, rfl⟩
  obtain ⟨z, hz⟩ : ∃ z, z = szP d7 d.length := ⟨_, rfl⟩
  have hTk : Hid (∀ k, k < N → TX[k]? = some (pk k)) := fun k hk => by
    have h2 := rt_get (D := d7) (Gs := Gs) (d := d) (z := szP d7 d.length) hk
    rw [← hNH.out, ← (rt_enc h0.out hm200.out).2, ← hTX] at h2
    rw [hpk, ← h2, List.getD_eq_getElem?_getD, List.getElem?_eq_getElem (by rw [hTl.out]; exact hk)]; rfl
  have hpl : Hid (∀ k, (pk k).length = z) := fun k => by rw [hpk, hz]; exact pce_len _ _ _ _ _
  have hpe : Hid (∀ gi g i, Gs[gi]? = some g → i ∈ g → locF pk i (pk (d7 + gi)) g = pk i.toNat) := fun gi g i hg hi => by rw [hpk]; exact loc_end hgE.out hg hi
  have hz5 : z ≤ 140737488355328 := by rw [hz]; unfold szP; have := hm200.out; have := hD1.out; exact Nat.le_trans (Nat.div_le_self _ _) (by omega)
  have hz5H := Lib.hid hz5
  clear hpk hz hz5
  have CE : Hid (∀ W, CodM W w.heap.size (d7 : Int) A n c (g7 : Int) Gs → PTab 0 W → Calls Tryd.prog 12 #[cdv (d7 : Int) A n c (g7 : Int), .string S] W fun e w' => ∃ g cc rest, e = .returned (.tuple #[.slice (some ⟨g, 0, none⟩) N cc, .int .i64 0]) ∧ W.heap.size ≤ g ∧ Blk w' g (TX.map sv ++ rest) 9 ∧ N ≤ cc ∧ Below W.heap.size W w') := fun W hM hT => by
    have := encodeX_any (d7 : Int) (g7 : Int) Gs n c A d W hM hT (by have := hm200.out; omega)
    rw [(rt_enc h0.out hm200.out).1, ← hTX, show sv d = .string S by rw [hSH.out]; rfl] at this
    refine this.mono ?_
    rintro e w' ⟨v, rfl, hO, hb⟩
    obtain ⟨g, cc, rest, rfl, q1, q2, q3⟩ := ownS_blk hO (by rw [hTl.out]; exact hN1)
    rw [hTl.out] at q3 ⊢
    exact ⟨g, cc, rest, rfl, q1, q2, q3, hb⟩
  clear hTX
  go_wp2_with fail
  have hXl := Lib.hid X.out.lt
  have C := CE.out w3 M.out T.out
  try unfold cdv at C
  refine C.mono ?_
  rintro e w4 ⟨g, cc, rest, rfl, hg, hBk, hcc, hb⟩
  clear C
  clear p0 p1 p2
  replace E : Hid (Below w.heap.size w w4) := E.out.trans (hb.mono E.out.size)
  replace M := Lib.hid (M.out.keep hb)
  replace T := Lib.hid (T.out.on hb)
  replace X := Lib.hid (X.out.below hb X.out.lt)
  clear hb
  have Z := Lib.hid hBk
  have hwg : Hid (w.heap.size < g) := Nat.lt_of_lt_of_le hXl.out hg
  clear hBk hg
  have p0 := X.out.cell (j := 0) rfl
  have p1 := X.out.cell (j := 1) rfl
  have p2 := X.out.cell (j := 2) rfl
  go_wp2_with fail
  have CPc : Hid (∀ W, CodM W w.heap.size (d7 : Int) A n c (g7 : Int) Gs → Calls Tryd.prog 15 #[cdv (d7 : Int) A n c (g7 : Int)] W fun e w' => e = .returned (.int .i64 (N : Int)) ∧ Below W.heap.size W w') := fun W hM => by
    have := pieces_any (d7 : Int) (g7 : Int) Gs n c A W hM
    rw [if_pos h0.out, show (d7 : Int) + Gs.length + g7 = (N : Int) by have := hNH.out; omega] at this
    exact this
  have tN1 : ¬ (N : Int) < (d7 : Int) + (n : Int) := by omega
  have tw1 : wrap64 ((d7 : Int) + (n : Int)) = (d7 : Int) + (n : Int) := by unfold wrap64; omega
  obtain ⟨PP, hPP, hPpos, hP2, hP1, hPw⟩ := pp_facts (N := d7) (by omega)
  obtain ⟨s, hsl, hrem, hPne⟩ := rem_facts a1 PP hPpos
  have hslH : Hid (s < 2 ^ d7) := by show _ < _; rw [← hPP]; exact hsl
  clear hPP
  have hw1 := wrap_u16 h1
  have v1 : ¬ (d7 : Int) < 0 := by omega
  have hmin : min d7 64 = d7 := by omega
  have hPn : ¬ PP = 0 := Nat.ne_of_gt hPpos
  have C := CPc.out w4 M.out
  try unfold cdv at C
  refine C.mono ?_
  rintro e w5 ⟨rfl, hb⟩
  clear C
  clear p0 p1 p2
  replace E : Hid (Below w.heap.size w w5) := E.out.trans (hb.mono E.out.size)
  replace M := Lib.hid (M.out.keep hb)
  replace T := Lib.hid (T.out.on hb)
  replace X := Lib.hid (X.out.below hb X.out.lt)
  replace Z := Lib.hid (Z.out.below hb Z.out.lt)
  clear hb
  have p0 := X.out.cell (j := 0) rfl
  have p1 := X.out.cell (j := 1) rfl
  have p2 := X.out.cell (j := 2) rfl
  go_wp2_with fail
  clear hrem hPne hw1 hmin hPn hP1 hPw tN1 tw1
  have hs24 : s < 4294967296 := by have := hslH.out; omega
  obtain ⟨AL, hAL⟩ : ∃ f : Nat → Nat, f = fun k => aloneN s (Gs.take k) := ⟨_, rfl⟩
  have hAH := Lib.hid hAL
  have hA0 : AL 0 = 0 := by rw [hAL]; rfl
  have hAl : ∀ k, AL k ≤ k := fun k => by rw [hAL]; exact Nat.le_trans (aloneN_le s _) (by rw [List.length_take]; omega)
  have hAlH := Lib.hid hAl
  clear hAL hAl
  clear p0 p1 p2
  go_loopw [71, 11] (fun i a wr => ∃ k : Nat, k ≤ n ∧ i = .int .i64 k ∧ a = .int .i64 (AL k) ∧ Hid (Below w5.heap.size w5 wr)) (fun i _ _ => n - (intOf i).toNat)
  case atStart => exact ⟨0, by omega, rfl, by rw [hA0]; rfl, Below.refl _ _⟩
  case round =>
    obtain ⟨k, hk, rfl, rfl, hb1⟩ := hrel
    have hb := hb1.out
    clear hb1 hA0
    replace E : Hid (Below w.heap.size w wr) := E.out.trans (hb.mono E.out.size)
    replace M := Lib.hid (M.out.keep hb)
    replace T := Lib.hid (T.out.on hb)
    replace X := Lib.hid (X.out.below hb X.out.lt)
    replace Z := Lib.hid (Z.out.below hb Z.out.lt)
    have hbk := Lib.hid hb
    clear hb
    have hAk := hAlH.out k
    by_cases hlt : k < n
    rotate_left
    · have tk : ¬ (k : Int) < (n : Int) := by omega
      obtain rfl : k = n := by omega
      clear hlt hk
      go_wp2_with fail
      refine (count07_any s _ (by omega)).mono ?_
      rintro e wc ⟨rfl, rfl⟩
      obtain ⟨ct, hct⟩ : ∃ ct, ct = cnt7 s := ⟨_, rfl⟩
      have hctH := Lib.hid hct
      have hct16 : ct ≤ 24 := by rw [hct]; exact Nat.le_trans (cnt7_high d7 s hslH.out).1 (by omega)
      rw [← hct]
      clear hct
      go_wp2_with fail
      obtain ⟨al, hal⟩ : ∃ al, al = AL k := ⟨_, rfl⟩
      rw [← hal] at hAk ⊢
      have halH : Hid (al = aloneN s Gs) := by show _ = _; rw [hal, hAH.out, hlen.out]; show aloneN s (Gs.take Gs.length) = _; rw [List.take_length]
      clear hal
      obtain ⟨hsu1, hsu2⟩ := sub_any (a := ct) (b := al) (by omega) (by omega)
      have hsN : Hid (s < 2 ^ N) := Nat.lt_of_lt_of_le hslH.out (Nat.pow_le_pow_right (by decide) (by omega))
      obtain ⟨tt, htt, httl, PP, q1, q2, q3, q4, q5, q6, q7, q8⟩ := ones_facts hN24 hsN.out
      have httH := Lib.hid htt
      have httlH := Lib.hid httl
      clear htt httl
      have hmn : min N 64 = N := by omega
      have hnn : ¬ (N : Int) < 0 := by omega
      have SA := Lib.hid fun W h => sanity_any7 W h
      have CR : Hid (∀ W, ct ≤ al + g7 → CodM W w.heap.size (d7 : Int) A k c (g7 : Int) Gs → PTab 0 W → Calls Tryd.prog 24 #[cdv (d7 : Int) A k c (g7 : Int), .int .i64 (tt : Int)] W fun e w' => e = .returned (.bool true) ∧ Below W.heap.size W w') := fun W hle hM hT => by
        refine (recoverable_any (d7 : Int) (g7 : Int) (tt : Int) Gs k c A W hM hT).mono ?_
        rintro e w' ⟨⟨b', rfl, hq⟩, h⟩
        have hR : RecP (d7 : Int) Gs (g7 : Int) (tt : Int) := by
          have e2 : ((2 ^ N : Nat) : Int) = (2 : Int) ^ N := by rw [Int.natCast_pow]; rfl
          unfold RecP
          rw [Int.toNat_natCast, Int.toNat_natCast, Int.toNat_natCast, Nat.add_assoc, hNH.out, ← e2]
          exact ⟨h0.out, Int.natCast_nonneg _, Int.ofNat_lt.2 httlH.out, by rw [httH.out]; exact local_full h0.out hNH.out hslH.out (by rw [← hctH.out, ← halH.out]; exact hle)⟩
        rw [hq.2 hR]
        exact ⟨rfl, h⟩
      by_cases hle : ct ≤ al + g7
      · have tg : ((ct : Int) - (al : Int) > (g7 : Int)) ↔ False := by constructor; (intro h; omega); (intro h; cases h)
        have tg2 : decide ((g7 : Int) < (ct : Int) - (al : Int)) = false := decide_eq_false (by omega)
        clear tg
        refine wp_region_planM [] [(false, 0), (true, 1), (true, 2), (true, 3), (true, 4), (true, 5), (true, 6), (true, 7), (true, 8), (true, 9), (true, 10), (true, 11), (true, 12), (true, 13), (true, 14), (false, 15), (true, 16), (true, 17), (true, 18)] (by decide) (by kernel_rfl) (by kernel_rfl) (by decide) (by intro c a d v w h; cases d <;> exact h) ?_
        change wpPlanM _ _ _ _ _ _ wr.drew
        have hb : Below wr.heap.size wr wr.drew := (Below.refl _ _).drew
        generalize hgd : wr.drew = wd at hb ⊢
        replace E : Hid (Below w.heap.size w wd) := E.out.trans (hb.mono E.out.size)
        replace M := Lib.hid (M.out.keep hb)
        replace T := Lib.hid (T.out.on hb)
        replace X := Lib.hid (X.out.below hb X.out.lt)
        clear hb hgd
        refine wpPlanM_call rfl (fun K hK => ?_)
        go_wp2_with fail
        refine (SA.out _ T.out).mono ?_
        rintro e wz ⟨rfl, hb⟩
        have hbp := Lib.hid hb
        have hb9 : Below wd.heap.size wd wz := hb
        clear hb
        replace E : Hid (Below w.heap.size w wz) := E.out.trans (hb9.mono E.out.size)
        replace M := Lib.hid (M.out.keep hb9)
        replace T := Lib.hid (T.out.on hb9)
        replace X := Lib.hid (X.out.below hb9 X.out.lt)
        clear hb9
        go_wp2_with fail
        refine planPostL_normal ⟨.inr hbp.out, hK _ _ ?_⟩
        clear hK K hbp
        have yq0 : ∀ q : ExtOf wz, q.world.cell? ⟨w.heap.size, 2, none⟩ = some (.int .i64 (g7 : Int)) := fun q => (Blk.below X.out q.ext X.out.lt).cell (j := 2) rfl
        iterate 8 (refine wpPlanM_plain rfl (fun K hK => ?_); go_simp; refine hK _ ?_; clear hK K)
        refine wpPlanM_runW rfl (by rfl) _ (fun q => load_run 24 _ rfl w.heap.size 0 rfl [.int .i64 d7, .slice A k c, .int .i64 g7] _ hun.out rfl hdd.out q.world ((Blk.below X.out q.ext X.out.lt).range 0 _ (take_all0 _))) ?_
        iterate 5 (refine wpPlanM_plain rfl (fun K hK => ?_); go_simp; refine hK _ ?_; clear hK K)
        refine wpPlanM_call rfl (fun K hK => ?_)
        go_wp2_with fail
        have C := CR.out wz hle M.out T.out
        try unfold cdv at C
        refine C.mono ?_
        rintro e wy ⟨rfl, hb⟩
        clear C
        have hbp := Lib.hid hb
        replace E : Hid (Below w.heap.size w wy) := E.out.trans (hb.mono E.out.size)
        clear hb
        go_wp2_with fail
        refine planPostL_normal ⟨.inr hbp.out, hK _ _ ?_⟩
        clear hK K hbp
        iterate 3 (refine wpPlanM_plain rfl (fun K hK => ?_); go_simp; refine hK _ ?_; clear hK K)
        refine wpPlanM_nil ?_
        go_wp2_with fail
        go_ret
        exact ⟨by first | rfl | (go_simp; done), E.out⟩
      · have tg2 : decide ((g7 : Int) < (ct : Int) - (al : Int)) = true := decide_eq_true (by omega)
        refine wp_region_planM [] [(false, 0), (true, 1), (true, 2), (true, 3), (true, 4), (true, 5), (true, 6), (true, 7), (true, 8), (true, 9), (true, 10), (true, 11), (true, 12), (true, 13), (true, 14), (false, 15), (true, 16), (true, 17), (true, 18)] (by decide) (by kernel_rfl) (by kernel_rfl) (by decide) (by intro c a d v w h; cases d <;> exact h) ?_
        change wpPlanM _ _ _ _ _ _ wr.drew
        have hb : Below wr.heap.size wr wr.drew := (Below.refl _ _).drew
        generalize hgd : wr.drew = wd at hb ⊢
        replace E : Hid (Below w.heap.size w wd) := E.out.trans (hb.mono E.out.size)
        replace M := Lib.hid (M.out.keep hb)
        replace T := Lib.hid (T.out.on hb)
        replace X := Lib.hid (X.out.below hb X.out.lt)
        clear hb hgd
        refine wpPlanM_call rfl (fun K hK => ?_)
        go_wp2_with fail
        refine (SA.out _ T.out).mono ?_
        rintro e wz ⟨rfl, hb⟩
        have hbp := Lib.hid hb
        have hb9 : Below wd.heap.size wd wz := hb
        clear hb
        replace E : Hid (Below w.heap.size w wz) := E.out.trans (hb9.mono E.out.size)
        replace M := Lib.hid (M.out.keep hb9)
        replace T := Lib.hid (T.out.on hb9)
        replace X := Lib.hid (X.out.below hb9 X.out.lt)
        clear hb9
        go_wp2_with fail
        refine planPostL_normal ⟨.inr hbp.out, hK _ _ ?_⟩
        clear hK K hbp
        have yq0 : ∀ q : ExtOf wz, q.world.cell? ⟨w.heap.size, 2, none⟩ = some (.int .i64 (g7 : Int)) := fun q => (Blk.below X.out q.ext X.out.lt).cell (j := 2) rfl
        iterate 8 (refine wpPlanM_plain rfl (fun K hK => ?_); go_simp; refine hK _ ?_; clear hK K)
        iterate 6 (refine wpPlanM_plain rfl (fun K hK => ?_); go_simp; refine hK _ ?_; clear hK K)
        refine wpPlanM_call rfl (fun K hK => ?_)
        go_wp2_with fail
        refine planPostL_normal ⟨.inr (Below.refl _ _), hK _ _ ?_⟩
        clear hK K
        iterate 3 (refine wpPlanM_plain rfl (fun K hK => ?_); go_simp; refine hK _ ?_; clear hK K)
        refine wpPlanM_nil ?_
        go_wp2_with fail
        go_ret
        exact ⟨by first | rfl | (go_simp; done), E.out⟩
    have tk : (k : Int) < (n : Int) := by omega
    obtain ⟨gr, hgr⟩ : ∃ g, Gs[k]? = some g := ⟨_, List.getElem?_eq_getElem (by have := hlen.out; omega)⟩
    obtain ⟨ad, v, rfl, had, hcv, a, ca, rfl, hgl, hcl, _, hrd⟩ := M.out.m.at hgr
    obtain ⟨us, u, hu⟩ := grpE_at Gs 0 hgE.out k gr hgr
    have hrng := Lib.hid (grp1_rng _ _ _ hu (by omega))
    have hgs := grp_short hu
    obtain ⟨lg, hlg⟩ : ∃ l, l = gr.length := ⟨_, rfl⟩
    have hlgH := Lib.hid hlg
    have hgrH := Lib.hid hgr
    have hl16 : lg ≤ 16 := by rw [hlg]; omega
    rw [← hlg] at hcv
    have hRd := Lib.hid hrd
    have hadH := Lib.hid had
    clear hgr hu hgs hlg hgl hcl hrd had
    have hAn : Hid (AL (k + 1) = AL k + if gsum (bitN s) gr = 1 then 1 else 0) := by show _ = _; rw [hAH.out]; show aloneN s (Gs.take (k + 1)) = _; rw [take_nat hgrH.out, alone_snoc]
    have p0 := X.out.cell (j := 0) rfl
    have p1 := X.out.cell (j := 1) rfl
    have p2 := X.out.cell (j := 2) rfl
    go_wp2_with fail
    clear p0 p1 p2
    obtain ⟨wk, hwk⟩ : ∃ x, x = wr := ⟨_, rfl⟩
    have rel0 : Hid (Below wr.heap.size wr wr) := Below.refl _ _
    subst hwk
    have hEk : Hid (w.heap.size ≤ wk.heap.size) := E.out.size
    have hkN : d7 + k < N := Nat.lt_of_lt_of_le (Nat.add_lt_add_left hlt d7) hnN
    have tdk := add_nat7 (a := d7) (b := k) (by omega) (by omega)
    obtain ⟨dk, hdk⟩ : ∃ q, q = d7 + k := ⟨_, rfl⟩
    have hdkH := Lib.hid hdk
    rw [← hdk] at tdk hkN
    have hdN : (dk : Int) < (N : Int) := Int.ofNat_lt.2 hkN
    have hd0 : 0 ≤ (dk : Int) := Int.natCast_nonneg _
    clear hdk hcv
    obtain ⟨MA, hMA⟩ : ∃ f : Nat → Nat, f = fun t => gsum (bitN s) (gr.take t) := ⟨_, rfl⟩
    have hMH := Lib.hid hMA
    have hM0 : MA 0 = 0 := by rw [hMA]; rfl
    have hMl : Hid (∀ t, MA t ≤ t) := fun t => by rw [hMA]; exact Nat.le_trans (gsum_bit_le s _) (by rw [List.length_take]; omega)
    clear hMA
    go_loopw [78, 14] (fun i a wr => ∃ t : Nat, t ≤ lg ∧ i = .int .i64 t ∧ a = .int .i64 (MA t) ∧ Hid (Below wk.heap.size wk wr)) (fun i _ _ => lg - (intOf i).toNat)
    case atStart => exact ⟨0, by omega, rfl, by rw [hM0]; rfl, rel0⟩
    case round =>
      obtain ⟨t, ht, rfl, rfl, hb1⟩ := hrel
      have hb := hb1.out
      clear hb1 hM0 rel0
      replace E : Hid (Below w.heap.size w wr) := E.out.trans (hb.mono E.out.size)
      replace M := Lib.hid (M.out.keep hb)
      replace T := Lib.hid (T.out.on hb)
      replace X := Lib.hid (X.out.below hb X.out.lt)
      replace Z := Lib.hid (Z.out.below hb Z.out.lt)
      replace hbk := Lib.hid (hbk.out.trans (hb.mono hbk.out.size))
      replace hRd : Hid (Rds wr w.heap.size a (gr.map iv)) := hRd.out.below (hb.mono hEk.out)
      have hb9 := Lib.hid hb
      clear hb
      have hMt := hMl.out t
      by_cases htl : t < lg
      rotate_left
      · have tt1 : ¬ (t : Int) < (lg : Int) := by omega
        obtain rfl : t = lg := by omega
        have hMe : Hid (MA t = gsum (bitN s) gr) := by show _ = _; rw [hMH.out]; show gsum (bitN s) (gr.take t) = _; rw [List.take_of_length_le (by rw [hlgH.out]; exact Nat.le_refl _)]
        obtain ⟨mt, hmt⟩ : ∃ x, x = MA t := ⟨_, rfl⟩
        rw [← hmt] at hMt hMe ⊢
        clear hmt htl ht
        by_cases h1m : mt = 1
        · have z1 : ((mt : Int) == 1) = true := by simp; omega
          have hAq : AL (k + 1) = AL k + 1 := by rw [hAn.out, ← hMe.out, if_pos h1m]
          clear h1m
          go_wp2_with fail
          go_roundw
          case rel => exact ⟨k + 1, by omega, by go_num, by rw [hAq]; go_num, hbk⟩
          case measure => simp [intOf]; omega
        · have z1 : ((mt : Int) == 1) = false := by simp; omega
          have hAq : AL (k + 1) = AL k := by rw [hAn.out, ← hMe.out, if_neg h1m]; rfl
          clear h1m
          go_wp2_with fail
          go_roundw
          case rel => exact ⟨k + 1, by omega, by go_num, by rw [hAq], hbk⟩
          case measure => simp [intOf]; omega
      have tt1 : (t : Int) < (lg : Int) := by omega
      obtain ⟨i, hi⟩ : ∃ i, gr[t]? = some i := ⟨_, List.getElem?_eq_getElem (by rw [← hlgH.out]; exact htl)⟩
      obtain ⟨bd, rfl, _, hci0⟩ := hRd.out.look (k := t) (u := iv i) (by rw [List.getElem?_map, hi]; rfl)
      have hir := hrng.out i (List.mem_of_getElem? hi)
      obtain ⟨iN, rfl⟩ : ∃ iN : Nat, i = iN := ⟨i.toNat, by omega⟩
      have hci : wr.cell? (bd.add t) = some (.int .i64 (iN : Int)) := hci0
      have hiD : iN < d7 := by omega
      have hiH := Lib.hid hi
      clear hci0 hi hir
      have hbv := bit_val (s := s) (k := iN) hs24
      obtain ⟨bt, hbt⟩ : ∃ x, x = bitN s iN := ⟨_, rfl⟩
      have hb1 : bt ≤ 1 := by rw [hbt]; unfold bitN; split <;> omega
      have hMn : Hid (MA (t + 1) = MA t + bt) := by show _ = _; rw [hMH.out, hbt]; show gsum (bitN s) (gr.take (t + 1)) = _; rw [take_nat hiH.out, gsum_snoc, Int.toNat_natCast]
      rw [← hbt] at hbv
      clear hbt
      have hin : ¬ (iN : Int) < 0 := by omega
      have himin : min iN 64 = iN := by omega
      obtain ⟨S0, hS0⟩ : ∃ x, x = bs (pk dk) := ⟨_, rfl⟩
      have hS0H := Lib.hid hS0
      clear hS0
      have hcl : wr.cell? ⟨g, d7 + k, none⟩ = some (.string S0) := by rw [← hdkH.out]; exact Z.out.cell (j := dk) (by rw [hS0H.out, List.getElem?_append_left (by rw [List.length_map, hTl.out]; exact hkN), List.getElem?_map, hTk.out dk hkN]; rfl)
      have p0 := X.out.cell (j := 0) rfl
      have p1 := X.out.cell (j := 1) rfl
      have p2 := X.out.cell (j := 2) rfl
      go_wp2_with fail
      clear p0 p1 p2
      clear hcl hci hbv hin himin
      obtain ⟨wt, hwt⟩ : ∃ x, x = wr := ⟨_, rfl⟩
      have rel0 : Hid (Below wr.heap.size wr wr) := Below.refl _ _
      subst hwt
      have hEt : Hid (w.heap.size ≤ wt.heap.size) := E.out.size
      have rel1 : Hid (S0 = bs (locF pk (iN : Int) (pk dk) (gr.take 0))) := by show _ = _; rw [hS0H.out]; rfl
      go_loopw [97, 17] (fun i a wr => ∃ (u : Nat) (SS : ByteArray), u ≤ lg ∧ i = .int .i64 u ∧ a = .string SS ∧ Hid (SS = bs (locF pk (iN : Int) (pk dk) (gr.take u))) ∧ Hid (Below wt.heap.size wt wr)) (fun i _ _ => lg - (intOf i).toNat)
      case atStart => exact ⟨0, S0, by omega, rfl, rfl, rel1, rel0⟩
      case round =>
        obtain ⟨u, SS, hu, rfl, rfl, hSS, hb1⟩ := hrel
        have hb := hb1.out
        clear hb1 rel0 rel1
        replace E : Hid (Below w.heap.size w wr) := E.out.trans (hb.mono E.out.size)
        replace M := Lib.hid (M.out.keep hb)
        replace T := Lib.hid (T.out.on hb)
        replace X := Lib.hid (X.out.below hb X.out.lt)
        replace Z := Lib.hid (Z.out.below hb Z.out.lt)
        replace hbk := Lib.hid (hbk.out.trans (hb.mono hbk.out.size))
        replace hb9 := Lib.hid (hb9.out.trans (hb.mono hb9.out.size))
        replace hRd : Hid (Rds wr w.heap.size (some bd) (gr.map iv)) := hRd.out.below (hb.mono hEt.out)
        have hb8 := Lib.hid hb
        clear hb
        by_cases hul : u < lg
        rotate_left
        · have tu1 : ¬ (u : Int) < (lg : Int) := by omega
          obtain rfl : u = lg := by omega
          clear hul hu
          have hiN : (iN : Int) < (N : Int) := by omega
          have hi0 : 0 ≤ (iN : Int) := by omega
          have hcl : wr.cell? ⟨g, iN, none⟩ = some (.string SS) := Z.out.cell (j := iN) (by rw [hSS.out, List.take_of_length_le (by rw [hlgH.out]; exact Nat.le_refl _), hdkH.out, hpe.out k gr iN hgrH.out (List.mem_of_getElem? hiH.out), Int.toNat_natCast, List.getElem?_append_left (by rw [List.length_map, hTl.out]; omega), List.getElem?_map, hTk.out iN (by omega)]; rfl)
          have hss : (SS.toList == SS.toList) = true := by simp
          go_wp2_with fail
          go_roundw
          case rel => exact ⟨t + 1, by omega, by go_num, by rw [hMn.out]; go_num, hb9⟩
          case measure => simp [intOf]; omega
        have tu1 : (u : Int) < (lg : Int) := by omega
        obtain ⟨j, hj⟩ : ∃ j, gr[u]? = some j := ⟨_, List.getElem?_eq_getElem (by rw [← hlgH.out]; exact hul)⟩
        obtain ⟨bd2, hbd2, _, hcj0⟩ := hRd.out.look (k := u) (u := iv j) (by rw [List.getElem?_map, hj]; rfl)
        obtain rfl := Option.some.inj hbd2
        have hjr := hrng.out j (List.mem_of_getElem? hj)
        obtain ⟨jN, rfl⟩ : ∃ jN : Nat, j = jN := ⟨j.toNat, by omega⟩
        have hcj : wr.cell? (bd.add u) = some (.int .i64 (jN : Int)) := hcj0
        have hjD : jN < d7 := by omega
        have hjH := Lib.hid hj
        clear hcj0 hj hjr hbd2
        by_cases hji : jN = iN
        · have zj : ((jN : Int) != (iN : Int)) = false := by simp; omega
          have hnx : Hid (SS = bs (locF pk (iN : Int) (pk dk) (gr.take (u + 1)))) := by show _ = _; rw [take_nat hjH.out, locF_snoc, if_pos (by rw [hji])]; exact hSS.out
          clear hji
          go_wp2_with fail
          go_roundw
          case rel => exact ⟨u + 1, SS, by omega, by go_num, rfl, hnx, hb8⟩
          case measure => simp [intOf]; omega
        · have zj : ((jN : Int) != (iN : Int)) = true := by simp; omega
          have hnx : Hid (bs (Gf.vsum (locF pk (iN : Int) (pk dk) (gr.take u)) (pk jN)) = bs (locF pk (iN : Int) (pk dk) (gr.take (u + 1)))) := by show _ = _; rw [take_nat hjH.out, locF_snoc, if_neg (by omega), Int.toNat_natCast]
          obtain ⟨lf, hlf⟩ : ∃ x, x = locF pk (iN : Int) (pk dk) (gr.take u) := ⟨_, rfl⟩
          have hlfl : Hid (lf.length = z) := by show _ = _; rw [hlf]; exact locF_len hpl.out _ _ (hpl.out _)
          rw [← hlf] at hSS hnx
          clear hlf hji
          obtain ⟨S1, hS1⟩ : ∃ x, x = bs (pk jN) := ⟨_, rfl⟩
          have hS1H := Lib.hid hS1
          clear hS1
          have hjN : (jN : Int) < (N : Int) := by omega
          have hj0 : 0 ≤ (jN : Int) := by omega
          have hcl : wr.cell? ⟨g, jN, none⟩ = some (.string S1) := Z.out.cell (j := jN) (by rw [hS1H.out, List.getElem?_append_left (by rw [List.length_map, hTl.out]; omega), List.getElem?_map, hTk.out jN (by omega)]; rfl)
          have SM : Hid (Calls Tryd.prog 30 #[.string SS, .string S1] wr fun e w' => e = .returned (.string (bs (Gf.vsum lf (pk jN)))) ∧ Below wr.heap.size wr w') := by
            show Calls _ _ _ _ _
            rw [hSS.out, hS1H.out]
            exact sum_any lf (pk jN) wr (by rw [hlfl.out]; exact hz5H.out) (by rw [hpl.out]; exact hz5H.out)
          go_wp2_with fail
          refine SM.out.mono ?_
          rintro e wv ⟨rfl, hb⟩
          have hb8 := Lib.hid (hb8.out.trans (hb.mono hb8.out.size))
          generalize bs (Gf.vsum lf (pk jN)) = SN at hnx ⊢
          clear hb SM hcl hcj
          go_wp2_with fail
          go_roundw
          case rel => exact ⟨u + 1, SN, by omega, by go_num, rfl, hnx, hb8⟩
          case measure => simp [intOf]; omega
end Go.Proofs.YtcnljemnkhmfcaaDoor
