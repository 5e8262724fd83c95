/-
  Stage 12: the maths of RiskIsMonotone: millionths rounded up; losses grow with the sets that fail, with chances, and with pieces that are nowhere.
-/
import Derived.Test.YtgajlgnniidgmaaDoorYf
namespace Go.Proofs.YtgajlgnniidgmaaDoor
set_option linter.unusedVariables false
set_option linter.unusedSimpArgs false
open Go.RowKit Go.Maps

theorem mil_facts {l t : Nat} (ht : 0 < t) (h : l ≤ t) : l * 1000000 ≤ milN l t * t ∧ (0 < milN l t → (milN l t - 1) * t < l * 1000000) ∧ milN l t ≤ 1000000 := by
  have hU := Nat.div_add_mod (l * 1000000) t
  have hr := Nat.mod_lt (l * 1000000) ht
  have hle : l * 1000000 ≤ 1000000 * t := by rw [Nat.mul_comm]; exact Nat.mul_le_mul_left _ h
  have key : l * 1000000 ≤ milN l t * t ∧ (0 < milN l t → (milN l t - 1) * t < l * 1000000) := by
    unfold milN
    rw [Nat.mul_comm t] at hU
    generalize l * 1000000 / t = q at *
    generalize l * 1000000 % t = r at *
    generalize l * 1000000 = U at *
    by_cases h0 : r = 0
    · rw [if_pos h0]
      refine ⟨by rw [Nat.add_zero]; omega, fun hq => ?_⟩
      obtain ⟨q1, rfl⟩ : ∃ q1, q = q1 + 1 := ⟨q - 1, by omega⟩
      rw [Nat.add_zero, Nat.add_sub_cancel]
      rw [Nat.succ_mul] at hU
      omega
    · rw [if_neg h0]
      refine ⟨by rw [Nat.succ_mul]; omega, fun _ => by rw [Nat.add_sub_cancel]; omega⟩
  refine ⟨key.1, key.2, ?_⟩
  by_cases hm : milN l t ≤ 1000000
  · exact hm
  · have h1 := key.2 (by omega)
    have h2 : 1000000 * t ≤ (milN l t - 1) * t := Nat.mul_le_mul_right _ (by omega)
    omega
theorem mil_mono {l l' t : Nat} (ht : 0 < t) (h : l ≤ l') (h' : l' ≤ t) : milN l t ≤ milN l' t := by
  obtain ⟨a1, a2, a3⟩ := mil_facts ht (Nat.le_trans h h')
  obtain ⟨b1, b2, b3⟩ := mil_facts ht h'
  rcases Nat.lt_or_ge (milN l' t) (milN l t) with hh | hh
  · have h1 := a2 (by omega)
    have h2 : milN l' t * t ≤ (milN l t - 1) * t := Nat.mul_le_mul_right _ (by omega)
    have h3 : l * 1000000 ≤ l' * 1000000 := Nat.mul_le_mul_right _ h
    omega
  · exact hh
theorem lft_bit (f : Nat) : ∀ (l : List Int) (k u i : Nat), (lft f l k u).testBit i = true ↔ u.testBit i = true ∨ ∃ j d, i = k + j ∧ l[j]? = some d ∧ d ≠ -1 ∧ f.testBit d.toNat = false
  | [], k, u, i => by
    rw [lft]
    exact ⟨.inl, fun h => h.elim id fun ⟨j, d, _, h, _⟩ => by simp at h⟩
  | x :: l, k, u, i => by
    rw [lft, lft_bit f l (k + 1)]
    by_cases hc : x ≠ -1 ∧ f.testBit x.toNat = false
    · rw [if_pos hc, Nat.testBit_or, Nat.one_shiftLeft, Nat.testBit_two_pow, Bool.or_eq_true, decide_eq_true_eq]
      constructor
      · rintro ((h | h) | ⟨j, d, h1, h2, h3⟩)
        · exact .inl h
        · exact .inr ⟨0, x, by omega, rfl, hc⟩
        · exact .inr ⟨j + 1, d, by omega, by simpa using h2, h3⟩
      · rintro (h | ⟨j, d, h1, h2, h3⟩)
        · exact .inl (.inl h)
        · cases j with
          | zero => exact .inl (.inr (by omega))
          | succ j => exact .inr ⟨j, d, by omega, by simpa using h2, h3⟩
    · rw [if_neg hc]
      constructor
      · rintro (h | ⟨j, d, h1, h2, h3⟩)
        · exact .inl h
        · exact .inr ⟨j + 1, d, by omega, by simpa using h2, h3⟩
      · rintro (h | ⟨j, d, h1, h2, h3⟩)
        · exact .inl h
        · cases j with
          | zero =>
            have : x = d := by simpa using h2
            rw [this] at hc
            exact absurd h3 hc
          | succ j => exact .inr ⟨j, d, by omega, by simpa using h2, h3⟩
theorem full_mono12 {D s s' cnt : Nat} {Gs : List (List Int)} (h : Full7 (pcL D Gs s' cnt) D) (hs : ∀ k, k < cnt → s'.testBit k = true → s.testBit k = true) : Full7 (pcL D Gs s cnt) D := fun x hx => h x fun r hr => by
  obtain ⟨k, h1, h2, rfl⟩ := pcL_mem.1 hr
  exact hx _ (pcL_mem.2 ⟨k, h1, hs k h1 h2, rfl⟩)
/-- Fewer pieces: what is lost stays lost. -/
theorem los_fewer {p q : Prl} (e1 : q.D = p.D) (e2 : q.G = p.G) (e3 : q.Gs = p.Gs) (OK : PrlOk p) {f g : Nat} (hs : ∀ i, (lft g q.al 0 0).testBit i = true → (lft f p.al 0 0).testBit i = true) (h : LosP p f) : LosP q g := fun hR => h (by
  obtain ⟨r1, r2, r3, r4⟩ := hR
  rw [e1, e2, e3] at r1 r3
  rw [e1, e2, e3, Int.toNat_natCast] at r4
  refine ⟨r1, Int.natCast_nonneg _, ?_, ?_⟩
  · have h1 := lft_lt f p.al 0 0 (by decide)
    have h2 := OK.pcs
    obtain ⟨b1, b2, b3, b4, b5, b6⟩ := cchk_ok OK.cod
    rw [show 0 + p.al.length = p.D.toNat + p.Gs.length + p.G.toNat by omega] at h1
    have e : (2 : Int) ^ (p.D.toNat + p.Gs.length + p.G.toNat) = ((2 ^ (p.D.toNat + p.Gs.length + p.G.toNat) : Nat) : Int) := by rw [Int.natCast_pow]; rfl
    rw [e]
    exact Int.ofNat_lt.2 h1
  · rw [Int.toNat_natCast]
    exact full_mono12 r4 fun k _ hk => hs k hk)
theorem ind_up {p : Prl} (OK : PrlOk p) : UpL (indL p) := fun f g h => by
  unfold indL
  by_cases hl : LosP p f
  · rw [if_pos hl, if_pos]
    · exact Int.le_refl _
    · refine los_fewer rfl rfl rfl OK (fun i hi => ?_) hl
      rw [lft_bit] at hi ⊢
      rcases hi with hi | ⟨j, d, h1, h2, h3, h4⟩
      · exact .inl hi
      · refine .inr ⟨j, d, h1, h2, h3, ?_⟩
        cases hb : f.testBit d.toNat with
        | false => rfl
        | true => have := h _ hb; rw [h4] at this; cases this
  · rw [if_neg hl]
    split <;> omega
theorem los_up {p : Prl} (OK : PrlOk p) {f g : Nat} (h : ∀ i, f.testBit i = true → g.testBit i = true) (hl : LosP p f) : LosP p g := by
  have := ind_up OK f g h
  unfold indL at this
  rw [if_pos hl] at this
  by_cases hg : LosP p g
  · exact hg
  · rw [if_neg hg] at this; omega
theorem los_gone {p q : Prl} (OK : PrlOk p) (e1 : q.D = p.D) (e2 : q.G = p.G) (e3 : q.Gs = p.Gs) {k : Nat} (e4 : q.al = p.al.set k (-1)) (f : Nat) (hl : LosP p f) : LosP q f := by
  refine los_fewer e1 e2 e3 OK (fun i hi => ?_) hl
  rw [lft_bit] at hi ⊢
  rcases hi with hi | ⟨j, d, h1, h2, h3, h4⟩
  · exact .inl hi
  · rw [e4] at h2
    by_cases hk : k = j
    · subst hk
      have hkl : k < p.al.length := by
        have := (List.getElem?_eq_some_iff.1 h2).1
        rw [List.length_set] at this
        exact this
      rw [List.getElem?_set_self hkl] at h2
      exact absurd (Option.some.inj h2).symm h3
    · rw [List.getElem?_set_ne hk] at h2
      exact .inr ⟨j, d, h1, h2, h3, h4⟩
/-- A peril that is worse. -/
theorem worse_ok {p q : Prl} (OK : PrlOk p) (e1 : q.D = p.D) (e2 : q.G = p.G) (e3 : q.Gs = p.Gs) {k : Nat} (e4 : q.al = p.al.set k (-1)) (h5 : q.ch.length = p.ch.length) (h6 : ∀ c ∈ q.ch, 0 ≤ c ∧ c ≤ 16) : PrlOk q := by
  refine ⟨by rw [e1, e2, e3]; exact OK.cod, by rw [h5]; exact OK.l12, by rw [e1, e2, e3, e4, List.length_set]; exact OK.pcs, fun d hd => ?_, h6⟩
  rw [e4] at hd
  rcases List.mem_or_eq_of_mem_set hd with h | h
  · rw [h5]; exact OK.al d h
  · rw [h]; omega
theorem worse_le {p q : Prl} (OK : PrlOk p) (e1 : q.D = p.D) (e2 : q.G = p.G) (e3 : q.Gs = p.Gs) {k : Nat} (e4 : q.al = p.al.set k (-1)) {d : Nat} {c c' : Int} (hc : p.ch[d]? = some c) (hcc : c ≤ c') (hc16 : c' ≤ 16) (e5 : q.ch = p.ch.set d c') :
    lsum p (2 ^ p.ch.length) ≤ lsum q (2 ^ q.ch.length) := by
  rw [lsum_ex, lsum_ex, e5]
  have h0 := (OK.ch c (List.mem_of_getElem? hc)).1
  refine Int.le_trans (ex_up p.ch d c c' (ind_up OK) OK.ch hc hcc) (ex_le _ (fun x hx => ?_) fun f => ?_)
  · rcases List.mem_or_eq_of_mem_set hx with h | h
    · exact OK.ch x h
    · rw [h]; omega
  · unfold indL
    by_cases hl : LosP p f
    · rw [if_pos hl, if_pos (los_gone OK e1 e2 e3 e4 f hl)]; exact Int.le_refl _
    · rw [if_neg hl]; split <;> omega
theorem worse_le0 {p q : Prl} (OK : PrlOk p) (e1 : q.D = p.D) (e2 : q.G = p.G) (e3 : q.Gs = p.Gs) {k : Nat} (e4 : q.al = p.al.set k (-1)) (e5 : q.ch = p.ch) :
    lsum p (2 ^ p.ch.length) ≤ lsum q (2 ^ q.ch.length) := by
  rw [lsum_ex, lsum_ex, e5]
  refine ex_le _ OK.ch fun f => ?_
  unfold indL
  by_cases hl : LosP p f
  · rw [if_pos hl, if_pos (los_gone OK e1 e2 e3 e4 f hl)]; exact Int.le_refl _
  · rw [if_neg hl]; split <;> omega
end Go.Proofs.YtgajlgnniidgmaaDoor
