/-
  Plain facts on lists as bytes: what is encoded is decoded, whatever follows; what is decoded was encoded so; a proper beginning is too short.
-/
import Derived.Test.YtedhjjlnionckaaDoorWm
namespace Go.Proofs.YtedhjjlnionckaaDoor.Wm

theorem getLen_enc (n u : Nat) (hn : n ≤ 9223372036854775807) (t : List UInt8) (hu : n ≤ t.length / u) : getLen (enc n ++ t) u = ((n : Int), (enc n).length, 0) := by
  unfold getLen
  rw [getInt_enc n ⟨by omega, by omega⟩ t]
  simp only [ne_eq, not_true_eq_false, if_false]
  rw [if_neg (by omega), if_neg (by rw [List.length_append, Nat.add_sub_cancel_left]; omega)]

theorem getBytes_enc (s t : List UInt8) (hs : s.length ≤ 9223372036854775807) : getBytes (encBytes s ++ t) = (s, (encBytes s).length, 0) := by
  have h := getLen_enc s.length 1 hs (s ++ t) (by rw [Nat.div_one, List.length_append]; omega)
  unfold getBytes encBytes
  rw [List.append_assoc, h]
  simp

theorem getDigest_enc (d t : List UInt8) (hd : d.length = 16) : getDigest (d ++ t) = (d, d.length, 0) := by
  unfold getDigest
  rw [List.take_append_of_le_length (by omega), List.take_of_length_le (by omega), hd]

section
variable {α : Type} {get : List UInt8 → α × Nat × Int} {f : α → List UInt8}
theorem getSome_enc (xs : List α) (hget : ∀ x ∈ xs, ∀ t, get (f x ++ t) = (x, (f x).length, 0)) (pre t : List UInt8) (acc : List α) :
    getSome get (pre ++ (xs.flatMap f ++ t)) xs.length pre.length acc = (acc ++ xs, pre.length + (xs.flatMap f).length, 0) := by
  induction xs generalizing pre acc with
  | nil => simp [getSome]
  | cons x xs ih =>
    have h1 : (pre ++ ((x :: xs).flatMap f ++ t)).drop pre.length = f x ++ (xs.flatMap f ++ t) := by
      rw [List.drop_left, List.flatMap_cons, List.append_assoc]
    rw [List.length_cons, getSome, h1, hget x (by simp)]
    simp only [ne_eq, not_true_eq_false, if_false]
    have h2 := ih (fun y hy => hget y (by simp [hy])) (pre ++ f x) (acc ++ [x])
    rw [List.length_append] at h2
    rw [List.flatMap_cons, List.append_assoc, ← List.append_assoc pre, h2]
    simp [Nat.add_assoc]
theorem flat_ge (u : Nat) (xs : List α) (h : ∀ x ∈ xs, u ≤ (f x).length) : xs.length * u ≤ (xs.flatMap f).length := by
  induction xs with
  | nil => simp
  | cons x xs ih =>
    have h1 := h x (by simp)
    have h2 := ih (fun y hy => h y (by simp [hy]))
    rw [List.flatMap_cons, List.length_append, List.length_cons, Nat.succ_mul]
    omega
theorem getList_enc (u : Nat) (hu : 0 < u) (xs : List α) (hn : xs.length ≤ 9223372036854775807) (hge : ∀ x ∈ xs, u ≤ (f x).length) (hget : ∀ x ∈ xs, ∀ t, get (f x ++ t) = (x, (f x).length, 0)) (t : List UInt8) :
    getList get u (encList f xs ++ t) = (xs, (encList f xs).length, 0) := by
  have h := getLen_enc xs.length u hn (xs.flatMap f ++ t) (by
    rw [Nat.le_div_iff_mul_le hu, List.length_append]
    have := flat_ge u xs hge
    omega)
  unfold getList encList
  rw [List.append_assoc, h]
  simp only [ne_eq, not_true_eq_false, if_false, Int.toNat_natCast]
  rw [getSome_enc xs hget]
  simp

/-- what is decoded was encoded so -/
theorem getSome_ok (l : List UInt8) (P : Nat → Prop) (hP : ∀ a k, P a → P (a + k) ∨ True) (hget : ∀ a x k, a ≤ l.length → get (l.drop a) = (x, k, 0) → f x = (l.drop a).take k ∧ a + k ≤ l.length) :
    ∀ (n a : Nat) (acc r : List α) (k : Nat), a ≤ l.length → getSome get l n a acc = (r, k, 0) → ∃ xs, r = acc ++ xs ∧ xs.length = n ∧ a ≤ k ∧ k ≤ l.length ∧ xs.flatMap f = (l.drop a).take (k - a)
  | 0, a, acc, r, k, ha, h => by
    simp only [getSome, Prod.mk.injEq, and_true] at h
    obtain ⟨rfl, rfl⟩ := h
    exact ⟨[], by simp, rfl, Nat.le_refl _, ha, by simp⟩
  | n + 1, a, acc, r, k, ha, h => by
    rw [getSome] at h
    rcases hg : get (l.drop a) with ⟨x, j, e⟩
    rw [hg] at h
    simp only at h
    by_cases he : e = 0
    · subst he
      rw [if_neg (by simp)] at h
      obtain ⟨h1, h2⟩ := hget a x j ha hg
      obtain ⟨xs, g1, g2, g3, g4, g5⟩ := getSome_ok l P hP hget n (a + j) (acc ++ [x]) r k h2 h
      refine ⟨x :: xs, by rw [g1]; simp, by simp [g2], by omega, g4, ?_⟩
      rw [List.flatMap_cons, h1, g5]
      have : (l.drop a).take (k - a) = (l.drop a).take j ++ ((l.drop a).drop j).take (k - a - j) := by
        rw [← List.take_add]
        congr 1
        omega
      rw [this, List.drop_drop]
      congr 2
      omega
    · rw [if_pos he] at h
      simp at h
      exact absurd h.2.2 he
theorem getList_ok (u : Nat) (l : List UInt8) (hget : ∀ a x k, a ≤ l.length → get (l.drop a) = (x, k, 0) → f x = (l.drop a).take k ∧ a + k ≤ l.length) {r : List α} {k : Nat} (h : getList get u l = (r, k, 0)) :
    encList f r = l.take k ∧ k ≤ l.length := by
  unfold getList at h
  rcases hg : getLen l u with ⟨n, j, e⟩
  rw [hg] at h
  simp only at h
  by_cases he : e = 0
  · subst he
    rw [if_neg (by simp)] at h
    obtain ⟨h1, h2, h3, h4⟩ := getLen_ok hg
    obtain ⟨xs, g1, g2, g3, g4, g5⟩ := getSome_ok l (fun _ => True) (fun _ _ _ => .inr trivial) hget _ _ _ _ _ h4 h
    obtain ⟨e1, e2, _⟩ := getInt_ok h1
    rw [List.nil_append] at g1
    subst g1
    refine ⟨?_, g4⟩
    unfold encList
    rw [g2, Int.toNat_of_nonneg h2, e1, g5]
    rw [← List.take_append_drop j (l.take k)]
    congr 1
    · rw [List.take_take, Nat.min_eq_left g3]
    · rw [List.drop_take]
  · rw [if_pos he] at h
    simp at h
    exact absurd h.2.2 he

/-- a proper beginning -/
theorem getSome_cut (hpos : ∀ x : α, 0 < (f x).length) : ∀ (xs : List α) (_ : ∀ x ∈ xs, ∀ t, get (f x ++ t) = (x, (f x).length, 0)) (_ : ∀ x ∈ xs, ∀ i, i < (f x).length → (get ((f x).take i)).2.2 = 10) (pre : List UInt8) (acc : List α) (i : Nat),
    i < (xs.flatMap f).length → getSome get (pre ++ (xs.flatMap f).take i) xs.length pre.length acc = ([], 0, 10)
  | [], _, _, _, _, i, h => by simp at h
  | x :: xs, hget, hcut, pre, acc, i, h => by
    rw [List.length_cons, getSome, List.drop_left, List.flatMap_cons]
    by_cases hi : i < (f x).length
    · rw [List.take_append_of_le_length (by omega), hcut x (by simp) i hi]
      simp
    · have e : (f x ++ xs.flatMap f).take i = f x ++ (xs.flatMap f).take (i - (f x).length) := by
        rw [List.take_append, List.take_of_length_le (by omega)]
      rw [e, hget x (by simp)]
      simp only [ne_eq, not_true_eq_false, if_false]
      have ih := getSome_cut hpos xs (fun y hy => hget y (by simp [hy])) (fun y hy => hcut y (by simp [hy])) (pre ++ f x) (acc ++ [x]) (i - (f x).length) (by
        rw [List.flatMap_cons, List.length_append] at h; omega)
      rw [List.length_append] at ih
      rw [← List.append_assoc]
      exact ih
theorem getList_cut (hpos : ∀ x : α, 0 < (f x).length) (u : Nat) (xs : List α) (hn : xs.length ≤ 9223372036854775807) (hget : ∀ x ∈ xs, ∀ t, get (f x ++ t) = (x, (f x).length, 0)) (hcut : ∀ x ∈ xs, ∀ i, i < (f x).length → (get ((f x).take i)).2.2 = 10)
    (i : Nat) (hi : i < (encList f xs).length) : (getList get u ((encList f xs).take i)).2.2 = 10 := by
  have hf : Fits (xs.length : Int) := ⟨by omega, by omega⟩
  unfold encList at hi ⊢
  by_cases h1 : i < (enc xs.length).length
  · rw [List.take_append_of_le_length (by omega)]
    unfold getList getLen
    rw [getInt_cut _ hf i h1]
    simp
  · rw [List.take_append, List.take_of_length_le (by omega)]
    rw [List.length_append] at hi
    generalize hj : i - (enc xs.length).length = j
    have hj' : j < (xs.flatMap f).length := by omega
    by_cases hlt : xs.length ≤ ((xs.flatMap f).take j).length / u
    · unfold getList
      rw [getLen_enc xs.length u hn _ hlt]
      simp only [ne_eq, not_true_eq_false, if_false, Int.toNat_natCast]
      rw [getSome_cut hpos xs hget hcut _ _ j hj']
    · have hl : getLen (enc xs.length ++ (xs.flatMap f).take j) u = (0, 0, 10) := by
        unfold getLen
        rw [getInt_enc _ hf]
        simp only [ne_eq, not_true_eq_false, if_false]
        rw [if_neg (by omega), if_pos (by rw [List.length_append, Nat.add_sub_cancel_left]; omega)]
      unfold getList
      rw [hl]
      simp
end
theorem getBytes_cut (s : List UInt8) (hs : s.length ≤ 9223372036854775807) (i : Nat) (hi : i < (encBytes s).length) : (getBytes ((encBytes s).take i)).2.2 = 10 := by
  have hf : Fits (s.length : Int) := ⟨by omega, by omega⟩
  unfold encBytes at hi ⊢
  by_cases h1 : i < (enc s.length).length
  · rw [List.take_append_of_le_length (by omega)]
    unfold getBytes getLen
    rw [getInt_cut _ hf i h1]
    simp
  · rw [List.take_append, List.take_of_length_le (by omega)]
    rw [List.length_append] at hi
    have hl : getLen (enc s.length ++ s.take (i - (enc s.length).length)) 1 = (0, 0, 10) := by
      unfold getLen
      rw [getInt_enc _ hf]
      simp only [ne_eq, not_true_eq_false, if_false]
      rw [if_neg (by omega), if_pos (by rw [List.length_append, Nat.add_sub_cancel_left, Nat.div_one, List.length_take]; omega)]
    unfold getBytes
    rw [hl]
    simp
theorem getBytes_ok {l : List UInt8} {s : List UInt8} {k : Nat} (h : getBytes l = (s, k, 0)) : encBytes s = l.take k ∧ k ≤ l.length := by
  unfold getBytes at h
  rcases hg : getLen l 1 with ⟨n, j, e⟩
  rw [hg] at h
  simp only at h
  by_cases he : e = 0
  · subst he
    rw [if_neg (by simp)] at h
    obtain ⟨h1, h2, h3, h4⟩ := getLen_ok hg
    simp only [Prod.mk.injEq, and_true] at h
    obtain ⟨rfl, rfl⟩ := h
    obtain ⟨e1, e2, _⟩ := getInt_ok h1
    rw [Nat.div_one] at h3
    have hlen : ((l.drop j).take n.toNat).length = n.toNat := by rw [List.length_take, List.length_drop]; omega
    refine ⟨?_, by omega⟩
    unfold encBytes
    rw [hlen, Int.toNat_of_nonneg h2, e1, ← List.take_add]
  · rw [if_pos he] at h
    simp at h
    exact absurd h.2.2 he
end Go.Proofs.YtedhjjlnionckaaDoor.Wm
