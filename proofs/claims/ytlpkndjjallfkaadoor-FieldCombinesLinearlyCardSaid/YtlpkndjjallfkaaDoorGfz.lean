/-
  Combinations are linear in the coefficients and in the parts.
-/
import Derived.Test.YtlpkndjjallfkaaDoorGfx
namespace Go.Proofs.YtlpkndjjallfkaaDoor.Gf
set_option linter.unusedSimpArgs false

theorem fold_from {α : Type} (f : α → UInt8) (L : List α) : ∀ s : UInt8, L.foldl (fun s p => s ^^^ f p) s = s ^^^ L.foldl (fun s p => s ^^^ f p) 0 := by
  induction L with
  | nil => intro s; simp
  | cons p L ih =>
    intro s
    rw [List.foldl_cons, ih, List.foldl_cons, ih (0 ^^^ f p), UInt8.zero_xor, UInt8.xor_assoc]
theorem combAt_nil (parts : List (List UInt8)) (i : Nat) : combAt [] parts i = 0 := rfl
theorem combAt_cons (c : UInt8) (cs : List UInt8) (p : List UInt8) (ps : List (List UInt8)) (i : Nat) : combAt (c :: cs) (p :: ps) i = mul c (p.getD i 0) ^^^ combAt cs ps i := by
  unfold combAt
  rw [List.zip_cons_cons, List.foldl_cons, fold_from, UInt8.zero_xor]
theorem comb_get {coef : List UInt8} {parts : List (List UInt8)} (h : Fit coef parts) (i : Nat) : (comb coef parts).getD i 0 = combAt coef parts i := by
  rw [← acc_all coef parts h]
  unfold acc
  rw [List.take_of_length_le (by rw [List.length_zip]; have := h.1; omega), getD_fold]
  rfl
theorem comb_len (coef : List UInt8) (parts : List (List UInt8)) : (comb coef parts).length = (parts.headD []).length := by simp [comb, combN]

theorem xor_swap (a b c d : UInt8) : (a ^^^ b) ^^^ (c ^^^ d) = (a ^^^ c) ^^^ (b ^^^ d) := by
  rw [UInt8.xor_assoc, ← UInt8.xor_assoc b, UInt8.xor_comm b c, UInt8.xor_assoc c, ← UInt8.xor_assoc a]
theorem lin_coef (i : Nat) : ∀ (a b : List UInt8) (x : List (List UInt8)), a.length = b.length → combAt (List.zipWith (· ^^^ ·) a b) x i = combAt a x i ^^^ combAt b x i
  | [], [], x, _ => by simp [combAt_nil]
  | a :: ar, b :: br, [], _ => by simp [combAt]
  | a :: ar, b :: br, p :: ps, h => by
    rw [List.zipWith_cons_cons, combAt_cons, combAt_cons, combAt_cons, lin_coef i ar br ps (by simpa using h), xor_mul, xor_swap]
  | [], _ :: _, _, h => by simp at h
  | _ :: _, [], _, h => by simp at h
theorem lin_parts (i : Nat) : ∀ (a : List UInt8) (x y : List (List UInt8)), a.length = x.length → a.length = y.length → combAt a (List.zipWith vsum x y) i = combAt a x i ^^^ combAt a y i
  | [], _, _, _, _ => by simp [combAt_nil]
  | a :: ar, p :: ps, q :: qs, h, h2 => by
    rw [List.zipWith_cons_cons, combAt_cons, combAt_cons, combAt_cons, lin_parts i ar ps qs (by simpa using h) (by simpa using h2), getD_vsum, mul_xor, xor_swap]
  | _ :: _, [], _, h, _ => by simp at h
  | _ :: _, _ :: _, [], _, h => by simp at h
theorem lin_scale (i : Nat) (c : UInt8) : ∀ (a : List UInt8) (x : List (List UInt8)), combAt (a.map (mul c)) x i = mul c (combAt a x i)
  | [], _ => by rw [List.map_nil, combAt_nil, mul_zero]
  | a :: ar, [] => by
    simp [combAt, mul_zero]
  | a :: ar, p :: ps => by
    rw [List.map_cons, combAt_cons, combAt_cons, lin_scale i c ar ps, mul_xor, mul_assoc]

/-- All parts have the length n. -/
def All (n : Nat) (x : List (List UInt8)) : Prop := ∀ p ∈ x, p.length = n
theorem fit_of {n : Nat} {a : List UInt8} {x : List (List UInt8)} (h : a.length = x.length) (hx : All n x) : Fit a x := by
  refine ⟨h, fun p hp => ?_⟩
  cases x with
  | nil => cases hp
  | cons q qs => rw [hx p hp]; exact (hx q (List.mem_cons_self ..)).symm
theorem head_len {n : Nat} {x : List (List UInt8)} (hx : All n x) (h0 : x = [] → n = 0) : (x.headD []).length = n := by
  cases x with
  | nil => rw [h0 rfl]; rfl
  | cons q qs => exact hx q (List.mem_cons_self ..)
theorem all_sums {n : Nat} {x y : List (List UInt8)} (hx : All n x) (hy : All n y) : All n (List.zipWith vsum x y) := by
  intro p hp
  obtain ⟨i, hi⟩ := List.getElem?_of_mem hp
  rw [List.getElem?_zipWith] at hi
  cases h1 : x[i]? with
  | none => simp [h1] at hi
  | some a =>
    cases h2 : y[i]? with
    | none => simp [h1, h2] at hi
    | some b =>
      simp [h1, h2] at hi
      rw [← hi, vsum_len, hx a (List.mem_of_getElem? h1), hy b (List.mem_of_getElem? h2)]
      omega
section
variable {n : Nat} {a b : List UInt8} {x y : List (List UInt8)}
theorem comb_both (ha : a.length = x.length) (hb : b.length = x.length) (hx : All n x) : comb (List.zipWith (· ^^^ ·) a b) x = vsum (comb a x) (comb b x) := by
  apply ext_getD
  · rw [comb_len, vsum_len, comb_len, comb_len]; omega
  · intro i
    rw [getD_vsum, comb_get (fit_of ha hx), comb_get (fit_of hb hx), comb_get (fit_of (by rw [List.length_zipWith]; omega) hx), lin_coef i a b x (by omega)]
theorem comb_sums (ha : a.length = x.length) (hy : a.length = y.length) (hx : All n x) (hyl : All n y) : comb a (List.zipWith vsum x y) = vsum (comb a x) (comb a y) := by
  apply ext_getD
  · rw [comb_len, vsum_len, comb_len, comb_len]
    by_cases h0 : x = []
    · subst h0
      have : y = [] := List.eq_nil_of_length_eq_zero (by rw [List.length_nil] at ha; omega)
      subst this
      rfl
    · have h1 : y ≠ [] := by
        rintro rfl
        exact h0 (List.eq_nil_of_length_eq_zero (by rw [List.length_nil] at hy; omega))
      have h2 : List.zipWith vsum x y ≠ [] := by simp [h0, h1]
      rw [head_len (all_sums hx hyl) (fun h => absurd h h2), head_len hx (fun h => absurd h h0), head_len hyl (fun h => absurd h h1)]
      omega
  · intro i
    rw [getD_vsum, comb_get (fit_of ha hx), comb_get (fit_of hy hyl), comb_get (fit_of (by rw [List.length_zipWith]; omega) (all_sums hx hyl)), lin_parts i a x y ha hy]
theorem comb_scale (c : UInt8) (ha : a.length = x.length) (hx : All n x) : comb (a.map (mul c)) x = scale c (comb a x) := by
  apply ext_getD
  · rw [comb_len, scale_len, comb_len]
  · intro i
    rw [getD_scale, comb_get (fit_of ha hx), comb_get (fit_of (by rw [List.length_map]; exact ha) hx), lin_scale]
end
end Go.Proofs.YtlpkndjjallfkaaDoor.Gf
