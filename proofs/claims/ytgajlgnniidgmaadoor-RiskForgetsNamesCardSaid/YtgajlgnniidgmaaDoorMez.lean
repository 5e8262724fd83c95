/-
  Contracts of stage 5: Product. Contracts of stage 5: the reference's Product. Stage 5, the maths of products: associativity, and the transpose of a product. No Go in sight. Contracts of stage 5: Express. Contracts of stage 5: Inverse.
-/
import Derived.Test.YtgajlgnniidgmaaDoorMcd
import Derived.Test.YtgajlgnniidgmaaDoorGfw
import Derived.Deep.QuietTactic
import Derived.BigQuiet
import Derived.Test.YtgajlgnniidgmaaDoorMrcd
import Derived.Test.YtgajlgnniidgmaaDoorRg
import Derived.Test.YtgajlgnniidgmaaDoorMyv
import Derived.Test.YtgajlgnniidgmaaDoorMsx
import Derived.Test.YtgajlgnniidgmaaDoorMch
namespace Go.Proofs.YtgajlgnniidgmaaDoor
set_option linter.unusedVariables false
set_option linter.unusedSimpArgs false
open Go.RowKit

theorem combAt_snoc (r : List UInt8) (Bm : List (List UInt8)) (k j : Nat) (x : UInt8) (p : List UInt8) (hx : r[j]? = some x) (hp : Bm[j]? = some p) : Gf.combAt (r.take (j + 1)) Bm k = Gf.combAt (r.take j) Bm k ^^^ Gf.mul x (p.getD k 0) := by
  have hz : (r.take (j + 1)).zip Bm = (r.take j).zip Bm ++ [(x, p)] := by
    have hzz : ∀ a : List UInt8, a.zip Bm = List.zipWith Prod.mk a Bm := fun _ => rfl
    rw [hzz, hzz]
    apply List.ext_getElem?
    intro i
    have hjr := (List.getElem?_eq_some_iff.1 hx).1
    have hjB := (List.getElem?_eq_some_iff.1 hp).1
    rcases Nat.lt_trichotomy i j with h | h | h
    · rw [List.getElem?_append_left (by rw [List.length_zipWith, List.length_take]; omega), List.getElem?_zipWith, List.getElem?_zipWith, List.getElem?_take_of_lt (by omega), List.getElem?_take_of_lt h]
    · subst h
      rw [List.getElem?_append_right (by rw [List.length_zipWith, List.length_take]; omega), List.getElem?_zipWith, List.getElem?_take_of_lt (by omega), hx, hp, List.length_zipWith, List.length_take, show i - min (min i r.length) Bm.length = 0 by omega]
      rfl
    · rw [List.getElem?_eq_none (by rw [List.length_zipWith, List.length_take]; omega), List.getElem?_eq_none (by rw [List.length_append, List.length_zipWith, List.length_take, List.length_singleton]; omega)]
  unfold Gf.combAt
  rw [hz, List.foldl_append]
  rfl

/-- The product. -/
def prd (M1 M2 : List (List UInt8)) : List (List UInt8) := matF (fun i k => Gf.combAt (M1.getD i []) M2 k) M1.length (cols M2)
/-- The error of Product. -/
def prdE (M1 M2 : List (List UInt8)) : Int := if chk M1 ≠ 0 then chk M1 else if chk M2 ≠ 0 then chk M2 else if cols M1 ≠ M2.length then 1 else 0
theorem prdE_ok {M1 M2 : List (List UInt8)} (h : prdE M1 M2 = 0) : chk M1 = 0 ∧ chk M2 = 0 ∧ cols M1 = M2.length := by
  unfold prdE at h
  split at h
  · rename_i h1; exact absurd h h1
  · rename_i h1
    split at h
    · rename_i h2; exact absurd h h2
    · rename_i h2
      split at h
      · cases h
      · rename_i h3
        exact ⟨by simpa using h1, by simpa using h2, by simpa using h3⟩

end Go.Proofs.YtgajlgnniidgmaaDoor

namespace Go.Proofs.YtgajlgnniidgmaaDoor
set_option linter.unusedVariables false
set_option linter.unusedSimpArgs false
open Go.RowKit

theorem comR_eq (coef : List UInt8) (rows : List (List UInt8)) (n : Nat) (hl : rows.length ≤ coef.length) : ∀ j, j ≤ rows.length → comR coef rows n j = rowF (fun k => Gf.combAt (coef.take j) rows k) n
  | 0, _ => by
    unfold comR rowF Gf.combAt
    apply List.ext_getElem?
    intro i
    rcases Nat.lt_or_ge i n with h | h
    · simp [h]
    · simp [h]
  | j + 1, hj => by
    obtain ⟨x, hx⟩ : ∃ x, coef[j]? = some x := ⟨_, List.getElem?_eq_getElem (by omega)⟩
    obtain ⟨p, hp⟩ : ∃ x, rows[j]? = some x := ⟨_, List.getElem?_eq_getElem (by omega)⟩
    rw [comR_next hx hp, comR_eq coef rows n hl j (by omega)]
    unfold addR
    rw [rowF_len]
    apply List.ext_getElem?
    intro i
    rcases Nat.lt_or_ge i n with h | h
    · rw [rowF_get _ h, rowF_get _ h, combAt_snoc coef rows i j x p hx hp, List.getD_eq_getElem?_getD, rowF_get _ h]
      rfl
    · rw [List.getElem?_eq_none (by rw [rowF_len]; exact h), List.getElem?_eq_none (by rw [rowF_len]; exact h)]
theorem prd_get {M1 M2 : List (List UInt8)} {k : Nat} {m : List UInt8} (hm : M1[k]? = some m) (hl : m.length = M2.length) : (prd M1 M2)[k]? = some (comR m M2 (cols M2) M2.length) := by
  have hk := (List.getElem?_eq_some_iff.1 hm).1
  unfold prd
  rw [matF_get _ hk, comR_eq m M2 (cols M2) (by omega) _ (Nat.le_refl _), List.take_of_length_le (by omega), List.getD_eq_getElem?_getD, hm]
  rfl

end Go.Proofs.YtgajlgnniidgmaaDoor

namespace Go.Proofs.YtgajlgnniidgmaaDoor
set_option linter.unusedVariables false
set_option linter.unusedSimpArgs false

/-- A sum in the field. -/
def xsum : Nat → (Nat → UInt8) → UInt8
  | 0, _ => 0
  | n + 1, f => xsum n f ^^^ f n
theorem xsum_succ (n : Nat) (f : Nat → UInt8) : xsum (n + 1) f = xsum n f ^^^ f n := rfl
theorem xsum_congr {n : Nat} {f g : Nat → UInt8} (h : ∀ j, j < n → f j = g j) : xsum n f = xsum n g := by
  induction n with
  | zero => rfl
  | succ n ih => rw [xsum_succ, xsum_succ, ih fun j hj => h j (by omega), h n (by omega)]
theorem xsum_zero (n : Nat) : xsum n (fun _ => 0) = 0 := by
  induction n with
  | zero => rfl
  | succ n ih => rw [xsum_succ, ih]; simp
theorem swap4 (a b c d : UInt8) : (a ^^^ b) ^^^ (c ^^^ d) = (a ^^^ c) ^^^ (b ^^^ d) := by
  rw [UInt8.xor_assoc, UInt8.xor_assoc, ← UInt8.xor_assoc b c d, UInt8.xor_comm b c, UInt8.xor_assoc c b d]
theorem xsum_add (n : Nat) (f g : Nat → UInt8) : xsum n (fun j => f j ^^^ g j) = xsum n f ^^^ xsum n g := by
  induction n with
  | zero => simp [xsum]
  | succ n ih => rw [xsum_succ, xsum_succ, xsum_succ, ih, swap4]
theorem xsum_mul (n : Nat) (f : Nat → UInt8) (c : UInt8) : Gf.mul (xsum n f) c = xsum n (fun j => Gf.mul (f j) c) := by
  induction n with
  | zero => exact Gf.zero_mul c
  | succ n ih => rw [xsum_succ, xsum_succ, Gf.xor_mul, ih]
theorem mul_xsum (n : Nat) (f : Nat → UInt8) (c : UInt8) : Gf.mul c (xsum n f) = xsum n (fun j => Gf.mul c (f j)) := by
  induction n with
  | zero => exact Gf.mul_zero c
  | succ n ih => rw [xsum_succ, xsum_succ, Gf.mul_xor, ih]
theorem xsum_swap (n m : Nat) (f : Nat → Nat → UInt8) : xsum n (fun i => xsum m (f i)) = xsum m (fun j => xsum n (fun i => f i j)) := by
  induction n with
  | zero => exact (xsum_zero m).symm
  | succ n ih => rw [xsum_succ, ih, ← xsum_add]; rfl
/-- A combination is a sum. -/
theorem combAt_sum (r : List UInt8) (M : List (List UInt8)) (k : Nat) : ∀ n, n ≤ r.length → n ≤ M.length → Gf.combAt (r.take n) M k = xsum n fun j => Gf.mul (r.getD j 0) (el M j k)
  | 0, _, _ => rfl
  | n + 1, h1, h2 => by
    obtain ⟨x, hx⟩ : ∃ x, r[n]? = some x := ⟨_, List.getElem?_eq_getElem (by omega)⟩
    obtain ⟨p, hp⟩ : ∃ p, M[n]? = some p := ⟨_, List.getElem?_eq_getElem (by omega)⟩
    rw [combAt_snoc r M k n x p hx hp, combAt_sum r M k n (by omega) (by omega)]
    rw [xsum_succ]
    congr 1
    show _ = Gf.mul (r.getD n 0) ((M.getD n []).getD k 0)
    rw [List.getD_eq_getElem?_getD (l := r), hx, List.getD_eq_getElem?_getD (l := M), hp]
    rfl
theorem el_matF (F : Nat → Nat → UInt8) {r c i j : Nat} (hi : i < r) (hj : j < c) : el (matF F r c) i j = F i j :=
  el_of (matF_get F hi) (rowF_get (F i) hj)
theorem cols_matF (F : Nat → Nat → UInt8) {r : Nat} (c : Nat) (hr : 0 < r) : cols (matF F r c) = c := by
  unfold cols
  obtain ⟨r', rfl⟩ : ∃ r', r = r' + 1 := ⟨r - 1, by omega⟩
  rw [List.headD_eq_head?_getD, List.head?_eq_getElem?, matF_get F (Nat.succ_pos r')]
  exact rowF_len _ _
theorem matF_congr {F G : Nat → Nat → UInt8} {r c : Nat} (h : ∀ i j, i < r → j < c → F i j = G i j) : matF F r c = matF G r c := by
  unfold matF rowF
  apply List.map_congr_left
  intro i hi
  apply List.map_congr_left
  intro j hj
  exact h i j (List.mem_range.1 hi) (List.mem_range.1 hj)
/-- A product's elements are sums. -/
theorem prd_sum {A B : List (List UInt8)} (hA : ∀ m ∈ A, m.length = B.length) : prd A B = matF (fun i k => xsum B.length fun j => Gf.mul (el A i j) (el B j k)) A.length (cols B) := by
  unfold prd
  apply matF_congr
  intro i k hi hk
  have hm : (A.getD i []).length = B.length := by
    rw [List.getD_eq_getElem?_getD, List.getElem?_eq_getElem hi]
    exact hA _ (List.getElem_mem hi)
  have := combAt_sum (A.getD i []) B k B.length (by omega) (Nat.le_refl _)
  rw [List.take_of_length_le (by omega)] at this
  exact this
theorem prd_rows (A B : List (List UInt8)) : ∀ m ∈ prd A B, m.length = cols B := by
  unfold prd matF
  intro m hm
  obtain ⟨i, _, rfl⟩ := List.mem_map.1 hm
  exact rowF_len _ _
theorem prd_len (A B : List (List UInt8)) : (prd A B).length = A.length := matF_len _ _ _
theorem prd_cols {A B : List (List UInt8)} (h : 0 < A.length) : cols (prd A B) = cols B := cols_matF _ _ h
/-- Products are associative. -/
theorem prd_assoc {A B C : List (List UInt8)} (hA : ∀ m ∈ A, m.length = B.length) (hB : ∀ m ∈ B, m.length = C.length) (hb : cols B = C.length) (hl : 0 < B.length) : prd (prd A B) C = prd A (prd B C) := by
  rw [prd_sum (A := prd A B) (B := C) (fun m hm => by rw [prd_rows A B m hm, hb]), prd_sum (A := A) (B := prd B C) (fun m hm => by rw [hA m hm, prd_len]), prd_len, prd_len, prd_cols hl]
  apply matF_congr
  intro i l hi hlc
  have e1 : ∀ k, k < C.length → Gf.mul (el (prd A B) i k) (el C k l) = xsum B.length fun j => Gf.mul (Gf.mul (el A i j) (el B j k)) (el C k l) := fun k hk => by
    rw [prd_sum hA, el_matF _ hi (by omega), xsum_mul]
  have e2 : ∀ j, j < B.length → Gf.mul (el A i j) (el (prd B C) j l) = xsum C.length fun k => Gf.mul (Gf.mul (el A i j) (el B j k)) (el C k l) := fun j hj => by
    rw [prd_sum hB, el_matF _ hj hlc, mul_xsum]
    exact xsum_congr fun k _ => (Gf.mul_assoc _ _ _).symm
  rw [xsum_congr e1, xsum_congr e2, xsum_swap]
/-- The transpose of a product. -/
theorem tr_prd {A B : List (List UInt8)} (hA : ∀ m ∈ A, m.length = B.length) (ha : cols A = B.length) (hl : 0 < A.length) (hb : 0 < B.length) (hc : 0 < cols B) : tr (prd A B) = prd (tr B) (tr A) := by
  have hT : ∀ m ∈ tr B, m.length = (tr A).length := fun m hm => by
    unfold tr matF at hm
    obtain ⟨i, _, rfl⟩ := List.mem_map.1 hm
    rw [rowF_len]
    exact ((matF_len _ _ _).trans ha).symm
  have hlA : (tr A).length = cols A := matF_len _ _ _
  have hlB : (tr B).length = cols B := matF_len _ _ _
  have hcA : cols (tr A) = A.length := cols_matF _ _ (by omega)
  rw [prd_sum hT, hlA, hlB, hcA]
  conv => lhs; unfold tr
  rw [prd_cols hl, prd_len]
  apply matF_congr
  intro i k hi hk
  rw [prd_sum hA, el_matF _ hk hi, ha]
  apply xsum_congr
  intro j hj
  have e1 : el (tr B) i j = el B j i := el_matF _ hi hj
  have e2 : el (tr A) j k = el A k j := el_matF _ (by omega) hk
  rw [e1, e2, Gf.mul_comm]
/-- Valid matrices pass the check. -/
theorem chk_ok {M : List (List UInt8)} (h : Ok M) : chk M = 0 := by
  unfold chk
  rw [if_neg, if_neg]
  · rw [List.any_eq_true]
    rintro ⟨m, hm, hd⟩
    exact of_decide_eq_true hd (h.same m hm)
  · rintro (hh | hh)
    · have := h.rows; omega
    · rw [List.any_eq_true] at hh
      obtain ⟨m, hm, hd⟩ := hh
      have := of_decide_eq_true hd
      have := h.cols48 m hm
      omega
theorem ok_matF (F : Nat → Nat → UInt8) {r c : Nat} (hr : r ≤ 48) (hc : c ≤ 48) : Ok (matF F r c) := by
  have hrow : ∀ m ∈ matF F r c, m.length = c := fun m hm => by
    unfold matF at hm
    obtain ⟨i, _, rfl⟩ := List.mem_map.1 hm
    exact rowF_len _ _
  refine ⟨by rw [matF_len]; exact hr, fun m hm => by rw [hrow m hm]; exact hc, fun m hm => ?_⟩
  rw [hrow m hm]
  rcases Nat.eq_zero_or_pos r with h0 | h0
  · subst h0
    simp [matF] at hm
  · exact (cols_matF F c h0).symm
theorem ok_prd {A B : List (List UInt8)} (hA : Ok A) (hB : Ok B) : Ok (prd A B) := ok_matF _ hA.rows hB.cols_le
theorem ok_tr {A : List (List UInt8)} (hA : Ok A) : Ok (tr A) := ok_matF _ hA.cols_le hA.rows
end Go.Proofs.YtgajlgnniidgmaaDoor

namespace Go.Proofs.YtgajlgnniidgmaaDoor
set_option linter.unusedVariables false
set_option linter.unusedSimpArgs false
open Go.RowKit

theorem matF_rect (F : Nat → Nat → UInt8) (r c : Nat) : Rect (matF F r c) c := fun x hx => by
  unfold matF at hx
  obtain ⟨i, _, rfl⟩ := List.mem_map.1 hx
  exact rowF_len _ _
/-- The system of equations for the coefficients. -/
def expS (R : List (List UInt8)) (row : List UInt8) : List (List UInt8) := matF (fun j k => if k = R.length then row.getD j 0 else el R k j) row.length (R.length + 1)
/-- What Express answers. -/
def expE (R : List (List UInt8)) (row : List UInt8) : Int := if chk R ≠ 0 then chk R else if 48 < row.length then 2 else if 0 < R.length ∧ row.length ≠ cols R then 1 else if badS (expS R row) R.length then 8 else 0
def expL (R : List (List UInt8)) (row : List UInt8) : List UInt8 := if expE R row = 0 then solX (expS R row) R.length else []
/-- What a call that returns a row and an error ends with. -/
def RowRet (w : World) (X : List UInt8) (E : Int) (e : Ending) (w' : World) : Prop :=
  (∃ xv, e = .returned (.tuple #[xv, .int .i64 E]) ∧ RowAt w' w'.heap.size xv X) ∧ Below w.heap.size w w'
theorem RowRet.nothing {w w' : World} {E : Int} (h : Below w.heap.size w w') : RowRet w [] E (.returned (.tuple #[.slice none 0 0, .int .i64 E])) w' :=
  ⟨⟨_, rfl, none, 0, rfl, by simp, by unfold maxLen; decide, fun _ => rfl, Rds.empty⟩, h⟩

end Go.Proofs.YtgajlgnniidgmaaDoor

namespace Go.Proofs.YtgajlgnniidgmaaDoor
set_option linter.unusedVariables false
set_option linter.unusedSimpArgs false
open Go.RowKit

/-- The matrix beside which the first k rows of the identity stand. -/
def augK (M : List (List UInt8)) (n k : Nat) : List (List UInt8) := M.mapIdx fun i m => m ++ (if i < k then (List.replicate n 0).set i 1 else List.replicate n 0)
theorem augK_len (M : List (List UInt8)) (n k : Nat) : (augK M n k).length = M.length := by simp [augK]
theorem augK_get (M : List (List UInt8)) (n k i : Nat) : (augK M n k)[i]? = (M[i]?).map fun m => m ++ (if i < k then (List.replicate n 0).set i 1 else List.replicate n 0) := by
  unfold augK; rw [List.getElem?_mapIdx]
theorem augK_zero (M : List (List UInt8)) (n : Nat) : augK M n 0 = wid M n := by
  apply List.ext_getElem?
  intro i
  rw [augK_get]
  unfold wid pad0
  rw [List.getElem?_map]
  cases M[i]? <;> simp
theorem augK_next (M : List (List UInt8)) (n k : Nat) (m : List UInt8) (hm : M[k]? = some m) : (augK M n k).set k (m ++ (List.replicate n 0).set k 1) = augK M n (k + 1) := by
  have hl := (List.getElem?_eq_some_iff.1 hm).1
  apply List.ext_getElem?
  intro i
  by_cases h : k = i
  · subst h
    rw [List.getElem?_set_self (by rw [augK_len]; exact hl), augK_get, hm]
    simp
  · rw [List.getElem?_set_ne h, augK_get, augK_get]
    cases M[i]? with
    | none => rfl
    | some x =>
      simp only [Option.map_some]
      by_cases h1 : i < k
      · have : i < k + 1 := by omega
        simp [h1, this]
      · have : ¬ i < k + 1 := by omega
        simp [h1, this]
theorem augK_rect {M : List (List UInt8)} {c : Nat} (h : Rect M c) (n k : Nat) : Rect (augK M n k) (c + n) := fun x hx => by
  obtain ⟨i, hi⟩ := List.getElem?_of_mem hx
  rw [augK_get] at hi
  cases hr : M[i]? with
  | none => simp [hr] at hi
  | some r =>
    simp only [hr, Option.map_some, Option.some.injEq] at hi
    rw [← hi, List.length_append, h.at hr]
    split <;> simp
def augM (M : List (List UInt8)) : List (List UInt8) := augK M M.length M.length
/-- What Inverse answers. -/
def invE (M : List (List UInt8)) : Int := if chk M ≠ 0 then chk M else if cols M ≠ M.length then 1 else if (red (augM M) M.length).2.length < M.length then 8 else 0
def invM (M : List (List UInt8)) : List (List UInt8) := if invE M = 0 then matF (fun i j => el (red (augM M) M.length).1 i (M.length + j)) M.length M.length else []

end Go.Proofs.YtgajlgnniidgmaaDoor
