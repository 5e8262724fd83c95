/-
  Stage 14 (clock): the maths of clocks: passed, allowed, bounds, and that bounds never decrease.
-/
import Derived.Test.YtbkgbjimooobbaaKc
import Derived.Test.YtbkgbjimooobbaaOpn
import Derived.Deep.QuietTactic
import Derived.BigQuiet
import Derived.WalkMore
namespace Go.Proofs.Ytbkgbjimooobbaa
set_option linter.unusedVariables false
set_option linter.unusedSimpArgs false
open Go.RowKit

/-- A reading: what the clock showed, and the range. -/
structure Rdg where
  L : Int
  lo : Int
  hi : Int
def MaxI : Int := 3600000000
def inst (n : Int) : Bool := decide (0 ≤ n ∧ n ≤ 3600000000)
def okW (lo hi : Int) : Bool := decide ((0 ≤ lo ∧ lo ≤ 3600000000) ∧ (0 ≤ hi ∧ hi ≤ 3600000000) ∧ lo ≤ hi)
def okR (r : Rdg) : Bool := inst r.L && okW r.lo r.hi
def okRate (n : Int) : Bool := decide (0 ≤ n ∧ n ≤ 100000)
theorem inst_iff {n : Int} : inst n = true ↔ 0 ≤ n ∧ n ≤ 3600000000 := by unfold inst; exact decide_eq_true_iff
theorem okW_iff {lo hi : Int} : okW lo hi = true ↔ (0 ≤ lo ∧ lo ≤ 3600000000) ∧ (0 ≤ hi ∧ hi ≤ 3600000000) ∧ lo ≤ hi := by unfold okW; exact decide_eq_true_iff
theorem okRate_iff {n : Int} : okRate n = true ↔ 0 ≤ n ∧ n ≤ 100000 := by unfold okRate; exact decide_eq_true_iff
theorem okR_iff {r : Rdg} : okR r = true ↔ (0 ≤ r.L ∧ r.L ≤ 3600000000) ∧ (0 ≤ r.lo ∧ r.lo ≤ 3600000000) ∧ (0 ≤ r.hi ∧ r.hi ≤ 3600000000) ∧ r.lo ≤ r.hi := by
  unfold okR
  rw [Bool.and_eq_true, inst_iff, okW_iff]

/-- The first error of readings, behind one that showed b. -/
def chkG : List Rdg → Int → Int
  | [], _ => 0
  | r :: l, b => if okR r = false then 3 else if r.L ≤ b then 1 else chkG l r.L
/-- The first error of a clock. -/
def chkK (rate : Int) (l : List Rdg) : Int := if okRate rate = false then 3 else if 16 < l.length then 2 else chkG l (-1)
theorem chkG_rng : ∀ (l : List Rdg) (b : Int), 0 ≤ chkG l b ∧ chkG l b ≤ 24
  | [], b => by unfold chkG; omega
  | r :: l, b => by
    unfold chkG
    split
    · omega
    · split
      · omega
      · exact chkG_rng l r.L
theorem chkK_rng (rate : Int) (l : List Rdg) : 0 ≤ chkK rate l ∧ chkK rate l ≤ 24 := by
  unfold chkK
  split
  · omega
  · split
    · omega
    · exact chkG_rng l _
/-- All readings of a list are right and ascend, from b on. -/
def AscR : List Rdg → Int → Prop
  | [], _ => True
  | r :: l, b => okR r = true ∧ b < r.L ∧ AscR l r.L
theorem chkG_ok : ∀ (l : List Rdg) (b : Int), chkG l b = 0 ↔ AscR l b
  | [], b => by simp [chkG, AscR]
  | r :: l, b => by
    unfold chkG AscR
    cases h : okR r with
    | false => simp
    | true =>
      rw [if_neg (by simp)]
      by_cases hl : r.L ≤ b
      · rw [if_pos hl]
        constructor
        · intro h; cases h
        · intro h; omega
      · rw [if_neg hl, chkG_ok l r.L]
        constructor
        · intro h; exact ⟨rfl, by omega, h⟩
        · intro h; exact h.2.2
theorem chkK_ok {rate : Int} {l : List Rdg} : chkK rate l = 0 ↔ okRate rate = true ∧ l.length ≤ 16 ∧ AscR l (-1) := by
  unfold chkK
  cases h : okRate rate with
  | false => simp
  | true =>
    rw [if_neg (by simp)]
    by_cases hl : 16 < l.length
    · rw [if_pos hl]
      constructor
      · intro h; cases h
      · intro h; omega
    · rw [if_neg hl, chkG_ok]
      constructor
      · intro h; exact ⟨rfl, by omega, h⟩
      · intro h; exact h.2.2
theorem AscR.ok : ∀ {l : List Rdg} {b : Int}, AscR l b → ∀ r ∈ l, okR r = true
  | [], _, _, r, hr => by cases hr
  | x :: l, b, h, r, hr => by
    rcases List.mem_cons.1 hr with rfl | hr
    · exact h.1
    · exact AscR.ok h.2.2 r hr
theorem AscR.gt : ∀ {l : List Rdg} {b : Int}, AscR l b → ∀ r ∈ l, b < r.L
  | [], _, _, r, hr => by cases hr
  | x :: l, b, h, r, hr => by
    rcases List.mem_cons.1 hr with rfl | hr
    · exact h.2.1
    · have := AscR.gt h.2.2 r hr
      have := h.2.1
      omega
theorem AscR.low : ∀ {l : List Rdg} {b c : Int}, AscR l b → c ≤ b → AscR l c
  | [], _, _, _, _ => trivial
  | x :: l, b, c, h, hc => ⟨h.1, by have := h.2.1; omega, h.2.2⟩
theorem AscR.tail {r : Rdg} {l : List Rdg} {b : Int} (h : AscR (r :: l) b) : AscR l b := h.2.2.low (by have := h.2.1; omega)
theorem AscR.snoc : ∀ {l : List Rdg} {b : Int} {r : Rdg}, AscR l b → okR r = true → b < r.L → (∀ x ∈ l, x.L < r.L) → AscR (l ++ [r]) b
  | [], b, r, _, hr, hb, _ => ⟨hr, hb, trivial⟩
  | x :: l, b, r, h, hr, hb, hx => ⟨h.1, h.2.1, AscR.snoc h.2.2 hr (hx x (List.mem_cons_self ..)) (fun y hy => hx y (List.mem_cons_of_mem _ hy))⟩
/-- The last reading is the greatest. -/
theorem AscR.last : ∀ {l : List Rdg} {b : Int} {z : Rdg}, AscR l b → l.getLast? = some z → ∀ x ∈ l, x.L ≤ z.L
  | [], _, _, _, h, _, _ => by cases h
  | [y], b, z, h, hz, x, hx => by
    obtain rfl : y = z := by simpa using hz
    rw [List.mem_singleton.1 hx]
    exact Int.le_refl _
  | y :: y' :: l, b, z, h, hz, x, hx => by
    have hz' : (y' :: l).getLast? = some z := by rw [← hz]; rfl
    have ih := AscR.last h.2.2 hz'
    rcases List.mem_cons.1 hx with rfl | hx
    · have h1 := ih y' (List.mem_cons_self ..)
      have h2 := h.2.2.2.1
      omega
    · exact ih x hx

/-- The least and the greatest number of instants. -/
def pLo (rate s : Int) : Int := if 0 < s then 1 + (s - 1) * 1000000 / (1000000 + rate) else 0
def pHi (rate s : Int) : Int := ((s + 1) * 1000000 - 1) / (1000000 - rate)
theorem pLo_rng {rate s : Int} (h0 : 0 ≤ rate) (h1 : rate ≤ 100000) (hs : 0 ≤ s) (hm : s ≤ 3600000000) : 0 ≤ pLo rate s ∧ pLo rate s ≤ 3600000001 := by
  unfold pLo
  split
  · have h2 : 0 ≤ (s - 1) * 1000000 / (1000000 + rate) := Int.ediv_nonneg (by omega) (by omega)
    have h3 : (s - 1) * 1000000 / (1000000 + rate) ≤ s - 1 := by
      refine Int.le_trans (Int.ediv_le_ediv (by omega) (c := 1000000 + rate) (Int.mul_le_mul_of_nonneg_left (show (1000000 : Int) ≤ 1000000 + rate by omega) (by omega))) ?_
      rw [Int.mul_ediv_cancel _ (by omega)]
      exact Int.le_refl _
    omega
  · omega
theorem pHi_rng {rate s : Int} (h0 : 0 ≤ rate) (h1 : rate ≤ 100000) (hs : 0 ≤ s) (hm : s ≤ 3600000000) : 0 ≤ pHi rate s ∧ pHi rate s ≤ 7200000002 := by
  unfold pHi
  refine ⟨Int.ediv_nonneg (by omega) (by omega), ?_⟩
  have h3 : ((s + 1) * 1000000 - 1) / (1000000 - rate) ≤ 2 * (s + 1) := by
    refine Int.ediv_le_of_le_mul (by omega) ?_
    have : 2 * (s + 1) * 500000 ≤ 2 * (s + 1) * (1000000 - rate) := Int.mul_le_mul_of_nonneg_left (by omega) (by omega)
    omega
  omega
theorem pLo_mono {rate s t : Int} (h0 : 0 ≤ rate) (hs : 0 ≤ s) (h : s ≤ t) : pLo rate s ≤ pLo rate t := by
  unfold pLo
  by_cases h1 : 0 < s
  · rw [if_pos h1, if_pos (by omega)]
    have := Int.ediv_le_ediv (c := 1000000 + rate) (by omega) (show (s - 1) * 1000000 ≤ (t - 1) * 1000000 by omega)
    omega
  · rw [if_neg h1]
    split
    · have h2 : 0 ≤ (t - 1) * 1000000 / (1000000 + rate) := Int.ediv_nonneg (by omega) (by omega)
      omega
    · omega
theorem pHi_mono {rate s t : Int} (h1 : rate ≤ 100000) (h : s ≤ t) : pHi rate s ≤ pHi rate t := by
  unfold pHi
  exact Int.ediv_le_ediv (by omega) (by omega)
/-- The reference's upper number is the program's. -/
theorem pHi_ref {rate s : Int} (h1 : rate ≤ 100000) (hs : 0 ≤ s) :
    pHi rate s = if (s + 1) * 1000000 / (1000000 - rate) * (1000000 - rate) = (s + 1) * 1000000 then (s + 1) * 1000000 / (1000000 - rate) - 1 else (s + 1) * 1000000 / (1000000 - rate) := by
  unfold pHi
  have hd : 0 < 1000000 - rate := by omega
  generalize 1000000 - rate = d at *
  generalize (s + 1) * 1000000 = X at *
  have e := Int.mul_ediv_add_emod X d
  have m0 := Int.emod_nonneg X (b := d) (by omega)
  have m1 := Int.emod_lt_of_pos X hd
  split
  · rename_i h
    obtain ⟨q, hq⟩ : ∃ q, q = X / d := ⟨_, rfl⟩
    rw [← hq] at h ⊢
    rw [← h]
    refine (Int.ediv_eq_iff_of_pos hd).2 ⟨?_, ?_⟩
    · rw [Int.sub_mul]; omega
    · rw [Int.sub_mul]; omega
  · rename_i h
    obtain ⟨q, hq⟩ : ∃ q, q = X / d := ⟨_, rfl⟩
    rw [← hq] at h e ⊢
    have hr : X % d ≠ 0 := by
      intro hz
      rw [hz] at e
      refine h ?_
      rw [Int.mul_comm]
      omega
    rw [Int.mul_comm] at e
    refine (Int.ediv_eq_iff_of_pos hd).2 ⟨by omega, ?_⟩
    omega
/-- Exactness (P14.8): a number of instants is at most pHi, and at least pLo. -/
theorem le_pHi {rate s n : Int} (h1 : rate ≤ 100000) : n ≤ pHi rate s ↔ n * (1000000 - rate) ≤ (s + 1) * 1000000 - 1 := by
  unfold pHi
  exact Int.le_ediv_iff_mul_le (by omega)
theorem pLo_le {rate s n : Int} (h0 : 0 ≤ rate) (hn : 0 ≤ n) (hs : 0 ≤ s) : pLo rate s ≤ n ↔ (s - 1) * 1000000 + 1 ≤ n * (1000000 + rate) := by
  unfold pLo
  split
  · have : (s - 1) * 1000000 / (1000000 + rate) < n ↔ (s - 1) * 1000000 < n * (1000000 + rate) := Int.ediv_lt_iff_lt_mul (by omega)
    omega
  · have := Int.mul_nonneg hn (show 0 ≤ 1000000 + rate by omega)
    omega

/-- The range that a reading allows for a value. -/
def alLo (rate : Int) (r : Rdg) (x : Int) : Int := if r.L < x then r.lo + pLo rate (x - r.L) else if x < r.L then r.lo - pHi rate (r.L - x) else r.lo - pHi rate 0
def alHi (rate : Int) (r : Rdg) (x : Int) : Int := if r.L < x then r.hi + pHi rate (x - r.L) else if x < r.L then r.hi - pLo rate (r.L - x) else r.hi + pHi rate 0
theorem alLo_mono {rate : Int} {r : Rdg} {x y : Int} (h0 : 0 ≤ rate) (h1 : rate ≤ 100000) (h : x ≤ y) : alLo rate r x ≤ alLo rate r y := by
  have hz : 0 ≤ pHi rate 0 := (pHi_rng h0 h1 (by omega) (by omega)).1
  have hlo : ∀ s, 0 ≤ s → 0 ≤ pLo rate s := fun s hs => by have := pLo_mono (s := 0) h0 (by omega) hs; unfold pLo at this ⊢; simpa using this
  have hhi : ∀ s, 0 ≤ s → pHi rate 0 ≤ pHi rate s := fun s hs => pHi_mono h1 hs
  unfold alLo
  by_cases a1 : r.L < x
  · rw [if_pos a1, if_pos (by omega)]
    have := pLo_mono (rate := rate) (s := x - r.L) (t := y - r.L) h0 (by omega) (by omega)
    omega
  · rw [if_neg a1]
    by_cases b1 : r.L < y
    · rw [if_pos b1]
      have := hlo (y - r.L) (by omega)
      split
      · have := hhi (r.L - x) (by omega); omega
      · omega
    · rw [if_neg b1]
      by_cases b2 : y < r.L
      · rw [if_pos b2, if_pos (by omega)]
        have := pHi_mono (rate := rate) (s := r.L - y) (t := r.L - x) h1 (by omega)
        omega
      · rw [if_neg b2]
        split
        · have := hhi (r.L - x) (by omega); omega
        · omega
theorem alHi_mono {rate : Int} {r : Rdg} {x y : Int} (h0 : 0 ≤ rate) (h1 : rate ≤ 100000) (h : x ≤ y) : alHi rate r x ≤ alHi rate r y := by
  have hz : 0 ≤ pHi rate 0 := (pHi_rng h0 h1 (by omega) (by omega)).1
  have hlo : ∀ s, 0 ≤ s → 0 ≤ pLo rate s := fun s hs => by have := pLo_mono (s := 0) h0 (by omega) hs; unfold pLo at this ⊢; simpa using this
  have hhi : ∀ s, 0 ≤ s → pHi rate 0 ≤ pHi rate s := fun s hs => pHi_mono h1 hs
  unfold alHi
  by_cases a1 : r.L < x
  · rw [if_pos a1, if_pos (by omega)]
    have := pHi_mono (rate := rate) (s := x - r.L) (t := y - r.L) h1 (by omega)
    omega
  · rw [if_neg a1]
    by_cases b1 : r.L < y
    · rw [if_pos b1]
      have := hhi (y - r.L) (by omega)
      split
      · have := hlo (r.L - x) (by omega); omega
      · omega
    · rw [if_neg b1]
      by_cases b2 : y < r.L
      · rw [if_pos b2, if_pos (by omega)]
        have := pLo_mono (rate := rate) (s := r.L - y) (t := r.L - x) h0 (by omega) (by omega)
        omega
      · rw [if_neg b2]
        split
        · have := hlo (r.L - x) (by omega); omega
        · omega
theorem al_rng {rate x : Int} {r : Rdg} (h0 : 0 ≤ rate) (h1 : rate ≤ 100000) (hr : okR r = true) (x0 : 0 ≤ x) (x1 : x ≤ 3600000000) :
    -7200000002 ≤ alLo rate r x ∧ alLo rate r x ≤ 7200000001 ∧ -3600000001 ≤ alHi rate r x ∧ alHi rate r x ≤ 10800000002 := by
  obtain ⟨a, b, c, d⟩ := okR_iff.1 hr
  unfold alLo alHi
  have z := pHi_rng (s := 0) h0 h1 (by omega) (by omega)
  by_cases a1 : r.L < x
  · have := pLo_rng (s := x - r.L) h0 h1 (by omega) (by omega)
    have := pHi_rng (s := x - r.L) h0 h1 (by omega) (by omega)
    rw [if_pos a1, if_pos a1]; omega
  · rw [if_neg a1, if_neg a1]
    by_cases b1 : x < r.L
    · have := pLo_rng (s := r.L - x) h0 h1 (by omega) (by omega)
      have := pHi_rng (s := r.L - x) h0 h1 (by omega) (by omega)
      rw [if_pos b1, if_pos b1]; omega
    · rw [if_neg b1, if_neg b1]; omega

/-- The lower and the upper bound, over some readings. -/
def bLo (rate x : Int) : List Rdg → Int → Int
  | [], u => u
  | r :: l, u => bLo rate x l (max u (alLo rate r x))
def bHi (rate x : Int) : List Rdg → Int → Int
  | [], u => u
  | r :: l, u => bHi rate x l (min u (alHi rate r x))
def bndLo (rate : Int) (l : List Rdg) (x : Int) : Int := bLo rate x l 0
def bndHi (rate : Int) (l : List Rdg) (x : Int) : Int := bHi rate x l 3600000000
theorem bLo_snoc (rate x : Int) : ∀ (l : List Rdg) (r : Rdg) (u : Int), bLo rate x (l ++ [r]) u = max (bLo rate x l u) (alLo rate r x)
  | [], r, u => rfl
  | y :: l, r, u => by rw [List.cons_append, bLo, bLo, bLo_snoc rate x l r]
theorem bHi_snoc (rate x : Int) : ∀ (l : List Rdg) (r : Rdg) (u : Int), bHi rate x (l ++ [r]) u = min (bHi rate x l u) (alHi rate r x)
  | [], r, u => rfl
  | y :: l, r, u => by rw [List.cons_append, bHi, bHi, bHi_snoc rate x l r]
theorem bLo_mono {rate x y : Int} (h0 : 0 ≤ rate) (h1 : rate ≤ 100000) (h : x ≤ y) : ∀ (l : List Rdg) (u v : Int), u ≤ v → bLo rate x l u ≤ bLo rate y l v
  | [], u, v, hu => hu
  | r :: l, u, v, hu => bLo_mono h0 h1 h l _ _ (by have := alLo_mono (r := r) h0 h1 h; omega)
theorem bHi_mono {rate x y : Int} (h0 : 0 ≤ rate) (h1 : rate ≤ 100000) (h : x ≤ y) : ∀ (l : List Rdg) (u v : Int), u ≤ v → bHi rate x l u ≤ bHi rate y l v
  | [], u, v, hu => hu
  | r :: l, u, v, hu => bHi_mono h0 h1 h l _ _ (by have := alHi_mono (r := r) h0 h1 h; omega)
/-- The bounds never decrease (P14.10). -/
theorem bndLo_mono {rate x y : Int} {l : List Rdg} (h0 : 0 ≤ rate) (h1 : rate ≤ 100000) (h : x ≤ y) : bndLo rate l x ≤ bndLo rate l y := bLo_mono h0 h1 h l _ _ (Int.le_refl _)
theorem bndHi_mono {rate x y : Int} {l : List Rdg} (h0 : 0 ≤ rate) (h1 : rate ≤ 100000) (h : x ≤ y) : bndHi rate l x ≤ bndHi rate l y := bHi_mono h0 h1 h l _ _ (Int.le_refl _)
theorem bLo_rng {rate x : Int} (h0 : 0 ≤ rate) (h1 : rate ≤ 100000) (x0 : 0 ≤ x) (x1 : x ≤ 3600000000) : ∀ (l : List Rdg) (u : Int), (∀ r ∈ l, okR r = true) → 0 ≤ u → u ≤ 7200000001 → 0 ≤ bLo rate x l u ∧ bLo rate x l u ≤ 7200000001
  | [], u, _, a, b => ⟨a, b⟩
  | r :: l, u, hr, a, b => by
    have := al_rng (x := x) h0 h1 (hr r (List.mem_cons_self ..)) x0 x1
    exact bLo_rng h0 h1 x0 x1 l _ (fun y hy => hr y (List.mem_cons_of_mem _ hy)) (by omega) (by omega)
theorem bHi_rng {rate x : Int} (h0 : 0 ≤ rate) (h1 : rate ≤ 100000) (x0 : 0 ≤ x) (x1 : x ≤ 3600000000) : ∀ (l : List Rdg) (u : Int), (∀ r ∈ l, okR r = true) → -3600000001 ≤ u → u ≤ 3600000000 → -3600000001 ≤ bHi rate x l u ∧ bHi rate x l u ≤ 3600000000
  | [], u, _, a, b => ⟨a, b⟩
  | r :: l, u, hr, a, b => by
    have := al_rng (x := x) h0 h1 (hr r (List.mem_cons_self ..)) x0 x1
    exact bHi_rng h0 h1 x0 x1 l _ (fun y hy => hr y (List.mem_cons_of_mem _ hy)) (by omega) (by omega)
end Go.Proofs.Ytbkgbjimooobbaa
