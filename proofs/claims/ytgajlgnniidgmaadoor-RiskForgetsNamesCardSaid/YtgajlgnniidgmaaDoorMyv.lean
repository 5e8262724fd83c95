/-
  Contracts of stage 5: solution. Contracts of stage 5: kernelRow, Contains. Contracts of stage 5: Solve.
-/
import Derived.Test.YtgajlgnniidgmaaDoorMsx
namespace Go.Proofs.YtgajlgnniidgmaaDoor
set_option linter.unusedVariables false
set_option linter.unusedSimpArgs false
open Go.RowKit

/-- In the row x the elements in the pivots' columns are set to those of a column. -/
def setP (Mr : List (List UInt8)) (col : Nat) : List Nat → Nat → List UInt8 → List UInt8
  | [], _, x => x
  | p :: ps, i, x => setP Mr col ps (i + 1) (x.set p (el Mr i col))
theorem setP_len (Mr : List (List UInt8)) (col : Nat) : ∀ (ps : List Nat) (i : Nat) (x : List UInt8), (setP Mr col ps i x).length = x.length
  | [], _, _ => rfl
  | p :: ps, i, x => by unfold setP; rw [setP_len Mr col ps]; simp
/-- Has a reduced system no solution? -/
def badS (S : List (List UInt8)) (n : Nat) : Bool := ((red S n).1.drop (red S n).2.length).any fun r => r.getD n 0 != 0
/-- The solution of a system whose unknowns without a pivot are 0. -/
def solX (S : List (List UInt8)) (n : Nat) : List UInt8 := setP (red S n).1 n (red S n).2 0 (List.replicate n 0)
/-- What solution ends with. -/
def SolEnd (w : World) (base g : Nat) (bs : List Nat) (S : List (List UInt8)) (n : Nat) (e : Ending) (w' : World) : Prop :=
  ∃ bs', bs'.Perm bs ∧ Om w' base g bs' (red S n).1 [] ∧ Chg (g :: bs) w w' ∧
    ((badS S n = true ∧ e = .returned (.tuple #[.slice none 0 0, .slice none 0 0, .int .i64 8])) ∨
     (badS S n = false ∧ ∃ xb vp, e = .returned (.tuple #[.slice (some ⟨xb, 0, none⟩) n n, vp, .int .i64 0]) ∧ OwnP w' w.heap.size vp (red S n).2 ∧ w.heap.size ≤ xb ∧ Blk w' xb ((solX S n).map bv) 5 ∧ vp.ownBlock ≠ some xb))

end Go.Proofs.YtgajlgnniidgmaaDoor

namespace Go.Proofs.YtgajlgnniidgmaaDoor
set_option linter.unusedVariables false
set_option linter.unusedSimpArgs false
open Go.RowKit

/-- Does a list contain a number? -/
def hasB (l : List Nat) (v : Nat) : Bool := l.contains v
/-- A row of the kernel. -/
def kerX (Mr : List (List UInt8)) (piv : List Nat) (n free : Nat) : List UInt8 := setP Mr free piv 0 ((List.replicate n 0).set free 1)
theorem kerX_len (Mr : List (List UInt8)) (piv : List Nat) (n free : Nat) : (kerX Mr piv n free).length = n := by
  unfold kerX; rw [setP_len]; simp
/-- What kernelRow ends with. -/
def KerEnd (w : World) (n : Nat) (l : List UInt8) (e : Ending) (w' : World) : Prop :=
  ∃ xb, e = .returned (.slice (some ⟨xb, 0, none⟩) n n) ∧ w.heap.size ≤ xb ∧ Blk w' xb (l.map bv) 5 ∧ Below w.heap.size w w'

end Go.Proofs.YtgajlgnniidgmaaDoor

namespace Go.Proofs.YtgajlgnniidgmaaDoor
set_option linter.unusedVariables false
set_option linter.unusedSimpArgs false
open Go.RowKit

/-- The system whose first k right sides are set. -/
def sysK (M : List (List UInt8)) (b : List UInt8) (k : Nat) : List (List UInt8) := M.mapIdx fun i m => m ++ [if i < k then b.getD i 0 else 0]
theorem sysK_len (M : List (List UInt8)) (b : List UInt8) (k : Nat) : (sysK M b k).length = M.length := by simp [sysK]
theorem sysK_get (M : List (List UInt8)) (b : List UInt8) (k i : Nat) : (sysK M b k)[i]? = (M[i]?).map fun m => m ++ [if i < k then b.getD i 0 else 0] := by
  unfold sysK; rw [List.getElem?_mapIdx]
theorem sysK_zero (M : List (List UInt8)) (b : List UInt8) : sysK M b 0 = wid M 1 := by
  apply List.ext_getElem?
  intro i
  rw [sysK_get]
  unfold wid pad0
  rw [List.getElem?_map]
  cases M[i]? <;> simp
theorem sysK_next (M : List (List UInt8)) (b : List UInt8) (k : Nat) (m : List UInt8) (hm : M[k]? = some m) : (sysK M b k).set k (m ++ [b.getD k 0]) = sysK M b (k + 1) := by
  have hl := (List.getElem?_eq_some_iff.1 hm).1
  apply List.ext_getElem?
  intro i
  by_cases h : k = i
  · subst h
    rw [List.getElem?_set_self (by rw [sysK_len]; exact hl), sysK_get, hm]
    simp
  · rw [List.getElem?_set_ne h, sysK_get, sysK_get]
    cases M[i]? with
    | none => rfl
    | some x =>
      simp only [Option.map_some]
      by_cases h1 : i < k
      · have : i < k + 1 := by omega
        simp [h1, this]
      · have : ¬ i < k + 1 := by omega
        simp [h1, this]
/-- The system of equations, with its right sides. -/
def sysM (M : List (List UInt8)) (b : List UInt8) : List (List UInt8) := sysK M b M.length
theorem sysK_rect {M : List (List UInt8)} {c : Nat} (h : Rect M c) (b : List UInt8) (k : Nat) : Rect (sysK M b k) (c + 1) := fun x hx => by
  obtain ⟨i, hi⟩ := List.getElem?_of_mem hx
  rw [sysK_get] at hi
  cases hr : M[i]? with
  | none => simp [hr] at hi
  | some r =>
    simp only [hr, Option.map_some, Option.some.injEq] at hi
    rw [← hi, List.length_append, h.at hr]
    rfl
/-- The first rows of the kernel. -/
def kers (Mr : List (List UInt8)) (piv : List Nat) (n f : Nat) : List (List UInt8) := ((List.range f).filter fun j => !hasB piv j).map fun j => kerX Mr piv n j
theorem kers_succ (Mr : List (List UInt8)) (piv : List Nat) (n f : Nat) : kers Mr piv n (f + 1) = kers Mr piv n f ++ (if hasB piv f then [] else [kerX Mr piv n f]) := by
  unfold kers
  rw [List.range_succ, List.filter_append, List.map_append]
  cases h : hasB piv f <;> simp [h]
theorem kers_len (Mr : List (List UInt8)) (piv : List Nat) (n f : Nat) : (kers Mr piv n f).length ≤ f := by
  unfold kers
  rw [List.length_map]
  exact Nat.le_trans (List.length_filter_le ..) (by simp)
/-- What Solve answers. -/
def solveE (M : List (List UInt8)) (b : List UInt8) : Int := if chk M ≠ 0 then chk M else if b.length ≠ M.length then 1 else if badS (sysM M b) (cols M) then 8 else 0
def solveX (M : List (List UInt8)) (b : List UInt8) : List UInt8 := if solveE M b = 0 then solX (sysM M b) (cols M) else []
def solveK (M : List (List UInt8)) (b : List UInt8) : List (List UInt8) := if solveE M b = 0 then kers (red (sysM M b) (cols M)).1 (red (sysM M b) (cols M)).2 (cols M) (cols M) else []
/-- What a call that solves ends with. -/
def SolveRet (w : World) (X : List UInt8) (K : List (List UInt8)) (E : Int) (e : Ending) (w' : World) : Prop :=
  (∃ xv A c, e = .returned (.tuple #[xv, .slice A K.length c, .int .i64 E]) ∧ RowAt w' w'.heap.size xv X ∧ K.length ≤ c ∧ c ≤ maxLen ∧ (A = none → c = 0) ∧ Mat w' w'.heap.size A K) ∧ Below w.heap.size w w'
theorem SolveRet.nothing {w w' : World} {E : Int} (h : Below w.heap.size w w') : SolveRet w [] [] E (.returned (.tuple #[.slice none 0 0, .slice none 0 0, .int .i64 E])) w' :=
  ⟨⟨_, none, 0, rfl, ⟨none, 0, rfl, by simp, by unfold maxLen; decide, fun _ => rfl, Rds.empty⟩, by simp, by unfold maxLen; decide, fun _ => rfl, Mat.nil⟩, h⟩
/-- Rows in blocks of the call's own, whose slices are a row that grows. -/
def OwnK (w : World) (base : Nat) (v : Value) (K : List (List UInt8)) : Prop :=
  ∃ vs : List Value, vs.length = K.length ∧ w.ownsRow base 52 1 v K.length vs ∧ ∀ (i : Nat) (u : Value) (m : List UInt8), vs[i]? = some u → K[i]? = some m → ∃ xb, u = .slice (some ⟨xb, 0, none⟩) m.length m.length ∧ Blk w xb (m.map bv) 5 ∧ v.ownBlock ≠ some xb ∧ m.length ≤ maxLen
theorem ownK_nil (w : World) (base : Nat) : OwnK w base (.slice none 0 0) [] := ⟨[], rfl, World.ownsRow_nil w base _ _, fun i u m hu => by simp at hu⟩
theorem OwnK.keep {w w' : World} {base : Nat} {v : Value} {K : List (List UInt8)} (h : OwnK w base v K) (hb : Below w.heap.size w w') : OwnK w' base v K := by
  obtain ⟨vs, h1, h2, h3⟩ := h
  refine ⟨vs, h1, ⟨h2.1, ?_⟩, fun i u m hu hm => ?_⟩
  · rcases h2.2 with hn | ⟨g, cap, cur, hv, hg, hh, rest⟩
    · exact .inl hn
    · exact .inr ⟨g, cap, cur, hv, hg, by rw [hb.block g (Array.getElem?_eq_some_iff.1 hh).1]; exact hh, rest⟩
  · obtain ⟨xb, e1, e2, e3, e4⟩ := h3 i u m hu hm
    exact ⟨xb, e1, e2.below hb e2.lt, e3, e4⟩
theorem OwnK.mat {w : World} {base : Nat} {v : Value} {K : List (List UInt8)} (h : OwnK w base v K) : ∃ A c, v = .slice A K.length c ∧ K.length ≤ c ∧ c ≤ maxLen ∧ (A = none → c = 0) ∧ Mat w w.heap.size A K := by
  obtain ⟨vs, h1, h2, h3⟩ := h
  obtain ⟨A, c, hv, g1, g2, g3, g4⟩ := own_form h2
  refine ⟨A, c, hv, g1, g2, g3, vs, h1, g4, fun i u m hu hm => ?_⟩
  obtain ⟨xb, rfl, e2, _, e4⟩ := h3 i u m hu hm
  refine ⟨some ⟨xb, 0, none⟩, m.length, rfl, Nat.le_refl _, e4, (fun hh => by cases hh), ?_⟩
  have := e2.rds 0 m.length
  rw [List.drop_zero, List.take_of_length_le (by rw [List.length_map]; exact Nat.le_refl _)] at this
  exact this
/-- 'k = append(k, row)', k the call's own, row in a block apart. -/
theorem push_ker {w0 : World} {ops : Array Oper} {rest : List Oper} {o : Oper} {a : Act} {Q : Exit → Act → World → Prop} (hgd : o.guard = none) (s x : Operand)
    (ho : o.op = .call { callee := .builtin .append, args := #[s, x], argTypes := #[84, 84] })
    (base : Nat) (v : Value) (K : List (List UInt8)) (xb n : Nat) (m : List UInt8) (u : Value) (hu : u = .slice (some ⟨xb, 0, none⟩) n n) (hn : n = m.length) (hs : a.eval s = v) (hx : a.eval x = .slice (some ⟨w0.heap.size, 0, none⟩) 1 1)
    (hown : OwnK w0 base v K) (hk : Blk w0 xb (m.map bv) 5) (hne : v.ownBlock ≠ some xb) (hml : m.length ≤ maxLen) (hlen : K.length ≤ 1000000) (hbase : base ≤ w0.heap.size)
    (h : ∀ v' w', OwnK w' base v' (K ++ [m]) → Below base w0 w' → wpList Tryd.prog ops Q rest (a.put o.dst v') w') :
    wpList Tryd.prog ops Q (o :: rest) a (w0.alloc (.cells #[u] 52)) := by
  subst hu
  subst hn
  obtain ⟨vs, h1, h2, h3⟩ := hown
  obtain ⟨i0, hi, hz0, hz1, hz2⟩ := info_parts infoRow
  refine wpList_push hgd s x 84 ho base 52 i0 (.slice none 0 0) 24 Tryd.underlying84 hi hz0 hz1 hz2 rfl v K.length vs (.slice (some ⟨xb, 0, none⟩) m.length m.length) hs hx rfl h2 (by omega) (by unfold maxLen; omega) hbase ?_
  intro v' w' g1 g2
  refine h v' w' ⟨vs ++ [.slice (some ⟨xb, 0, none⟩) m.length m.length], by simp [h1], by rw [List.length_append]; exact g1, fun i u mm hu hm => ?_⟩ (g2.below h2 hbase)
  have hnew : ∀ b, b < w0.heap.size → v.ownBlock ≠ some b → v'.ownBlock ≠ some b := fun b hb hv => by
    rcases g2.2 with e | e
    · rw [e]; exact hv
    · obtain ⟨k, hk1, hk2⟩ := e
      rw [hk1]
      intro hh
      have := Option.some.inj hh
      omega
  rcases Nat.lt_or_ge i vs.length with hl | hl
  · rw [List.getElem?_append_left hl] at hu
    rw [List.getElem?_append_left (by rw [← h1]; exact hl)] at hm
    obtain ⟨xb', e1, e2, e3, e4⟩ := h3 i u mm hu hm
    exact ⟨xb', e1, (g2.1.block xb' e2.lt (fun hh => e3 hh.symm)).trans e2, hnew xb' e2.lt e3, e4⟩
  · rw [List.getElem?_append_right hl] at hu
    rw [List.getElem?_append_right (by rw [← h1]; exact hl), ← h1] at hm
    have h0 : i - vs.length = 0 := by
      rcases Nat.eq_zero_or_pos (i - vs.length) with h0 | h0
      · exact h0
      · rw [List.getElem?_eq_none (by simp; omega)] at hu; cases hu
    rw [h0] at hu hm
    obtain rfl := Option.some.inj hu
    obtain rfl := Option.some.inj hm
    exact ⟨xb, rfl, (g2.1.block xb hk.lt (fun hh => hne hh.symm)).trans hk, hnew xb hk.lt hne, hml⟩
end Go.Proofs.YtgajlgnniidgmaaDoor
