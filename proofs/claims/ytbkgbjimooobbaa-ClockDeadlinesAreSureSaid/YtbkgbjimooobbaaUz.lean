/-
  Stage 14 (clock): the maths of the runs: a clock that is too fast or too slow by at most its rate holds the truth.
-/
import Derived.Test.YtbkgbjimooobbaaUx
namespace Go.Proofs.Ytbkgbjimooobbaa
set_option linter.unusedVariables false

/-- A reading is true: it was taken at a moment of the run. -/
def Mom (rate T V : Int) (r : Rdg) : Prop :=
  ∃ t v : Int, 0 ≤ t ∧ t ≤ T ∧ 0 ≤ v ∧ r.L = v / 1000000 ∧ r.lo ≤ t ∧ t ≤ r.hi ∧ (T - t) * (1000000 - rate) ≤ V - v ∧ V - v ≤ (T - t) * (1000000 + rate)
/-- What is known of a run: the true instant, the value in millionths, the readings. -/
structure RunK (rate T V : Int) (l : List Rdg) : Prop where
  chk : chkK rate l = 0
  t0 : 0 ≤ T
  t1 : T ≤ 3600000000
  v0 : 0 ≤ V
  v1 : V / 1000000 ≤ 3600000000
  mom : ∀ r ∈ l, Mom rate T V r
theorem mom_in {rate T V : Int} {r : Rdg} (k0 : 0 ≤ rate) (k1 : rate ≤ 100000) (h : Mom rate T V r) (v0 : 0 ≤ V) : r.L ≤ V / 1000000 ∧ alLo rate r (V / 1000000) ≤ T ∧ T ≤ alHi rate r (V / 1000000) := by
  obtain ⟨t, v, t0, t1, h0, hL, hlo, hhi, a, b⟩ := h
  have hpos : 0 ≤ (T - t) * (1000000 - rate) := Int.mul_nonneg (by omega) (by omega)
  have hle : r.L ≤ V / 1000000 := by omega
  obtain ⟨d, hd⟩ : ∃ d, d = V / 1000000 - r.L := ⟨_, rfl⟩
  have d0 : 0 ≤ d := by omega
  have up : T - t ≤ pHi rate d := (le_pHi k1).2 (by omega)
  have dn : pLo rate d ≤ T - t := (pLo_le k0 (by omega) d0).2 (by omega)
  have p0 : 0 ≤ pHi rate 0 := (pHi_rng k0 k1 (by omega) (by omega)).1
  refine ⟨hle, ?_⟩
  unfold alLo alHi
  by_cases h1 : r.L < V / 1000000
  · rw [if_pos h1, if_pos h1, ← hd]
    omega
  · rw [if_neg h1, if_neg h1, if_neg (by omega), if_neg (by omega)]
    obtain rfl : d = 0 := by omega
    omega
theorem bLo_le {rate x T : Int} : ∀ (l : List Rdg) (u : Int), u ≤ T → (∀ r ∈ l, alLo rate r x ≤ T) → bLo rate x l u ≤ T
  | [], u, h, _ => h
  | r :: l, u, h, hr => bLo_le l _ (by have := hr r (List.mem_cons_self ..); omega) (fun y hy => hr y (List.mem_cons_of_mem _ hy))
theorem le_bHi {rate x T : Int} : ∀ (l : List Rdg) (u : Int), T ≤ u → (∀ r ∈ l, T ≤ alHi rate r x) → T ≤ bHi rate x l u
  | [], u, h, _ => h
  | r :: l, u, h, hr => le_bHi l _ (by have := hr r (List.mem_cons_self ..); omega) (fun y hy => hr y (List.mem_cons_of_mem _ hy))
theorem RunK.rate {rate T V : Int} {l : List Rdg} (h : RunK rate T V l) : 0 ≤ rate ∧ rate ≤ 100000 := by
  obtain ⟨a, b, _⟩ := chk_facts h.chk
  exact ⟨a, b⟩
/-- Now holds the truth (P14.9). -/
theorem RunK.now {rate T V : Int} {l : List Rdg} (h : RunK rate T V l) : nwE rate l (V / 1000000) = 0 ∧ nwLo rate l (V / 1000000) ≤ T ∧ T ≤ nwHi rate l (V / 1000000) := by
  obtain ⟨k0, k1⟩ := h.rate
  have i0 : inst (V / 1000000) = true := inst_iff.2 ⟨by have := h.v0; omega, h.v1⟩
  obtain ⟨e1, e2, e3⟩ := nw_ok (chkA_ok.2 ⟨h.chk, i0⟩)
  have a : bndLo rate l (V / 1000000) ≤ T := bLo_le l 0 h.t0 (fun r hr => (mom_in k0 k1 (h.mom r hr) h.v0).2.1)
  have b : T ≤ bndHi rate l (V / 1000000) := le_bHi l 3600000000 h.t1 (fun r hr => (mom_in k0 k1 (h.mom r hr) h.v0).2.2)
  rw [e1, e2, e3]
  unfold ocE ocLo ocHi
  rw [if_neg (by omega), if_neg (by omega), if_neg (by omega)]
  exact ⟨rfl, a, b⟩
/-- The clock runs on. -/
theorem RunK.go {rate T V n dev : Int} {l : List Rdg} (h : RunK rate T V l) (n0 : 0 ≤ n) (d0 : -rate ≤ dev) (d1 : dev ≤ rate) (t1 : T + n ≤ 3600000000) (v1 : (V + n * (1000000 + dev)) / 1000000 ≤ 3600000000) :
    RunK rate (T + n) (V + n * (1000000 + dev)) l := by
  obtain ⟨k0, k1⟩ := h.rate
  have a : n * (1000000 - rate) ≤ n * (1000000 + dev) := Int.mul_le_mul_of_nonneg_left (by omega) n0
  have b : n * (1000000 + dev) ≤ n * (1000000 + rate) := Int.mul_le_mul_of_nonneg_left (by omega) n0
  have c : 0 ≤ n * (1000000 - rate) := Int.mul_nonneg n0 (by omega)
  have t0 := h.t0
  have v0 := h.v0
  refine ⟨h.chk, by omega, t1, by omega, v1, fun r hr => ?_⟩
  obtain ⟨t, v, x0, x1, x2, x3, x4, x5, x6, x7⟩ := h.mom r hr
  refine ⟨t, v, x0, by omega, x2, x3, x4, x5, ?_, ?_⟩
  · rw [show T + n - t = (T - t) + n by omega, Int.add_mul]; omega
  · rw [show T + n - t = (T - t) + n by omega, Int.add_mul]; omega
/-- A true reading is taken, or it is stale. -/
theorem RunK.syn {rate T V : Int} {l : List Rdg} {r : Rdg} (h : RunK rate T V l) (hr : okR r = true) (hL : r.L = V / 1000000) (h0 : r.lo ≤ T) (h1 : T ≤ r.hi) :
    (stB l r = true ∧ syE rate l r = 15) ∨ (syE rate l r = 0 ∧ syR rate l r = rate ∧ RunK rate T V (syL rate l r)) := by
  cases hs : stB l r with
  | true => exact .inl ⟨rfl, sy_stale h.chk hr hs⟩
  | false =>
    right
    obtain ⟨n1, n2, n3⟩ := h.now
    rw [← hL] at n1 n2 n3
    obtain ⟨q1, q2, q3, q4, q5⟩ := nw_zero n1
    obtain ⟨k0, k1, k2, k3, k4⟩ := chk_facts h.chk
    have bl := (bLo_rng (x := r.L) k0 k1 q2.1 q2.2 l 0 k3 (by omega) (by omega)).1
    have bh := (bHi_rng (x := r.L) k0 k1 q2.1 q2.2 l 3600000000 k3 (by omega) (by omega)).2
    have hw : jnOk r.lo r.hi (nwLo rate l r.L) (nwHi rate l r.L) = true := by
      refine (Bool.and_eq_true _ _).mpr ⟨okW_iff.2 ⟨(okR_iff.1 hr).2.1, (okR_iff.1 hr).2.2.1, (okR_iff.1 hr).2.2.2⟩, okW_iff.2 ?_⟩
      have e0 := h.t0
      have e1 := h.t1
      rw [q4, q5] at *
      unfold bndLo bndHi at *
      exact ⟨⟨bl, by omega⟩, ⟨by omega, bh⟩, q3⟩
    have je : jnE r.lo r.hi (nwLo rate l r.L) (nwHi rate l r.L) = 0 := jnE_ok.2 ⟨hw, by omega⟩
    have e : syE rate l r = 0 := by rw [sy_join h.chk hr hs n1]; exact je
    obtain ⟨j1, j2, j3⟩ := jn_rng je
    refine ⟨e, by unfold syR; rw [if_pos e], ?_⟩
    have hN : okR (syN rate l r) = true := sy_okR hr je
    have hLe : syL rate l r = (if l.length = 16 then l.drop 1 else l) ++ [syN rate l r] := by unfold syL; rw [if_pos e]
    have hlt : ∀ x ∈ l, x.L < r.L := by
      intro x hx
      unfold stB at hs
      cases hz : l.getLast? with
      | none => rw [List.getLast?_eq_none_iff] at hz; subst hz; cases hx
      | some z =>
        rw [hz] at hs
        have := k4.last hz x hx
        have := of_decide_eq_false hs
        omega
    have hasc : AscR (if l.length = 16 then l.drop 1 else l) (-1) := by
      split
      · cases l with
        | nil => exact trivial
        | cons y l => exact k4.tail
      · exact k4
    refine ⟨?_, h.t0, h.t1, h.v0, h.v1, ?_⟩
    · rw [hLe]
      refine chkK_ok.2 ⟨okRate_iff.2 ⟨k0, k1⟩, ?_, hasc.snoc hN (by show -1 < r.L; omega) (fun x hx => hlt x (mem_keep hx))⟩
      rw [List.length_append]
      split
      · rw [List.length_drop]; simp; omega
      · simp; omega
    · intro x hx
      rw [hLe] at hx
      rcases List.mem_append.1 hx with hx | hx
      · exact h.mom x (mem_keep hx)
      · rw [List.mem_singleton.1 hx]
        refine ⟨T, V, h.t0, Int.le_refl _, h.v0, hL, ?_, ?_, by omega, by omega⟩
        · show jnLo _ _ _ _ ≤ T; rw [j2]; omega
        · show T ≤ jnHi _ _ _ _; rw [j3]; omega
/-- An answer of the run is true. -/
theorem RunK.ans {rate T V T' V' at' ea la : Int} {l : List Rdg} (h : RunK rate T' V' l) (v0 : 0 ≤ V) (t0 : 0 ≤ T) (hV : (T' - T) * (1000000 - rate) ≤ V' - V) (hVV : V ≤ V') (a0 : T ≤ at') (a1 : at' ≤ T') (e0 : 0 ≤ ea) (l0 : 0 ≤ la) (hm : at' + ea ≤ 3600000000) :
    ∃ hi, anE rate l (V / 1000000) (V' / 1000000) (max 0 (at' - la)) (at' + ea) = 0 ∧ anR rate l (V / 1000000) (V' / 1000000) (max 0 (at' - la)) (at' + ea) = ⟨V' / 1000000, max 0 (at' - la), hi⟩ ∧ max 0 (at' - la) ≤ T' ∧ T' ≤ hi ∧ hi ≤ 3600000000 := by
  obtain ⟨k0, k1⟩ := h.rate
  have v1 := h.v1
  have t1 := h.t1
  have hok : anOk (V / 1000000) (V' / 1000000) (max 0 (at' - la)) (at' + ea) = true := by
    unfold anOk
    refine (Bool.and_eq_true _ _).mpr ⟨decide_eq_true ?_, okW_iff.2 ?_⟩
    · omega
    · omega
  obtain ⟨e1, e2⟩ := an_ok (rate := rate) (l := l) h.chk hok
  refine ⟨_, e1, e2, by omega, ?_, by omega⟩
  have up : T' - T ≤ pHi rate (V' / 1000000 - V / 1000000) := (le_pHi k1).2 (by omega)
  omega
end Go.Proofs.Ytbkgbjimooobbaa
