/-
  Regions that draw their order, whose operations make memory: one proof for each operation, whatever has come up before it, in the place of a proof for each order. (General: no function of the project.)
-/
import Derived.Test.YtbkgbjimooobbaaRws
namespace Go

section
variable {P : Program} {ops : Array Oper} {Q : Exit → Act → World → Prop} {md : Region.Mode} {S : World → Prop}
def dstOf (ops : Array Oper) (j : Nat) : Option Tmp := (ops[j]?).bind (·.dst)
def updC (c : Nat → Bool) (i : Nat) : Nat → Bool := fun j => if j = i then true else c j
def updV (vals : Nat → Value) (i : Nat) (v : Value) : Nat → Value := fun j => if j = i then v else vals j
/-- The frame a, in which the values of those operations of the list that have come up are put. -/
def framed (ops : Array Oper) (vals : Nat → Value) (c : Nat → Bool) : List Nat → Act → Act
  | [], a => a
  | j :: js, a => framed ops vals c js (if c j then a.put (dstOf ops j) (vals j) else a)
/-- .. of all operations of the list: their temporaries, their values. -/
def framedAll : List (Option Tmp) → List Value → Act → Act
  | d :: ds, v :: vs, a => framedAll ds vs (a.put d v)
  | _, _, a => a
def apartB (ops : Array Oper) (j : Nat) (js : List Nat) : Bool := js.all fun k => k != j && dstOf ops k != dstOf ops j
def distinctB (ops : Array Oper) : List Nat → Bool
  | [] => true
  | j :: js => (dstOf ops j).isSome && apartB ops j js && distinctB ops js
theorem framed_put (vals : Nat → Value) (c : Nat → Bool) (d : Option Tmp) (v : Value) : ∀ (js : List Nat) (a : Act), (∀ k ∈ js, dstOf ops k ≠ d) → d.isSome = true → framed ops vals c js (a.put d v) = (framed ops vals c js a).put d v
  | [], _, _, _ => rfl
  | j :: js, a, h, hd => by
    unfold framed
    by_cases hc : c j
    · rw [if_pos hc, if_pos hc, Act.put_comm, framed_put vals c d v js _ (fun k hk => h k (List.mem_cons_of_mem _ hk)) hd]
      intro d' hd' hh
      exact h j (List.mem_cons_self ..) (by rw [hh, hd'])
    · rw [if_neg hc, if_neg hc]
      exact framed_put vals c d v js a (fun k hk => h k (List.mem_cons_of_mem _ hk)) hd
theorem framed_congr {vals vals' : Nat → Value} {c c' : Nat → Bool} : ∀ (js : List Nat) (a : Act), (∀ k ∈ js, c k = c' k ∧ vals k = vals' k) → framed ops vals c js a = framed ops vals' c' js a
  | [], _, _ => rfl
  | j :: js, a, h => by
    unfold framed
    rw [(h j (List.mem_cons_self ..)).1, (h j (List.mem_cons_self ..)).2]
    exact framed_congr js _ fun k hk => h k (List.mem_cons_of_mem _ hk)
theorem framed_step (vals : Nat → Value) (c : Nat → Bool) (i : Nat) (v : Value) (hc : c i = false) : ∀ (js : List Nat) (a : Act), distinctB ops js = true → i ∈ js → (framed ops vals c js a).put (dstOf ops i) v = framed ops (updV vals i v) (updC c i) js a
  | [], _, _, h => by cases h
  | j :: js, a, hd, hi => by
    simp only [distinctB, Bool.and_eq_true, apartB, List.all_eq_true, bne_iff_ne, ne_eq] at hd
    obtain ⟨⟨hs, ha⟩, hr⟩ := hd
    unfold framed
    by_cases hij : i = j
    · subst hij
      rw [if_neg (by rw [hc]; simp), if_pos (by simp [updC])]
      have h1 : updV vals i v i = v := by simp [updV]
      rw [h1, framed_put _ _ _ _ js a (fun k hk => (ha k hk).2) hs]
      congr 1
      exact framed_congr js a fun k hk => ⟨by simp [updC, (ha k hk).1], by simp [updV, (ha k hk).1]⟩
    · have hi' : i ∈ js := by
        rcases List.mem_cons.1 hi with h | h
        · exact absurd h hij
        · exact h
      have h1 : updC c i j = c j := by simp [updC, Ne.symm hij]
      have h2 : updV vals i v j = vals j := by simp [updV, Ne.symm hij]
      rw [framed_step vals c i v hc js _ hr hi', h1, h2]
theorem framed_all (vals : Nat → Value) (c : Nat → Bool) : ∀ (js : List Nat) (a : Act), (∀ j ∈ js, c j = true) → framed ops vals c js a = framedAll (js.map (dstOf ops)) (js.map vals) a
  | [], _, _ => rfl
  | j :: js, a, h => by
    rw [List.map_cons, List.map_cons]
    unfold framed framedAll
    rw [if_pos (h j (List.mem_cons_self ..))]
    exact framed_all vals c js _ fun k hk => h k (List.mem_cons_of_mem _ hk)
theorem put_size (a : Act) (d : Option Tmp) (v : Value) : (a.put d v).tmps.size = a.tmps.size := by
  cases d <;> simp [Act.put]
theorem put_other (a : Act) (d : Option Tmp) (v : Value) (e : Nat) (h : d ≠ some e) : (a.put d v).tmps[e]? = a.tmps[e]? := by
  cases d with
  | none => rfl
  | some d =>
    have : d ≠ e := fun hh => h (by rw [hh])
    simp [Act.put, Array.getElem?_setIfInBounds_ne this]
theorem put_same (a : Act) (d : Nat) (v : Value) (h : d < a.tmps.size) : (a.put (some d) v).tmps[d]? = some v := by
  simp [Act.put, h]
theorem framed_size (vals : Nat → Value) (c : Nat → Bool) : ∀ (js : List Nat) (a : Act), (framed ops vals c js a).tmps.size = a.tmps.size
  | [], _ => rfl
  | j :: js, a => by
    unfold framed
    rw [framed_size vals c js]
    split
    · exact put_size _ _ _
    · rfl
theorem framed_other (vals : Nat → Value) (c : Nat → Bool) (e : Nat) : ∀ (js : List Nat) (a : Act), (∀ j ∈ js, dstOf ops j ≠ some e) → (framed ops vals c js a).tmps[e]? = a.tmps[e]?
  | [], _, _ => rfl
  | j :: js, a, h => by
    unfold framed
    rw [framed_other vals c e js _ fun k hk => h k (List.mem_cons_of_mem _ hk)]
    split
    · exact put_other _ _ _ _ (h j (List.mem_cons_self ..))
    · rfl
theorem framed_at (vals : Nat → Value) (c : Nat → Bool) (i d : Nat) (hc : c i = true) (hd : dstOf ops i = some d) : ∀ (js : List Nat) (a : Act), distinctB ops js = true → i ∈ js → d < a.tmps.size → (framed ops vals c js a).tmps[d]? = some (vals i)
  | [], _, _, h, _ => by cases h
  | j :: js, a, hj, hi, hs => by
    simp only [distinctB, Bool.and_eq_true, apartB, List.all_eq_true, bne_iff_ne, ne_eq] at hj
    obtain ⟨⟨_, ha⟩, hr⟩ := hj
    unfold framed
    by_cases hij : i = j
    · subst hij
      rw [if_pos hc, framed_other vals c d js _ fun k hk => by rw [← hd]; exact (ha k hk).2, hd]
      exact put_same a d _ hs
    · have hi' : i ∈ js := by
        rcases List.mem_cons.1 hi with h | h
        · exact absurd h hij
        · exact h
      refine framed_at vals c i d hc hd js _ hr hi' ?_
      split
      · rw [put_size]; exact hs
      · exact hs
def waitsB (md : Region.Mode) (ops : Array Oper) (i j : Nat) : Bool := match ops[i]? with
  | none => false
  | some o => o.after.any fun e => Region.binds md e && e.on == j
def earlierB (md : Region.Mode) (ops : Array Oper) : Bool := (List.range ops.size).all fun i => match ops[i]? with
  | none => true
  | some o => o.after.all fun e => !Region.binds md e || decide (e.on < i)
/-- What the machine asks of the region and of the list of those operations that have not come up yet. -/
def machB (md : Region.Mode) (ops : Array Oper) (js : List Nat) (l0 : Array Bool) : Bool :=
  distinctB ops js && earlierB md ops && (l0.size == ops.size) && ((List.range ops.size).all fun i => (js.contains i || l0.getD i false)) && (js.all fun j => decide (j < ops.size))
theorem eval_tmp {a : Act} {d : Nat} {v : Value} (h : a.tmps[d]? = some v) : a.eval (.tmp d) = v := by
  simp [Act.eval, Array.getD_eq_getD_getElem?, h]
theorem yielded_at {a : Act} {j d : Nat} {b : Bool} (hd : dstOf ops j = some d) (h : a.tmps[d]? = some (.bool b)) : yielded ops a.tmps j = some b := by
  unfold yielded
  have : (ops[j]?).bind (·.dst) = some d := hd
  rw [this]
  simp [h]

/-- What a step may use of the frame. -/
structure Stand (ops : Array Oper) (js : List Nat) (a0 : Act) (c : Nat → Bool) (vals : Nat → Value) (a : Act) : Prop where
  size : a.tmps.size = a0.tmps.size
  at_ : ∀ j d, js.contains j = true → dstOf ops j = some d → c j = true → decide (d < a0.tmps.size) = true → a.tmps[d]? = some (vals j)
  other : ∀ d, (js.all fun j => dstOf ops j != some d) = true → a.tmps[d]? = a0.tmps[d]?

theorem machine_go {js : List Nat} {ds : List (Option Tmp)} {l0 : Array Bool} {a0 : Act} (hds : js.map (dstOf ops) = ds) (hchk : machB md ops js l0 = true) (R : (Nat → Bool) → (Nat → Value) → World → Prop)
    (hS : ∀ c vals w, R c vals w → S w)
    (hstep : ∀ i ∈ js, ∀ (c : Nat → Bool) (vals : Nat → Value) (a : Act) (w : World), R c vals w → c i = false → (∀ j, waitsB md ops i j = true → c j = true) → Stand ops js a0 c vals a →
      ∀ K : Act → World → Prop, (∀ v w', R (updC c i) (updV vals i v) w' → K (a.put (dstOf ops i) v) w') → wpOp P ops Q i K a w)
    (hdone : ∀ c vals w, (∀ j ∈ js, c j = true) → R c vals w → Q .normal (framedAll ds (js.map vals) a0) w) :
    ∀ (fuel : Nat) (l : Array Bool) (vals : Nat → Value) (w : World), l.size = ops.size → (∀ j, j ∉ js → l.getD j false = l0.getD j false) → (js.filter fun j => !l.getD j false).length ≤ fuel → R (fun j => l.getD j false) vals w →
      wpAnyH P md ops Q S fuel l (framed ops vals (fun j => l.getD j false) js a0) w := by
  simp only [machB, Bool.and_eq_true, List.all_eq_true, List.mem_range, beq_iff_eq, Bool.or_eq_true, List.contains_iff_mem, decide_eq_true_eq] at hchk
  obtain ⟨⟨⟨⟨hdis, hear⟩, hl0⟩, hcov⟩, hlt⟩ := hchk
  have hin : ∀ (l : Array Bool) i, l.size = ops.size → (∀ j, j ∉ js → l.getD j false = l0.getD j false) → l.getD i true = false → i < ops.size → i ∈ js ∧ l.getD i false = false := fun l i hs hl h hi => by
    have h1 : l.getD i false = false := by
      simp only [Array.getD_eq_getD_getElem?] at h ⊢
      rw [Array.getElem?_eq_getElem (by omega)] at h ⊢
      exact h
    refine ⟨?_, h1⟩
    rcases hcov i hi with hh | hh
    · exact hh
    · by_cases hj : i ∈ js
      · exact hj
      · rw [hl i hj, hh] at h1; cases h1
  have hQ : ∀ (l : Array Bool) (vals : Nat → Value) (w : World), l.size = ops.size → (∀ j, j ∉ js → l.getD j false = l0.getD j false) → Region.ready md ops l = [] → R (fun j => l.getD j false) vals w → Q .normal (framed ops vals (fun j => l.getD j false) js a0) w := fun l vals w hs hl hr hR => by
    have hall : ∀ n j, j ≤ n → j < ops.size → l.getD j false = true := by
      intro n
      induction n using Nat.strongRecOn with
      | _ n ih =>
        intro j hjn hj
        by_cases hc : l.getD j false = true
        · exact hc
        exfalso
        have hf : l.getD j true = false := by
          simp only [Array.getD_eq_getD_getElem?] at hc ⊢
          rw [Array.getElem?_eq_getElem (by omega)] at hc ⊢
          simpa using hc
        have hm : j ∈ Region.ready md ops l := by
          rw [mem_ready]
          refine ⟨hf, _, Array.getElem?_eq_getElem hj, fun e he hb => ?_⟩
          have h2 := hear
          simp only [earlierB, List.all_eq_true, List.mem_range] at h2
          have h3 := h2 j hj
          rw [Array.getElem?_eq_getElem hj] at h3
          have h4 := Array.all_eq_true_iff_forall_mem.1 h3 e he
          rw [hb] at h4
          have h5 : e.on < j := by simpa using h4
          exact ih e.on (by omega) e.on (Nat.le_refl _) (by omega)
        rw [hr] at hm
        cases hm
    have hjs : ∀ j ∈ js, l.getD j false = true := fun j hj => hall j j (Nat.le_refl _) (hlt j hj)
    rw [framed_all vals (fun j => l.getD j false) js a0 hjs, hds]
    exact hdone _ vals w hjs hR
  intro fuel
  induction fuel with
  | zero =>
    intro l vals w hs hl hf hR
    have h0 : Region.ready md ops l = [] := by
      rw [List.eq_nil_iff_forall_not_mem]
      intro i hi
      obtain ⟨h1, o, ho, _⟩ := mem_ready.1 hi
      obtain ⟨h2, h3⟩ := hin l i hs hl h1 (Array.getElem?_eq_some_iff.1 ho).1
      have : i ∈ js.filter fun j => !l.getD j false := List.mem_filter.2 ⟨h2, by rw [h3]; rfl⟩
      have := List.length_pos_of_mem this
      omega
    exact ⟨h0, hQ l vals w hs hl h0 hR⟩
  | succ fuel ih =>
    intro l vals w hs hl hf hR
    refine ⟨fun h0 => hQ l vals w hs hl h0 hR, fun i hi => ?_⟩
    obtain ⟨h1, o, ho, hw⟩ := mem_ready.1 hi
    obtain ⟨h2, h3⟩ := hin l i hs hl h1 (Array.getElem?_eq_some_iff.1 ho).1
    refine hstep i h2 (fun j => l.getD j false) vals _ w hR h3 (fun j hj => ?_) ⟨framed_size _ _ _ _, fun j d hj hd hc hlt => ?_, fun d hd => ?_⟩ _ (fun v w' hR' => ?_)
    · unfold waitsB at hj
      rw [ho] at hj
      obtain ⟨e, he, hb⟩ := Array.any_eq_true'.1 hj
      simp only [Bool.and_eq_true, beq_iff_eq] at hb
      rw [← hb.2]
      exact hw e he hb.1
    · exact framed_at vals _ j d hc hd js a0 hdis (by simpa using hj) (of_decide_eq_true hlt)
    · refine framed_other vals _ d js a0 fun j hj => ?_
      have := List.all_eq_true.1 hd j hj
      simpa using this
    · have hc' : (fun j => (l.setIfInBounds i true).getD j false) = updC (fun j => l.getD j false) i := by
        funext j
        by_cases hij : i = j
        · subst hij
          have hlt : i < l.size := by rw [hs]; exact (Array.getElem?_eq_some_iff.1 ho).1
          simp [updC, hlt]
        · rw [getD_set_ne false hij]
          simp [updC, Ne.symm hij]
      refine ⟨hS _ _ _ hR', ?_⟩
      rw [framed_step vals (fun j => l.getD j false) i v h3 js a0 hdis h2, ← hc']
      refine ih (l.setIfInBounds i true) (updV vals i v) w' (by simpa using hs) (fun j hj => ?_) ?_ (by rw [hc']; exact hR')
      · rw [getD_set_ne false (fun h => hj (by rw [← h]; exact h2))]
        exact hl j hj
      · have hlen : (js.filter fun j => !(l.setIfInBounds i true).getD j false).length < (js.filter fun j => !l.getD j false).length := by
          have hsub : (js.filter fun j => !(l.setIfInBounds i true).getD j false) = (js.filter fun j => !l.getD j false).filter fun j => j != i := by
            rw [List.filter_filter]
            congr 1
            funext j
            have := congrFun hc' j

            rw [this]
            by_cases hij : j = i <;> simp [updC, hij]
          rw [hsub]
          have hmem : i ∈ js.filter fun j => !l.getD j false := List.mem_filter.2 ⟨h2, by rw [h3]; rfl⟩
          rw [List.length_filter_lt_length_iff_exists]
          exact ⟨i, hmem, by simp⟩
        omega
/-- Within a plan: from here on the machine. -/
theorem wpAnyH_machine {js : List Nat} (ds : List (Option Tmp)) {l0 : Array Bool} {a0 : Act} {w : World} (hds : js.map (dstOf ops) = ds) (hchk : machB md ops js l0 = true) (hl0 : (js.all fun j => !l0.getD j false) = true) (R : (Nat → Bool) → (Nat → Value) → World → Prop)
    (hS : ∀ c vals w, R c vals w → S w) (fuel : Nat) (hf : js.length ≤ fuel) (h0 : R (fun j => l0.getD j false) (fun _ => undef) w)
    (hstep : ∀ i ∈ js, ∀ (c : Nat → Bool) (vals : Nat → Value) (a : Act) (w : World), R c vals w → c i = false → (∀ j, waitsB md ops i j = true → c j = true) → Stand ops js a0 c vals a →
      ∀ K : Act → World → Prop, (∀ v w', R (updC c i) (updV vals i v) w' → K (a.put (dstOf ops i) v) w') → wpOp P ops Q i K a w)
    (hdone : ∀ c vals w, (∀ j ∈ js, c j = true) → R c vals w → Q .normal (framedAll ds (js.map vals) a0) w) : wpAnyH P md ops Q S fuel l0 a0 w := by
  have h1 : framed ops (fun _ => undef) (fun j => l0.getD j false) js a0 = a0 := by
    have hno : ∀ j ∈ js, l0.getD j false = false := fun j hj => by simpa using List.all_eq_true.1 hl0 j hj
    clear hchk h0 hl0 hf hstep hdone hds
    induction js with
    | nil => rfl
    | cons j js ih =>
      unfold framed
      rw [if_neg (by rw [hno j (List.mem_cons_self ..)]; simp)]
      exact ih fun k hk => hno k (List.mem_cons_of_mem _ hk)
  have hs : l0.size = ops.size := by
    simp only [machB, Bool.and_eq_true, beq_iff_eq] at hchk
    exact hchk.1.1.2
  have := machine_go hds hchk R hS hstep hdone fuel l0 (fun _ => undef) w hs (fun _ _ => rfl) (Nat.le_trans (List.length_filter_le ..) hf) h0
  rw [h1] at this
  exact this
theorem enter_of {P : Program} {f : FuncId} {fn : Func} (hf : P.funcs[f]? = some fn) (hn : (fn.name == "runtime.NumGoroutine") = false) (hb : fn.body.isNone = false) (args : Array Value) (W : World) : (callFunc f args).run P W = .ok (.enter f args) W := by
  have h1 : fn.name ≠ "runtime.NumGoroutine" := by simpa using hn
  have h2 : fn.body ≠ none := by
    intro h
    rw [h] at hb
    cases hb
  simp [callFunc, Sem.run_bind, hf, h1, h2]
/-- A call of a Go function that comes up. -/
theorem wpOp_call {K : Act → World → Prop} {a : Act} {w : World} {i : Nat} {o : Oper} (ho : ops[i]? = some o) (hw : Region.wanted o (yielded ops a.tmps) = true) {f : FuncId} {args : Array Operand} {ts : Array TypeId} (hop : o.op = .call { callee := .value (.func f), args := args, argTypes := ts })
    (hcf : ∀ (vs : Array Value) (W : World), (callFunc f vs).run P W = .ok (.enter f vs) W) (vs : Array Value) (hargs : args.map a.eval = vs) (h : Calls P f vs w fun e w' => ∃ v, e = .returned v ∧ K (a.put o.dst v) w') : wpOp P ops Q i K a w := by
  unfold wpOp
  simp only [ho]
  rw [if_pos hw]
  refine .inl ?_
  unfold Oper.wp execOp
  simp only [hop, resolve, hargs, Act.eval, Deferred.ofValue, Sem.run_bind, Sem.run_pure, Result.andThen_ok, invoke, Array.append_empty, Array.empty_append, hcf]
  show Calls P f vs w _
  refine h.mono ?_
  rintro e w' ⟨v, rfl, hk⟩
  exact hk
/-- An operation that yields a value and leaves the world as it is. -/
theorem wpOp_value {K : Act → World → Prop} {a : Act} {w : World} {i : Nat} {o : Oper} (ho : ops[i]? = some o) (hw : Region.wanted o (yielded ops a.tmps) = true) (v : Value) (hv : (execOp a.eval o).run P w = .ok (.value v) w) (h : K (a.put o.dst v) w) : wpOp P ops Q i K a w := by
  unfold wpOp
  simp only [ho]
  rw [if_pos hw]
  refine .inl ?_
  unfold Oper.wp
  rw [hv]
  exact h
theorem wpOp_valueW {K : Act → World → Prop} {a : Act} {w w' : World} {i : Nat} {o : Oper} (ho : ops[i]? = some o) (hw : Region.wanted o (yielded ops a.tmps) = true) (v : Value) (hv : (execOp a.eval o).run P w = .ok (.value v) w') (h : K (a.put o.dst v) w') : wpOp P ops Q i K a w := by
  unfold wpOp
  simp only [ho]
  rw [if_pos hw]
  refine .inl ?_
  unfold Oper.wp
  rw [hv]
  exact h
theorem wpOp_move {K : Act → World → Prop} {a : Act} {w : World} {i : Nat} {o : Oper} (ho : ops[i]? = some o) (hw : Region.wanted o (yielded ops a.tmps) = true) (x : Operand) (hop : o.op = .assign x ∨ o.op = .move x) (v : Value) (hx : a.eval x = v) (h : K (a.put o.dst v) w) : wpOp P ops Q i K a w := by
  refine wpOp_value ho hw v ?_ h
  unfold execOp
  rcases hop with hop | hop <;> simp only [hop, Sem.run_pure, hx]
theorem wpOp_make {K : Act → World → Prop} {a : Act} {w w' : World} {i : Nat} {o : Oper} (ho : ops[i]? = some o) (hw : Region.wanted o (yielded ops a.tmps) = true) {t : TypeId} {x y : Operand} (hop : o.op = .makeSlice t x y) {l c v : Value} (hx : a.eval x = l) (hy : a.eval y = c) (hrun : (Instr.makeSlice t l c).run P w = .ok v w') (h : K (a.put o.dst v) w') : wpOp P ops Q i K a w := by
  refine wpOp_valueW (w' := w') ho hw v ?_ h
  unfold execOp
  simp [hop, hx, hy, hrun, Result.andThen]
/-- An operation that is not wanted. -/
theorem wpOp_idle {K : Act → World → Prop} {a : Act} {w : World} {i : Nat} {o : Oper} (ho : ops[i]? = some o) (hw : Region.wanted o (yielded ops a.tmps) = false) (h : K (a.put o.dst undef) w) : wpOp P ops Q i K a w := by
  unfold wpOp
  simp only [ho]
  rw [if_neg (by rw [hw]; simp)]
  exact h
end
end Go
