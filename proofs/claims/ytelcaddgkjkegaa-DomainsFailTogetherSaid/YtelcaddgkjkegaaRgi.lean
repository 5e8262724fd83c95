/-
  A region that draws its order, inside a fence that lets every function in (in a round of a range over a function too): one walk, by a plan. As wp_region_planM (XRg). (General: no function of the project.)
-/
import Derived.Test.YtelcaddgkjkegaaRg
import Derived.OrdersIn
import Derived.TacticsIn
import Derived.OwnWalkIn
namespace Go
open Go.RowKit

section
variable {F : Fence} {n : Nat} {P : Program} {ops : Array Oper} {Q : Exit → Act → World → Prop} {md : Region.Mode} {Ls : List Nat} {S : World → Prop}

def noDefer (ops : Array Oper) : Bool := ops.toList.all fun o => match o.op with | .defer _ => false | _ => true
theorem noDefer_spec (h : noDefer ops = true) : ∀ (j : Nat) (o : Oper) c, ops[j]? = some o → o.op ≠ .defer c := fun j o c ho e => by
  unfold noDefer at h
  rw [List.all_eq_true] at h
  have := h o (Array.mem_toList_iff.2 (Array.mem_of_getElem? ho))
  rw [e] at this
  cases this

theorem YieldsIf.wpOpI (hfn : ∀ f, F.fn f) {i : Nat} {o : Oper} {v : Value} {a : Act} (hi : ops[i]? = some o) (hnd : ∀ c, o.op ≠ .defer c) (hy : YieldsIf P ops S o v a)
    {K : Act → World → Prop} {w : World} (hS : S w) (h : K (a.put o.dst v) w) : wpOpIn F n P ops Q i K a w := by
  unfold Go.wpOpIn
  simp only [hi]
  rcases hy with ⟨hw, hv⟩ | ⟨hw, rfl⟩
  · simp only [hw, if_true, Oper.wpIn, Oper.semAt_eq _ _ _ hnd, hv w hS, Oper.uponIn]; exact ⟨fun f _ => hfn f, h⟩
  · simp only [hw, Bool.false_eq_true, if_false]; exact ⟨fun f _ => hfn f, h⟩

theorem wpOpIn_putIf (hfn : ∀ f, F.fn f) {j : Nat} {oi oj : Oper} {v : Value} (hj : ops[j]? = some oj) (hap : oi.apart ops oj = true) (hndj : ∀ c, oj.op ≠ .defer c)
    (hsi : ∀ cs b, oi.op ≠ .select cs b) (hsj : ∀ cs b, oj.op ≠ .select cs b)
    (hQ : ∀ c a w, Q (.panic c) (a.put oi.dst v) w → Q (.panic c) a w) {K : Act → World → Prop} {a : Act} {w : World}
    (hy : YieldsIf P ops S oi v a) (h : wpOpIn F n P ops Q j K (a.put oi.dst v) w) :
    wpOpIn F n P ops Q j (fun a' w' => YieldsIf P ops S oi v a' ∧ K (a'.put oi.dst v) w') a w := by
  obtain ⟨h1, h2, h3⟩ := Oper.apart_spec hap
  have keep : ∀ (a : Act), YieldsIf P ops S oi v a → ∀ u, YieldsIf P ops S oi v (a.put oj.dst u) := fun a hy u =>
    hy.of_same (execOp_put oi hsi a oj.dst u h3) (wanted_put oi a oj.dst u h3)
  have keepD : ∀ d, YieldsIf P ops S oi v { a with defers := d :: a.defers } := fun d => hy.of_same rfl rfl
  unfold wpOpIn at *
  simp only [hj] at *
  rw [wanted_put oj a oi.dst v h1] at h
  split
  · rename_i hw
    simp only [hw, if_true] at h
    unfold Oper.wpIn at *
    refine ⟨fun f _ => hfn f, ?_⟩
    have h := h.2
    rw [Oper.semAt_eq _ _ _ hndj, execOp_put oj hsj a oi.dst v h1] at h
    rw [Oper.semAt_eq _ _ _ hndj]
    generalize (execOp a.eval oj).run P w = r at *
    cases r with
    | ok x w' =>
      cases x <;> simp only [Oper.uponIn] at h ⊢
      case value u => exact ⟨keep a hy u, by rw [← Act.put_comm a v u h2]; exact h⟩
      case skip => exact ⟨keep a hy _, by rw [← Act.put_comm a v undef h2]; exact h⟩
      case defer d =>
        refine ⟨keep _ (keepD d) _, ?_⟩
        rw [← Act.put_comm _ v undef h2, ← Act.put_defers]
        exact h
      case enter f args =>
        refine ⟨h.1, CallsIn.mono h.2 fun e w'' he => ?_⟩
        cases e with
        | returned u => exact ⟨keep a hy u, by rw [← Act.put_comm a v u h2]; exact he⟩
        | panicked c => exact hQ _ _ _ he
        | outgrown => exact he
      case row row args => exact ⟨h.1, RowsIn.mono h.2 fun u w'' he => ⟨keep a hy u, by rw [← Act.put_comm a v u h2]; exact he⟩⟩
      case round l f tmps assign body =>
        refine ⟨h.1, RoundIn.mono h.2 fun e w'' he => ?_⟩
        cases e with
        | returned u => exact ⟨keep a hy u, by rw [← Act.put_comm a v u h2]; exact he⟩
        | panicked c => exact hQ _ _ _ he
        | outgrown => exact he
    | halt x w' =>
      cases x <;> simp only [Oper.uponIn] at h ⊢
      case panic u => exact hQ _ _ _ h
  · rename_i hw
    simp only [hw] at h
    exact ⟨fun f _ => hfn f, keep a hy _, by rw [← Act.put_comm a v undef h2]; exact h.2⟩

def wpAnyI (F : Fence) (n : Nat) (P : Program) (md : Region.Mode) (ops : Array Oper) (Q : Exit → Act → World → Prop) (Ls : List Nat) : Nat → Array Bool → Act → World → Prop
  | 0, listed, a, w => Region.ready md ops listed = [] ∧ Q .normal a w
  | fuel + 1, listed, a, w =>
    (Region.ready md ops listed = [] → Q .normal a w) ∧
    ∀ i ∈ Region.ready md ops listed, wpOpIn F n P ops Q i (fun a' w' => (i ∈ Ls ∨ Ext w w') ∧ wpAnyI F n P md ops Q Ls fuel (listed.setIfInBounds i true) a' w') a w
theorem wpAnyIn_of_I : ∀ (fuel : Nat) (listed : Array Bool) (a : Act) (w : World), wpAnyI F n P md ops Q Ls fuel listed a w → wpAnyIn F n P md ops Q fuel listed a w
  | 0, _, _, _, h => h
  | fuel + 1, _, _, _, h => ⟨h.1, fun i hi => wpOpIn_mono (fun a' w' h' => wpAnyIn_of_I fuel _ a' w' h'.2) (h.2 i hi)⟩

theorem wpAnyI_first (hfn : ∀ f, F.fn f) {i : Nat} {oi : Oper} {v : Value} (hi : ops[i]? = some oi) (hsel : ∀ (j : Nat) (o : Oper) cs b, ops[j]? = some o → o.op ≠ .select cs b) (hnd : ∀ (j : Nat) (o : Oper) c, ops[j]? = some o → o.op ≠ .defer c)
    (hQ : ∀ c a w, Q (.panic c) (a.put oi.dst v) w → Q (.panic c) a w) (hne : i ∉ Ls) :
    ∀ (fuel : Nat) (listed : Array Bool) (a : Act) (w : World), listed.size = ops.size → ClosedL md ops listed →
      (∀ l ∈ Ls, listed.getD l false = true ∨ ∃ n, i ∈ closure md ops n (waits md ops l)) →
      (∀ j oj, ops[j]? = some oj → j ≠ i → listed.getD j true = false → (∀ e ∈ oj.after, Region.binds md e = true → e.on ≠ i) → oi.apart ops oj = true) →
      i ∈ Region.ready md ops listed → YieldsIf P ops (Ext w) oi v a →
      wpAnyI F n P md ops Q Ls fuel (listed.setIfInBounds i true) (a.put oi.dst v) w → wpAnyI F n P md ops Q Ls (fuel + 1) listed a w := by
  intro fuel
  induction fuel with
  | zero =>
    intro listed a w hsz hcl hL _ hr hy H
    refine ⟨fun h => (by rw [h] at hr; cases hr), fun j hj => ?_⟩
    by_cases hji : j = i
    · subst hji; exact hy.wpOpI hfn hi (fun c => hnd j oi c hi) (Ext.refl w) ⟨.inr (Ext.refl w), H⟩
    · have := ready_mono hj hji
      rw [H.1] at this
      cases this
  | succ fuel ih =>
    intro listed a w hsz hcl hL hfree hr hy H
    refine ⟨fun h => (by rw [h] at hr; cases hr), fun j hj => ?_⟩
    by_cases hji : j = i
    · subst hji; exact hy.wpOpI hfn hi (fun c => hnd j oi c hi) (Ext.refl w) ⟨.inr (Ext.refl w), H⟩
    · have hiu := (mem_ready.1 hr).1
      have hjL : j ∉ Ls := fun h => by
        rcases hL j h with hL | ⟨n, hn⟩
        · exact getD_contra (mem_ready.1 hj).1 hL
        · obtain ⟨_, oj, hoj, hall⟩ := mem_ready.1 hj
          have hw : ∀ k ∈ waits md ops j, listed.getD k false = true := fun k hk => by
            unfold waits at hk
            rw [hoj] at hk
            obtain ⟨e, he, rfl⟩ := List.mem_map.1 hk
            have he := List.mem_filter.1 he
            exact hall e (Array.mem_toList_iff.1 he.1) he.2
          exact getD_contra hiu (closure_listed hcl n _ hw i hn)
      have h1 := H.2 j (ready_mono hj hji)
      obtain ⟨hjun, oj, hoj, hall⟩ := mem_ready.1 hj
      have hnot : ∀ e ∈ oj.after, Region.binds md e = true → e.on ≠ i := fun e he hb heq => by
        have h1 := hall e he hb
        have h0 := (mem_ready.1 hr).1
        rw [heq] at h1
        rcases Nat.lt_or_ge i listed.size with h' | h'
        · simp [h'] at h0 h1; rw [h0] at h1; cases h1
        · simp [Array.getElem?_eq_none h'] at h1
      have h2 := wpOpIn_putIf hfn hoj (hfree j oj hoj hji hjun hnot) (fun c => hnd j oj c hoj) (fun cs b => hsel i oi cs b hi) (fun cs b => hsel j oj cs b hoj) hQ hy h1
      have hfree' : ∀ k ok, ops[k]? = some ok → k ≠ i → (listed.setIfInBounds j true).getD k true = false →
          (∀ e ∈ ok.after, Region.binds md e = true → e.on ≠ i) → oi.apart ops ok = true := fun k ok hk hki hun hno => by
        refine hfree k ok hk hki ?_ hno
        by_cases hjk : j = k
        · subst hjk; exact hjun
        · rw [getD_set_ne true hjk] at hun; exact hun
      have hL' : ∀ l ∈ Ls, (listed.setIfInBounds j true).getD l false = true ∨ ∃ n, i ∈ closure md ops n (waits md ops l) := fun l hl => (hL l hl).imp (fun h => getD_set_keep h) id
      refine wpOpIn_mono (fun a' w' h3 => ⟨h3.2.1, ih (listed.setIfInBounds j true) a' w' (by rw [Array.size_setIfInBounds]; exact hsz) (hcl.set hj) hL' hfree' (ready_mono hr (Ne.symm hji)) (h3.1.later (h3.2.1.resolve_left hjL)) ?_⟩) h2
      rw [Array.setIfInBounds_comm _ _ hji]
      exact h3.2.2

/-- The walk by a plan: (true, i): operation i is plain; (false, i): it is a call, makes memory or writes it, and stands alone. -/
def wpPlanI (F : Fence) (n : Nat) (P : Program) (ops : Array Oper) (Q : Exit → Act → World → Prop) (Ls : List Nat) : List (Bool × Nat) → Act → World → Prop
  | [], a, w => Q .normal a w
  | (true, i) :: rest, a, w =>
    match ops[i]? with
    | none => False
    | some o => if Region.wanted o (yielded ops a.tmps) then ∃ v, (∀ x : ExtOf w, (execOp a.eval o).run P x.world = .ok (.value v) x.world) ∧ wpPlanI F n P ops Q Ls rest (a.put o.dst v) w else wpPlanI F n P ops Q Ls rest (a.put o.dst undef) w
  | (false, i) :: rest, a, w =>
    match ops[i]? with
    | none => False
    | some o => wpListIn F n P ops (planPostL (i ∈ Ls) Q w (wpPlanI F n P ops Q Ls rest)) [o] a w

theorem Oper.wpIn_conv {o : Oper} {a : Act} {w : World} {K : Act → World → Prop} {Q' : Exit → Act → World → Prop} (hp : ∀ c a w, Q' (.panic c) a w → Q (.panic c) a w) (ho : LetsOut Q' → LetsOut Q)
    (h : o.wpIn F n P a w K Q') : o.wpIn F n P a w K Q := by
  unfold Oper.wpIn at *
  refine ⟨h.1, ?_⟩
  have h := h.2
  generalize (o.semAt F.round a.eval).run P w = r at *
  cases r with
  | ok x w' =>
    cases x with
    | enter f args =>
      simp only [Oper.uponIn] at h ⊢
      refine ⟨h.1, CallsIn.mono h.2 fun e w'' he => ?_⟩
      cases e with
      | returned v => exact he
      | panicked c => exact hp _ _ _ he
      | outgrown => exact ho he
    | round l f tmps assign body =>
      simp only [Oper.uponIn] at h ⊢
      refine ⟨h.1, RoundIn.mono h.2 fun e w'' he => ?_⟩
      cases e with
      | returned v => exact he
      | panicked c => exact hp _ _ _ he
      | outgrown => exact ho he
    | _ => exact h
  | halt x w' =>
    cases x with
    | panic v => exact hp _ _ _ h
    | _ => exact h

theorem wpAnyI_of_plan (hfn : ∀ f, F.fn f) (hs : Region.noSelect ops = true) (hnd : noDefer ops = true) (hQ : ∀ c a d v w, Q (.panic c) (Act.put a d v) w → Q (.panic c) a w) : ∀ (plan : List (Bool × Nat)) (fuel : Nat) (listed : Array Bool) (a : Act) (w : World), listed.size = ops.size → ClosedL md ops listed →
    planOkM md ops Ls plan listed = true → plan.length ≤ fuel → wpPlanI F n P ops Q Ls plan a w → wpAnyI F n P md ops Q Ls fuel listed a w
  | [], fuel, listed, a, w, hsz, hcl, hp, _, h => by
    have hr : Region.ready md ops listed = [] := by simpa [planOkM] using hp
    cases fuel with
    | zero => exact ⟨hr, h⟩
    | succ n => exact ⟨fun _ => h, by rw [hr]; simp⟩
  | (true, i) :: rest, fuel, listed, a, w, hsz, hcl, hp, hf, h => by
    cases fuel with
    | zero => simp at hf
    | succ fuel =>
      simp only [planOkM, Bool.and_eq_true, Bool.not_eq_true', List.all_eq_true, Bool.or_eq_true, List.contains_iff_mem] at hp
      obtain ⟨⟨⟨⟨hne0, hL⟩, hfree⟩, hready⟩, hrest⟩ := hp
      have hne : i ∉ Ls := fun hm => by
        have : Ls.contains i = true := by simpa using hm
        rw [this] at hne0
        cases hne0
      have hL' : ∀ l ∈ Ls, listed.getD l false = true ∨ ∃ n, i ∈ closure md ops n (waits md ops l) := fun l hl => (hL l hl).imp id fun h => ⟨4, h⟩
      unfold wpPlanI at h
      split at h
      · exact h.elim
      · rename_i o ho
        split at h
        · rename_i hw
          obtain ⟨v, hv, hk⟩ := h
          exact wpAnyI_first hfn ho (Region.noSelect_spec hs) (noDefer_spec hnd) (fun c a w => hQ c a _ _ w) hne fuel listed a w hsz hcl hL' (Region.free_spec ho hfree) hready (.inl ⟨hw, fun W hW => hv ⟨W, hW⟩⟩)
            (wpAnyI_of_plan hfn hs hnd hQ rest fuel _ _ _ (by rw [Array.size_setIfInBounds]; exact hsz) (hcl.set hready) hrest (by simpa using hf) hk)
        · rename_i hw
          exact wpAnyI_first hfn ho (Region.noSelect_spec hs) (noDefer_spec hnd) (fun c a w => hQ c a _ _ w) hne fuel listed a w hsz hcl hL' (Region.free_spec ho hfree) hready (.inr ⟨by simpa using hw, rfl⟩)
            (wpAnyI_of_plan hfn hs hnd hQ rest fuel _ _ _ (by rw [Array.size_setIfInBounds]; exact hsz) (hcl.set hready) hrest (by simpa using hf) h)
  | (false, i) :: rest, fuel, listed, a, w, hsz, hcl, hp, hf, h => by
    cases fuel with
    | zero => simp at hf
    | succ fuel =>
      simp only [planOkM, Bool.and_eq_true, beq_iff_eq] at hp
      obtain ⟨hr, hrest⟩ := hp
      refine ⟨fun h0 => (by rw [hr] at h0; cases h0), fun j hj => ?_⟩
      have hj' := hj
      rw [hr] at hj
      obtain rfl : j = i := by simpa using hj
      unfold wpPlanI at h
      unfold wpOpIn
      cases ho : ops[j]? with
      | none => simp [ho] at h
      | some o =>
        simp only [ho] at h ⊢
        unfold wpListIn at h
        have hgo : ∀ a' w', planPostL (j ∈ Ls) Q w (wpPlanI F n P ops Q Ls rest) .normal a' w' → (j ∈ Ls ∨ Ext w w') ∧ wpAnyI F n P md ops Q Ls fuel (listed.setIfInBounds j true) a' w' := fun a' w' hh =>
          ⟨hh.1, wpAnyI_of_plan hfn hs hnd hQ rest fuel _ _ _ (by rw [Array.size_setIfInBounds]; exact hsz) (hcl.set hj') hrest (by simpa using hf) hh.2⟩
        split
        · rename_i hw
          simp only [hw, if_true] at h
          have hlets : LetsOut (planPostL (j ∈ Ls) Q w (wpPlanI F n P ops Q Ls rest)) → LetsOut Q := fun ⟨a', w', hh⟩ => ⟨a', w', hh⟩
          exact Oper.wpIn_mono (fun a' w' hh => hgo a' w' hh) (Oper.wpIn_conv (fun _ _ _ hh => hh) hlets h)
        · rename_i hw
          simp only [hw] at h
          exact ⟨fun f _ => hfn f, hgo _ _ h.2⟩

theorem wp_region_planI (hfn : ∀ f, F.fn f) {id : Nat} {a : Act} {w : World} (Ls : List Nat) (plan : List (Bool × Nat)) (hm : P.follows .mixedOrders = true) (hs : Region.noSelect ops = true) (hnd : noDefer ops = true) (hp : planOkM .any ops Ls plan (Array.replicate ops.size false) = true) (hl : plan.length ≤ ops.size)
    (hQ : ∀ c a d v w, Q (.panic c) (Act.put a d v) w → Q (.panic c) a w)
    (h : wpPlanI F n P ops Q Ls plan a { w with drawn := w.drawn + 1 }) : (Code.region id ops true).wpIn F n P Q a w :=
  wpIn_region_any hm (wpAnyIn_of_I _ _ _ _ (wpAnyI_of_plan hfn hs hnd hQ plan _ _ _ _ (by simp) (fun j oj _ hl => by
    have : (Array.replicate ops.size false).getD j false = false := by
      by_cases h : j < ops.size <;> simp [h]
    rw [this] at hl; cases hl) hp hl h))
theorem wpPlanI_nil {a : Act} {w : World} (h : Q .normal a w) : wpPlanI F n P ops Q Ls [] a w := h
theorem wpPlanI_plain {i : Nat} {o : Oper} {rest : List (Bool × Nat)} {a : Act} {w : World} (ho : ops[i]? = some o)
    (h : ∀ K : Act → Prop, (∀ a, wpPlanI F n P ops Q Ls rest a w → K a) → if Region.wanted o (yielded ops a.tmps) then ∃ v, (∀ x : ExtOf w, (execOp a.eval o).run P x.world = .ok (.value v) x.world) ∧ K (a.put o.dst v) else K (a.put o.dst undef)) :
    wpPlanI F n P ops Q Ls ((true, i) :: rest) a w := by
  unfold wpPlanI
  simp only [ho]
  exact h _ fun _ h => h
theorem wpPlanI_call {i : Nat} {o : Oper} {rest : List (Bool × Nat)} {a : Act} {w : World} (ho : ops[i]? = some o)
    (h : ∀ K : Act → World → Prop, (∀ a w', wpPlanI F n P ops Q Ls rest a w' → K a w') → wpListIn F n P ops (planPostL (i ∈ Ls) Q w K) [o] a w) :
    wpPlanI F n P ops Q Ls ((false, i) :: rest) a w := by
  unfold wpPlanI
  simp only [ho]
  exact h _ fun _ _ h => h
theorem wpPlanI_runW {i : Nat} {o : Oper} {rest : List (Bool × Nat)} {a : Act} {w : World} (ho : ops[i]? = some o) (hw : Region.wanted o (yielded ops a.tmps) = true) (v : Value) (hv : ∀ x : ExtOf w, (execOp a.eval o).run P x.world = .ok (.value v) x.world)
    (h : wpPlanI F n P ops Q Ls rest (a.put o.dst v) w) : wpPlanI F n P ops Q Ls ((true, i) :: rest) a w := by
  unfold wpPlanI
  simp only [ho]
  rw [if_pos hw]
  exact ⟨_, hv, h⟩
end
end Go
