/-
  A region that draws its order and holds calls that make memory: one walk, by a plan. What a plain operation yields is the same in every later world; each call stands alone when it comes up.
-/
import Derived.WalkKit
import Derived.OrdersHeld
import Derived.Below
namespace Go
open Go.RowKit

/-- W comes out of w: all that was there stands. -/
def Ext (w W : World) : Prop := Below w.heap.size w W
theorem Ext.refl (w : World) : Ext w w := Below.refl _ _
theorem Ext.trans {a b c : World} (h : Ext a b) (k : Ext b c) : Ext a c := Below.trans h (Below.mono k h.size)
/-- The later worlds. -/
def ExtOf (w : World) : Type := { W : World // Ext w W }
instance (w : World) : Nonempty (ExtOf w) := ⟨⟨w, Ext.refl w⟩⟩
def ExtOf.world {w : World} (x : ExtOf w) : World := x.val
theorem ExtOf.ext {w : World} (x : ExtOf w) : Ext w x.world := x.property

section
variable {P : Program} {ops : Array Oper} {Q : Exit → Act → World → Prop} {md : Region.Mode}

def wpAnyE (P : Program) (md : Region.Mode) (ops : Array Oper) (Q : Exit → Act → World → Prop) : Nat → Array Bool → Act → World → Prop
  | 0, listed, a, w => Region.ready md ops listed = [] ∧ Q .normal a w
  | fuel + 1, listed, a, w =>
    (Region.ready md ops listed = [] → Q .normal a w) ∧
    ∀ i ∈ Region.ready md ops listed, wpOp P ops Q i (fun a' w' => Ext w w' ∧ wpAnyE P md ops Q fuel (listed.setIfInBounds i true) a' w') a w

theorem wpAny_of_ext : ∀ (fuel : Nat) (listed : Array Bool) (a : Act) (w : World), wpAnyE P md ops Q fuel listed a w → wpAny P md ops Q fuel listed a w
  | 0, _, _, _, h => h
  | fuel + 1, _, _, _, h => ⟨h.1, fun i hi => wpOp_mono (fun a' w' h' => wpAny_of_ext fuel _ a' w' h'.2) (h.2 i hi)⟩

theorem YieldsIf.later {o : Oper} {v : Value} {a : Act} {w w' : World} (h : YieldsIf P ops (Ext w) o v a) (hw : Ext w w') : YieldsIf P ops (Ext w') o v a :=
  h.imp (fun ⟨h1, h2⟩ => ⟨h1, fun W hW => h2 W (hw.trans hW)⟩) id

/-- A plain operation may be taken first. -/
theorem wpAnyE_first {i : Nat} {oi : Oper} {v : Value} (hi : ops[i]? = some oi) (hsel : ∀ (j : Nat) (o : Oper) cs b, ops[j]? = some o → o.op ≠ .select cs b)
    (hQ : ∀ c a w, Q (.panic c) (a.put oi.dst v) w → Q (.panic c) a w) :
    ∀ (fuel : Nat) (listed : Array Bool) (a : Act) (w : World),
      (∀ j oj, ops[j]? = some oj → j ≠ i → listed.getD j true = false → (∀ e ∈ oj.after, Region.binds md e = true → e.on ≠ i) → oi.apart ops oj = true) →
      i ∈ Region.ready md ops listed → YieldsIf P ops (Ext w) oi v a →
      wpAnyE P md ops Q fuel (listed.setIfInBounds i true) (a.put oi.dst v) w → wpAnyE P md ops Q (fuel + 1) listed a w := by
  intro fuel
  induction fuel with
  | zero =>
    intro listed a w _ hr hy H
    refine ⟨fun h => (by rw [h] at hr; cases hr), fun j hj => ?_⟩
    by_cases hji : j = i
    · subst hji; exact hy.wpOp hi (Ext.refl w) ⟨Ext.refl w, H⟩
    · have := ready_mono hj hji
      rw [H.1] at this
      cases this
  | succ fuel ih =>
    intro listed a w hfree hr hy H
    refine ⟨fun h => (by rw [h] at hr; cases hr), fun j hj => ?_⟩
    by_cases hji : j = i
    · subst hji; exact hy.wpOp hi (Ext.refl w) ⟨Ext.refl w, H⟩
    · have h1 := H.2 j (ready_mono hj hji)
      obtain ⟨hjun, oj, hoj, hall⟩ := mem_ready.1 hj
      have hnot : ∀ e ∈ oj.after, Region.binds md e = true → e.on ≠ i := fun e he hb heq => by
        have h1 := hall e he hb
        have h0 := (mem_ready.1 hr).1
        rw [heq] at h1
        rcases Nat.lt_or_ge i listed.size with h' | h'
        · simp [h'] at h0 h1; rw [h0] at h1; cases h1
        · simp [Array.getElem?_eq_none h'] at h1
      have h2 := wpOp_putIf hoj (hfree j oj hoj hji hjun hnot) (fun cs b => hsel i oi cs b hi) (fun cs b => hsel j oj cs b hoj) hQ hy h1
      have hfree' : ∀ k ok, ops[k]? = some ok → k ≠ i → (listed.setIfInBounds j true).getD k true = false →
          (∀ e ∈ ok.after, Region.binds md e = true → e.on ≠ i) → oi.apart ops ok = true := fun k ok hk hki hun hno => by
        refine hfree k ok hk hki ?_ hno
        by_cases hjk : j = k
        · subst hjk; exact hjun
        · rw [getD_set_ne true hjk] at hun; exact hun
      refine wpOp_mono (fun a' w' h3 => ⟨h3.2.1, ih (listed.setIfInBounds j true) a' w' hfree' (ready_mono hr (Ne.symm hji)) (h3.1.later h3.2.1) ?_⟩) h2
      rw [Array.setIfInBounds_comm _ _ hji]
      exact h3.2.2

/-- What is asked behind a call of the plan. -/
def planPost (Q : Exit → Act → World → Prop) (w : World) (K : Act → World → Prop) : Exit → Act → World → Prop
  | .normal, a', w' => Ext w w' ∧ K a' w'
  | e, a', w' => Q e a' w'

/-- The walk by a plan: (true, i): operation i is plain; (false, i): it is a call, or makes memory, and stands alone. -/
def wpPlan (P : Program) (ops : Array Oper) (Q : Exit → Act → World → Prop) : List (Bool × Nat) → Act → World → Prop
  | [], a, w => Q .normal a w
  | (true, i) :: rest, a, w =>
    match ops[i]? with
    | none => False
    | some o => if Region.wanted o (yielded ops a.tmps) then ∃ v, (∀ x : ExtOf w, (execOp a.eval o).run P x.world = .ok (.value v) x.world) ∧ wpPlan P ops Q rest (a.put o.dst v) w else wpPlan P ops Q rest (a.put o.dst undef) w
  | (false, i) :: rest, a, w =>
    match ops[i]? with
    | none => False
    | some o => wpList P ops (planPost Q w (wpPlan P ops Q rest)) [o] a w

/-- Is the plan one? -/
def planOk (md : Region.Mode) (ops : Array Oper) : List (Bool × Nat) → Array Bool → Bool
  | [], listed => (Region.ready md ops listed).isEmpty
  | (true, i) :: rest, listed => Region.free md ops listed i && (Region.ready md ops listed).contains i && planOk md ops rest (listed.setIfInBounds i true)
  | (false, i) :: rest, listed => (Region.ready md ops listed == [i]) && planOk md ops rest (listed.setIfInBounds i true)

theorem Oper.wp_conv {o : Oper} {a : Act} {w : World} {K : Act → World → Prop} {Q' : Exit → Act → World → Prop} (hp : ∀ c a w, Q' (.panic c) a w → Q (.panic c) a w) (ho : LetsOut Q' → LetsOut Q)
    (h : o.wp P a w K Q') : o.wp P a w K Q := by
  unfold Oper.wp at *
  generalize (execOp a.eval o).run P w = r at *
  cases r with
  | ok n w' =>
    cases n with
    | enter f args =>
      simp only [Oper.upon] at h ⊢
      refine h.mono fun e w'' he => ?_
      cases e with
      | returned v => exact he
      | panicked c => exact hp _ _ _ he
      | outgrown => exact ho he
    | _ => exact h
  | halt x w' =>
    cases x with
    | panic v => exact hp _ _ _ h
    | _ => exact h

theorem wpAnyE_of_plan (hs : Region.noSelect ops = true) (hQ : ∀ c a d v w, Q (.panic c) (Act.put a d v) w → Q (.panic c) a w) : ∀ (plan : List (Bool × Nat)) (fuel : Nat) (listed : Array Bool) (a : Act) (w : World),
    planOk md ops plan listed = true → plan.length ≤ fuel → wpPlan P ops Q plan a w → wpAnyE P md ops Q fuel listed a w
  | [], fuel, listed, a, w, hp, _, h => by
    have hr : Region.ready md ops listed = [] := by simpa [planOk] using hp
    cases fuel with
    | zero => exact ⟨hr, h⟩
    | succ n => exact ⟨fun _ => h, by rw [hr]; simp⟩
  | (true, i) :: rest, fuel, listed, a, w, hp, hf, h => by
    cases fuel with
    | zero => simp at hf
    | succ fuel =>
      simp only [planOk, Bool.and_eq_true] at hp
      obtain ⟨⟨hfree, hready⟩, hrest⟩ := hp
      unfold wpPlan at h
      split at h
      · exact h.elim
      · rename_i o ho
        split at h
        · rename_i hw
          obtain ⟨v, hv, hk⟩ := h
          exact wpAnyE_first ho (Region.noSelect_spec hs) (fun c a w => hQ c a _ _ w) fuel listed a w (Region.free_spec ho hfree) (by simpa using hready) (.inl ⟨hw, fun W hW => hv ⟨W, hW⟩⟩)
            (wpAnyE_of_plan hs hQ rest fuel _ _ _ hrest (by simpa using hf) hk)
        · rename_i hw
          exact wpAnyE_first ho (Region.noSelect_spec hs) (fun c a w => hQ c a _ _ w) fuel listed a w (Region.free_spec ho hfree) (by simpa using hready) (.inr ⟨by simpa using hw, rfl⟩)
            (wpAnyE_of_plan hs hQ rest fuel _ _ _ hrest (by simpa using hf) h)
  | (false, i) :: rest, fuel, listed, a, w, hp, hf, h => by
    cases fuel with
    | zero => simp at hf
    | succ fuel =>
      simp only [planOk, Bool.and_eq_true, beq_iff_eq] at hp
      obtain ⟨hr, hrest⟩ := hp
      refine ⟨fun h0 => (by rw [hr] at h0; cases h0), fun j hj => ?_⟩
      rw [hr] at hj
      obtain rfl : j = i := by simpa using hj
      unfold wpPlan at h
      unfold wpOp
      cases ho : ops[j]? with
      | none => simp [ho] at h
      | some o =>
        simp only [ho] at h ⊢
        unfold wpList at h
        have hgo : ∀ a' w', planPost Q w (wpPlan P ops Q rest) .normal a' w' → Ext w w' ∧ wpAnyE P md ops Q fuel (listed.setIfInBounds j true) a' w' := fun a' w' hh =>
          ⟨hh.1, wpAnyE_of_plan hs hQ rest fuel _ _ _ hrest (by simpa using hf) hh.2⟩
        split
        · rename_i hw
          simp only [hw, if_true] at h
          have hlets : LetsOut (planPost Q w (wpPlan P ops Q rest)) → LetsOut Q := fun ⟨a', w', hh⟩ => ⟨a', w', hh⟩
          rcases h with h | ⟨h1, h2⟩
          · exact .inl (Oper.wp_mono (fun a' w' hh => hgo a' w' hh) (Oper.wp_conv (fun _ _ _ hh => hh) hlets h))
          · exact .inr ⟨h1, hlets h2⟩
        · rename_i hw
          simp only [hw] at h
          exact hgo _ _ h

/-- THE REGION, BY A PLAN. -/
theorem wp_region_plan {id : Nat} {a : Act} {w : World} (plan : List (Bool × Nat)) (hm : P.follows .mixedOrders = true) (hs : Region.noSelect ops = true) (hp : planOk .any ops plan (Array.replicate ops.size false) = true) (hl : plan.length ≤ ops.size)
    (hQ : ∀ c a d v w, Q (.panic c) (Act.put a d v) w → Q (.panic c) a w)
    (h : wpPlan P ops Q plan a { w with drawn := w.drawn + 1 }) : (Code.region id ops true).wp P Q a w :=
  wp_region_any hm (wpAny_of_ext _ _ _ _ (wpAnyE_of_plan hs hQ plan _ _ _ _ hp hl h))

/-! ### The steps -/
theorem wpPlan_nil {a : Act} {w : World} (h : Q .normal a w) : wpPlan P ops Q [] a w := h
theorem wpPlan_plain {i : Nat} {o : Oper} {rest : List (Bool × Nat)} {a : Act} {w : World} (ho : ops[i]? = some o)
    (h : ∀ K : Act → Prop, (∀ a, wpPlan P ops Q rest a w → K a) → if Region.wanted o (yielded ops a.tmps) then ∃ v, (∀ x : ExtOf w, (execOp a.eval o).run P x.world = .ok (.value v) x.world) ∧ K (a.put o.dst v) else K (a.put o.dst undef)) :
    wpPlan P ops Q ((true, i) :: rest) a w := by
  unfold wpPlan
  simp only [ho]
  exact h _ fun _ h => h
theorem planPost_normal {w w' : World} {K : Act → World → Prop} {a : Act} (h : Ext w w' ∧ K a w') : planPost Q w K .normal a w' := h
theorem wpPlan_call {i : Nat} {o : Oper} {rest : List (Bool × Nat)} {a : Act} {w : World} (ho : ops[i]? = some o)
    (h : ∀ K : Act → World → Prop, (∀ a w', wpPlan P ops Q rest a w' → K a w') → wpList P ops (planPost Q w K) [o] a w) :
    wpPlan P ops Q ((false, i) :: rest) a w := by
  unfold wpPlan
  simp only [ho]
  exact h _ fun _ _ h => h
end
end Go
