/-
  A region that draws its order and holds calls that make memory: one walk, by a plan. What a plain operation yields is the same in every later world; each call stands alone when it comes up. A region that draws its order, holds calls that make memory and ends in one operation that comes behind all others (a store): one walk, by a plan. As XReg, but for the last operation, of which nothing is asked. As XRegL, where the last operation that makes no new block (an append) need not be the region's last, and comes behind all others by way of what it waits for. As XRegL, where two operations that make memory may be carried out in either order: the plan is a tree. As XRegC, where several operations (a list of them: an append, and the store behind it) make no new block; each plain operation comes before those of them that are not yet carried out. As XRegM, where the calls may change the world by more than new blocks (by a relation R that holds of the world before and behind each of them), and what a plain operation yields is the same in all worlds that R leads to.
-/
import Derived.WalkKit
import Derived.OrdersHeld
import Derived.Below
namespace Go
open Go.RowKit

/-- W comes out of w: all that was there stands. -/
def Ext (w W : World) : Prop := Below w.heap.size w W
theorem Ext.refl (w : World) : Ext w w := Below.refl _ _
theorem Ext.trans {a b c : World} (h : Ext a b) (k : Ext b c) : Ext a c := Below.trans h (Below.mono k h.size)
/-- The later worlds. -/
def ExtOf (w : World) : Type := { W : World // Ext w W }
instance (w : World) : Nonempty (ExtOf w) := ⟨⟨w, Ext.refl w⟩⟩
def ExtOf.world {w : World} (x : ExtOf w) : World := x.val
theorem ExtOf.ext {w : World} (x : ExtOf w) : Ext w x.world := x.property

section
variable {P : Program} {ops : Array Oper} {Q : Exit → Act → World → Prop} {md : Region.Mode}

def wpAnyE (P : Program) (md : Region.Mode) (ops : Array Oper) (Q : Exit → Act → World → Prop) : Nat → Array Bool → Act → World → Prop
  | 0, listed, a, w => Region.ready md ops listed = [] ∧ Q .normal a w
  | fuel + 1, listed, a, w =>
    (Region.ready md ops listed = [] → Q .normal a w) ∧
    ∀ i ∈ Region.ready md ops listed, wpOp P ops Q i (fun a' w' => Ext w w' ∧ wpAnyE P md ops Q fuel (listed.setIfInBounds i true) a' w') a w

theorem wpAny_of_ext : ∀ (fuel : Nat) (listed : Array Bool) (a : Act) (w : World), wpAnyE P md ops Q fuel listed a w → wpAny P md ops Q fuel listed a w
  | 0, _, _, _, h => h
  | fuel + 1, _, _, _, h => ⟨h.1, fun i hi => wpOp_mono (fun a' w' h' => wpAny_of_ext fuel _ a' w' h'.2) (h.2 i hi)⟩

theorem YieldsIf.later {o : Oper} {v : Value} {a : Act} {w w' : World} (h : YieldsIf P ops (Ext w) o v a) (hw : Ext w w') : YieldsIf P ops (Ext w') o v a :=
  h.imp (fun ⟨h1, h2⟩ => ⟨h1, fun W hW => h2 W (hw.trans hW)⟩) id

/-- A plain operation may be taken first. -/
theorem wpAnyE_first {i : Nat} {oi : Oper} {v : Value} (hi : ops[i]? = some oi) (hsel : ∀ (j : Nat) (o : Oper) cs b, ops[j]? = some o → o.op ≠ .select cs b)
    (hQ : ∀ c a w, Q (.panic c) (a.put oi.dst v) w → Q (.panic c) a w) :
    ∀ (fuel : Nat) (listed : Array Bool) (a : Act) (w : World),
      (∀ j oj, ops[j]? = some oj → j ≠ i → listed.getD j true = false → (∀ e ∈ oj.after, Region.binds md e = true → e.on ≠ i) → oi.apart ops oj = true) →
      i ∈ Region.ready md ops listed → YieldsIf P ops (Ext w) oi v a →
      wpAnyE P md ops Q fuel (listed.setIfInBounds i true) (a.put oi.dst v) w → wpAnyE P md ops Q (fuel + 1) listed a w := by
  intro fuel
  induction fuel with
  | zero =>
    intro listed a w _ hr hy H
    refine ⟨fun h => (by rw [h] at hr; cases hr), fun j hj => ?_⟩
    by_cases hji : j = i
    · subst hji; exact hy.wpOp hi (Ext.refl w) ⟨Ext.refl w, H⟩
    · have := ready_mono hj hji
      rw [H.1] at this
      cases this
  | succ fuel ih =>
    intro listed a w hfree hr hy H
    refine ⟨fun h => (by rw [h] at hr; cases hr), fun j hj => ?_⟩
    by_cases hji : j = i
    · subst hji; exact hy.wpOp hi (Ext.refl w) ⟨Ext.refl w, H⟩
    · have h1 := H.2 j (ready_mono hj hji)
      obtain ⟨hjun, oj, hoj, hall⟩ := mem_ready.1 hj
      have hnot : ∀ e ∈ oj.after, Region.binds md e = true → e.on ≠ i := fun e he hb heq => by
        have h1 := hall e he hb
        have h0 := (mem_ready.1 hr).1
        rw [heq] at h1
        rcases Nat.lt_or_ge i listed.size with h' | h'
        · simp [h'] at h0 h1; rw [h0] at h1; cases h1
        · simp [Array.getElem?_eq_none h'] at h1
      have h2 := wpOp_putIf hoj (hfree j oj hoj hji hjun hnot) (fun cs b => hsel i oi cs b hi) (fun cs b => hsel j oj cs b hoj) hQ hy h1
      have hfree' : ∀ k ok, ops[k]? = some ok → k ≠ i → (listed.setIfInBounds j true).getD k true = false →
          (∀ e ∈ ok.after, Region.binds md e = true → e.on ≠ i) → oi.apart ops ok = true := fun k ok hk hki hun hno => by
        refine hfree k ok hk hki ?_ hno
        by_cases hjk : j = k
        · subst hjk; exact hjun
        · rw [getD_set_ne true hjk] at hun; exact hun
      refine wpOp_mono (fun a' w' h3 => ⟨h3.2.1, ih (listed.setIfInBounds j true) a' w' hfree' (ready_mono hr (Ne.symm hji)) (h3.1.later h3.2.1) ?_⟩) h2
      rw [Array.setIfInBounds_comm _ _ hji]
      exact h3.2.2

/-- What is asked behind a call of the plan. -/
def planPost (Q : Exit → Act → World → Prop) (w : World) (K : Act → World → Prop) : Exit → Act → World → Prop
  | .normal, a', w' => Ext w w' ∧ K a' w'
  | e, a', w' => Q e a' w'

/-- The walk by a plan: (true, i): operation i is plain; (false, i): it is a call, or makes memory, and stands alone. -/
def wpPlan (P : Program) (ops : Array Oper) (Q : Exit → Act → World → Prop) : List (Bool × Nat) → Act → World → Prop
  | [], a, w => Q .normal a w
  | (true, i) :: rest, a, w =>
    match ops[i]? with
    | none => False
    | some o => if Region.wanted o (yielded ops a.tmps) then ∃ v, (∀ x : ExtOf w, (execOp a.eval o).run P x.world = .ok (.value v) x.world) ∧ wpPlan P ops Q rest (a.put o.dst v) w else wpPlan P ops Q rest (a.put o.dst undef) w
  | (false, i) :: rest, a, w =>
    match ops[i]? with
    | none => False
    | some o => wpList P ops (planPost Q w (wpPlan P ops Q rest)) [o] a w

/-- Is the plan one? -/
def planOk (md : Region.Mode) (ops : Array Oper) : List (Bool × Nat) → Array Bool → Bool
  | [], listed => (Region.ready md ops listed).isEmpty
  | (true, i) :: rest, listed => Region.free md ops listed i && (Region.ready md ops listed).contains i && planOk md ops rest (listed.setIfInBounds i true)
  | (false, i) :: rest, listed => (Region.ready md ops listed == [i]) && planOk md ops rest (listed.setIfInBounds i true)

theorem Oper.wp_conv {o : Oper} {a : Act} {w : World} {K : Act → World → Prop} {Q' : Exit → Act → World → Prop} (hp : ∀ c a w, Q' (.panic c) a w → Q (.panic c) a w) (ho : LetsOut Q' → LetsOut Q)
    (h : o.wp P a w K Q') : o.wp P a w K Q := by
  unfold Oper.wp at *
  generalize (execOp a.eval o).run P w = r at *
  cases r with
  | ok n w' =>
    cases n with
    | enter f args =>
      simp only [Oper.upon] at h ⊢
      refine h.mono fun e w'' he => ?_
      cases e with
      | returned v => exact he
      | panicked c => exact hp _ _ _ he
      | outgrown => exact ho he
    | _ => exact h
  | halt x w' =>
    cases x with
    | panic v => exact hp _ _ _ h
    | _ => exact h

theorem wpAnyE_of_plan (hs : Region.noSelect ops = true) (hQ : ∀ c a d v w, Q (.panic c) (Act.put a d v) w → Q (.panic c) a w) : ∀ (plan : List (Bool × Nat)) (fuel : Nat) (listed : Array Bool) (a : Act) (w : World),
    planOk md ops plan listed = true → plan.length ≤ fuel → wpPlan P ops Q plan a w → wpAnyE P md ops Q fuel listed a w
  | [], fuel, listed, a, w, hp, _, h => by
    have hr : Region.ready md ops listed = [] := by simpa [planOk] using hp
    cases fuel with
    | zero => exact ⟨hr, h⟩
    | succ n => exact ⟨fun _ => h, by rw [hr]; simp⟩
  | (true, i) :: rest, fuel, listed, a, w, hp, hf, h => by
    cases fuel with
    | zero => simp at hf
    | succ fuel =>
      simp only [planOk, Bool.and_eq_true] at hp
      obtain ⟨⟨hfree, hready⟩, hrest⟩ := hp
      unfold wpPlan at h
      split at h
      · exact h.elim
      · rename_i o ho
        split at h
        · rename_i hw
          obtain ⟨v, hv, hk⟩ := h
          exact wpAnyE_first ho (Region.noSelect_spec hs) (fun c a w => hQ c a _ _ w) fuel listed a w (Region.free_spec ho hfree) (by simpa using hready) (.inl ⟨hw, fun W hW => hv ⟨W, hW⟩⟩)
            (wpAnyE_of_plan hs hQ rest fuel _ _ _ hrest (by simpa using hf) hk)
        · rename_i hw
          exact wpAnyE_first ho (Region.noSelect_spec hs) (fun c a w => hQ c a _ _ w) fuel listed a w (Region.free_spec ho hfree) (by simpa using hready) (.inr ⟨by simpa using hw, rfl⟩)
            (wpAnyE_of_plan hs hQ rest fuel _ _ _ hrest (by simpa using hf) h)
  | (false, i) :: rest, fuel, listed, a, w, hp, hf, h => by
    cases fuel with
    | zero => simp at hf
    | succ fuel =>
      simp only [planOk, Bool.and_eq_true, beq_iff_eq] at hp
      obtain ⟨hr, hrest⟩ := hp
      refine ⟨fun h0 => (by rw [hr] at h0; cases h0), fun j hj => ?_⟩
      rw [hr] at hj
      obtain rfl : j = i := by simpa using hj
      unfold wpPlan at h
      unfold wpOp
      cases ho : ops[j]? with
      | none => simp [ho] at h
      | some o =>
        simp only [ho] at h ⊢
        unfold wpList at h
        have hgo : ∀ a' w', planPost Q w (wpPlan P ops Q rest) .normal a' w' → Ext w w' ∧ wpAnyE P md ops Q fuel (listed.setIfInBounds j true) a' w' := fun a' w' hh =>
          ⟨hh.1, wpAnyE_of_plan hs hQ rest fuel _ _ _ hrest (by simpa using hf) hh.2⟩
        split
        · rename_i hw
          simp only [hw, if_true] at h
          have hlets : LetsOut (planPost Q w (wpPlan P ops Q rest)) → LetsOut Q := fun ⟨a', w', hh⟩ => ⟨a', w', hh⟩
          rcases h with h | ⟨h1, h2⟩
          · exact .inl (Oper.wp_mono (fun a' w' hh => hgo a' w' hh) (Oper.wp_conv (fun _ _ _ hh => hh) hlets h))
          · exact .inr ⟨h1, hlets h2⟩
        · rename_i hw
          simp only [hw] at h
          exact hgo _ _ h

/-- THE REGION, BY A PLAN. -/
theorem wp_region_plan {id : Nat} {a : Act} {w : World} (plan : List (Bool × Nat)) (hm : P.follows .mixedOrders = true) (hs : Region.noSelect ops = true) (hp : planOk .any ops plan (Array.replicate ops.size false) = true) (hl : plan.length ≤ ops.size)
    (hQ : ∀ c a d v w, Q (.panic c) (Act.put a d v) w → Q (.panic c) a w)
    (h : wpPlan P ops Q plan a { w with drawn := w.drawn + 1 }) : (Code.region id ops true).wp P Q a w :=
  wp_region_any hm (wpAny_of_ext _ _ _ _ (wpAnyE_of_plan hs hQ plan _ _ _ _ hp hl h))

/-! ### The steps -/
theorem wpPlan_nil {a : Act} {w : World} (h : Q .normal a w) : wpPlan P ops Q [] a w := h
theorem wpPlan_plain {i : Nat} {o : Oper} {rest : List (Bool × Nat)} {a : Act} {w : World} (ho : ops[i]? = some o)
    (h : ∀ K : Act → Prop, (∀ a, wpPlan P ops Q rest a w → K a) → if Region.wanted o (yielded ops a.tmps) then ∃ v, (∀ x : ExtOf w, (execOp a.eval o).run P x.world = .ok (.value v) x.world) ∧ K (a.put o.dst v) else K (a.put o.dst undef)) :
    wpPlan P ops Q ((true, i) :: rest) a w := by
  unfold wpPlan
  simp only [ho]
  exact h _ fun _ h => h
theorem planPost_normal {w w' : World} {K : Act → World → Prop} {a : Act} (h : Ext w w' ∧ K a w') : planPost Q w K .normal a w' := h
theorem wpPlan_call {i : Nat} {o : Oper} {rest : List (Bool × Nat)} {a : Act} {w : World} (ho : ops[i]? = some o)
    (h : ∀ K : Act → World → Prop, (∀ a w', wpPlan P ops Q rest a w' → K a w') → wpList P ops (planPost Q w K) [o] a w) :
    wpPlan P ops Q ((false, i) :: rest) a w := by
  unfold wpPlan
  simp only [ho]
  exact h _ fun _ _ h => h
end
end Go

namespace Go
open Go.RowKit

section
variable {P : Program} {ops : Array Oper} {Q : Exit → Act → World → Prop} {md : Region.Mode} {L : Nat}

/-- Operation L comes behind all others. -/
def lateOk (md : Region.Mode) (ops : Array Oper) (L : Nat) : Bool := match ops[L]? with
  | none => true
  | some o => (List.range ops.size).all fun k => k == L || o.after.toList.any fun e => e.on == k && Region.binds md e

theorem lateOk_spec {L i : Nat} {listed : Array Bool} (h : lateOk md ops L = true) (hL : L ∈ Region.ready md ops listed) (hi : i ∈ Region.ready md ops listed) : i = L := by
  obtain ⟨_, oL, hoL, hall⟩ := mem_ready.1 hL
  obtain ⟨hiun, oi, hoi, _⟩ := mem_ready.1 hi
  unfold lateOk at h
  simp only [hoL, List.all_eq_true, Bool.or_eq_true, beq_iff_eq, List.any_eq_true, Bool.and_eq_true, List.mem_range] at h
  rcases h i (Array.getElem?_eq_some_iff.1 hoi).1 with h | ⟨e, he, heq, hb⟩
  · exact h
  · exfalso
    have h1 := hall e (Array.mem_toList_iff.1 he) hb
    rw [heq] at h1
    rcases Nat.lt_or_ge i listed.size with h' | h'
    · simp [h'] at hiun h1; rw [hiun] at h1; cases h1
    · simp [Array.getElem?_eq_none h'] at h1

def wpAnyLate (P : Program) (md : Region.Mode) (ops : Array Oper) (Q : Exit → Act → World → Prop) (L : Nat) : Nat → Array Bool → Act → World → Prop
  | 0, listed, a, w => Region.ready md ops listed = [] ∧ Q .normal a w
  | fuel + 1, listed, a, w =>
    (Region.ready md ops listed = [] → Q .normal a w) ∧
    ∀ i ∈ Region.ready md ops listed, wpOp P ops Q i (fun a' w' => (i = L ∨ Ext w w') ∧ wpAnyLate P md ops Q L fuel (listed.setIfInBounds i true) a' w') a w

theorem wpAny_of_late : ∀ (fuel : Nat) (listed : Array Bool) (a : Act) (w : World), wpAnyLate P md ops Q L fuel listed a w → wpAny P md ops Q fuel listed a w
  | 0, _, _, _, h => h
  | fuel + 1, _, _, _, h => ⟨h.1, fun i hi => wpOp_mono (fun a' w' h' => wpAny_of_late fuel _ a' w' h'.2) (h.2 i hi)⟩

/-- A plain operation may be taken first. -/
theorem wpAnyLate_first {i : Nat} {oi : Oper} {v : Value} (hi : ops[i]? = some oi) (hsel : ∀ (j : Nat) (o : Oper) cs b, ops[j]? = some o → o.op ≠ .select cs b)
    (hQ : ∀ c a w, Q (.panic c) (a.put oi.dst v) w → Q (.panic c) a w) (hlate : lateOk md ops L = true) (hne : i ≠ L) :
    ∀ (fuel : Nat) (listed : Array Bool) (a : Act) (w : World),
      (∀ j oj, ops[j]? = some oj → j ≠ i → listed.getD j true = false → (∀ e ∈ oj.after, Region.binds md e = true → e.on ≠ i) → oi.apart ops oj = true) →
      i ∈ Region.ready md ops listed → YieldsIf P ops (Ext w) oi v a →
      wpAnyLate P md ops Q L fuel (listed.setIfInBounds i true) (a.put oi.dst v) w → wpAnyLate P md ops Q L (fuel + 1) listed a w := by
  intro fuel
  induction fuel with
  | zero =>
    intro listed a w _ hr hy H
    refine ⟨fun h => (by rw [h] at hr; cases hr), fun j hj => ?_⟩
    by_cases hji : j = i
    · subst hji; exact hy.wpOp hi (Ext.refl w) ⟨.inr (Ext.refl w), H⟩
    · have := ready_mono hj hji
      rw [H.1] at this
      cases this
  | succ fuel ih =>
    intro listed a w hfree hr hy H
    refine ⟨fun h => (by rw [h] at hr; cases hr), fun j hj => ?_⟩
    by_cases hji : j = i
    · subst hji; exact hy.wpOp hi (Ext.refl w) ⟨.inr (Ext.refl w), H⟩
    · have hjL : j ≠ L := fun h => hne (lateOk_spec hlate (h ▸ hj) hr)
      have h1 := H.2 j (ready_mono hj hji)
      obtain ⟨hjun, oj, hoj, hall⟩ := mem_ready.1 hj
      have hnot : ∀ e ∈ oj.after, Region.binds md e = true → e.on ≠ i := fun e he hb heq => by
        have h1 := hall e he hb
        have h0 := (mem_ready.1 hr).1
        rw [heq] at h1
        rcases Nat.lt_or_ge i listed.size with h' | h'
        · simp [h'] at h0 h1; rw [h0] at h1; cases h1
        · simp [Array.getElem?_eq_none h'] at h1
      have h2 := wpOp_putIf hoj (hfree j oj hoj hji hjun hnot) (fun cs b => hsel i oi cs b hi) (fun cs b => hsel j oj cs b hoj) hQ hy h1
      have hfree' : ∀ k ok, ops[k]? = some ok → k ≠ i → (listed.setIfInBounds j true).getD k true = false →
          (∀ e ∈ ok.after, Region.binds md e = true → e.on ≠ i) → oi.apart ops ok = true := fun k ok hk hki hun hno => by
        refine hfree k ok hk hki ?_ hno
        by_cases hjk : j = k
        · subst hjk; exact hjun
        · rw [getD_set_ne true hjk] at hun; exact hun
      refine wpOp_mono (fun a' w' h3 => ⟨h3.2.1, ih (listed.setIfInBounds j true) a' w' hfree' (ready_mono hr (Ne.symm hji)) (h3.1.later (h3.2.1.resolve_left hjL)) ?_⟩) h2
      rw [Array.setIfInBounds_comm _ _ hji]
      exact h3.2.2

/-- What is asked behind a call of the plan. -/
def planPostL (late : Prop) (Q : Exit → Act → World → Prop) (w : World) (K : Act → World → Prop) : Exit → Act → World → Prop
  | .normal, a', w' => (late ∨ Ext w w') ∧ K a' w'
  | e, a', w' => Q e a' w'

/-- The walk by a plan: (true, i): operation i is plain; (false, i): it is a call, or makes memory, and stands alone. -/
def wpPlanL (P : Program) (ops : Array Oper) (Q : Exit → Act → World → Prop) (L : Nat) : List (Bool × Nat) → Act → World → Prop
  | [], a, w => Q .normal a w
  | (true, i) :: rest, a, w =>
    match ops[i]? with
    | none => False
    | some o => if Region.wanted o (yielded ops a.tmps) then ∃ v, (∀ x : ExtOf w, (execOp a.eval o).run P x.world = .ok (.value v) x.world) ∧ wpPlanL P ops Q L rest (a.put o.dst v) w else wpPlanL P ops Q L rest (a.put o.dst undef) w
  | (false, i) :: rest, a, w =>
    match ops[i]? with
    | none => False
    | some o => wpList P ops (planPostL (i = L) Q w (wpPlanL P ops Q L rest)) [o] a w

theorem wpAnyLate_of_plan (hlate : lateOk md ops L = true) (hs : Region.noSelect ops = true) (hQ : ∀ c a d v w, Q (.panic c) (Act.put a d v) w → Q (.panic c) a w) : ∀ (plan : List (Bool × Nat)) (fuel : Nat) (listed : Array Bool) (a : Act) (w : World),
    planOk md ops plan listed = true → (∀ i, (true, i) ∈ plan → i ≠ L) → plan.length ≤ fuel → wpPlanL P ops Q L plan a w → wpAnyLate P md ops Q L fuel listed a w
  | [], fuel, listed, a, w, hp, _, _, h => by
    have hr : Region.ready md ops listed = [] := by simpa [planOk] using hp
    cases fuel with
    | zero => exact ⟨hr, h⟩
    | succ n => exact ⟨fun _ => h, by rw [hr]; simp⟩
  | (true, i) :: rest, fuel, listed, a, w, hp, hn, hf, h => by
    cases fuel with
    | zero => simp at hf
    | succ fuel =>
      simp only [planOk, Bool.and_eq_true] at hp
      obtain ⟨⟨hfree, hready⟩, hrest⟩ := hp
      unfold wpPlanL at h
      split at h
      · exact h.elim
      · rename_i o ho
        split at h
        · rename_i hw
          obtain ⟨v, hv, hk⟩ := h
          exact wpAnyLate_first ho (Region.noSelect_spec hs) (fun c a w => hQ c a _ _ w) hlate (hn i (by simp)) fuel listed a w (Region.free_spec ho hfree) (by simpa using hready) (.inl ⟨hw, fun W hW => hv ⟨W, hW⟩⟩)
            (wpAnyLate_of_plan hlate hs hQ rest fuel _ _ _ hrest (fun k hk => hn k (by simp [hk])) (by simpa using hf) hk)
        · rename_i hw
          exact wpAnyLate_first ho (Region.noSelect_spec hs) (fun c a w => hQ c a _ _ w) hlate (hn i (by simp)) fuel listed a w (Region.free_spec ho hfree) (by simpa using hready) (.inr ⟨by simpa using hw, rfl⟩)
            (wpAnyLate_of_plan hlate hs hQ rest fuel _ _ _ hrest (fun k hk => hn k (by simp [hk])) (by simpa using hf) h)
  | (false, i) :: rest, fuel, listed, a, w, hp, hn, hf, h => by
    cases fuel with
    | zero => simp at hf
    | succ fuel =>
      simp only [planOk, Bool.and_eq_true, beq_iff_eq] at hp
      obtain ⟨hr, hrest⟩ := hp
      refine ⟨fun h0 => (by rw [hr] at h0; cases h0), fun j hj => ?_⟩
      rw [hr] at hj
      obtain rfl : j = i := by simpa using hj
      unfold wpPlanL at h
      unfold wpOp
      cases ho : ops[j]? with
      | none => simp [ho] at h
      | some o =>
        simp only [ho] at h ⊢
        unfold wpList at h
        have hgo : ∀ a' w', planPostL (j = L) Q w (wpPlanL P ops Q L rest) .normal a' w' → (j = L ∨ Ext w w') ∧ wpAnyLate P md ops Q L fuel (listed.setIfInBounds j true) a' w' := fun a' w' hh =>
          ⟨hh.1, wpAnyLate_of_plan hlate hs hQ rest fuel _ _ _ hrest (fun k hk => hn k (by simp [hk])) (by simpa using hf) hh.2⟩
        split
        · rename_i hw
          simp only [hw, if_true] at h
          have hlets : LetsOut (planPostL (j = L) Q w (wpPlanL P ops Q L rest)) → LetsOut Q := fun ⟨a', w', hh⟩ => ⟨a', w', hh⟩
          rcases h with h | ⟨h1, h2⟩
          · exact .inl (Oper.wp_mono (fun a' w' hh => hgo a' w' hh) (Oper.wp_conv (fun _ _ _ hh => hh) hlets h))
          · exact .inr ⟨h1, hlets h2⟩
        · rename_i hw
          simp only [hw] at h
          exact hgo _ _ h

def planIn (L : Nat) (plan : List (Bool × Nat)) : Bool := plan.all fun x => !x.1 || x.2 != L
/-- THE REGION, BY A PLAN. -/
theorem wp_region_planL {id : Nat} {a : Act} {w : World} (L : Nat) (plan : List (Bool × Nat)) (hlate : lateOk .any ops L = true) (hin : planIn L plan = true) (hm : P.follows .mixedOrders = true) (hs : Region.noSelect ops = true) (hp : planOk .any ops plan (Array.replicate ops.size false) = true) (hl : plan.length ≤ ops.size)
    (hQ : ∀ c a d v w, Q (.panic c) (Act.put a d v) w → Q (.panic c) a w)
    (h : wpPlanL P ops Q L plan a { w with drawn := w.drawn + 1 }) : (Code.region id ops true).wp P Q a w :=
  wp_region_any hm (wpAny_of_late _ _ _ _ (wpAnyLate_of_plan hlate hs hQ plan _ _ _ _ hp (fun i hi => by have := List.all_eq_true.1 hin _ hi; simpa using this) hl h))

/-! ### The steps -/
theorem wpPlanL_nil {a : Act} {w : World} (h : Q .normal a w) : wpPlanL P ops Q L [] a w := h
theorem wpPlanL_plain {i : Nat} {o : Oper} {rest : List (Bool × Nat)} {a : Act} {w : World} (ho : ops[i]? = some o)
    (h : ∀ K : Act → Prop, (∀ a, wpPlanL P ops Q L rest a w → K a) → if Region.wanted o (yielded ops a.tmps) then ∃ v, (∀ x : ExtOf w, (execOp a.eval o).run P x.world = .ok (.value v) x.world) ∧ K (a.put o.dst v) else K (a.put o.dst undef)) :
    wpPlanL P ops Q L ((true, i) :: rest) a w := by
  unfold wpPlanL
  simp only [ho]
  exact h _ fun _ h => h
theorem planPostL_normal {late : Prop} {w w' : World} {K : Act → World → Prop} {a : Act} (h : (late ∨ Ext w w') ∧ K a w') : planPostL late Q w K .normal a w' := h
theorem wpPlanL_call {i : Nat} {o : Oper} {rest : List (Bool × Nat)} {a : Act} {w : World} (ho : ops[i]? = some o)
    (h : ∀ K : Act → World → Prop, (∀ a w', wpPlanL P ops Q L rest a w' → K a w') → wpList P ops (planPostL (i = L) Q w K) [o] a w) :
    wpPlanL P ops Q L ((false, i) :: rest) a w := by
  unfold wpPlanL
  simp only [ho]
  exact h _ fun _ _ h => h
end
end Go

namespace Go
open Go.RowKit

section
variable {P : Program} {ops : Array Oper} {Q : Exit → Act → World → Prop} {md : Region.Mode} {L : Nat}

/-- What is listed waits for nothing that isn't. -/
def ClosedL (md : Region.Mode) (ops : Array Oper) (listed : Array Bool) : Prop := ∀ (j : Nat) (oj : Oper), ops[j]? = some oj → listed.getD j false = true → ∀ e ∈ oj.after, Region.binds md e = true → listed.getD e.on false = true
/-- What operation k waits for. -/
def waits (md : Region.Mode) (ops : Array Oper) (k : Nat) : List Nat := match ops[k]? with
  | none => []
  | some o => (o.after.toList.filter (Region.binds md)).map (·.on)
def closure (md : Region.Mode) (ops : Array Oper) : Nat → List Nat → List Nat
  | 0, S => S
  | n + 1, S => closure md ops n (S ++ (S.flatMap (waits md ops)).filter fun k => !S.contains k)

theorem closure_listed {listed : Array Bool} (hc : ClosedL md ops listed) : ∀ (n : Nat) (S : List Nat), (∀ k ∈ S, listed.getD k false = true) → ∀ k ∈ closure md ops n S, listed.getD k false = true
  | 0, S, h => h
  | n + 1, S, h => closure_listed hc n _ fun k hk => by
    rcases List.mem_append.1 hk with hk | hk
    · exact h k hk
    · obtain ⟨j, hj, hjk⟩ := List.mem_flatMap.1 (List.mem_filter.1 hk).1
      unfold waits at hjk
      split at hjk
      · cases hjk
      · rename_i o ho
        obtain ⟨e, he, rfl⟩ := List.mem_map.1 hjk
        have he := List.mem_filter.1 he
        exact hc j o ho (h j hj) e (Array.mem_toList_iff.1 he.1) he.2
theorem getD_set_keep {listed : Array Bool} {i j : Nat} (h : listed.getD i false = true) : (listed.setIfInBounds j true).getD i false = true := by
  by_cases hij : j = i
  · subst hij
    by_cases hlt : j < listed.size
    · simp [hlt]
    · simp [hlt] at h
  · rw [getD_set_ne false hij]; exact h
theorem ClosedL.set {listed : Array Bool} (hc : ClosedL md ops listed) {j : Nat} (hj : j ∈ Region.ready md ops listed) : ClosedL md ops (listed.setIfInBounds j true) := fun k ok hok hk e he hb => by
  refine getD_set_keep ?_
  by_cases hjk : j = k
  · subst hjk
    obtain ⟨_, oj, hoj, hall⟩ := mem_ready.1 hj
    obtain rfl := Option.some.inj (hoj.symm.trans hok)
    exact hall e he hb
  · rw [getD_set_ne false hjk] at hk
    exact hc k ok hok hk e he hb
theorem getD_contra {listed : Array Bool} {i : Nat} (h0 : listed.getD i true = false) (h1 : listed.getD i false = true) : False := by
  by_cases hlt : i < listed.size
  · simp [hlt] at h0 h1; rw [h0] at h1; cases h1
  · simp [hlt] at h1

theorem wpAnyC_first {i : Nat} {oi : Oper} {v : Value} (hi : ops[i]? = some oi) (hsel : ∀ (j : Nat) (o : Oper) cs b, ops[j]? = some o → o.op ≠ .select cs b)
    (hQ : ∀ c a w, Q (.panic c) (a.put oi.dst v) w → Q (.panic c) a w) (hne : i ≠ L) :
    ∀ (fuel : Nat) (listed : Array Bool) (a : Act) (w : World), listed.size = ops.size → ClosedL md ops listed →
      (listed.getD L false = true ∨ ∃ n, i ∈ closure md ops n (waits md ops L)) →
      (∀ j oj, ops[j]? = some oj → j ≠ i → listed.getD j true = false → (∀ e ∈ oj.after, Region.binds md e = true → e.on ≠ i) → oi.apart ops oj = true) →
      i ∈ Region.ready md ops listed → YieldsIf P ops (Ext w) oi v a →
      wpAnyLate P md ops Q L fuel (listed.setIfInBounds i true) (a.put oi.dst v) w → wpAnyLate P md ops Q L (fuel + 1) listed a w := by
  intro fuel
  induction fuel with
  | zero =>
    intro listed a w hsz hcl hL _ hr hy H
    refine ⟨fun h => (by rw [h] at hr; cases hr), fun j hj => ?_⟩
    by_cases hji : j = i
    · subst hji; exact hy.wpOp hi (Ext.refl w) ⟨.inr (Ext.refl w), H⟩
    · have := ready_mono hj hji
      rw [H.1] at this
      cases this
  | succ fuel ih =>
    intro listed a w hsz hcl hL hfree hr hy H
    refine ⟨fun h => (by rw [h] at hr; cases hr), fun j hj => ?_⟩
    by_cases hji : j = i
    · subst hji; exact hy.wpOp hi (Ext.refl w) ⟨.inr (Ext.refl w), H⟩
    · have hiu := (mem_ready.1 hr).1
      have hilt : i < ops.size := (Array.getElem?_eq_some_iff.1 hi).1
      have hjL : j ≠ L := fun h => by
        subst h
        rcases hL with hL | ⟨n, hn⟩
        · exact getD_contra (mem_ready.1 hj).1 hL
        · obtain ⟨_, oj, hoj, hall⟩ := mem_ready.1 hj
          have hw : ∀ k ∈ waits md ops j, listed.getD k false = true := fun k hk => by
            unfold waits at hk
            rw [hoj] at hk
            obtain ⟨e, he, rfl⟩ := List.mem_map.1 hk
            have he := List.mem_filter.1 he
            exact hall e (Array.mem_toList_iff.1 he.1) he.2
          exact getD_contra hiu (closure_listed hcl n _ hw i hn)
      have h1 := H.2 j (ready_mono hj hji)
      obtain ⟨hjun, oj, hoj, hall⟩ := mem_ready.1 hj
      have hnot : ∀ e ∈ oj.after, Region.binds md e = true → e.on ≠ i := fun e he hb heq => by
        have h1 := hall e he hb
        have h0 := (mem_ready.1 hr).1
        rw [heq] at h1
        rcases Nat.lt_or_ge i listed.size with h' | h'
        · simp [h'] at h0 h1; rw [h0] at h1; cases h1
        · simp [Array.getElem?_eq_none h'] at h1
      have h2 := wpOp_putIf hoj (hfree j oj hoj hji hjun hnot) (fun cs b => hsel i oi cs b hi) (fun cs b => hsel j oj cs b hoj) hQ hy h1
      have hfree' : ∀ k ok, ops[k]? = some ok → k ≠ i → (listed.setIfInBounds j true).getD k true = false →
          (∀ e ∈ ok.after, Region.binds md e = true → e.on ≠ i) → oi.apart ops ok = true := fun k ok hk hki hun hno => by
        refine hfree k ok hk hki ?_ hno
        by_cases hjk : j = k
        · subst hjk; exact hjun
        · rw [getD_set_ne true hjk] at hun; exact hun
      have hL' : (listed.setIfInBounds j true).getD L false = true ∨ ∃ n, i ∈ closure md ops n (waits md ops L) := hL.imp (fun h => by rw [getD_set_ne false hjL]; exact h) id
      refine wpOp_mono (fun a' w' h3 => ⟨h3.2.1, ih (listed.setIfInBounds j true) a' w' (by rw [Array.size_setIfInBounds]; exact hsz) (hcl.set hj) hL' hfree' (ready_mono hr (Ne.symm hji)) (h3.1.later (h3.2.1.resolve_left hjL)) ?_⟩) h2
      rw [Array.setIfInBounds_comm _ _ hji]
      exact h3.2.2

/-- Is the plan one? -/
def planOkC (md : Region.Mode) (ops : Array Oper) (L : Nat) : List (Bool × Nat) → Array Bool → Bool
  | [], listed => (Region.ready md ops listed).isEmpty
  | (true, i) :: rest, listed => i != L && (listed.getD L false || (closure md ops 4 (waits md ops L)).contains i) && Region.free md ops listed i && (Region.ready md ops listed).contains i && planOkC md ops L rest (listed.setIfInBounds i true)
  | (false, i) :: rest, listed => (Region.ready md ops listed == [i]) && planOkC md ops L rest (listed.setIfInBounds i true)

theorem wpAnyC_of_plan (hs : Region.noSelect ops = true) (hQ : ∀ c a d v w, Q (.panic c) (Act.put a d v) w → Q (.panic c) a w) : ∀ (plan : List (Bool × Nat)) (fuel : Nat) (listed : Array Bool) (a : Act) (w : World), listed.size = ops.size → ClosedL md ops listed →
    planOkC md ops L plan listed = true → plan.length ≤ fuel → wpPlanL P ops Q L plan a w → wpAnyLate P md ops Q L fuel listed a w
  | [], fuel, listed, a, w, hsz, hcl, hp, _, h => by
    have hr : Region.ready md ops listed = [] := by simpa [planOkC] using hp
    cases fuel with
    | zero => exact ⟨hr, h⟩
    | succ n => exact ⟨fun _ => h, by rw [hr]; simp⟩
  | (true, i) :: rest, fuel, listed, a, w, hsz, hcl, hp, hf, h => by
    cases fuel with
    | zero => simp at hf
    | succ fuel =>
      simp only [planOkC, Bool.and_eq_true, bne_iff_ne, ne_eq, Bool.or_eq_true, List.contains_iff_mem] at hp
      obtain ⟨⟨⟨⟨hne, hL⟩, hfree⟩, hready⟩, hrest⟩ := hp
      have hL' : listed.getD L false = true ∨ ∃ n, i ∈ closure md ops n (waits md ops L) := hL.imp id fun h => ⟨4, h⟩
      unfold wpPlanL at h
      split at h
      · exact h.elim
      · rename_i o ho
        split at h
        · rename_i hw
          obtain ⟨v, hv, hk⟩ := h
          exact wpAnyC_first ho (Region.noSelect_spec hs) (fun c a w => hQ c a _ _ w) hne fuel listed a w hsz hcl hL' (Region.free_spec ho hfree) hready (.inl ⟨hw, fun W hW => hv ⟨W, hW⟩⟩)
            (wpAnyC_of_plan hs hQ rest fuel _ _ _ (by rw [Array.size_setIfInBounds]; exact hsz) (hcl.set hready) hrest (by simpa using hf) hk)
        · rename_i hw
          exact wpAnyC_first ho (Region.noSelect_spec hs) (fun c a w => hQ c a _ _ w) hne fuel listed a w hsz hcl hL' (Region.free_spec ho hfree) hready (.inr ⟨by simpa using hw, rfl⟩)
            (wpAnyC_of_plan hs hQ rest fuel _ _ _ (by rw [Array.size_setIfInBounds]; exact hsz) (hcl.set hready) hrest (by simpa using hf) h)
  | (false, i) :: rest, fuel, listed, a, w, hsz, hcl, hp, hf, h => by
    cases fuel with
    | zero => simp at hf
    | succ fuel =>
      simp only [planOkC, Bool.and_eq_true, beq_iff_eq] at hp
      obtain ⟨hr, hrest⟩ := hp
      refine ⟨fun h0 => (by rw [hr] at h0; cases h0), fun j hj => ?_⟩
      have hj' := hj
      rw [hr] at hj
      obtain rfl : j = i := by simpa using hj
      unfold wpPlanL at h
      unfold wpOp
      cases ho : ops[j]? with
      | none => simp [ho] at h
      | some o =>
        simp only [ho] at h ⊢
        unfold wpList at h
        have hgo : ∀ a' w', planPostL (j = L) Q w (wpPlanL P ops Q L rest) .normal a' w' → (j = L ∨ Ext w w') ∧ wpAnyLate P md ops Q L fuel (listed.setIfInBounds j true) a' w' := fun a' w' hh =>
          ⟨hh.1, wpAnyC_of_plan hs hQ rest fuel _ _ _ (by rw [Array.size_setIfInBounds]; exact hsz) (hcl.set hj') hrest (by simpa using hf) hh.2⟩
        split
        · rename_i hw
          simp only [hw, if_true] at h
          have hlets : LetsOut (planPostL (j = L) Q w (wpPlanL P ops Q L rest)) → LetsOut Q := fun ⟨a', w', hh⟩ => ⟨a', w', hh⟩
          rcases h with h | ⟨h1, h2⟩
          · exact .inl (Oper.wp_mono (fun a' w' hh => hgo a' w' hh) (Oper.wp_conv (fun _ _ _ hh => hh) hlets h))
          · exact .inr ⟨h1, hlets h2⟩
        · rename_i hw
          simp only [hw] at h
          exact hgo _ _ h

theorem wp_region_planC {id : Nat} {a : Act} {w : World} (L : Nat) (plan : List (Bool × Nat)) (hm : P.follows .mixedOrders = true) (hs : Region.noSelect ops = true) (hp : planOkC .any ops L plan (Array.replicate ops.size false) = true) (hl : plan.length ≤ ops.size)
    (hQ : ∀ c a d v w, Q (.panic c) (Act.put a d v) w → Q (.panic c) a w)
    (h : wpPlanL P ops Q L plan a { w with drawn := w.drawn + 1 }) : (Code.region id ops true).wp P Q a w :=
  wp_region_any hm (wpAny_of_late _ _ _ _ (wpAnyC_of_plan hs hQ plan _ _ _ _ (by simp) (fun j oj _ hl => by
    have : (Array.replicate ops.size false).getD j false = false := by
      by_cases h : j < ops.size <;> simp [h]
    rw [this] at hl; cases hl) hp hl h))
end
end Go

namespace Go
open Go.RowKit

inductive Tree
  | stop
  | plain (i : Nat) (t : Tree)
  | one (i : Nat) (t : Tree)
  | two (i : Nat) (t : Tree) (j : Nat) (u : Tree)

section
variable {P : Program} {ops : Array Oper} {Q : Exit → Act → World → Prop} {md : Region.Mode} {L : Nat}

def wpTree (P : Program) (ops : Array Oper) (Q : Exit → Act → World → Prop) (L : Nat) : Tree → Act → World → Prop
  | .stop, a, w => Q .normal a w
  | .plain i t, a, w =>
    match ops[i]? with
    | none => False
    | some o => if Region.wanted o (yielded ops a.tmps) then ∃ v, (∀ x : ExtOf w, (execOp a.eval o).run P x.world = .ok (.value v) x.world) ∧ wpTree P ops Q L t (a.put o.dst v) w else wpTree P ops Q L t (a.put o.dst undef) w
  | .one i t, a, w =>
    match ops[i]? with
    | none => False
    | some o => wpList P ops (planPostL (i = L) Q w (wpTree P ops Q L t)) [o] a w
  | .two i t j u, a, w =>
    (match ops[i]? with
    | none => False
    | some o => wpList P ops (planPostL (i = L) Q w (wpTree P ops Q L t)) [o] a w) ∧
    (match ops[j]? with
    | none => False
    | some o => wpList P ops (planPostL (j = L) Q w (wpTree P ops Q L u)) [o] a w)

/-- Is the tree a plan? -/
def treeOk (md : Region.Mode) (ops : Array Oper) (L : Nat) : Tree → Array Bool → Bool
  | .stop, listed => (Region.ready md ops listed).isEmpty
  | .plain i t, listed => i != L && Region.free md ops listed i && (Region.ready md ops listed).contains i && treeOk md ops L t (listed.setIfInBounds i true)
  | .one i t, listed => (Region.ready md ops listed == [i]) && treeOk md ops L t (listed.setIfInBounds i true)
  | .two i t j u, listed => (Region.ready md ops listed == [i, j]) && treeOk md ops L t (listed.setIfInBounds i true) && treeOk md ops L u (listed.setIfInBounds j true)
def depth : Tree → Nat
  | .stop => 0
  | .plain _ t => depth t + 1
  | .one _ t => depth t + 1
  | .two _ t _ u => max (depth t) (depth u) + 1

theorem wpOp_of_list {j : Nat} {w : World} {a : Act} {K : Act → World → Prop} {X : Act → World → Prop} (hgo : ∀ a' w', (j = L ∨ Ext w w') ∧ K a' w' → X a' w')
    (h : match ops[j]? with | none => False | some o => wpList P ops (planPostL (j = L) Q w K) [o] a w) : wpOp P ops Q j X a w := by
  unfold wpOp
  cases ho : ops[j]? with
  | none => simp [ho] at h
  | some o =>
    simp only [ho] at h ⊢
    unfold wpList at h
    split
    · rename_i hw
      simp only [hw, if_true] at h
      have hlets : LetsOut (planPostL (j = L) Q w K) → LetsOut Q := fun ⟨a', w', hh⟩ => ⟨a', w', hh⟩
      rcases h with h | ⟨h1, h2⟩
      · exact .inl (Oper.wp_mono (fun a' w' hh => hgo a' w' hh) (Oper.wp_conv (fun _ _ _ hh => hh) hlets h))
      · exact .inr ⟨h1, hlets h2⟩
    · rename_i hw
      simp only [hw] at h
      exact hgo _ _ h

theorem wpAnyLate_of_tree (hlate : lateOk md ops L = true) (hs : Region.noSelect ops = true) (hQ : ∀ c a d v w, Q (.panic c) (Act.put a d v) w → Q (.panic c) a w) : ∀ (t : Tree) (fuel : Nat) (listed : Array Bool) (a : Act) (w : World),
    treeOk md ops L t listed = true → depth t ≤ fuel → wpTree P ops Q L t a w → wpAnyLate P md ops Q L fuel listed a w
  | .stop, fuel, listed, a, w, hp, _, h => by
    have hr : Region.ready md ops listed = [] := by simpa [treeOk] using hp
    cases fuel with
    | zero => exact ⟨hr, h⟩
    | succ n => exact ⟨fun _ => h, by rw [hr]; simp⟩
  | .plain i t, fuel, listed, a, w, hp, hf, h => by
    cases fuel with
    | zero => simp [depth] at hf
    | succ fuel =>
      simp only [treeOk, Bool.and_eq_true, bne_iff_ne, ne_eq] at hp
      obtain ⟨⟨⟨hne, hfree⟩, hready⟩, hrest⟩ := hp
      unfold wpTree at h
      split at h
      · exact h.elim
      · rename_i o ho
        split at h
        · rename_i hw
          obtain ⟨v, hv, hk⟩ := h
          exact wpAnyLate_first ho (Region.noSelect_spec hs) (fun c a w => hQ c a _ _ w) hlate hne fuel listed a w (Region.free_spec ho hfree) (by simpa using hready) (.inl ⟨hw, fun W hW => hv ⟨W, hW⟩⟩)
            (wpAnyLate_of_tree hlate hs hQ t fuel _ _ _ hrest (by simpa [depth] using hf) hk)
        · rename_i hw
          exact wpAnyLate_first ho (Region.noSelect_spec hs) (fun c a w => hQ c a _ _ w) hlate hne fuel listed a w (Region.free_spec ho hfree) (by simpa using hready) (.inr ⟨by simpa using hw, rfl⟩)
            (wpAnyLate_of_tree hlate hs hQ t fuel _ _ _ hrest (by simpa [depth] using hf) h)
  | .one i t, fuel, listed, a, w, hp, hf, h => by
    cases fuel with
    | zero => simp [depth] at hf
    | succ fuel =>
      simp only [treeOk, Bool.and_eq_true, beq_iff_eq] at hp
      obtain ⟨hr, hrest⟩ := hp
      refine ⟨fun h0 => (by rw [hr] at h0; cases h0), fun j hj => ?_⟩
      rw [hr] at hj
      obtain rfl : j = i := by simpa using hj
      unfold wpTree at h
      exact wpOp_of_list (fun a' w' hh => ⟨hh.1, wpAnyLate_of_tree hlate hs hQ t fuel _ _ _ hrest (by simpa [depth] using hf) hh.2⟩) h
  | .two i t j u, fuel, listed, a, w, hp, hf, h => by
    cases fuel with
    | zero => simp [depth] at hf
    | succ fuel =>
      simp only [treeOk, Bool.and_eq_true, beq_iff_eq] at hp
      obtain ⟨⟨hr, hrest⟩, hrest2⟩ := hp
      have hd : depth t ≤ fuel ∧ depth u ≤ fuel := by simp only [depth] at hf; omega
      refine ⟨fun h0 => (by rw [hr] at h0; cases h0), fun k hk => ?_⟩
      rw [hr] at hk
      unfold wpTree at h
      simp only [List.mem_cons, List.not_mem_nil, or_false] at hk
      rcases hk with rfl | rfl
      · exact wpOp_of_list (fun a' w' hh => ⟨hh.1, wpAnyLate_of_tree hlate hs hQ t fuel _ _ _ hrest hd.1 hh.2⟩) h.1
      · exact wpOp_of_list (fun a' w' hh => ⟨hh.1, wpAnyLate_of_tree hlate hs hQ u fuel _ _ _ hrest2 hd.2 hh.2⟩) h.2

/-- THE REGION, BY A TREE. -/
theorem wp_region_tree {id : Nat} {a : Act} {w : World} (L : Nat) (t : Tree) (hlate : lateOk .any ops L = true) (hm : P.follows .mixedOrders = true) (hs : Region.noSelect ops = true) (hp : treeOk .any ops L t (Array.replicate ops.size false) = true) (hl : depth t ≤ ops.size)
    (hQ : ∀ c a d v w, Q (.panic c) (Act.put a d v) w → Q (.panic c) a w)
    (h : wpTree P ops Q L t a { w with drawn := w.drawn + 1 }) : (Code.region id ops true).wp P Q a w :=
  wp_region_any hm (wpAny_of_late _ _ _ _ (wpAnyLate_of_tree hlate hs hQ t _ _ _ _ hp hl h))

/-! ### The steps -/
theorem wpTree_stop {a : Act} {w : World} (h : Q .normal a w) : wpTree P ops Q L .stop a w := h
theorem wpTree_plain {i : Nat} {o : Oper} {t : Tree} {a : Act} {w : World} (ho : ops[i]? = some o)
    (h : ∀ K : Act → Prop, (∀ a, wpTree P ops Q L t a w → K a) → if Region.wanted o (yielded ops a.tmps) then ∃ v, (∀ x : ExtOf w, (execOp a.eval o).run P x.world = .ok (.value v) x.world) ∧ K (a.put o.dst v) else K (a.put o.dst undef)) :
    wpTree P ops Q L (.plain i t) a w := by
  unfold wpTree
  simp only [ho]
  exact h _ fun _ h => h
theorem wpTree_one {i : Nat} {o : Oper} {t : Tree} {a : Act} {w : World} (ho : ops[i]? = some o)
    (h : ∀ K : Act → World → Prop, (∀ a w', wpTree P ops Q L t a w' → K a w') → wpList P ops (planPostL (i = L) Q w K) [o] a w) :
    wpTree P ops Q L (.one i t) a w := by
  unfold wpTree
  simp only [ho]
  exact h _ fun _ _ h => h
theorem wpTree_two {i j : Nat} {o o' : Oper} {t u : Tree} {a : Act} {w : World} (ho : ops[i]? = some o) (ho' : ops[j]? = some o')
    (h : ∀ K : Act → World → Prop, (∀ a w', wpTree P ops Q L t a w' → K a w') → wpList P ops (planPostL (i = L) Q w K) [o] a w)
    (h' : ∀ K : Act → World → Prop, (∀ a w', wpTree P ops Q L u a w' → K a w') → wpList P ops (planPostL (j = L) Q w K) [o'] a w) :
    wpTree P ops Q L (.two i t j u) a w := by
  unfold wpTree
  simp only [ho, ho']
  exact ⟨h _ fun _ _ h => h, h' _ fun _ _ h => h⟩
end
end Go

namespace Go
open Go.RowKit

section
variable {P : Program} {ops : Array Oper} {Q : Exit → Act → World → Prop} {md : Region.Mode} {Ls : List Nat}

def wpAnyM (P : Program) (md : Region.Mode) (ops : Array Oper) (Q : Exit → Act → World → Prop) (Ls : List Nat) : Nat → Array Bool → Act → World → Prop
  | 0, listed, a, w => Region.ready md ops listed = [] ∧ Q .normal a w
  | fuel + 1, listed, a, w =>
    (Region.ready md ops listed = [] → Q .normal a w) ∧
    ∀ i ∈ Region.ready md ops listed, wpOp P ops Q i (fun a' w' => (i ∈ Ls ∨ Ext w w') ∧ wpAnyM P md ops Q Ls fuel (listed.setIfInBounds i true) a' w') a w
theorem wpAny_of_M : ∀ (fuel : Nat) (listed : Array Bool) (a : Act) (w : World), wpAnyM P md ops Q Ls fuel listed a w → wpAny P md ops Q fuel listed a w
  | 0, _, _, _, h => h
  | fuel + 1, _, _, _, h => ⟨h.1, fun i hi => wpOp_mono (fun a' w' h' => wpAny_of_M fuel _ a' w' h'.2) (h.2 i hi)⟩

theorem wpAnyM_first {i : Nat} {oi : Oper} {v : Value} (hi : ops[i]? = some oi) (hsel : ∀ (j : Nat) (o : Oper) cs b, ops[j]? = some o → o.op ≠ .select cs b)
    (hQ : ∀ c a w, Q (.panic c) (a.put oi.dst v) w → Q (.panic c) a w) (hne : i ∉ Ls) :
    ∀ (fuel : Nat) (listed : Array Bool) (a : Act) (w : World), listed.size = ops.size → ClosedL md ops listed →
      (∀ l ∈ Ls, listed.getD l false = true ∨ ∃ n, i ∈ closure md ops n (waits md ops l)) →
      (∀ j oj, ops[j]? = some oj → j ≠ i → listed.getD j true = false → (∀ e ∈ oj.after, Region.binds md e = true → e.on ≠ i) → oi.apart ops oj = true) →
      i ∈ Region.ready md ops listed → YieldsIf P ops (Ext w) oi v a →
      wpAnyM P md ops Q Ls fuel (listed.setIfInBounds i true) (a.put oi.dst v) w → wpAnyM P md ops Q Ls (fuel + 1) listed a w := by
  intro fuel
  induction fuel with
  | zero =>
    intro listed a w hsz hcl hL _ hr hy H
    refine ⟨fun h => (by rw [h] at hr; cases hr), fun j hj => ?_⟩
    by_cases hji : j = i
    · subst hji; exact hy.wpOp hi (Ext.refl w) ⟨.inr (Ext.refl w), H⟩
    · have := ready_mono hj hji
      rw [H.1] at this
      cases this
  | succ fuel ih =>
    intro listed a w hsz hcl hL hfree hr hy H
    refine ⟨fun h => (by rw [h] at hr; cases hr), fun j hj => ?_⟩
    by_cases hji : j = i
    · subst hji; exact hy.wpOp hi (Ext.refl w) ⟨.inr (Ext.refl w), H⟩
    · have hiu := (mem_ready.1 hr).1
      have hjL : j ∉ Ls := fun h => by
        rcases hL j h with hL | ⟨n, hn⟩
        · exact getD_contra (mem_ready.1 hj).1 hL
        · obtain ⟨_, oj, hoj, hall⟩ := mem_ready.1 hj
          have hw : ∀ k ∈ waits md ops j, listed.getD k false = true := fun k hk => by
            unfold waits at hk
            rw [hoj] at hk
            obtain ⟨e, he, rfl⟩ := List.mem_map.1 hk
            have he := List.mem_filter.1 he
            exact hall e (Array.mem_toList_iff.1 he.1) he.2
          exact getD_contra hiu (closure_listed hcl n _ hw i hn)
      have h1 := H.2 j (ready_mono hj hji)
      obtain ⟨hjun, oj, hoj, hall⟩ := mem_ready.1 hj
      have hnot : ∀ e ∈ oj.after, Region.binds md e = true → e.on ≠ i := fun e he hb heq => by
        have h1 := hall e he hb
        have h0 := (mem_ready.1 hr).1
        rw [heq] at h1
        rcases Nat.lt_or_ge i listed.size with h' | h'
        · simp [h'] at h0 h1; rw [h0] at h1; cases h1
        · simp [Array.getElem?_eq_none h'] at h1
      have h2 := wpOp_putIf hoj (hfree j oj hoj hji hjun hnot) (fun cs b => hsel i oi cs b hi) (fun cs b => hsel j oj cs b hoj) hQ hy h1
      have hfree' : ∀ k ok, ops[k]? = some ok → k ≠ i → (listed.setIfInBounds j true).getD k true = false →
          (∀ e ∈ ok.after, Region.binds md e = true → e.on ≠ i) → oi.apart ops ok = true := fun k ok hk hki hun hno => by
        refine hfree k ok hk hki ?_ hno
        by_cases hjk : j = k
        · subst hjk; exact hjun
        · rw [getD_set_ne true hjk] at hun; exact hun
      have hL' : ∀ l ∈ Ls, (listed.setIfInBounds j true).getD l false = true ∨ ∃ n, i ∈ closure md ops n (waits md ops l) := fun l hl => (hL l hl).imp (fun h => getD_set_keep h) id
      refine wpOp_mono (fun a' w' h3 => ⟨h3.2.1, ih (listed.setIfInBounds j true) a' w' (by rw [Array.size_setIfInBounds]; exact hsz) (hcl.set hj) hL' hfree' (ready_mono hr (Ne.symm hji)) (h3.1.later (h3.2.1.resolve_left hjL)) ?_⟩) h2
      rw [Array.setIfInBounds_comm _ _ hji]
      exact h3.2.2

/-- The walk by a plan: (true, i): operation i is plain; (false, i): it is a call, makes memory or writes it, and stands alone. -/
def wpPlanM (P : Program) (ops : Array Oper) (Q : Exit → Act → World → Prop) (Ls : List Nat) : List (Bool × Nat) → Act → World → Prop
  | [], a, w => Q .normal a w
  | (true, i) :: rest, a, w =>
    match ops[i]? with
    | none => False
    | some o => if Region.wanted o (yielded ops a.tmps) then ∃ v, (∀ x : ExtOf w, (execOp a.eval o).run P x.world = .ok (.value v) x.world) ∧ wpPlanM P ops Q Ls rest (a.put o.dst v) w else wpPlanM P ops Q Ls rest (a.put o.dst undef) w
  | (false, i) :: rest, a, w =>
    match ops[i]? with
    | none => False
    | some o => wpList P ops (planPostL (i ∈ Ls) Q w (wpPlanM P ops Q Ls rest)) [o] a w

/-- Is the plan one? -/
def planOkM (md : Region.Mode) (ops : Array Oper) (Ls : List Nat) : List (Bool × Nat) → Array Bool → Bool
  | [], listed => (Region.ready md ops listed).isEmpty
  | (true, i) :: rest, listed => !Ls.contains i && (Ls.all fun l => listed.getD l false || (closure md ops 4 (waits md ops l)).contains i) && Region.free md ops listed i && (Region.ready md ops listed).contains i && planOkM md ops Ls rest (listed.setIfInBounds i true)
  | (false, i) :: rest, listed => (Region.ready md ops listed == [i]) && planOkM md ops Ls rest (listed.setIfInBounds i true)

theorem wpAnyM_of_plan (hs : Region.noSelect ops = true) (hQ : ∀ c a d v w, Q (.panic c) (Act.put a d v) w → Q (.panic c) a w) : ∀ (plan : List (Bool × Nat)) (fuel : Nat) (listed : Array Bool) (a : Act) (w : World), listed.size = ops.size → ClosedL md ops listed →
    planOkM md ops Ls plan listed = true → plan.length ≤ fuel → wpPlanM P ops Q Ls plan a w → wpAnyM P md ops Q Ls fuel listed a w
  | [], fuel, listed, a, w, hsz, hcl, hp, _, h => by
    have hr : Region.ready md ops listed = [] := by simpa [planOkM] using hp
    cases fuel with
    | zero => exact ⟨hr, h⟩
    | succ n => exact ⟨fun _ => h, by rw [hr]; simp⟩
  | (true, i) :: rest, fuel, listed, a, w, hsz, hcl, hp, hf, h => by
    cases fuel with
    | zero => simp at hf
    | succ fuel =>
      simp only [planOkM, Bool.and_eq_true, Bool.not_eq_true', List.all_eq_true, Bool.or_eq_true, List.contains_iff_mem] at hp
      obtain ⟨⟨⟨⟨hne0, hL⟩, hfree⟩, hready⟩, hrest⟩ := hp
      have hne : i ∉ Ls := fun hm => by
        have : Ls.contains i = true := by simpa using hm
        rw [this] at hne0
        cases hne0
      have hL' : ∀ l ∈ Ls, listed.getD l false = true ∨ ∃ n, i ∈ closure md ops n (waits md ops l) := fun l hl => (hL l hl).imp id fun h => ⟨4, h⟩
      unfold wpPlanM at h
      split at h
      · exact h.elim
      · rename_i o ho
        split at h
        · rename_i hw
          obtain ⟨v, hv, hk⟩ := h
          exact wpAnyM_first ho (Region.noSelect_spec hs) (fun c a w => hQ c a _ _ w) hne fuel listed a w hsz hcl hL' (Region.free_spec ho hfree) hready (.inl ⟨hw, fun W hW => hv ⟨W, hW⟩⟩)
            (wpAnyM_of_plan hs hQ rest fuel _ _ _ (by rw [Array.size_setIfInBounds]; exact hsz) (hcl.set hready) hrest (by simpa using hf) hk)
        · rename_i hw
          exact wpAnyM_first ho (Region.noSelect_spec hs) (fun c a w => hQ c a _ _ w) hne fuel listed a w hsz hcl hL' (Region.free_spec ho hfree) hready (.inr ⟨by simpa using hw, rfl⟩)
            (wpAnyM_of_plan hs hQ rest fuel _ _ _ (by rw [Array.size_setIfInBounds]; exact hsz) (hcl.set hready) hrest (by simpa using hf) h)
  | (false, i) :: rest, fuel, listed, a, w, hsz, hcl, hp, hf, h => by
    cases fuel with
    | zero => simp at hf
    | succ fuel =>
      simp only [planOkM, Bool.and_eq_true, beq_iff_eq] at hp
      obtain ⟨hr, hrest⟩ := hp
      refine ⟨fun h0 => (by rw [hr] at h0; cases h0), fun j hj => ?_⟩
      have hj' := hj
      rw [hr] at hj
      obtain rfl : j = i := by simpa using hj
      unfold wpPlanM at h
      unfold wpOp
      cases ho : ops[j]? with
      | none => simp [ho] at h
      | some o =>
        simp only [ho] at h ⊢
        unfold wpList at h
        have hgo : ∀ a' w', planPostL (j ∈ Ls) Q w (wpPlanM P ops Q Ls rest) .normal a' w' → (j ∈ Ls ∨ Ext w w') ∧ wpAnyM P md ops Q Ls fuel (listed.setIfInBounds j true) a' w' := fun a' w' hh =>
          ⟨hh.1, wpAnyM_of_plan hs hQ rest fuel _ _ _ (by rw [Array.size_setIfInBounds]; exact hsz) (hcl.set hj') hrest (by simpa using hf) hh.2⟩
        split
        · rename_i hw
          simp only [hw, if_true] at h
          have hlets : LetsOut (planPostL (j ∈ Ls) Q w (wpPlanM P ops Q Ls rest)) → LetsOut Q := fun ⟨a', w', hh⟩ => ⟨a', w', hh⟩
          rcases h with h | ⟨h1, h2⟩
          · exact .inl (Oper.wp_mono (fun a' w' hh => hgo a' w' hh) (Oper.wp_conv (fun _ _ _ hh => hh) hlets h))
          · exact .inr ⟨h1, hlets h2⟩
        · rename_i hw
          simp only [hw] at h
          exact hgo _ _ h

theorem wp_region_planM {id : Nat} {a : Act} {w : World} (Ls : List Nat) (plan : List (Bool × Nat)) (hm : P.follows .mixedOrders = true) (hs : Region.noSelect ops = true) (hp : planOkM .any ops Ls plan (Array.replicate ops.size false) = true) (hl : plan.length ≤ ops.size)
    (hQ : ∀ c a d v w, Q (.panic c) (Act.put a d v) w → Q (.panic c) a w)
    (h : wpPlanM P ops Q Ls plan a { w with drawn := w.drawn + 1 }) : (Code.region id ops true).wp P Q a w :=
  wp_region_any hm (wpAny_of_M _ _ _ _ (wpAnyM_of_plan hs hQ plan _ _ _ _ (by simp) (fun j oj _ hl => by
    have : (Array.replicate ops.size false).getD j false = false := by
      by_cases h : j < ops.size <;> simp [h]
    rw [this] at hl; cases hl) hp hl h))
theorem wpPlanM_nil {a : Act} {w : World} (h : Q .normal a w) : wpPlanM P ops Q Ls [] a w := h
theorem wpPlanM_plain {i : Nat} {o : Oper} {rest : List (Bool × Nat)} {a : Act} {w : World} (ho : ops[i]? = some o)
    (h : ∀ K : Act → Prop, (∀ a, wpPlanM P ops Q Ls rest a w → K a) → if Region.wanted o (yielded ops a.tmps) then ∃ v, (∀ x : ExtOf w, (execOp a.eval o).run P x.world = .ok (.value v) x.world) ∧ K (a.put o.dst v) else K (a.put o.dst undef)) :
    wpPlanM P ops Q Ls ((true, i) :: rest) a w := by
  unfold wpPlanM
  simp only [ho]
  exact h _ fun _ h => h
theorem wpPlanM_call {i : Nat} {o : Oper} {rest : List (Bool × Nat)} {a : Act} {w : World} (ho : ops[i]? = some o)
    (h : ∀ K : Act → World → Prop, (∀ a w', wpPlanM P ops Q Ls rest a w' → K a w') → wpList P ops (planPostL (i ∈ Ls) Q w K) [o] a w) :
    wpPlanM P ops Q Ls ((false, i) :: rest) a w := by
  unfold wpPlanM
  simp only [ho]
  exact h _ fun _ _ h => h
theorem wpPlanM_runW {i : Nat} {o : Oper} {rest : List (Bool × Nat)} {a : Act} {w : World} (ho : ops[i]? = some o) (hw : Region.wanted o (yielded ops a.tmps) = true) (v : Value) (hv : ∀ x : ExtOf w, (execOp a.eval o).run P x.world = .ok (.value v) x.world)
    (h : wpPlanM P ops Q Ls rest (a.put o.dst v) w) : wpPlanM P ops Q Ls ((true, i) :: rest) a w := by
  unfold wpPlanM
  simp only [ho]
  rw [if_pos hw]
  exact ⟨_, hv, h⟩
end
end Go

namespace Go
open Go.RowKit

section
variable {P : Program} {ops : Array Oper} {Q : Exit → Act → World → Prop} {md : Region.Mode} {Ls : List Nat} {R : World → World → Prop}

theorem yields_later (htr : ∀ a b c, R a b → R b c → R a c) {o : Oper} {v : Value} {a : Act} {w w' : World} (h : YieldsIf P ops (R w) o v a) (hw : R w w') : YieldsIf P ops (R w') o v a :=
  h.imp (fun ⟨h1, h2⟩ => ⟨h1, fun W hW => h2 W (htr _ _ _ hw hW)⟩) id
/-- The worlds that R leads to. -/
def ROf (R : World → World → Prop) (w : World) : Type := { W : World // R w W }
def ROf.world {R : World → World → Prop} {w : World} (x : ROf R w) : World := x.val
theorem ROf.rel {R : World → World → Prop} {w : World} (x : ROf R w) : R w x.world := x.property
/-- What is asked behind an operation of the plan. -/
def planPostR (late : Prop) (R : World → World → Prop) (Q : Exit → Act → World → Prop) (w : World) (K : Act → World → Prop) : Exit → Act → World → Prop
  | .normal, a', w' => (late ∨ R w w') ∧ K a' w'
  | e, a', w' => Q e a' w'
theorem planPostR_normal {late : Prop} {w w' : World} {K : Act → World → Prop} {a : Act} (h : (late ∨ R w w') ∧ K a w') : planPostR late R Q w K .normal a w' := h

def wpAnyR (P : Program) (md : Region.Mode) (ops : Array Oper) (Q : Exit → Act → World → Prop) (Ls : List Nat) (R : World → World → Prop) : Nat → Array Bool → Act → World → Prop
  | 0, listed, a, w => Region.ready md ops listed = [] ∧ Q .normal a w
  | fuel + 1, listed, a, w =>
    (Region.ready md ops listed = [] → Q .normal a w) ∧
    ∀ i ∈ Region.ready md ops listed, wpOp P ops Q i (fun a' w' => (i ∈ Ls ∨ R w w') ∧ wpAnyR P md ops Q Ls R fuel (listed.setIfInBounds i true) a' w') a w
theorem wpAny_of_R : ∀ (fuel : Nat) (listed : Array Bool) (a : Act) (w : World), wpAnyR P md ops Q Ls R fuel listed a w → wpAny P md ops Q fuel listed a w
  | 0, _, _, _, h => h
  | fuel + 1, _, _, _, h => ⟨h.1, fun i hi => wpOp_mono (fun a' w' h' => wpAny_of_R fuel _ a' w' h'.2) (h.2 i hi)⟩

theorem wpAnyR_first (hrf : ∀ w, R w w) (htr : ∀ a b c, R a b → R b c → R a c) {i : Nat} {oi : Oper} {v : Value} (hi : ops[i]? = some oi) (hsel : ∀ (j : Nat) (o : Oper) cs b, ops[j]? = some o → o.op ≠ .select cs b)
    (hQ : ∀ c a w, Q (.panic c) (a.put oi.dst v) w → Q (.panic c) a w) (hne : i ∉ Ls) :
    ∀ (fuel : Nat) (listed : Array Bool) (a : Act) (w : World), listed.size = ops.size → ClosedL md ops listed →
      (∀ l ∈ Ls, listed.getD l false = true ∨ ∃ n, i ∈ closure md ops n (waits md ops l)) →
      (∀ j oj, ops[j]? = some oj → j ≠ i → listed.getD j true = false → (∀ e ∈ oj.after, Region.binds md e = true → e.on ≠ i) → oi.apart ops oj = true) →
      i ∈ Region.ready md ops listed → YieldsIf P ops (R w) oi v a →
      wpAnyR P md ops Q Ls R fuel (listed.setIfInBounds i true) (a.put oi.dst v) w → wpAnyR P md ops Q Ls R (fuel + 1) listed a w := by
  intro fuel
  induction fuel with
  | zero =>
    intro listed a w hsz hcl hL _ hr hy H
    refine ⟨fun h => (by rw [h] at hr; cases hr), fun j hj => ?_⟩
    by_cases hji : j = i
    · subst hji; exact hy.wpOp hi (hrf w) ⟨.inr (hrf w), H⟩
    · have := ready_mono hj hji
      rw [H.1] at this
      cases this
  | succ fuel ih =>
    intro listed a w hsz hcl hL hfree hr hy H
    refine ⟨fun h => (by rw [h] at hr; cases hr), fun j hj => ?_⟩
    by_cases hji : j = i
    · subst hji; exact hy.wpOp hi (hrf w) ⟨.inr (hrf w), H⟩
    · have hiu := (mem_ready.1 hr).1
      have hjL : j ∉ Ls := fun h => by
        rcases hL j h with hL | ⟨n, hn⟩
        · exact getD_contra (mem_ready.1 hj).1 hL
        · obtain ⟨_, oj, hoj, hall⟩ := mem_ready.1 hj
          have hw : ∀ k ∈ waits md ops j, listed.getD k false = true := fun k hk => by
            unfold waits at hk
            rw [hoj] at hk
            obtain ⟨e, he, rfl⟩ := List.mem_map.1 hk
            have he := List.mem_filter.1 he
            exact hall e (Array.mem_toList_iff.1 he.1) he.2
          exact getD_contra hiu (closure_listed hcl n _ hw i hn)
      have h1 := H.2 j (ready_mono hj hji)
      obtain ⟨hjun, oj, hoj, hall⟩ := mem_ready.1 hj
      have hnot : ∀ e ∈ oj.after, Region.binds md e = true → e.on ≠ i := fun e he hb heq => by
        have h1 := hall e he hb
        have h0 := (mem_ready.1 hr).1
        rw [heq] at h1
        rcases Nat.lt_or_ge i listed.size with h' | h'
        · simp [h'] at h0 h1; rw [h0] at h1; cases h1
        · simp [Array.getElem?_eq_none h'] at h1
      have h2 := wpOp_putIf hoj (hfree j oj hoj hji hjun hnot) (fun cs b => hsel i oi cs b hi) (fun cs b => hsel j oj cs b hoj) hQ hy h1
      have hfree' : ∀ k ok, ops[k]? = some ok → k ≠ i → (listed.setIfInBounds j true).getD k true = false →
          (∀ e ∈ ok.after, Region.binds md e = true → e.on ≠ i) → oi.apart ops ok = true := fun k ok hk hki hun hno => by
        refine hfree k ok hk hki ?_ hno
        by_cases hjk : j = k
        · subst hjk; exact hjun
        · rw [getD_set_ne true hjk] at hun; exact hun
      have hL' : ∀ l ∈ Ls, (listed.setIfInBounds j true).getD l false = true ∨ ∃ n, i ∈ closure md ops n (waits md ops l) := fun l hl => (hL l hl).imp (fun h => getD_set_keep h) id
      refine wpOp_mono (fun a' w' h3 => ⟨h3.2.1, ih (listed.setIfInBounds j true) a' w' (by rw [Array.size_setIfInBounds]; exact hsz) (hcl.set hj) hL' hfree' (ready_mono hr (Ne.symm hji)) (yields_later htr h3.1 (h3.2.1.resolve_left hjL)) ?_⟩) h2
      rw [Array.setIfInBounds_comm _ _ hji]
      exact h3.2.2

/-- The walk by a plan: (true, i): operation i is plain; (false, i): it is a call, makes memory or writes it, and stands alone. -/
def wpPlanR (P : Program) (ops : Array Oper) (Q : Exit → Act → World → Prop) (Ls : List Nat) (R : World → World → Prop) : List (Bool × Nat) → Act → World → Prop
  | [], a, w => Q .normal a w
  | (true, i) :: rest, a, w =>
    match ops[i]? with
    | none => False
    | some o => if Region.wanted o (yielded ops a.tmps) then ∃ v, (∀ x : ROf R w, (execOp a.eval o).run P x.world = .ok (.value v) x.world) ∧ wpPlanR P ops Q Ls R rest (a.put o.dst v) w else wpPlanR P ops Q Ls R rest (a.put o.dst undef) w
  | (false, i) :: rest, a, w =>
    match ops[i]? with
    | none => False
    | some o => wpList P ops (planPostR (i ∈ Ls) R Q w (wpPlanR P ops Q Ls R rest)) [o] a w

/-- Is the plan one? -/
def planOkR (md : Region.Mode) (ops : Array Oper) (Ls : List Nat) : List (Bool × Nat) → Array Bool → Bool
  | [], listed => (Region.ready md ops listed).isEmpty
  | (true, i) :: rest, listed => !Ls.contains i && (Ls.all fun l => listed.getD l false || (closure md ops 4 (waits md ops l)).contains i) && Region.free md ops listed i && (Region.ready md ops listed).contains i && planOkR md ops Ls rest (listed.setIfInBounds i true)
  | (false, i) :: rest, listed => (Region.ready md ops listed == [i]) && planOkR md ops Ls rest (listed.setIfInBounds i true)

theorem wpAnyR_of_plan (hrf : ∀ w, R w w) (htr : ∀ a b c, R a b → R b c → R a c) (hs : Region.noSelect ops = true) (hQ : ∀ c a d v w, Q (.panic c) (Act.put a d v) w → Q (.panic c) a w) : ∀ (plan : List (Bool × Nat)) (fuel : Nat) (listed : Array Bool) (a : Act) (w : World), listed.size = ops.size → ClosedL md ops listed →
    planOkR md ops Ls plan listed = true → plan.length ≤ fuel → wpPlanR P ops Q Ls R plan a w → wpAnyR P md ops Q Ls R fuel listed a w
  | [], fuel, listed, a, w, hsz, hcl, hp, _, h => by
    have hr : Region.ready md ops listed = [] := by simpa [planOkR] using hp
    cases fuel with
    | zero => exact ⟨hr, h⟩
    | succ n => exact ⟨fun _ => h, by rw [hr]; simp⟩
  | (true, i) :: rest, fuel, listed, a, w, hsz, hcl, hp, hf, h => by
    cases fuel with
    | zero => simp at hf
    | succ fuel =>
      simp only [planOkR, Bool.and_eq_true, Bool.not_eq_true', List.all_eq_true, Bool.or_eq_true, List.contains_iff_mem] at hp
      obtain ⟨⟨⟨⟨hne0, hL⟩, hfree⟩, hready⟩, hrest⟩ := hp
      have hne : i ∉ Ls := fun hm => by
        have : Ls.contains i = true := by simpa using hm
        rw [this] at hne0
        cases hne0
      have hL' : ∀ l ∈ Ls, listed.getD l false = true ∨ ∃ n, i ∈ closure md ops n (waits md ops l) := fun l hl => (hL l hl).imp id fun h => ⟨4, h⟩
      unfold wpPlanR at h
      split at h
      · exact h.elim
      · rename_i o ho
        split at h
        · rename_i hw
          obtain ⟨v, hv, hk⟩ := h
          exact wpAnyR_first hrf htr ho (Region.noSelect_spec hs) (fun c a w => hQ c a _ _ w) hne fuel listed a w hsz hcl hL' (Region.free_spec ho hfree) hready (.inl ⟨hw, fun W hW => hv ⟨W, hW⟩⟩)
            (wpAnyR_of_plan hrf htr hs hQ rest fuel _ _ _ (by rw [Array.size_setIfInBounds]; exact hsz) (hcl.set hready) hrest (by simpa using hf) hk)
        · rename_i hw
          exact wpAnyR_first hrf htr ho (Region.noSelect_spec hs) (fun c a w => hQ c a _ _ w) hne fuel listed a w hsz hcl hL' (Region.free_spec ho hfree) hready (.inr ⟨by simpa using hw, rfl⟩)
            (wpAnyR_of_plan hrf htr hs hQ rest fuel _ _ _ (by rw [Array.size_setIfInBounds]; exact hsz) (hcl.set hready) hrest (by simpa using hf) h)
  | (false, i) :: rest, fuel, listed, a, w, hsz, hcl, hp, hf, h => by
    cases fuel with
    | zero => simp at hf
    | succ fuel =>
      simp only [planOkR, Bool.and_eq_true, beq_iff_eq] at hp
      obtain ⟨hr, hrest⟩ := hp
      refine ⟨fun h0 => (by rw [hr] at h0; cases h0), fun j hj => ?_⟩
      have hj' := hj
      rw [hr] at hj
      obtain rfl : j = i := by simpa using hj
      unfold wpPlanR at h
      unfold wpOp
      cases ho : ops[j]? with
      | none => simp [ho] at h
      | some o =>
        simp only [ho] at h ⊢
        unfold wpList at h
        have hgo : ∀ a' w', planPostR (j ∈ Ls) R Q w (wpPlanR P ops Q Ls R rest) .normal a' w' → (j ∈ Ls ∨ R w w') ∧ wpAnyR P md ops Q Ls R fuel (listed.setIfInBounds j true) a' w' := fun a' w' hh =>
          ⟨hh.1, wpAnyR_of_plan hrf htr hs hQ rest fuel _ _ _ (by rw [Array.size_setIfInBounds]; exact hsz) (hcl.set hj') hrest (by simpa using hf) hh.2⟩
        split
        · rename_i hw
          simp only [hw, if_true] at h
          have hlets : LetsOut (planPostR (j ∈ Ls) R Q w (wpPlanR P ops Q Ls R rest)) → LetsOut Q := fun ⟨a', w', hh⟩ => ⟨a', w', hh⟩
          rcases h with h | ⟨h1, h2⟩
          · exact .inl (Oper.wp_mono (fun a' w' hh => hgo a' w' hh) (Oper.wp_conv (fun _ _ _ hh => hh) hlets h))
          · exact .inr ⟨h1, hlets h2⟩
        · rename_i hw
          simp only [hw] at h
          exact hgo _ _ h

theorem wp_region_planR (hrf : ∀ w, R w w) (htr : ∀ a b c, R a b → R b c → R a c) {id : Nat} {a : Act} {w : World} (Ls : List Nat) (plan : List (Bool × Nat)) (hm : P.follows .mixedOrders = true) (hs : Region.noSelect ops = true) (hp : planOkR .any ops Ls plan (Array.replicate ops.size false) = true) (hl : plan.length ≤ ops.size)
    (hQ : ∀ c a d v w, Q (.panic c) (Act.put a d v) w → Q (.panic c) a w)
    (h : wpPlanR P ops Q Ls R plan a { w with drawn := w.drawn + 1 }) : (Code.region id ops true).wp P Q a w :=
  wp_region_any hm (wpAny_of_R _ _ _ _ (wpAnyR_of_plan hrf htr hs hQ plan _ _ _ _ (by simp) (fun j oj _ hl => by
    have : (Array.replicate ops.size false).getD j false = false := by
      by_cases h : j < ops.size <;> simp [h]
    rw [this] at hl; cases hl) hp hl h))
theorem wpPlanR_nil {a : Act} {w : World} (h : Q .normal a w) : wpPlanR P ops Q Ls R [] a w := h
theorem wpPlanR_plain {i : Nat} {o : Oper} {rest : List (Bool × Nat)} {a : Act} {w : World} (ho : ops[i]? = some o)
    (h : ∀ K : Act → Prop, (∀ a, wpPlanR P ops Q Ls R rest a w → K a) → if Region.wanted o (yielded ops a.tmps) then ∃ v, (∀ x : ROf R w, (execOp a.eval o).run P x.world = .ok (.value v) x.world) ∧ K (a.put o.dst v) else K (a.put o.dst undef)) :
    wpPlanR P ops Q Ls R ((true, i) :: rest) a w := by
  unfold wpPlanR
  simp only [ho]
  exact h _ fun _ h => h
theorem wpPlanR_call {i : Nat} {o : Oper} {rest : List (Bool × Nat)} {a : Act} {w : World} (ho : ops[i]? = some o)
    (h : ∀ K : Act → World → Prop, (∀ a w', wpPlanR P ops Q Ls R rest a w' → K a w') → wpList P ops (planPostR (i ∈ Ls) R Q w K) [o] a w) :
    wpPlanR P ops Q Ls R ((false, i) :: rest) a w := by
  unfold wpPlanR
  simp only [ho]
  exact h _ fun _ _ h => h
theorem wpPlanR_runW {i : Nat} {o : Oper} {rest : List (Bool × Nat)} {a : Act} {w : World} (ho : ops[i]? = some o) (hw : Region.wanted o (yielded ops a.tmps) = true) (v : Value) (hv : ∀ x : ROf R w, (execOp a.eval o).run P x.world = .ok (.value v) x.world)
    (h : wpPlanR P ops Q Ls R rest (a.put o.dst v) w) : wpPlanR P ops Q Ls R ((true, i) :: rest) a w := by
  unfold wpPlanR
  simp only [ho]
  rw [if_pos hw]
  exact ⟨_, hv, h⟩
end
end Go
