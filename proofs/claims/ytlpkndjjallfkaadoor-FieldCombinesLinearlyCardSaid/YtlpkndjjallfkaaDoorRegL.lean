/-
  A region that draws its order, holds calls that make memory and ends in one operation that comes behind all others (a store): one walk, by a plan. As XReg, but for the last operation, of which nothing is asked.
-/
import Derived.Test.YtlpkndjjallfkaaDoorReg
namespace Go
open Go.RowKit

section
variable {P : Program} {ops : Array Oper} {Q : Exit → Act → World → Prop} {md : Region.Mode} {L : Nat}

/-- Operation L comes behind all others. -/
def lateOk (md : Region.Mode) (ops : Array Oper) (L : Nat) : Bool := match ops[L]? with
  | none => true
  | some o => (List.range ops.size).all fun k => k == L || o.after.toList.any fun e => e.on == k && Region.binds md e

theorem lateOk_spec {L i : Nat} {listed : Array Bool} (h : lateOk md ops L = true) (hL : L ∈ Region.ready md ops listed) (hi : i ∈ Region.ready md ops listed) : i = L := by
  obtain ⟨_, oL, hoL, hall⟩ := mem_ready.1 hL
  obtain ⟨hiun, oi, hoi, _⟩ := mem_ready.1 hi
  unfold lateOk at h
  simp only [hoL, List.all_eq_true, Bool.or_eq_true, beq_iff_eq, List.any_eq_true, Bool.and_eq_true, List.mem_range] at h
  rcases h i (Array.getElem?_eq_some_iff.1 hoi).1 with h | ⟨e, he, heq, hb⟩
  · exact h
  · exfalso
    have h1 := hall e (Array.mem_toList_iff.1 he) hb
    rw [heq] at h1
    rcases Nat.lt_or_ge i listed.size with h' | h'
    · simp [h'] at hiun h1; rw [hiun] at h1; cases h1
    · simp [Array.getElem?_eq_none h'] at h1

def wpAnyLate (P : Program) (md : Region.Mode) (ops : Array Oper) (Q : Exit → Act → World → Prop) (L : Nat) : Nat → Array Bool → Act → World → Prop
  | 0, listed, a, w => Region.ready md ops listed = [] ∧ Q .normal a w
  | fuel + 1, listed, a, w =>
    (Region.ready md ops listed = [] → Q .normal a w) ∧
    ∀ i ∈ Region.ready md ops listed, wpOp P ops Q i (fun a' w' => (i = L ∨ Ext w w') ∧ wpAnyLate P md ops Q L fuel (listed.setIfInBounds i true) a' w') a w

theorem wpAny_of_late : ∀ (fuel : Nat) (listed : Array Bool) (a : Act) (w : World), wpAnyLate P md ops Q L fuel listed a w → wpAny P md ops Q fuel listed a w
  | 0, _, _, _, h => h
  | fuel + 1, _, _, _, h => ⟨h.1, fun i hi => wpOp_mono (fun a' w' h' => wpAny_of_late fuel _ a' w' h'.2) (h.2 i hi)⟩

/-- A plain operation may be taken first. -/
theorem wpAnyLate_first {i : Nat} {oi : Oper} {v : Value} (hi : ops[i]? = some oi) (hsel : ∀ (j : Nat) (o : Oper) cs b, ops[j]? = some o → o.op ≠ .select cs b)
    (hQ : ∀ c a w, Q (.panic c) (a.put oi.dst v) w → Q (.panic c) a w) (hlate : lateOk md ops L = true) (hne : i ≠ L) :
    ∀ (fuel : Nat) (listed : Array Bool) (a : Act) (w : World),
      (∀ j oj, ops[j]? = some oj → j ≠ i → listed.getD j true = false → (∀ e ∈ oj.after, Region.binds md e = true → e.on ≠ i) → oi.apart ops oj = true) →
      i ∈ Region.ready md ops listed → YieldsIf P ops (Ext w) oi v a →
      wpAnyLate P md ops Q L fuel (listed.setIfInBounds i true) (a.put oi.dst v) w → wpAnyLate P md ops Q L (fuel + 1) listed a w := by
  intro fuel
  induction fuel with
  | zero =>
    intro listed a w _ hr hy H
    refine ⟨fun h => (by rw [h] at hr; cases hr), fun j hj => ?_⟩
    by_cases hji : j = i
    · subst hji; exact hy.wpOp hi (Ext.refl w) ⟨.inr (Ext.refl w), H⟩
    · have := ready_mono hj hji
      rw [H.1] at this
      cases this
  | succ fuel ih =>
    intro listed a w hfree hr hy H
    refine ⟨fun h => (by rw [h] at hr; cases hr), fun j hj => ?_⟩
    by_cases hji : j = i
    · subst hji; exact hy.wpOp hi (Ext.refl w) ⟨.inr (Ext.refl w), H⟩
    · have hjL : j ≠ L := fun h => hne (lateOk_spec hlate (h ▸ hj) hr)
      have h1 := H.2 j (ready_mono hj hji)
      obtain ⟨hjun, oj, hoj, hall⟩ := mem_ready.1 hj
      have hnot : ∀ e ∈ oj.after, Region.binds md e = true → e.on ≠ i := fun e he hb heq => by
        have h1 := hall e he hb
        have h0 := (mem_ready.1 hr).1
        rw [heq] at h1
        rcases Nat.lt_or_ge i listed.size with h' | h'
        · simp [h'] at h0 h1; rw [h0] at h1; cases h1
        · simp [Array.getElem?_eq_none h'] at h1
      have h2 := wpOp_putIf hoj (hfree j oj hoj hji hjun hnot) (fun cs b => hsel i oi cs b hi) (fun cs b => hsel j oj cs b hoj) hQ hy h1
      have hfree' : ∀ k ok, ops[k]? = some ok → k ≠ i → (listed.setIfInBounds j true).getD k true = false →
          (∀ e ∈ ok.after, Region.binds md e = true → e.on ≠ i) → oi.apart ops ok = true := fun k ok hk hki hun hno => by
        refine hfree k ok hk hki ?_ hno
        by_cases hjk : j = k
        · subst hjk; exact hjun
        · rw [getD_set_ne true hjk] at hun; exact hun
      refine wpOp_mono (fun a' w' h3 => ⟨h3.2.1, ih (listed.setIfInBounds j true) a' w' hfree' (ready_mono hr (Ne.symm hji)) (h3.1.later (h3.2.1.resolve_left hjL)) ?_⟩) h2
      rw [Array.setIfInBounds_comm _ _ hji]
      exact h3.2.2

/-- What is asked behind a call of the plan. -/
def planPostL (late : Prop) (Q : Exit → Act → World → Prop) (w : World) (K : Act → World → Prop) : Exit → Act → World → Prop
  | .normal, a', w' => (late ∨ Ext w w') ∧ K a' w'
  | e, a', w' => Q e a' w'

/-- The walk by a plan: (true, i): operation i is plain; (false, i): it is a call, or makes memory, and stands alone. -/
def wpPlanL (P : Program) (ops : Array Oper) (Q : Exit → Act → World → Prop) (L : Nat) : List (Bool × Nat) → Act → World → Prop
  | [], a, w => Q .normal a w
  | (true, i) :: rest, a, w =>
    match ops[i]? with
    | none => False
    | some o => if Region.wanted o (yielded ops a.tmps) then ∃ v, (∀ x : ExtOf w, (execOp a.eval o).run P x.world = .ok (.value v) x.world) ∧ wpPlanL P ops Q L rest (a.put o.dst v) w else wpPlanL P ops Q L rest (a.put o.dst undef) w
  | (false, i) :: rest, a, w =>
    match ops[i]? with
    | none => False
    | some o => wpList P ops (planPostL (i = L) Q w (wpPlanL P ops Q L rest)) [o] a w

theorem wpAnyLate_of_plan (hlate : lateOk md ops L = true) (hs : Region.noSelect ops = true) (hQ : ∀ c a d v w, Q (.panic c) (Act.put a d v) w → Q (.panic c) a w) : ∀ (plan : List (Bool × Nat)) (fuel : Nat) (listed : Array Bool) (a : Act) (w : World),
    planOk md ops plan listed = true → (∀ i, (true, i) ∈ plan → i ≠ L) → plan.length ≤ fuel → wpPlanL P ops Q L plan a w → wpAnyLate P md ops Q L fuel listed a w
  | [], fuel, listed, a, w, hp, _, _, h => by
    have hr : Region.ready md ops listed = [] := by simpa [planOk] using hp
    cases fuel with
    | zero => exact ⟨hr, h⟩
    | succ n => exact ⟨fun _ => h, by rw [hr]; simp⟩
  | (true, i) :: rest, fuel, listed, a, w, hp, hn, hf, h => by
    cases fuel with
    | zero => simp at hf
    | succ fuel =>
      simp only [planOk, Bool.and_eq_true] at hp
      obtain ⟨⟨hfree, hready⟩, hrest⟩ := hp
      unfold wpPlanL at h
      split at h
      · exact h.elim
      · rename_i o ho
        split at h
        · rename_i hw
          obtain ⟨v, hv, hk⟩ := h
          exact wpAnyLate_first ho (Region.noSelect_spec hs) (fun c a w => hQ c a _ _ w) hlate (hn i (by simp)) fuel listed a w (Region.free_spec ho hfree) (by simpa using hready) (.inl ⟨hw, fun W hW => hv ⟨W, hW⟩⟩)
            (wpAnyLate_of_plan hlate hs hQ rest fuel _ _ _ hrest (fun k hk => hn k (by simp [hk])) (by simpa using hf) hk)
        · rename_i hw
          exact wpAnyLate_first ho (Region.noSelect_spec hs) (fun c a w => hQ c a _ _ w) hlate (hn i (by simp)) fuel listed a w (Region.free_spec ho hfree) (by simpa using hready) (.inr ⟨by simpa using hw, rfl⟩)
            (wpAnyLate_of_plan hlate hs hQ rest fuel _ _ _ hrest (fun k hk => hn k (by simp [hk])) (by simpa using hf) h)
  | (false, i) :: rest, fuel, listed, a, w, hp, hn, hf, h => by
    cases fuel with
    | zero => simp at hf
    | succ fuel =>
      simp only [planOk, Bool.and_eq_true, beq_iff_eq] at hp
      obtain ⟨hr, hrest⟩ := hp
      refine ⟨fun h0 => (by rw [hr] at h0; cases h0), fun j hj => ?_⟩
      rw [hr] at hj
      obtain rfl : j = i := by simpa using hj
      unfold wpPlanL at h
      unfold wpOp
      cases ho : ops[j]? with
      | none => simp [ho] at h
      | some o =>
        simp only [ho] at h ⊢
        unfold wpList at h
        have hgo : ∀ a' w', planPostL (j = L) Q w (wpPlanL P ops Q L rest) .normal a' w' → (j = L ∨ Ext w w') ∧ wpAnyLate P md ops Q L fuel (listed.setIfInBounds j true) a' w' := fun a' w' hh =>
          ⟨hh.1, wpAnyLate_of_plan hlate hs hQ rest fuel _ _ _ hrest (fun k hk => hn k (by simp [hk])) (by simpa using hf) hh.2⟩
        split
        · rename_i hw
          simp only [hw, if_true] at h
          have hlets : LetsOut (planPostL (j = L) Q w (wpPlanL P ops Q L rest)) → LetsOut Q := fun ⟨a', w', hh⟩ => ⟨a', w', hh⟩
          rcases h with h | ⟨h1, h2⟩
          · exact .inl (Oper.wp_mono (fun a' w' hh => hgo a' w' hh) (Oper.wp_conv (fun _ _ _ hh => hh) hlets h))
          · exact .inr ⟨h1, hlets h2⟩
        · rename_i hw
          simp only [hw] at h
          exact hgo _ _ h

def planIn (L : Nat) (plan : List (Bool × Nat)) : Bool := plan.all fun x => !x.1 || x.2 != L
/-- THE REGION, BY A PLAN. -/
theorem wp_region_planL {id : Nat} {a : Act} {w : World} (L : Nat) (plan : List (Bool × Nat)) (hlate : lateOk .any ops L = true) (hin : planIn L plan = true) (hm : P.follows .mixedOrders = true) (hs : Region.noSelect ops = true) (hp : planOk .any ops plan (Array.replicate ops.size false) = true) (hl : plan.length ≤ ops.size)
    (hQ : ∀ c a d v w, Q (.panic c) (Act.put a d v) w → Q (.panic c) a w)
    (h : wpPlanL P ops Q L plan a { w with drawn := w.drawn + 1 }) : (Code.region id ops true).wp P Q a w :=
  wp_region_any hm (wpAny_of_late _ _ _ _ (wpAnyLate_of_plan hlate hs hQ plan _ _ _ _ hp (fun i hi => by have := List.all_eq_true.1 hin _ hi; simpa using this) hl h))

/-! ### The steps -/
theorem wpPlanL_nil {a : Act} {w : World} (h : Q .normal a w) : wpPlanL P ops Q L [] a w := h
theorem wpPlanL_plain {i : Nat} {o : Oper} {rest : List (Bool × Nat)} {a : Act} {w : World} (ho : ops[i]? = some o)
    (h : ∀ K : Act → Prop, (∀ a, wpPlanL P ops Q L rest a w → K a) → if Region.wanted o (yielded ops a.tmps) then ∃ v, (∀ x : ExtOf w, (execOp a.eval o).run P x.world = .ok (.value v) x.world) ∧ K (a.put o.dst v) else K (a.put o.dst undef)) :
    wpPlanL P ops Q L ((true, i) :: rest) a w := by
  unfold wpPlanL
  simp only [ho]
  exact h _ fun _ h => h
theorem planPostL_normal {late : Prop} {w w' : World} {K : Act → World → Prop} {a : Act} (h : (late ∨ Ext w w') ∧ K a w') : planPostL late Q w K .normal a w' := h
theorem wpPlanL_call {i : Nat} {o : Oper} {rest : List (Bool × Nat)} {a : Act} {w : World} (ho : ops[i]? = some o)
    (h : ∀ K : Act → World → Prop, (∀ a w', wpPlanL P ops Q L rest a w' → K a w') → wpList P ops (planPostL (i = L) Q w K) [o] a w) :
    wpPlanL P ops Q L ((false, i) :: rest) a w := by
  unfold wpPlanL
  simp only [ho]
  exact h _ fun _ _ h => h
end
end Go
