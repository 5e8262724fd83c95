/-
  As XRegL, where the last operation that makes no new block (an append) need not be the region's last, and comes behind all others by way of what it waits for.
-/
import Derived.Test.YtlpkndjjallfkaaDoorRegL
namespace Go
open Go.RowKit

section
variable {P : Program} {ops : Array Oper} {Q : Exit → Act → World → Prop} {md : Region.Mode} {L : Nat}

/-- What is listed waits for nothing that isn't. -/
def ClosedL (md : Region.Mode) (ops : Array Oper) (listed : Array Bool) : Prop := ∀ (j : Nat) (oj : Oper), ops[j]? = some oj → listed.getD j false = true → ∀ e ∈ oj.after, Region.binds md e = true → listed.getD e.on false = true
/-- What operation k waits for. -/
def waits (md : Region.Mode) (ops : Array Oper) (k : Nat) : List Nat := match ops[k]? with
  | none => []
  | some o => (o.after.toList.filter (Region.binds md)).map (·.on)
def closure (md : Region.Mode) (ops : Array Oper) : Nat → List Nat → List Nat
  | 0, S => S
  | n + 1, S => closure md ops n (S ++ (S.flatMap (waits md ops)).filter fun k => !S.contains k)

theorem closure_listed {listed : Array Bool} (hc : ClosedL md ops listed) : ∀ (n : Nat) (S : List Nat), (∀ k ∈ S, listed.getD k false = true) → ∀ k ∈ closure md ops n S, listed.getD k false = true
  | 0, S, h => h
  | n + 1, S, h => closure_listed hc n _ fun k hk => by
    rcases List.mem_append.1 hk with hk | hk
    · exact h k hk
    · obtain ⟨j, hj, hjk⟩ := List.mem_flatMap.1 (List.mem_filter.1 hk).1
      unfold waits at hjk
      split at hjk
      · cases hjk
      · rename_i o ho
        obtain ⟨e, he, rfl⟩ := List.mem_map.1 hjk
        have he := List.mem_filter.1 he
        exact hc j o ho (h j hj) e (Array.mem_toList_iff.1 he.1) he.2
theorem getD_set_keep {listed : Array Bool} {i j : Nat} (h : listed.getD i false = true) : (listed.setIfInBounds j true).getD i false = true := by
  by_cases hij : j = i
  · subst hij
    by_cases hlt : j < listed.size
    · simp [hlt]
    · simp [hlt] at h
  · rw [getD_set_ne false hij]; exact h
theorem ClosedL.set {listed : Array Bool} (hc : ClosedL md ops listed) {j : Nat} (hj : j ∈ Region.ready md ops listed) : ClosedL md ops (listed.setIfInBounds j true) := fun k ok hok hk e he hb => by
  refine getD_set_keep ?_
  by_cases hjk : j = k
  · subst hjk
    obtain ⟨_, oj, hoj, hall⟩ := mem_ready.1 hj
    obtain rfl := Option.some.inj (hoj.symm.trans hok)
    exact hall e he hb
  · rw [getD_set_ne false hjk] at hk
    exact hc k ok hok hk e he hb
theorem getD_contra {listed : Array Bool} {i : Nat} (h0 : listed.getD i true = false) (h1 : listed.getD i false = true) : False := by
  by_cases hlt : i < listed.size
  · simp [hlt] at h0 h1; rw [h0] at h1; cases h1
  · simp [hlt] at h1

theorem wpAnyC_first {i : Nat} {oi : Oper} {v : Value} (hi : ops[i]? = some oi) (hsel : ∀ (j : Nat) (o : Oper) cs b, ops[j]? = some o → o.op ≠ .select cs b)
    (hQ : ∀ c a w, Q (.panic c) (a.put oi.dst v) w → Q (.panic c) a w) (hne : i ≠ L) :
    ∀ (fuel : Nat) (listed : Array Bool) (a : Act) (w : World), listed.size = ops.size → ClosedL md ops listed →
      (listed.getD L false = true ∨ ∃ n, i ∈ closure md ops n (waits md ops L)) →
      (∀ j oj, ops[j]? = some oj → j ≠ i → listed.getD j true = false → (∀ e ∈ oj.after, Region.binds md e = true → e.on ≠ i) → oi.apart ops oj = true) →
      i ∈ Region.ready md ops listed → YieldsIf P ops (Ext w) oi v a →
      wpAnyLate P md ops Q L fuel (listed.setIfInBounds i true) (a.put oi.dst v) w → wpAnyLate P md ops Q L (fuel + 1) listed a w := by
  intro fuel
  induction fuel with
  | zero =>
    intro listed a w hsz hcl hL _ hr hy H
    refine ⟨fun h => (by rw [h] at hr; cases hr), fun j hj => ?_⟩
    by_cases hji : j = i
    · subst hji; exact hy.wpOp hi (Ext.refl w) ⟨.inr (Ext.refl w), H⟩
    · have := ready_mono hj hji
      rw [H.1] at this
      cases this
  | succ fuel ih =>
    intro listed a w hsz hcl hL hfree hr hy H
    refine ⟨fun h => (by rw [h] at hr; cases hr), fun j hj => ?_⟩
    by_cases hji : j = i
    · subst hji; exact hy.wpOp hi (Ext.refl w) ⟨.inr (Ext.refl w), H⟩
    · have hiu := (mem_ready.1 hr).1
      have hilt : i < ops.size := (Array.getElem?_eq_some_iff.1 hi).1
      have hjL : j ≠ L := fun h => by
        subst h
        rcases hL with hL | ⟨n, hn⟩
        · exact getD_contra (mem_ready.1 hj).1 hL
        · obtain ⟨_, oj, hoj, hall⟩ := mem_ready.1 hj
          have hw : ∀ k ∈ waits md ops j, listed.getD k false = true := fun k hk => by
            unfold waits at hk
            rw [hoj] at hk
            obtain ⟨e, he, rfl⟩ := List.mem_map.1 hk
            have he := List.mem_filter.1 he
            exact hall e (Array.mem_toList_iff.1 he.1) he.2
          exact getD_contra hiu (closure_listed hcl n _ hw i hn)
      have h1 := H.2 j (ready_mono hj hji)
      obtain ⟨hjun, oj, hoj, hall⟩ := mem_ready.1 hj
      have hnot : ∀ e ∈ oj.after, Region.binds md e = true → e.on ≠ i := fun e he hb heq => by
        have h1 := hall e he hb
        have h0 := (mem_ready.1 hr).1
        rw [heq] at h1
        rcases Nat.lt_or_ge i listed.size with h' | h'
        · simp [h'] at h0 h1; rw [h0] at h1; cases h1
        · simp [Array.getElem?_eq_none h'] at h1
      have h2 := wpOp_putIf hoj (hfree j oj hoj hji hjun hnot) (fun cs b => hsel i oi cs b hi) (fun cs b => hsel j oj cs b hoj) hQ hy h1
      have hfree' : ∀ k ok, ops[k]? = some ok → k ≠ i → (listed.setIfInBounds j true).getD k true = false →
          (∀ e ∈ ok.after, Region.binds md e = true → e.on ≠ i) → oi.apart ops ok = true := fun k ok hk hki hun hno => by
        refine hfree k ok hk hki ?_ hno
        by_cases hjk : j = k
        · subst hjk; exact hjun
        · rw [getD_set_ne true hjk] at hun; exact hun
      have hL' : (listed.setIfInBounds j true).getD L false = true ∨ ∃ n, i ∈ closure md ops n (waits md ops L) := hL.imp (fun h => by rw [getD_set_ne false hjL]; exact h) id
      refine wpOp_mono (fun a' w' h3 => ⟨h3.2.1, ih (listed.setIfInBounds j true) a' w' (by rw [Array.size_setIfInBounds]; exact hsz) (hcl.set hj) hL' hfree' (ready_mono hr (Ne.symm hji)) (h3.1.later (h3.2.1.resolve_left hjL)) ?_⟩) h2
      rw [Array.setIfInBounds_comm _ _ hji]
      exact h3.2.2

/-- Is the plan one? -/
def planOkC (md : Region.Mode) (ops : Array Oper) (L : Nat) : List (Bool × Nat) → Array Bool → Bool
  | [], listed => (Region.ready md ops listed).isEmpty
  | (true, i) :: rest, listed => i != L && (listed.getD L false || (closure md ops 4 (waits md ops L)).contains i) && Region.free md ops listed i && (Region.ready md ops listed).contains i && planOkC md ops L rest (listed.setIfInBounds i true)
  | (false, i) :: rest, listed => (Region.ready md ops listed == [i]) && planOkC md ops L rest (listed.setIfInBounds i true)

theorem wpAnyC_of_plan (hs : Region.noSelect ops = true) (hQ : ∀ c a d v w, Q (.panic c) (Act.put a d v) w → Q (.panic c) a w) : ∀ (plan : List (Bool × Nat)) (fuel : Nat) (listed : Array Bool) (a : Act) (w : World), listed.size = ops.size → ClosedL md ops listed →
    planOkC md ops L plan listed = true → plan.length ≤ fuel → wpPlanL P ops Q L plan a w → wpAnyLate P md ops Q L fuel listed a w
  | [], fuel, listed, a, w, hsz, hcl, hp, _, h => by
    have hr : Region.ready md ops listed = [] := by simpa [planOkC] using hp
    cases fuel with
    | zero => exact ⟨hr, h⟩
    | succ n => exact ⟨fun _ => h, by rw [hr]; simp⟩
  | (true, i) :: rest, fuel, listed, a, w, hsz, hcl, hp, hf, h => by
    cases fuel with
    | zero => simp at hf
    | succ fuel =>
      simp only [planOkC, Bool.and_eq_true, bne_iff_ne, ne_eq, Bool.or_eq_true, List.contains_iff_mem] at hp
      obtain ⟨⟨⟨⟨hne, hL⟩, hfree⟩, hready⟩, hrest⟩ := hp
      have hL' : listed.getD L false = true ∨ ∃ n, i ∈ closure md ops n (waits md ops L) := hL.imp id fun h => ⟨4, h⟩
      unfold wpPlanL at h
      split at h
      · exact h.elim
      · rename_i o ho
        split at h
        · rename_i hw
          obtain ⟨v, hv, hk⟩ := h
          exact wpAnyC_first ho (Region.noSelect_spec hs) (fun c a w => hQ c a _ _ w) hne fuel listed a w hsz hcl hL' (Region.free_spec ho hfree) hready (.inl ⟨hw, fun W hW => hv ⟨W, hW⟩⟩)
            (wpAnyC_of_plan hs hQ rest fuel _ _ _ (by rw [Array.size_setIfInBounds]; exact hsz) (hcl.set hready) hrest (by simpa using hf) hk)
        · rename_i hw
          exact wpAnyC_first ho (Region.noSelect_spec hs) (fun c a w => hQ c a _ _ w) hne fuel listed a w hsz hcl hL' (Region.free_spec ho hfree) hready (.inr ⟨by simpa using hw, rfl⟩)
            (wpAnyC_of_plan hs hQ rest fuel _ _ _ (by rw [Array.size_setIfInBounds]; exact hsz) (hcl.set hready) hrest (by simpa using hf) h)
  | (false, i) :: rest, fuel, listed, a, w, hsz, hcl, hp, hf, h => by
    cases fuel with
    | zero => simp at hf
    | succ fuel =>
      simp only [planOkC, Bool.and_eq_true, beq_iff_eq] at hp
      obtain ⟨hr, hrest⟩ := hp
      refine ⟨fun h0 => (by rw [hr] at h0; cases h0), fun j hj => ?_⟩
      have hj' := hj
      rw [hr] at hj
      obtain rfl : j = i := by simpa using hj
      unfold wpPlanL at h
      unfold wpOp
      cases ho : ops[j]? with
      | none => simp [ho] at h
      | some o =>
        simp only [ho] at h ⊢
        unfold wpList at h
        have hgo : ∀ a' w', planPostL (j = L) Q w (wpPlanL P ops Q L rest) .normal a' w' → (j = L ∨ Ext w w') ∧ wpAnyLate P md ops Q L fuel (listed.setIfInBounds j true) a' w' := fun a' w' hh =>
          ⟨hh.1, wpAnyC_of_plan hs hQ rest fuel _ _ _ (by rw [Array.size_setIfInBounds]; exact hsz) (hcl.set hj') hrest (by simpa using hf) hh.2⟩
        split
        · rename_i hw
          simp only [hw, if_true] at h
          have hlets : LetsOut (planPostL (j = L) Q w (wpPlanL P ops Q L rest)) → LetsOut Q := fun ⟨a', w', hh⟩ => ⟨a', w', hh⟩
          rcases h with h | ⟨h1, h2⟩
          · exact .inl (Oper.wp_mono (fun a' w' hh => hgo a' w' hh) (Oper.wp_conv (fun _ _ _ hh => hh) hlets h))
          · exact .inr ⟨h1, hlets h2⟩
        · rename_i hw
          simp only [hw] at h
          exact hgo _ _ h

theorem wp_region_planC {id : Nat} {a : Act} {w : World} (L : Nat) (plan : List (Bool × Nat)) (hm : P.follows .mixedOrders = true) (hs : Region.noSelect ops = true) (hp : planOkC .any ops L plan (Array.replicate ops.size false) = true) (hl : plan.length ≤ ops.size)
    (hQ : ∀ c a d v w, Q (.panic c) (Act.put a d v) w → Q (.panic c) a w)
    (h : wpPlanL P ops Q L plan a { w with drawn := w.drawn + 1 }) : (Code.region id ops true).wp P Q a w :=
  wp_region_any hm (wpAny_of_late _ _ _ _ (wpAnyC_of_plan hs hQ plan _ _ _ _ (by simp) (fun j oj _ hl => by
    have : (Array.replicate ops.size false).getD j false = false := by
      by_cases h : j < ops.size <;> simp [h]
    rw [this] at hl; cases hl) hp hl h))
end
end Go
