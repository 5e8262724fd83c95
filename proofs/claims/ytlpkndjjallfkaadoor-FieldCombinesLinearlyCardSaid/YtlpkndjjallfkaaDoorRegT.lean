/-
  As XRegL, where two operations that make memory may be carried out in either order: the plan is a tree.
-/
import Derived.Test.YtlpkndjjallfkaaDoorRegL
namespace Go
open Go.RowKit

inductive Tree
  | stop
  | plain (i : Nat) (t : Tree)
  | one (i : Nat) (t : Tree)
  | two (i : Nat) (t : Tree) (j : Nat) (u : Tree)

section
variable {P : Program} {ops : Array Oper} {Q : Exit → Act → World → Prop} {md : Region.Mode} {L : Nat}

def wpTree (P : Program) (ops : Array Oper) (Q : Exit → Act → World → Prop) (L : Nat) : Tree → Act → World → Prop
  | .stop, a, w => Q .normal a w
  | .plain i t, a, w =>
    match ops[i]? with
    | none => False
    | some o => if Region.wanted o (yielded ops a.tmps) then ∃ v, (∀ x : ExtOf w, (execOp a.eval o).run P x.world = .ok (.value v) x.world) ∧ wpTree P ops Q L t (a.put o.dst v) w else wpTree P ops Q L t (a.put o.dst undef) w
  | .one i t, a, w =>
    match ops[i]? with
    | none => False
    | some o => wpList P ops (planPostL (i = L) Q w (wpTree P ops Q L t)) [o] a w
  | .two i t j u, a, w =>
    (match ops[i]? with
    | none => False
    | some o => wpList P ops (planPostL (i = L) Q w (wpTree P ops Q L t)) [o] a w) ∧
    (match ops[j]? with
    | none => False
    | some o => wpList P ops (planPostL (j = L) Q w (wpTree P ops Q L u)) [o] a w)

/-- Is the tree a plan? -/
def treeOk (md : Region.Mode) (ops : Array Oper) (L : Nat) : Tree → Array Bool → Bool
  | .stop, listed => (Region.ready md ops listed).isEmpty
  | .plain i t, listed => i != L && Region.free md ops listed i && (Region.ready md ops listed).contains i && treeOk md ops L t (listed.setIfInBounds i true)
  | .one i t, listed => (Region.ready md ops listed == [i]) && treeOk md ops L t (listed.setIfInBounds i true)
  | .two i t j u, listed => (Region.ready md ops listed == [i, j]) && treeOk md ops L t (listed.setIfInBounds i true) && treeOk md ops L u (listed.setIfInBounds j true)
def depth : Tree → Nat
  | .stop => 0
  | .plain _ t => depth t + 1
  | .one _ t => depth t + 1
  | .two _ t _ u => max (depth t) (depth u) + 1

theorem wpOp_of_list {j : Nat} {w : World} {a : Act} {K : Act → World → Prop} {X : Act → World → Prop} (hgo : ∀ a' w', (j = L ∨ Ext w w') ∧ K a' w' → X a' w')
    (h : match ops[j]? with | none => False | some o => wpList P ops (planPostL (j = L) Q w K) [o] a w) : wpOp P ops Q j X a w := by
  unfold wpOp
  cases ho : ops[j]? with
  | none => simp [ho] at h
  | some o =>
    simp only [ho] at h ⊢
    unfold wpList at h
    split
    · rename_i hw
      simp only [hw, if_true] at h
      have hlets : LetsOut (planPostL (j = L) Q w K) → LetsOut Q := fun ⟨a', w', hh⟩ => ⟨a', w', hh⟩
      rcases h with h | ⟨h1, h2⟩
      · exact .inl (Oper.wp_mono (fun a' w' hh => hgo a' w' hh) (Oper.wp_conv (fun _ _ _ hh => hh) hlets h))
      · exact .inr ⟨h1, hlets h2⟩
    · rename_i hw
      simp only [hw] at h
      exact hgo _ _ h

theorem wpAnyLate_of_tree (hlate : lateOk md ops L = true) (hs : Region.noSelect ops = true) (hQ : ∀ c a d v w, Q (.panic c) (Act.put a d v) w → Q (.panic c) a w) : ∀ (t : Tree) (fuel : Nat) (listed : Array Bool) (a : Act) (w : World),
    treeOk md ops L t listed = true → depth t ≤ fuel → wpTree P ops Q L t a w → wpAnyLate P md ops Q L fuel listed a w
  | .stop, fuel, listed, a, w, hp, _, h => by
    have hr : Region.ready md ops listed = [] := by simpa [treeOk] using hp
    cases fuel with
    | zero => exact ⟨hr, h⟩
    | succ n => exact ⟨fun _ => h, by rw [hr]; simp⟩
  | .plain i t, fuel, listed, a, w, hp, hf, h => by
    cases fuel with
    | zero => simp [depth] at hf
    | succ fuel =>
      simp only [treeOk, Bool.and_eq_true, bne_iff_ne, ne_eq] at hp
      obtain ⟨⟨⟨hne, hfree⟩, hready⟩, hrest⟩ := hp
      unfold wpTree at h
      split at h
      · exact h.elim
      · rename_i o ho
        split at h
        · rename_i hw
          obtain ⟨v, hv, hk⟩ := h
          exact wpAnyLate_first ho (Region.noSelect_spec hs) (fun c a w => hQ c a _ _ w) hlate hne fuel listed a w (Region.free_spec ho hfree) (by simpa using hready) (.inl ⟨hw, fun W hW => hv ⟨W, hW⟩⟩)
            (wpAnyLate_of_tree hlate hs hQ t fuel _ _ _ hrest (by simpa [depth] using hf) hk)
        · rename_i hw
          exact wpAnyLate_first ho (Region.noSelect_spec hs) (fun c a w => hQ c a _ _ w) hlate hne fuel listed a w (Region.free_spec ho hfree) (by simpa using hready) (.inr ⟨by simpa using hw, rfl⟩)
            (wpAnyLate_of_tree hlate hs hQ t fuel _ _ _ hrest (by simpa [depth] using hf) h)
  | .one i t, fuel, listed, a, w, hp, hf, h => by
    cases fuel with
    | zero => simp [depth] at hf
    | succ fuel =>
      simp only [treeOk, Bool.and_eq_true, beq_iff_eq] at hp
      obtain ⟨hr, hrest⟩ := hp
      refine ⟨fun h0 => (by rw [hr] at h0; cases h0), fun j hj => ?_⟩
      rw [hr] at hj
      obtain rfl : j = i := by simpa using hj
      unfold wpTree at h
      exact wpOp_of_list (fun a' w' hh => ⟨hh.1, wpAnyLate_of_tree hlate hs hQ t fuel _ _ _ hrest (by simpa [depth] using hf) hh.2⟩) h
  | .two i t j u, fuel, listed, a, w, hp, hf, h => by
    cases fuel with
    | zero => simp [depth] at hf
    | succ fuel =>
      simp only [treeOk, Bool.and_eq_true, beq_iff_eq] at hp
      obtain ⟨⟨hr, hrest⟩, hrest2⟩ := hp
      have hd : depth t ≤ fuel ∧ depth u ≤ fuel := by simp only [depth] at hf; omega
      refine ⟨fun h0 => (by rw [hr] at h0; cases h0), fun k hk => ?_⟩
      rw [hr] at hk
      unfold wpTree at h
      simp only [List.mem_cons, List.not_mem_nil, or_false] at hk
      rcases hk with rfl | rfl
      · exact wpOp_of_list (fun a' w' hh => ⟨hh.1, wpAnyLate_of_tree hlate hs hQ t fuel _ _ _ hrest hd.1 hh.2⟩) h.1
      · exact wpOp_of_list (fun a' w' hh => ⟨hh.1, wpAnyLate_of_tree hlate hs hQ u fuel _ _ _ hrest2 hd.2 hh.2⟩) h.2

/-- THE REGION, BY A TREE. -/
theorem wp_region_tree {id : Nat} {a : Act} {w : World} (L : Nat) (t : Tree) (hlate : lateOk .any ops L = true) (hm : P.follows .mixedOrders = true) (hs : Region.noSelect ops = true) (hp : treeOk .any ops L t (Array.replicate ops.size false) = true) (hl : depth t ≤ ops.size)
    (hQ : ∀ c a d v w, Q (.panic c) (Act.put a d v) w → Q (.panic c) a w)
    (h : wpTree P ops Q L t a { w with drawn := w.drawn + 1 }) : (Code.region id ops true).wp P Q a w :=
  wp_region_any hm (wpAny_of_late _ _ _ _ (wpAnyLate_of_tree hlate hs hQ t _ _ _ _ hp hl h))

/-! ### The steps -/
theorem wpTree_stop {a : Act} {w : World} (h : Q .normal a w) : wpTree P ops Q L .stop a w := h
theorem wpTree_plain {i : Nat} {o : Oper} {t : Tree} {a : Act} {w : World} (ho : ops[i]? = some o)
    (h : ∀ K : Act → Prop, (∀ a, wpTree P ops Q L t a w → K a) → if Region.wanted o (yielded ops a.tmps) then ∃ v, (∀ x : ExtOf w, (execOp a.eval o).run P x.world = .ok (.value v) x.world) ∧ K (a.put o.dst v) else K (a.put o.dst undef)) :
    wpTree P ops Q L (.plain i t) a w := by
  unfold wpTree
  simp only [ho]
  exact h _ fun _ h => h
theorem wpTree_one {i : Nat} {o : Oper} {t : Tree} {a : Act} {w : World} (ho : ops[i]? = some o)
    (h : ∀ K : Act → World → Prop, (∀ a w', wpTree P ops Q L t a w' → K a w') → wpList P ops (planPostL (i = L) Q w K) [o] a w) :
    wpTree P ops Q L (.one i t) a w := by
  unfold wpTree
  simp only [ho]
  exact h _ fun _ _ h => h
theorem wpTree_two {i j : Nat} {o o' : Oper} {t u : Tree} {a : Act} {w : World} (ho : ops[i]? = some o) (ho' : ops[j]? = some o')
    (h : ∀ K : Act → World → Prop, (∀ a w', wpTree P ops Q L t a w' → K a w') → wpList P ops (planPostL (i = L) Q w K) [o] a w)
    (h' : ∀ K : Act → World → Prop, (∀ a w', wpTree P ops Q L u a w' → K a w') → wpList P ops (planPostL (j = L) Q w K) [o'] a w) :
    wpTree P ops Q L (.two i t j u) a w := by
  unfold wpTree
  simp only [ho, ho']
  exact ⟨h _ fun _ _ h => h, h' _ fun _ _ h => h⟩
end
end Go
