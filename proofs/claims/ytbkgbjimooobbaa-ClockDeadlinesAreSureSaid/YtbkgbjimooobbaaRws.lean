/-
  Several rows of a call's own, in blocks apart; regions that draw their order, whose orders are gone through: plain operations first, and whichever comes up then. (General: no function of the project.)
-/
import Derived.Test.YtbkgbjimooobbaaKc
import Derived.OrdersHeld
namespace Go
open Go.RowKit

section
variable {P : Program} {ops : Array Oper} {Q : Exit → Act → World → Prop} {md : Region.Mode} {S : World → Prop}
/-- The worlds that meet S. -/
def SOf (S : World → Prop) : Type := { W : World // S W }
def SOf.world {S : World → Prop} (x : SOf S) : World := x.val
theorem SOf.meets {S : World → Prop} (x : SOf S) : S x.world := x.property
/-- Plain operations that are taken first, one after the other; then whichever comes up. -/
def wpPlanH (P : Program) (md : Region.Mode) (ops : Array Oper) (Q : Exit → Act → World → Prop) (S : World → Prop) : List Nat → Nat → Array Bool → Act → World → Prop
  | [], fuel, listed, a, w => wpAnyH P md ops Q S fuel listed a w
  | i :: rest, fuel, listed, a, w =>
    match ops[i]? with
    | none => False
    | some o => if Region.wanted o (yielded ops a.tmps) then ∃ v, (∀ x : SOf S, (execOp a.eval o).run P x.world = .ok (.value v) x.world) ∧ wpPlanH P md ops Q S rest fuel (listed.setIfInBounds i true) (a.put o.dst v) w else wpPlanH P md ops Q S rest fuel (listed.setIfInBounds i true) (a.put o.dst undef) w
def planOkH (md : Region.Mode) (ops : Array Oper) : List Nat → Array Bool → Bool
  | [], _ => true
  | i :: rest, listed => Region.free md ops listed i && (Region.ready md ops listed).contains i && planOkH md ops rest (listed.setIfInBounds i true)
theorem wpAnyH_of_plan (hs : Region.noSelect ops = true) (hQ : ∀ c a d v w, Q (.panic c) (Act.put a d v) w → Q (.panic c) a w) : ∀ (plan : List Nat) (fuel : Nat) (listed : Array Bool) (a : Act) (w : World), S w →
    planOkH md ops plan listed = true → wpPlanH P md ops Q S plan fuel listed a w → wpAnyH P md ops Q S (plan.length + fuel) listed a w
  | [], fuel, listed, a, w, _, _, h => by
    rw [List.length_nil, Nat.zero_add]
    exact h
  | i :: rest, fuel, listed, a, w, hS, hp, h => by
    simp only [planOkH, Bool.and_eq_true] at hp
    obtain ⟨⟨hfree, hready⟩, hrest⟩ := hp
    rw [List.length_cons, show rest.length + 1 + fuel = rest.length + fuel + 1 by omega]
    unfold wpPlanH at h
    split at h
    · exact h.elim
    · rename_i o ho
      split at h
      · rename_i hw
        obtain ⟨v, hv, hk⟩ := h
        exact wpAnyH_take ho hs hfree hready (fun c a w => hQ c a _ _ w) (.inl ⟨hw, fun W hW => hv ⟨W, hW⟩⟩) hS (wpAnyH_of_plan hs hQ rest fuel _ _ _ hS hrest hk)
      · rename_i hw
        exact wpAnyH_take ho hs hfree hready (fun c a w => hQ c a _ _ w) (.inr ⟨by simpa using hw, rfl⟩) hS (wpAnyH_of_plan hs hQ rest fuel _ _ _ hS hrest h)
theorem wpPlanH_plain {i : Nat} {o : Oper} {rest : List Nat} {fuel : Nat} {listed : Array Bool} {a : Act} {w : World} (ho : ops[i]? = some o)
    (h : ∀ K : Act → Prop, (∀ a, wpPlanH P md ops Q S rest fuel (listed.setIfInBounds i true) a w → K a) → if Region.wanted o (yielded ops a.tmps) then ∃ v, (∀ x : SOf S, (execOp a.eval o).run P x.world = .ok (.value v) x.world) ∧ K (a.put o.dst v) else K (a.put o.dst undef)) :
    wpPlanH P md ops Q S (i :: rest) fuel listed a w := by
  unfold wpPlanH
  simp only [ho]
  exact h _ fun _ h => h
theorem wpPlanH_runW {i : Nat} {o : Oper} {rest : List Nat} {fuel : Nat} {listed : Array Bool} {a : Act} {w : World} (ho : ops[i]? = some o) (hw : Region.wanted o (yielded ops a.tmps) = true) (v : Value) (hv : ∀ x : SOf S, (execOp a.eval o).run P x.world = .ok (.value v) x.world)
    (h : wpPlanH P md ops Q S rest fuel (listed.setIfInBounds i true) (a.put o.dst v) w) : wpPlanH P md ops Q S (i :: rest) fuel listed a w := by
  unfold wpPlanH
  simp only [ho]
  rw [if_pos hw]
  exact ⟨_, hv, h⟩
/-- The beginning. -/
theorem wp_region_planH (S : World → Prop) {id : Nat} {a : Act} {w : World} (plan : List Nat) (fuel : Nat) (hm : P.follows .mixedOrders = true) (hs : Region.noSelect ops = true) (hp : planOkH .any ops plan (Array.replicate ops.size false) = true) (hl : ops.size = plan.length + fuel)
    (hQ : ∀ c a d v w, Q (.panic c) (Act.put a d v) w → Q (.panic c) a w) (hS : S { w with drawn := w.drawn + 1 })
    (h : wpPlanH P .any ops Q S plan fuel (Array.replicate ops.size false) a { w with drawn := w.drawn + 1 }) : (Code.region id ops true).wp P Q a w := by
  refine wp_region_held (S := S) hm ?_
  have := wpAnyH_of_plan (S := S) hs hQ plan fuel _ _ _ hS hp h
  rw [← hl] at this
  exact this
/-- What is asked behind one operation. -/
def postH (Q : Exit → Act → World → Prop) (K : Act → World → Prop) : Exit → Act → World → Prop
  | .normal, a', w' => K a' w'
  | e, a', w' => Q e a' w'
theorem postH_normal {K : Act → World → Prop} {a : Act} {w : World} (h : K a w) : postH Q K .normal a w := h
theorem wpOp_listed {i : Nat} {o : Oper} {K : Act → World → Prop} {a : Act} {w : World} (ho : ops[i]? = some o) (h : wpList P ops (postH Q K) [o] a w) : wpOp P ops Q i K a w := by
  unfold wpOp
  simp only [ho]
  unfold wpList at h
  split
  · rename_i hw
    simp only [hw, if_true] at h
    have hlets : LetsOut (postH Q K) → LetsOut Q := fun ⟨a', w', hh⟩ => ⟨a', w', hh⟩
    rcases h with h | ⟨h1, h2⟩
    · exact .inl (Oper.wp_mono (fun a' w' hh => hh) (Oper.wp_conv (fun _ _ _ hh => hh) hlets h))
    · exact .inr ⟨h1, hlets h2⟩
  · rename_i hw
    simp only [hw] at h
    exact h
/-- Whichever comes up, the list of them given. -/
theorem wpAnyH_each {rs : List Nat} {fuel : Nat} {listed : Array Bool} {a : Act} {w : World} (hr : Region.ready md ops listed = rs) (hne : rs ≠ [])
    (h : ∀ K : Nat → Act → World → Prop, (∀ i a' w', S w' → wpAnyH P md ops Q S fuel (listed.setIfInBounds i true) a' w' → K i a' w') → ∀ i ∈ rs, wpOp P ops Q i (K i) a w) : wpAnyH P md ops Q S (fuel + 1) listed a w :=
  wpAnyH_all hr hne fun i hi => h (fun i a' w' => S w' ∧ wpAnyH P md ops Q S fuel (listed.setIfInBounds i true) a' w') (fun _ _ _ h1 h2 => ⟨h1, h2⟩) i hi
end
end Go
namespace Go.Proofs.Ytbkgbjimooobbaa
set_option linter.unusedVariables false
open Go.RowKit

/-- The rows (a value, the elements' type, the cells) are the call's own, each in a block apart. -/
structure Rws (base : Nat) (w : World) (rows : List (Value × TypeId × List Value)) : Prop where
  low : base ≤ w.heap.size
  own : ∀ (i : Nat) (r : Value × TypeId × List Value), rows[i]? = some r → w.ownsRow base r.2.1 1 r.1 r.2.2.length r.2.2
  apart : ∀ (i j : Nat) (r s : Value × TypeId × List Value), i ≠ j → rows[i]? = some r → rows[j]? = some s → r.1.ownBlock = none ∨ r.1.ownBlock ≠ s.1.ownBlock

section
variable {base : Nat} {w w' : World} {rows : List (Value × TypeId × List Value)}
theorem Rws.start (h : base ≤ w.heap.size) (hr : ∀ r ∈ rows, r.1 = .slice none 0 0 ∧ r.2.2 = []) : Rws base w rows := by
  refine ⟨h, fun i r hi => ?_, fun i j r s _ hi _ => .inl ?_⟩
  · obtain ⟨h1, h2⟩ := hr r (List.mem_of_getElem? hi)
    rw [h1, h2]
    exact World.ownsRow_nil w base _ 1
  · rw [(hr r (List.mem_of_getElem? hi)).1]; rfl
theorem Rws.keep (h : Rws base w rows) (hb : Below w.heap.size w w') : Rws base w' rows := by
  refine ⟨Nat.le_trans h.low hb.size, fun i r hi => ?_, h.apart⟩
  have ho := h.own i r hi
  refine ⟨ho.1, ?_⟩
  rcases ho.2 with hn | ⟨g, cap, cur, hv, hg, hh, rest⟩
  · exact .inl hn
  · refine .inr ⟨g, cap, cur, hv, hg, ?_, rest⟩
    rw [hb.block g (Array.getElem?_eq_some_iff.1 hh).1]
    exact hh
theorem Rws.drew (h : Rws base w rows) : Rws base w.drew rows := h.keep ((Below.refl _ _).drew)
theorem Rws.set (h : Rws base w rows) {k : Nat} {v : Value} {e : TypeId} {xs : List Value} (hk : rows[k]? = some (v, e, xs)) {v' : Value} {e' : TypeId} {ys : List Value}
    (ho : w'.ownsRow base e' 1 v' ys.length ys) (hg : w.grownBy w' v.ownBlock) (hv : v'.ownBlock = v.ownBlock ∨ v'.ownBlock = some w.heap.size) : Rws base w' (rows.set k (v', e', ys)) := by
  have hkl : k < rows.length := (List.getElem?_eq_some_iff.1 hk).1
  have old : ∀ i r, i ≠ k → (rows.set k (v', e', ys))[i]? = some r → rows[i]? = some r := fun i r hne hi => by rwa [List.getElem?_set_ne (Ne.symm hne)] at hi
  have new : ∀ r, (rows.set k (v', e', ys))[k]? = some r → r = (v', e', ys) := fun r hi => by
    rw [List.getElem?_set_self hkl] at hi
    exact (Option.some.inj hi).symm
  have sep : ∀ i r, i ≠ k → rows[i]? = some r → r.1.ownBlock = none ∨ r.1.ownBlock ≠ v'.ownBlock := fun i r hne hi => by
    rcases hv with e1 | e1
    · rw [e1]; exact h.apart i k r _ hne hi hk
    · cases hb : r.1.ownBlock with
      | none => exact .inl rfl
      | some g =>
        have := ((h.own i r hi).lt g hb).2
        refine .inr fun hh => ?_
        rw [e1] at hh
        injection hh with hh
        omega
  refine ⟨Nat.le_trans h.low hg.size, fun i r hi => ?_, fun i j r s hij hi hj => ?_⟩
  · by_cases hik : i = k
    · subst hik; rw [new r hi]; exact ho
    · exact (h.own i r (old i r hik hi)).kept hg (h.apart i k r _ hik (old i r hik hi) hk)
  · by_cases hik : i = k
    · subst hik
      have hs := old j s (Ne.symm hij) hj
      rw [new r hi]
      rcases sep j s (Ne.symm hij) hs with h0 | h0
      · cases hb : v'.ownBlock with
        | none => exact .inl rfl
        | some g => exact .inr (by rw [h0]; simp)
      · exact .inr (Ne.symm h0)
    · by_cases hjk : j = k
      · subst hjk; rw [new s hj]; exact sep i r hik (old i r hik hi)
      · exact h.apart i j r s hij (old i r hik hi) (old j s hjk hj)
/-- A row is laid in a new block. -/
theorem Rws.build (h : Rws base w rows) {k : Nat} {e0 : TypeId} {xs : List Value} (hk : rows[k]? = some (.slice none 0 0, e0, xs)) (ys : List Value) (n : Nat) (hn : n = ys.length) (hm : n ≤ maxLen) (e : TypeId) :
    Rws base (w.alloc (.cells ys.toArray e)) (rows.set k (.slice (some ⟨w.heap.size, 0, none⟩) n n, e, ys)) := by
  subst hn
  refine h.set hk ?_ (World.grownBy_alloc w _ _) (.inr rfl)
  exact ⟨by simp, .inr ⟨w.heap.size, ys.length, ys.toArray, rfl, h.low, heap_alloc_new w _, Nat.le_refl _, hm, by simp, by simp⟩⟩
theorem Rws.row (h : Rws base w rows) (k : Nat) {v : Value} {e : TypeId} {xs : List Value} (hk : rows[k]? = some (v, e, xs)) : w.ownsRow base e 1 v xs.length xs := h.own k _ hk
end

/-- 's = append(s, x...)', both rows of the call's own. -/
theorem push_rws {P : Program} {w : World} {ops : Array Oper} {rest : List Oper} {o : Oper} {a : Act} {Q : Exit → Act → World → Prop} (hgd : o.guard = none) (s x : Operand) (t : TypeId)
    (ho : o.op = .call { callee := .builtin .append, args := #[s, x], argTypes := #[t, t] })
    (base : Nat) (e : TypeId) (z : Value) (bytes : Nat) (ht : P.underlying t = some (.slice e)) (hinfo : (P.info? e).map (fun i => (i.zero, i.size, i.bytes)) = some (some z, 1, bytes)) (hzs : z.cells.size = 1)
    (k j : Nat) (rows : List (Value × TypeId × List Value)) (hR : Rws base w rows) (v : Value) (xs : List Value) (hk : rows[k]? = some (v, e, xs)) (u : Value) (ys : List Value) (hj : rows[j]? = some (u, e, ys)) (hys : ys ≠ [])
    (hs : a.eval s = v) (hx : a.eval x = u) (h1 : ∀ y ∈ ys, y.oneCell' = true) (h63 : xs.length + ys.length ≤ maxLen) (hlen : (xs.length + ys.length) * bytes ≤ 140737488355328)
    (h : ∀ v' w', Rws base w' (rows.set k (v', e, xs ++ ys)) → Below base w w' → wpList P ops Q rest (a.put o.dst v') w') : wpList P ops Q (o :: rest) a w := by
  obtain ⟨i0, hi, hz0, hz1, hz2⟩ := info_parts hinfo
  have hpos : 0 < ys.length := List.length_pos_iff.2 hys
  obtain ⟨g, cap, hu, _, _⟩ := (hR.row j hj).form hpos
  have hcells := (hR.row j hj).cells (g := g) (by rw [hu]; rfl)
  refine wpList_append_own_at _ hgd s x t ho base e i0 z 1 bytes ht hi hz0 hz1 hz2 hzs (by decide) v xs.length xs hs (hR.row k hk) ⟨g, 0, none⟩ ys.length cap ys (by rw [hx, hu]) (by simp) hcells h1 h63 hlen hR.low ?_
  intro v' w' h2 h3 _ h5
  have hl : (xs ++ ys).length = xs.length + ys.length := List.length_append
  refine h v' w' (hR.set hk (by rw [hl]; exact h2) h3 h5) ((Below.refl _ _).grown h3 hR.low fun _ hb => ((hR.row k hk).lt _ hb).1)
/-- One more row, that holds nothing yet. -/
theorem Rws.more {base : Nat} {w : World} {rows : List (Value × TypeId × List Value)} (h : Rws base w rows) (e : TypeId) : Rws base w (rows ++ [(.slice none 0 0, e, [])]) := by
  have old : ∀ i r, (rows ++ [(Value.slice none 0 0, e, ([] : List Value))])[i]? = some r → rows[i]? = some r ∨ (i = rows.length ∧ r = (.slice none 0 0, e, [])) := fun i r hi => by
    rcases Nat.lt_or_ge i rows.length with hl | hl
    · rw [List.getElem?_append_left hl] at hi; exact .inl hi
    · rw [List.getElem?_append_right hl] at hi
      have h0 : i - rows.length = 0 := by
        rcases Nat.eq_zero_or_pos (i - rows.length) with h0 | h0
        · exact h0
        · rw [List.getElem?_eq_none (by simp; omega)] at hi; cases hi
      rw [h0] at hi
      exact .inr ⟨by omega, (Option.some.inj hi).symm⟩
  refine ⟨h.low, fun i r hi => ?_, fun i j r s hij hi hj => ?_⟩
  · rcases old i r hi with h1 | ⟨_, rfl⟩
    · exact h.own i r h1
    · exact World.ownsRow_nil w base _ 1
  · rcases old i r hi with h1 | ⟨_, rfl⟩
    · rcases old j s hj with h2 | ⟨_, rfl⟩
      · exact h.apart i j r s hij h1 h2
      · cases hb : r.1.ownBlock with
        | none => exact .inl rfl
        | some g => exact .inr (by simp [Value.ownBlock])
    · exact .inl rfl
/-- A block that was laid behind all rows is a row, too. -/
theorem Rws.take_in {base : Nat} {w w' : World} {rows : List (Value × TypeId × List Value)} (h : Rws base w rows) (hb : Below w.heap.size w w') {L : List Value} {t : TypeId} (hg : Blk w' w.heap.size L t) (hm : L.length ≤ maxLen) :
    Rws base w' (rows ++ [(.slice (some ⟨w.heap.size, 0, none⟩) L.length L.length, t, L)]) := by
  have h' := h.keep hb
  have old : ∀ i r, (rows ++ [(Value.slice (some ⟨w.heap.size, 0, none⟩) L.length L.length, t, L)])[i]? = some r → rows[i]? = some r ∨ (i = rows.length ∧ r = (.slice (some ⟨w.heap.size, 0, none⟩) L.length L.length, t, L)) := fun i r hi => by
    rcases Nat.lt_or_ge i rows.length with hl | hl
    · rw [List.getElem?_append_left hl] at hi; exact .inl hi
    · rw [List.getElem?_append_right hl] at hi
      have h0 : i - rows.length = 0 := by
        rcases Nat.eq_zero_or_pos (i - rows.length) with h0 | h0
        · exact h0
        · rw [List.getElem?_eq_none (by simp; omega)] at hi; cases hi
      rw [h0] at hi
      exact .inr ⟨by omega, (Option.some.inj hi).symm⟩
  have sep : ∀ (i : Nat) (r : Value × TypeId × List Value), rows[i]? = some r → r.1.ownBlock = none ∨ r.1.ownBlock ≠ some w.heap.size := fun i r hi => by
    cases hb : r.1.ownBlock with
    | none => exact .inl rfl
    | some g =>
      have := ((h.own i r hi).lt g hb).2
      exact .inr fun hh => by injection hh with hh; omega
  refine ⟨h'.low, fun i r hi => ?_, fun i j r s hij hi hj => ?_⟩
  · rcases old i r hi with h1 | ⟨_, rfl⟩
    · exact h'.own i r h1
    · exact ⟨by simp, .inr ⟨w.heap.size, L.length, L.toArray, rfl, h.low, hg, Nat.le_refl _, hm, by simp, by simp⟩⟩
  · rcases old i r hi with h1 | ⟨hi2, rfl⟩
    · rcases old j s hj with h2 | ⟨_, rfl⟩
      · exact h.apart i j r s hij h1 h2
      · exact sep i r h1
    · rcases old j s hj with h2 | ⟨hj2, rfl⟩
      · rcases sep j s h2 with h0 | h0
        · exact .inr (by rw [h0]; simp [Value.ownBlock])
        · exact .inr (Ne.symm h0)
      · omega
theorem Rws.front {base : Nat} {w : World} {rows extra : List (Value × TypeId × List Value)} (h : Rws base w (rows ++ extra)) : Rws base w rows := by
  have old : ∀ i r, rows[i]? = some r → (rows ++ extra)[i]? = some r := fun i r hi => by rw [List.getElem?_append_left (List.getElem?_eq_some_iff.1 hi).1]; exact hi
  exact ⟨h.low, fun i r hi => h.own i r (old i r hi), fun i j r s hij hi hj => h.apart i j r s hij (old i r hi) (old j s hj)⟩
theorem Rws.cell {base : Nat} {w : World} {rows : List (Value × TypeId × List Value)} (h : Rws base w rows) (k : Nat) {g n c : Nat} {e : TypeId} {xs : List Value} (hk : rows[k]? = some (.slice (some ⟨g, 0, none⟩) n c, e, xs)) (j : Nat) {u : Value} (hj : xs[j]? = some u) : w.cell? ⟨g, j, none⟩ = some u := by
  have := (h.row k hk).cells (g := g) rfl j u hj
  rwa [show (⟨g, 0, none⟩ : Addr).add j = ⟨g, j, none⟩ by unfold Addr.add; split <;> simp_all] at this
theorem Rws.lower {base base' : Nat} {w : World} {rows : List (Value × TypeId × List Value)} (h : Rws base w rows) (hb : base' ≤ base) : Rws base' w rows := by
  refine ⟨Nat.le_trans hb h.low, fun i r hi => ?_, h.apart⟩
  have ho := h.own i r hi
  refine ⟨ho.1, ?_⟩
  rcases ho.2 with hn | ⟨g, cap, cur, hv, hg, rest⟩
  · exact .inl hn
  · exact .inr ⟨g, cap, cur, hv, Nat.le_trans hb hg, rest⟩
/-- A slice of one element of one cell. -/
theorem run_buildSlice_cell {P : Program} (w : World) (t e : TypeId) (i : TypeInfo) (z : Value) (ht : P.underlying t = some (.slice e)) (hi : P.info? e = some i) (hz : i.zero = some z) (hs : i.size = 1) (u : Value) (hu : u.cells = #[u]) :
    (Instr.buildSlice t 1 #[(0, u)]).run P w = .ok (.slice (some ⟨w.heap.size, 0, none⟩) 1 1) (w.alloc (.cells #[u] e)) := by
  simp only [Instr.buildSlice, Sem.run_bind, run_underlying ht, Result.andThen_ok, sizeOf, typeInfo, zeroValue]
  simp [Instr.fill, newRow, hi, hs, hz, hu, Array.zipIdx, show Array.range 1 = #[0] from by decide]
/-- '[]T{x}', laid into a row that is still empty. -/
theorem build_rws {P : Program} {w : World} {ops : Array Oper} {rest : List Oper} {o : Oper} {a : Act} {Q : Exit → Act → World → Prop} (hgd : o.guard = none) (x : Operand) (t : TypeId)
    (ho : o.op = .buildSlice t 1 #[(0, x)]) (base : Nat) (e : TypeId) (z : Value) (bytes : Nat) (ht : P.underlying t = some (.slice e)) (hinfo : (P.info? e).map (fun i => (i.zero, i.size, i.bytes)) = some (some z, 1, bytes))
    (k : Nat) (rows : List (Value × TypeId × List Value)) (hR : Rws base w rows) (e0 : TypeId) (xs : List Value) (hk : rows[k]? = some (.slice none 0 0, e0, xs)) (u : Value) (hx : a.eval x = u) (hu : u.cells = #[u])
    (h : ∀ v' w', Rws base w' (rows.set k (v', e, [u])) → Below w.heap.size w w' → wpList P ops Q rest (a.put o.dst v') w') : wpList P ops Q (o :: rest) a w := by
  obtain ⟨i0, hi, hz0, hz1, hz2⟩ := info_parts hinfo
  refine wpList_buildSlice_one hgd t x ho u _ hx (run_buildSlice_cell w t e i0 z ht hi hz0 hz1 u hu) ?_
  exact h _ _ (hR.build hk [u] 1 rfl (by decide) e) ((Below.refl _ _).alloc (Nat.le_refl _) _)
end Go.Proofs.Ytbkgbjimooobbaa
