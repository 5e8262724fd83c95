/-
  Contracts of stage 5: reduce.
-/
import Derived.Test.YtcnljemnkhmfcaaDoorMs
import Derived.WalkMore
import Derived.Test.YtcnljemnkhmfcaaDoorRws
import Derived.Deep.CutRange
namespace Go.Proofs.YtcnljemnkhmfcaaDoor
set_option linter.unusedVariables false
set_option linter.unusedSimpArgs false
open Go.RowKit

def pv (p : Nat) : Value := .int .i64 (p : Int)
theorem infoInt : (Tryd.prog.info? 3).map (fun i => (i.zero, i.size, i.bytes)) = some (some (.int .i64 0), 1, 8) := by kernel_rfl
/-- The pivots are a row of the call's own. -/
def OwnP (w : World) (base : Nat) (v : Value) (l : List Nat) : Prop := w.ownsRow base 3 1 v l.length (l.map pv)
theorem ownP_nil (w : World) (base : Nat) : OwnP w base (.slice none 0 0) [] := World.ownsRow_nil w base _ _
theorem OwnP.kept {w w' : World} {base : Nat} {v : Value} {l : List Nat} (h : OwnP w base v l) (hb : ∀ b, v.ownBlock = some b → b < w.heap.size → w'.heap[b]? = w.heap[b]?) : OwnP w' base v l := by
  refine ⟨h.1, ?_⟩
  rcases h.2 with hn | ⟨g, cap, cur, hv, hg, hh, rest⟩
  · exact .inl hn
  · exact .inr ⟨g, cap, cur, hv, hg, by rw [hb g (by rw [hv]; rfl) (Array.getElem?_eq_some_iff.1 hh).1]; exact hh, rest⟩
theorem OwnP.chg {w w' : World} {base : Nat} {v : Value} {l : List Nat} {gs : List Nat} (h : OwnP w base v l) (hc : Chg gs w w') (hg : ∀ x ∈ gs, x < base) : OwnP w' base v l :=
  h.kept fun b hb hlt => hc.block b hlt (fun hh => by have := hg b hh; have := (World.ownsRow.lt h b hb).1; omega)
/-- 'l = append(l, x)', x a number, l the call's own. -/
theorem push_piv {w0 : World} {ops : Array Oper} {rest : List Oper} {o : Oper} {a : Act} {Q : Exit → Act → World → Prop} (hgd : o.guard = none) (s x : Operand)
    (ho : o.op = .call { callee := .builtin .append, args := #[s, x], argTypes := #[60, 60] })
    (base : Nat) (v : Value) (l : List Nat) (b : Nat) (u : Value) (hu : u = pv b) (hs : a.eval s = v) (hx : a.eval x = .slice (some ⟨w0.heap.size, 0, none⟩) 1 1)
    (hown : OwnP w0 base v l) (hlen : l.length ≤ 1000000) (hbase : base ≤ w0.heap.size)
    (h : ∀ v' w', OwnP w' base v' (l ++ [b]) → w0.grownBy w' v.ownBlock → wpList Tryd.prog ops Q rest (a.put o.dst v') w') :
    wpList Tryd.prog ops Q (o :: rest) a (w0.alloc (.cells #[u] 3)) := by
  subst hu
  obtain ⟨i0, hi, hz0, hz1, hz2⟩ := info_parts infoInt
  refine wpList_push hgd s x 60 ho base 3 i0 (.int .i64 0) 8 Tryd.underlying60 hi hz0 hz1 hz2 rfl v l.length (l.map pv) (pv b) hs hx rfl hown (by omega) (by unfold maxLen; omega) hbase ?_
  intro v' w' h1 h2
  exact h v' w' (by unfold OwnP; simpa using h1) h2.1

/-- What reduce ends with. -/
def RedEnd (w : World) (base g : Nat) (bs : List Nat) (M : List (List UInt8)) (n : Nat) (e : Ending) (w' : World) : Prop :=
  ∃ vp bs', e = .returned vp ∧ OwnP w' w.heap.size vp (red M n).2 ∧ Om w' base g bs' (red M n).1 [] ∧ bs'.Perm bs ∧ Chg (g :: bs) w w'

end Go.Proofs.YtcnljemnkhmfcaaDoor
