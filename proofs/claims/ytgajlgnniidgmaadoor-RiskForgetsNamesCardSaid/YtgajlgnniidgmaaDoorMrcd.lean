/-
  Contracts of stage 5: rows that are appended; the reference's Transpose. Contracts of stage 5: the reference's Combine.
-/
import Derived.Test.YtgajlgnniidgmaaDoorMrb
import Derived.Test.YtgajlgnniidgmaaDoorMyv
namespace Go.Proofs.YtgajlgnniidgmaaDoor
set_option linter.unusedVariables false
set_option linter.unusedSimpArgs false
open Go.RowKit

theorem Rds.apart {w w' : World} {A : Option Addr} {xs : List Value} {row : Option Nat} (h : Rds w w.heap.size A xs) (hg : w.grownBy w' row) (hne : ∀ ad, A = some ad → row ≠ some ad.block) : Rds w' w'.heap.size A xs := fun hn => by
  obtain ⟨ad, e, hb, hc⟩ := h hn
  refine ⟨ad, e, Nat.lt_of_lt_of_le hb hg.size, fun j u hu => ?_⟩
  have := hc j u hu
  rw [← this]
  exact World.cell?_of_block (hg.block _ (by rw [add_block]; exact hb) (by rw [add_block]; exact fun hh => hne ad e hh.symm))
/-- A row that is read, whose block is another one. -/
def RowOff (x : Nat) (w : World) (row : Option Nat) (u : Value) (m : List UInt8) : Prop :=
  ∃ a c, u = .slice a m.length c ∧ m.length ≤ c ∧ c ≤ maxLen ∧ (a = none → c = 0) ∧ Rds w w.heap.size a (m.map bv) ∧ ∀ ad, a = some ad → row ≠ some ad.block ∧ ad.block < w.heap.size ∧ ad.block ≠ x
/-- Rows anywhere, whose slices are a row of the call's own that grows. -/
def OwnQ (x : Nat) (w : World) (base : Nat) (v : Value) (K : List (List UInt8)) : Prop :=
  ∃ vs : List Value, vs.length = K.length ∧ w.ownsRow base 52 1 v K.length vs ∧ ∀ (i : Nat) (u : Value) (m : List UInt8), vs[i]? = some u → K[i]? = some m → RowOff x w v.ownBlock u m
theorem ownQ_nil (x : Nat) (w : World) (base : Nat) : OwnQ x w base (.slice none 0 0) [] := ⟨[], rfl, World.ownsRow_nil w base _ _, fun i u m hu => by simp at hu⟩
theorem RowOff.below {x : Nat} {w w' : World} {row : Option Nat} {u : Value} {m : List UInt8} (h : RowOff x w row u m) (hb : Below w.heap.size w w') : RowOff x w' row u m := by
  obtain ⟨a, c, e1, e2, e3, e4, e5, e6⟩ := h
  exact ⟨a, c, e1, e2, e3, e4, (e5.below hb).more hb.size, fun ad ha => ⟨(e6 ad ha).1, Nat.lt_of_lt_of_le (e6 ad ha).2.1 hb.size, (e6 ad ha).2.2⟩⟩
theorem OwnQ.keep {x : Nat} {w w' : World} {base : Nat} {v : Value} {K : List (List UInt8)} (h : OwnQ x w base v K) (hb : Below w.heap.size w w') : OwnQ x w' base v K := by
  obtain ⟨vs, h1, h2, h3⟩ := h
  refine ⟨vs, h1, ⟨h2.1, ?_⟩, fun i u m hu hm => (h3 i u m hu hm).below hb⟩
  rcases h2.2 with hn | ⟨g, cap, cur, hv, hg, hh, rest⟩
  · exact .inl hn
  · exact .inr ⟨g, cap, cur, hv, hg, by rw [hb.block g (Array.getElem?_eq_some_iff.1 hh).1]; exact hh, rest⟩
theorem OwnQ.mat {x : Nat} {w : World} {base : Nat} {v : Value} {K : List (List UInt8)} (h : OwnQ x w base v K) : ∃ A c, v = .slice A K.length c ∧ K.length ≤ c ∧ c ≤ maxLen ∧ (A = none → c = 0) ∧ Mat w w.heap.size A K := by
  obtain ⟨vs, h1, h2, h3⟩ := h
  obtain ⟨A, c, hv, g1, g2, g3, g4⟩ := own_form h2
  refine ⟨A, c, hv, g1, g2, g3, vs, h1, g4, fun i u m hu hm => ?_⟩
  obtain ⟨a, c, e1, e2, e3, e4, e5, _⟩ := h3 i u m hu hm
  exact ⟨a, c, e1, e2, e3, e4, e5⟩
/-- 'k = append(k, row)', k the call's own, row in another block. -/
theorem push_q {y : Nat} {w0 : World} {ops : Array Oper} {rest : List Oper} {o : Oper} {a : Act} {Q : Exit → Act → World → Prop} (hgd : o.guard = none) (s x : Operand)
    (ho : o.op = .call { callee := .builtin .append, args := #[s, x], argTypes := #[84, 84] })
    (base : Nat) (v : Value) (K : List (List UInt8)) (m : List UInt8) (u : Value) (hs : a.eval s = v) (hx : a.eval x = .slice (some ⟨w0.heap.size, 0, none⟩) 1 1)
    (hown : OwnQ y w0 base v K) (hrow : RowOff y w0 v.ownBlock u m) (hlen : K.length ≤ 1000000) (hbase : base ≤ w0.heap.size)
    (h : ∀ v' w', OwnQ y w' base v' (K ++ [m]) → Below base w0 w' → w0.grownBy w' v.ownBlock → wpList Tryd.prog ops Q rest (a.put o.dst v') w') :
    wpList Tryd.prog ops Q (o :: rest) a (w0.alloc (.cells #[u] 52)) := by
  obtain ⟨vs, h1, h2, h3⟩ := hown
  obtain ⟨i0, hi, hz0, hz1, hz2⟩ := info_parts infoRow
  refine wpList_push hgd s x 84 ho base 52 i0 (.slice none 0 0) 24 Tryd.underlying84 hi hz0 hz1 hz2 rfl v K.length vs u hs hx (by obtain ⟨_, _, rfl, _⟩ := hrow; rfl) h2 (by omega) (by unfold maxLen; omega) hbase ?_
  intro v' w' g1 g2
  have hnew : ∀ b, b < w0.heap.size → v.ownBlock ≠ some b → v'.ownBlock ≠ some b := fun b hb hv => by
    rcases g2.2 with e | e
    · rw [e]; exact hv
    · obtain ⟨k, hk1, hk2⟩ := e
      rw [hk1]
      intro hh
      have := Option.some.inj hh
      omega
  have hmove : ∀ (u : Value) (mm : List UInt8), RowOff y w0 v.ownBlock u mm → RowOff y w' v'.ownBlock u mm := fun u mm hh => by
    obtain ⟨a, c, e1, e2, e3, e4, e5, e6⟩ := hh
    exact ⟨a, c, e1, e2, e3, e4, e5.apart g2.1 (fun ad ha => (e6 ad ha).1), fun ad ha => ⟨hnew _ (e6 ad ha).2.1 (e6 ad ha).1, Nat.lt_of_lt_of_le (e6 ad ha).2.1 g2.1.size, (e6 ad ha).2.2⟩⟩
  refine h v' w' ⟨vs ++ [u], by simp [h1], by rw [List.length_append]; exact g1, fun i u' mm hu hm => ?_⟩ (g2.below h2 hbase) g2.1
  rcases Nat.lt_or_ge i vs.length with hl | hl
  · rw [List.getElem?_append_left hl] at hu
    rw [List.getElem?_append_left (by rw [← h1]; exact hl)] at hm
    exact hmove _ _ (h3 i u' mm hu hm)
  · rw [List.getElem?_append_right hl] at hu
    rw [List.getElem?_append_right (by rw [← h1]; exact hl), ← h1] at hm
    have h0 : i - vs.length = 0 := by
      rcases Nat.eq_zero_or_pos (i - vs.length) with h0 | h0
      · exact h0
      · rw [List.getElem?_eq_none (by simp; omega)] at hu; cases hu
    rw [h0] at hu hm
    obtain rfl := Option.some.inj hu
    obtain rfl := Option.some.inj hm
    exact hmove _ _ hrow
/-- A row of bytes of the call's own, made after v. -/
theorem own_off {x : Nat} {w0 w : World} {base : Nat} {v u : Value} {K : List (List UInt8)} {m : List UInt8} (hu : OwnB w w0.heap.size u m) (hv : OwnQ x w0 base v K) (hx : x < w0.heap.size) : RowOff x w v.ownBlock u m := by
  obtain ⟨A, c, e1, e2, e3, e4, e5⟩ := own_form hu
  have hl : m.length = m.length := rfl
  refine ⟨A, c, e1, e2, e3, e4, e5, fun ad ha => ?_⟩
  subst e1
  subst ha
  obtain ⟨vs, g1, g2, g3⟩ := hv
  rcases hu.2 with ⟨hn, _⟩ | ⟨g, cap, cur, hvv, hg, hh, _⟩
  · cases hn
  · cases hvv
    refine ⟨fun hh2 => ?_, (Array.getElem?_eq_some_iff.1 hh).1, fun hx2 => ?_⟩
    · have : g < w0.heap.size := (g2.lt g hh2).2
      omega
    · have : g = x := hx2
      omega
theorem OwnQ.only {x : Nat} {w w' : World} {base : Nat} {v : Value} {K : List (List UInt8)} (h : OwnQ x w base v K) (ho : Only x w w') (hx : x < base) : OwnQ x w' base v K := by
  obtain ⟨vs, h1, h2, h3⟩ := h
  have hg : w.grownBy w' (some x) := ⟨ho.os, ho.tape, ho.output, Nat.le_of_eq ho.size.symm, fun k _ hk => ho.block k (fun e => hk (by rw [e]))⟩
  refine ⟨vs, h1, ⟨h2.1, ?_⟩, fun i u m hu hm => ?_⟩
  · rcases h2.2 with hn | ⟨g, cap, cur, hv, hgb, hh, rest⟩
    · exact .inl hn
    · exact .inr ⟨g, cap, cur, hv, hgb, by rw [hg.block g (Array.getElem?_eq_some_iff.1 hh).1 (fun e => by have := Option.some.inj e; omega)]; exact hh, rest⟩
  · obtain ⟨a, c, e1, e2, e3, e4, e5, e6⟩ := h3 i u m hu hm
    exact ⟨a, c, e1, e2, e3, e4, e5.apart hg (fun ad ha hh => (e6 ad ha).2.2 (Option.some.inj hh).symm), fun ad ha => ⟨(e6 ad ha).1, Nat.lt_of_lt_of_le (e6 ad ha).2.1 hg.size, (e6 ad ha).2.2⟩⟩

theorem made_one (A : Option Addr) (n c : Nat) (z : Int) : ∀ u ∈ [Value.slice A n c, Value.int .i64 z], u.oneCell' = true := by
  intro u hu
  simp only [List.mem_cons, List.not_mem_nil, or_false] at hu
  rcases hu with rfl | rfl <;> rfl
/-- A matrix, or an error. -/
def MadeEnd (w : World) (T : List (List UInt8)) (E : Int) (e : Ending) (w' : World) : Prop :=
  (∃ A c, e = .returned (.agg #[.slice A T.length c, .int .i64 E]) ∧ T.length ≤ c ∧ c ≤ maxLen ∧ (A = none → c = 0) ∧ Mat w' w'.heap.size A T) ∧ Below w.heap.size w w'

end Go.Proofs.YtgajlgnniidgmaaDoor

namespace Go.Proofs.YtgajlgnniidgmaaDoor
set_option linter.unusedVariables false
set_option linter.unusedSimpArgs false
open Go.RowKit

/-- A row that was made after a block. -/
def NewRow (base : Nat) (w : World) (u : Value) (m : List UInt8) : Prop :=
  ∃ a c, u = .slice a m.length c ∧ m.length ≤ c ∧ c ≤ maxLen ∧ (a = none → c = 0) ∧ Rds w w.heap.size a (m.map bv) ∧ ∀ ad, a = some ad → base ≤ ad.block ∧ ad.block < w.heap.size
theorem NewRow.of {base : Nat} {w : World} {u : Value} {m : List UInt8} (hu : OwnB w base u m) : NewRow base w u m := by
  obtain ⟨A, c, e1, e2, e3, e4, e5⟩ := own_form hu
  refine ⟨A, c, e1, e2, e3, e4, e5, fun ad ha => ?_⟩
  subst e1
  subst ha
  rcases hu.2 with ⟨hn, _⟩ | ⟨g, cap, cur, hvv, hg, hh, _⟩
  · cases hn
  · cases hvv
    exact ⟨hg, (Array.getElem?_eq_some_iff.1 hh).1⟩
theorem NewRow.lower {base base' : Nat} {w : World} {u : Value} {m : List UInt8} (h : NewRow base w u m) (hb : base' ≤ base) : NewRow base' w u m := by
  obtain ⟨a, c, e1, e2, e3, e4, e5, e6⟩ := h
  exact ⟨a, c, e1, e2, e3, e4, e5, fun ad ha => ⟨Nat.le_trans hb (e6 ad ha).1, (e6 ad ha).2⟩⟩
theorem NewRow.below {base : Nat} {w w' : World} {u : Value} {m : List UInt8} (h : NewRow base w u m) (hb : Below w.heap.size w w') : NewRow base w' u m := by
  obtain ⟨a, c, e1, e2, e3, e4, e5, e6⟩ := h
  exact ⟨a, c, e1, e2, e3, e4, (e5.below hb).more hb.size, fun ad ha => ⟨(e6 ad ha).1, Nat.lt_of_lt_of_le (e6 ad ha).2 hb.size⟩⟩
theorem NewRow.off {x : Nat} {w0 w : World} {base : Nat} {v u : Value} {K : List (List UInt8)} {m : List UInt8} (hu : NewRow w0.heap.size w u m) (hv : OwnQ x w0 base v K) (hx : x < w0.heap.size) : RowOff x w v.ownBlock u m := by
  obtain ⟨a, c, e1, e2, e3, e4, e5, e6⟩ := hu
  obtain ⟨vs, g1, g2, g3⟩ := hv
  refine ⟨a, c, e1, e2, e3, e4, e5, fun ad ha => ⟨fun hh => ?_, (e6 ad ha).2, fun hh => ?_⟩⟩
  · have := (g2.lt _ hh).2; have := (e6 ad ha).1; omega
  · have := (e6 ad ha).1; omega

/-- The sum of multiples of the first k rows, one after the other. -/
def comR (coef : List UInt8) (rows : List (List UInt8)) (n k : Nat) : List UInt8 := ((List.zip coef rows).take k).foldl (fun s p => addR p.1 p.2 s) (List.replicate n 0)
theorem comR_len (coef : List UInt8) (rows : List (List UInt8)) (n k : Nat) : (comR coef rows n k).length = n := by
  unfold comR
  have : ∀ (L : List (UInt8 × List UInt8)) (s : List UInt8), s.length = n → (L.foldl (fun s p => addR p.1 p.2 s) s).length = n := fun L => by
    induction L with
    | nil => exact fun s hs => hs
    | cons p L ih => exact fun s hs => ih _ (by rw [addR_len]; exact hs)
  exact this _ _ (by simp)
theorem comR_next {coef : List UInt8} {rows : List (List UInt8)} {n k : Nat} {x : UInt8} {p : List UInt8} (hx : coef[k]? = some x) (hp : rows[k]? = some p) : comR coef rows n (k + 1) = addR x p (comR coef rows n k) := by
  have hz : (List.zip coef rows)[k]? = some (x, p) := by rw [List.getElem?_zip_eq_some]; exact ⟨hx, hp⟩
  unfold comR
  rw [take_snoc hz, List.foldl_append]
  rfl

end Go.Proofs.YtgajlgnniidgmaaDoor
