/-
  Rows that change places; what a call changes of what was there; the closures of reduce. Contracts of stage 5: reduce. Contracts of stage 5: Reduce, Rank.
-/
import Derived.Test.YtgajlgnniidgmaaDoorRed
import Derived.Test.YtgajlgnniidgmaaDoorMw
import Derived.Test.YtgajlgnniidgmaaDoorRg
import Derived.Test.YtgajlgnniidgmaaDoorGfw
import Derived.Deep.QuietTactic
import Derived.BigQuiet
import Derived.WalkMore
import Derived.Test.YtgajlgnniidgmaaDoorRws
import Derived.Deep.CutRange
namespace Go.Proofs.YtgajlgnniidgmaaDoor
set_option linter.unusedVariables false
set_option linter.unusedSimpArgs false
open Go.RowKit

theorem swp_perm {α : Type} {l : List α} {i j : Nat} {a b : α} (hi : l[i]? = some a) (hj : l[j]? = some b) : (swp l i j a b).Perm l := by
  obtain ⟨h1, rfl⟩ := List.getElem?_eq_some_iff.1 hi
  obtain ⟨h2, rfl⟩ := List.getElem?_eq_some_iff.1 hj
  exact List.set_set_perm h1 h2
theorem swp_get {α : Type} {l : List α} {i j : Nat} {a b : α} (hi : l[i]? = some a) (hj : l[j]? = some b) (k : Nat) : (swp l i j a b)[k]? = if k = j then some a else if k = i then some b else l[k]? := by
  have h1 := (List.getElem?_eq_some_iff.1 hi).1
  have h2 := (List.getElem?_eq_some_iff.1 hj).1
  unfold swp
  by_cases hkj : k = j
  · subst hkj
    rw [if_pos rfl, List.getElem?_set_self (by rw [List.length_set]; exact h2)]
  · rw [if_neg hkj, List.getElem?_set_ne (Ne.symm hkj)]
    by_cases hki : k = i
    · subst hki
      rw [if_pos rfl, List.getElem?_set_self h1]
    · rw [if_neg hki, List.getElem?_set_ne (Ne.symm hki)]
theorem rvals_swp {bs : List Nat} {M : List (List UInt8)} {i j bi bj : Nat} {mi mj : List UInt8} (hl : bs.length = M.length) (hbi : bs[i]? = some bi) (hbj : bs[j]? = some bj) (hmi : M[i]? = some mi) (hmj : M[j]? = some mj) :
    ((rvals bs M).set i (.slice (some ⟨bj, 0, none⟩) mj.length mj.length)).set j (.slice (some ⟨bi, 0, none⟩) mi.length mi.length) = rvals (swp bs i j bi bj) (swp M i j mi mj) := by
  apply List.ext_getElem?
  intro k
  have e := swp_get (rvals_get hbi hmi) (rvals_get hbj hmj) k
  unfold swp at e
  rw [e]
  unfold rvals
  rw [List.getElem?_zipWith, List.getElem?_zipWith, swp_get hbi hbj, swp_get hmi hmj]
  by_cases h1 : k = j
  · simp [h1]
  · by_cases h2 : k = i
    · simp [h1, h2]
      by_cases h3 : i = j
      · exact absurd (h2.trans h3) h1
      · simp [h3]
    · simp [h1, h2]
/-- Nothing that was there has changed but the blocks of a list. -/
structure Chg (gs : List Nat) (w w' : World) : Prop where
  os : w'.os = w.os
  tape : w'.tape = w.tape
  output : w'.output = w.output
  size : w.heap.size ≤ w'.heap.size
  block : ∀ k, k < w.heap.size → k ∉ gs → w'.heap[k]? = w.heap[k]?
section
variable {w w' w2 : World} {base g : Nat} {bs gs : List Nat} {M : List (List UInt8)} {rest : List Value}
theorem Chg.refl (gs : List Nat) (w : World) : Chg gs w w := ⟨rfl, rfl, rfl, Nat.le_refl _, fun _ _ _ => rfl⟩
theorem Chg.trans (h : Chg gs w w') (k : Chg gs w' w2) : Chg gs w w2 :=
  ⟨k.os.trans h.os, k.tape.trans h.tape, k.output.trans h.output, Nat.le_trans h.size k.size, fun i hi hn => (k.block i (Nat.lt_of_lt_of_le hi h.size) hn).trans (h.block i hi hn)⟩
theorem Chg.of (h : Below w.heap.size w w') : Chg gs w w' := ⟨h.os, h.tape, h.output, h.size, fun i hi _ => h.block i hi⟩
theorem Chg.only {b : Nat} (h : Only b w w') (hb : b ∈ gs) : Chg gs w w' := ⟨h.os, h.tape, h.output, by rw [h.size]; exact Nat.le_refl _, fun i _ hn => h.block i (fun hh => hn (by rw [hh]; exact hb))⟩
theorem Chg.more {gs' : List Nat} (h : Chg gs w w') (hs : ∀ x ∈ gs, x ∈ gs') : Chg gs' w w' := ⟨h.os, h.tape, h.output, h.size, fun i hi hn => h.block i hi (fun hh => hn (hs i hh))⟩
theorem Chg.below {B : Nat} (h : Chg gs w w') (hg : ∀ x ∈ gs, B ≤ x) (hB : B ≤ w.heap.size) : Below B w w' := ⟨h.os, h.tape, h.output, h.size, fun i hi => h.block i (by omega) (fun hh => by have := hg i hh; omega)⟩
/-- From the world w0 on, blocks that were made since count as new. -/
theorem Chg.grown {w0 : World} {p : Option Nat} (h : Chg gs w0 w) (hg : w.grownBy w' p) (hp : ∀ k, p = some k → w0.heap.size ≤ k) : Chg gs w0 w' :=
  ⟨hg.os.trans h.os, hg.tape.trans h.tape, hg.output.trans h.output, Nat.le_trans h.size hg.size, fun i hi hn => (hg.block i (Nat.lt_of_lt_of_le hi h.size) (fun hh => by have := hp i hh.symm; omega)).trans (h.block i hi hn)⟩
theorem Chg.on {w0 : World} (h : Chg gs w0 w) (hb : Below w0.heap.size w w') : Chg gs w0 w' :=
  ⟨hb.os.trans h.os, hb.tape.trans h.tape, hb.output.trans h.output, Nat.le_trans h.size hb.size, fun i hi hn => (hb.block i hi).trans (h.block i hi hn)⟩
theorem Om.swap (h : Om w base g bs M []) {i j bi bj : Nat} {mi mj : List UInt8} (hbi : bs[i]? = some bi) (hbj : bs[j]? = some bj) (hmi : M[i]? = some mi) (hmj : M[j]? = some mj) (hO : Only g w w')
    (hg : Blk w' g (((rvals bs M).set i (.slice (some ⟨bj, 0, none⟩) mj.length mj.length)).set j (.slice (some ⟨bi, 0, none⟩) mi.length mi.length)) 52) : Om w' base g (swp bs i j bi bj) (swp M i j mi mj) [] := by
  have hp := swp_perm hbi hbj
  have hq := swp_perm hmi hmj
  rw [rvals_swp h.len hbi hbj hmi hmj] at hg
  refine ⟨by rw [swp_len, swp_len]; exact h.len, by rw [List.append_nil]; exact hg, fun k b m hk hm => ?_, h.low, fun x hx => h.lows x (hp.mem_iff.1 hx), fun x hx => h.ne x (hp.mem_iff.1 hx), hp.nodup_iff.2 h.nodup, fun x hx => h.caps x (hq.mem_iff.1 hx)⟩
  rw [swp_get hbi hbj] at hk
  rw [swp_get hmi hmj] at hm
  have key : Blk w b (m.map bv) 5 := by
    by_cases h1 : k = j
    · rw [if_pos h1] at hk hm
      obtain rfl := Option.some.inj hk
      obtain rfl := Option.some.inj hm
      exact h.row i _ _ hbi hmi
    · rw [if_neg h1] at hk hm
      by_cases h2 : k = i
      · rw [if_pos h2] at hk hm
        obtain rfl := Option.some.inj hk
        obtain rfl := Option.some.inj hm
        exact h.row j _ _ hbj hmj
      · rw [if_neg h2] at hk hm
        exact h.row k b m hk hm
  have hmem : b ∈ bs := by
    have : b ∈ swp bs i j bi bj := List.mem_of_getElem? (by rw [swp_get hbi hbj]; exact hk)
    exact hp.mem_iff.1 this
  exact key.only hO (h.ne b hmem)
end
/-- New blocks alone. -/
def Nu (a b : World) : Prop := Below a.heap.size a b
instance (w : World) : Nonempty (ROf Nu w) := ⟨⟨w, Below.refl _ _⟩⟩
theorem Nu.refl (w : World) : Nu w w := Below.refl _ _
theorem Nu.trans (a b c : World) (h : Nu a b) (k : Nu b c) : Nu a c := Below.trans h (Below.mono k h.size)

theorem Om.grown {w w' : World} {base g : Nat} {bs : List Nat} {M : List (List UInt8)} {rest : List Value} {p : Option Nat} (h : Om w base g bs M rest) (hg : w.grownBy w' p) (hp : ∀ b, p = some b → b ∉ g :: bs) : Om w' base g bs M rest := by
  have key : ∀ b (L : List Value) (t : TypeId), b ∈ g :: bs → Blk w b L t → Blk w' b L t := fun b L t hb hk => (hg.block b hk.lt (fun hh => hp b hh.symm hb)).trans hk
  exact ⟨h.len, key g _ _ (List.mem_cons_self ..) h.out, fun i b m hi hm => key b _ _ (List.mem_cons_of_mem _ (List.mem_of_getElem? hi)) (h.row i b m hi hm), h.low, h.lows, h.ne, h.nodup, h.caps⟩
theorem Chg.blk {gs : List Nat} {w w' : World} {b : Nat} {L : List Value} {t : TypeId} (h : Chg gs w w') (hb : Blk w b L t) (hn : b ∉ gs) : Blk w' b L t := (h.block b hb.lt hn).trans hb
end Go.Proofs.YtgajlgnniidgmaaDoor

namespace Go.Proofs.YtgajlgnniidgmaaDoor
set_option linter.unusedVariables false
set_option linter.unusedSimpArgs false
open Go.RowKit

def pv (p : Nat) : Value := .int .i64 (p : Int)
theorem infoInt : (Tryd.prog.info? 3).map (fun i => (i.zero, i.size, i.bytes)) = some (some (.int .i64 0), 1, 8) := by kernel_rfl
/-- The pivots are a row of the call's own. -/
def OwnP (w : World) (base : Nat) (v : Value) (l : List Nat) : Prop := w.ownsRow base 3 1 v l.length (l.map pv)
theorem ownP_nil (w : World) (base : Nat) : OwnP w base (.slice none 0 0) [] := World.ownsRow_nil w base _ _
theorem OwnP.kept {w w' : World} {base : Nat} {v : Value} {l : List Nat} (h : OwnP w base v l) (hb : ∀ b, v.ownBlock = some b → b < w.heap.size → w'.heap[b]? = w.heap[b]?) : OwnP w' base v l := by
  refine ⟨h.1, ?_⟩
  rcases h.2 with hn | ⟨g, cap, cur, hv, hg, hh, rest⟩
  · exact .inl hn
  · exact .inr ⟨g, cap, cur, hv, hg, by rw [hb g (by rw [hv]; rfl) (Array.getElem?_eq_some_iff.1 hh).1]; exact hh, rest⟩
theorem OwnP.chg {w w' : World} {base : Nat} {v : Value} {l : List Nat} {gs : List Nat} (h : OwnP w base v l) (hc : Chg gs w w') (hg : ∀ x ∈ gs, x < base) : OwnP w' base v l :=
  h.kept fun b hb hlt => hc.block b hlt (fun hh => by have := hg b hh; have := (World.ownsRow.lt h b hb).1; omega)
/-- 'l = append(l, x)', x a number, l the call's own. -/
theorem push_piv {w0 : World} {ops : Array Oper} {rest : List Oper} {o : Oper} {a : Act} {Q : Exit → Act → World → Prop} (hgd : o.guard = none) (s x : Operand)
    (ho : o.op = .call { callee := .builtin .append, args := #[s, x], argTypes := #[25, 25] })
    (base : Nat) (v : Value) (l : List Nat) (b : Nat) (u : Value) (hu : u = pv b) (hs : a.eval s = v) (hx : a.eval x = .slice (some ⟨w0.heap.size, 0, none⟩) 1 1)
    (hown : OwnP w0 base v l) (hlen : l.length ≤ 1000000) (hbase : base ≤ w0.heap.size)
    (h : ∀ v' w', OwnP w' base v' (l ++ [b]) → w0.grownBy w' v.ownBlock → wpList Tryd.prog ops Q rest (a.put o.dst v') w') :
    wpList Tryd.prog ops Q (o :: rest) a (w0.alloc (.cells #[u] 3)) := by
  subst hu
  obtain ⟨i0, hi, hz0, hz1, hz2⟩ := info_parts infoInt
  refine wpList_push hgd s x 25 ho base 3 i0 (.int .i64 0) 8 Tryd.underlying25 hi hz0 hz1 hz2 rfl v l.length (l.map pv) (pv b) hs hx rfl hown (by omega) (by unfold maxLen; omega) hbase ?_
  intro v' w' h1 h2
  exact h v' w' (by unfold OwnP; simpa using h1) h2.1

/-- What reduce ends with. -/
def RedEnd (w : World) (base g : Nat) (bs : List Nat) (M : List (List UInt8)) (n : Nat) (e : Ending) (w' : World) : Prop :=
  ∃ vp bs', e = .returned vp ∧ OwnP w' w.heap.size vp (red M n).2 ∧ Om w' base g bs' (red M n).1 [] ∧ bs'.Perm bs ∧ Chg (g :: bs) w w'

end Go.Proofs.YtgajlgnniidgmaaDoor

namespace Go.Proofs.YtgajlgnniidgmaaDoor
set_option linter.unusedVariables false
set_option linter.unusedSimpArgs false
open Go.RowKit

theorem findP_lt {M : List (List UInt8)} {col top i : Nat} (h : findP M col top = some i) : top ≤ i ∧ i < M.length ∧ el M i col ≠ 0 := by
  unfold findP at h
  have h1 := List.find?_some h
  have h2 := List.mem_of_find?_eq_some h
  simp only [Bool.and_eq_true, decide_eq_true_eq, bne_iff_ne, ne_eq] at h1
  exact ⟨h1.1, by simpa using h2, h1.2⟩
theorem redGo_facts (c : Nat) : ∀ (cs : List Nat) (M : List (List UInt8)) (piv : List Nat), Rect M c → piv.length ≤ M.length →
    (redGo M piv cs).1.length = M.length ∧ Rect (redGo M piv cs).1 c ∧ (redGo M piv cs).2.length ≤ M.length ∧ (∀ p ∈ (redGo M piv cs).2, p ∈ piv ∨ p ∈ cs) ∧ (redGo M piv cs).2.length ≤ piv.length + cs.length
  | [], M, piv, h, hp => ⟨rfl, h, hp, fun p hh => .inl hh, by unfold redGo; simp⟩
  | col :: cs, M, piv, h, hp => by
    unfold redGo
    cases hf : findP M col piv.length with
    | none =>
      obtain ⟨h1, h2, h3, h4, h5⟩ := redGo_facts c cs M piv h hp
      exact ⟨h1, h2, h3, fun p hh => (h4 p hh).imp id (List.mem_cons_of_mem _), by simp only [List.length_cons]; omega⟩
    | some i =>
      obtain ⟨hl1, hl2, _⟩ := findP_lt hf
      have hpl : (pivStep M piv.length col i).length = M.length := pivStep_len _ _ _ _
      obtain ⟨h1, h2, h3, h4, h5⟩ := redGo_facts c cs (pivStep M piv.length col i) (piv ++ [col]) (h.step col (by omega) hl2) (by rw [hpl]; simp; omega)
      refine ⟨h1.trans hpl, h2, by rw [hpl] at h3; exact h3, fun p hh => ?_, by simp only [List.length_append, List.length_cons, List.length_nil] at h5 ⊢; omega⟩
      rcases h4 p hh with hh | hh
      · rcases List.mem_append.1 hh with hh | hh
        · exact .inl hh
        · rw [List.mem_singleton.1 hh]; exact .inr (List.mem_cons_self ..)
      · exact .inr (List.mem_cons_of_mem _ hh)
theorem red_len {M : List (List UInt8)} {c : Nat} (h : Rect M c) (n : Nat) : (red M n).1.length = M.length := (redGo_facts c _ M [] h (by simp)).1
theorem red_rect {M : List (List UInt8)} {c : Nat} (h : Rect M c) (n : Nat) : Rect (red M n).1 c := (redGo_facts c _ M [] h (by simp)).2.1
theorem red_piv_le {M : List (List UInt8)} {c : Nat} (h : Rect M c) (n : Nat) : (red M n).2.length ≤ M.length := (redGo_facts c _ M [] h (by simp)).2.2.1
theorem red_piv_lt {M : List (List UInt8)} {c : Nat} (h : Rect M c) (n : Nat) : ∀ p ∈ (red M n).2, p < n := fun p hp => by
  rcases (redGo_facts c _ M [] h (by simp)).2.2.2.1 p hp with hh | hh
  · cases hh
  · simpa using hh
theorem red_piv_le_n {M : List (List UInt8)} {c : Nat} (h : Rect M c) (n : Nat) : (red M n).2.length ≤ n := by
  have := (redGo_facts c (List.range n) M [] h (by simp)).2.2.2.2
  show (redGo M [] (List.range n)).2.length ≤ n
  simpa using this
theorem wid_zero (M : List (List UInt8)) : wid M 0 = M := by
  unfold wid pad0
  simp
theorem Ok.rect {M : List (List UInt8)} (h : Ok M) : Rect M (cols M) := h.same

/-- The reduced rows, and the pivots, of a valid matrix. -/
def redR (M : List (List UInt8)) : List (List UInt8) := (red M (cols M)).1.take (red M (cols M)).2.length
def redP (M : List (List UInt8)) : List Nat := (red M (cols M)).2
/-- A slice of numbers that reads as a list. -/
def IntsAt (w : World) (v : Value) (l : List Nat) : Prop := ∃ a c, v = .slice a l.length c ∧ l.length ≤ c ∧ c ≤ maxLen ∧ (a = none → c = 0) ∧ Rds w w.heap.size a (l.map pv)
theorem OwnP.ints {w : World} {base : Nat} {v : Value} {l : List Nat} (h : OwnP w base v l) : IntsAt w v l := by
  obtain ⟨A, c, h1, h2, h3, h4, h5⟩ := own_form h
  exact ⟨A, c, h1, h2, h3, h4, h5⟩
/-- What Reduce ends with. -/
def RedRet (w : World) (R : List (List UInt8)) (piv : List Nat) (E : Int) (e : Ending) (w' : World) : Prop :=
  (∃ A c vp, e = .returned (.tuple #[.slice A R.length c, vp, .int .i64 E]) ∧ R.length ≤ c ∧ c ≤ maxLen ∧ (A = none → c = 0) ∧ Mat w' w'.heap.size A R ∧ IntsAt w' vp piv) ∧ Below w.heap.size w w'

end Go.Proofs.YtgajlgnniidgmaaDoor
