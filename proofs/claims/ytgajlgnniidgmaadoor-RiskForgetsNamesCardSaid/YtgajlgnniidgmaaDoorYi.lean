/-
  Stage 12: appending a whole list to an empty one, whatever it is; lists of the call's own, kept.
-/
import Derived.Test.YtgajlgnniidgmaaDoorYh
namespace Go.Proofs.YtgajlgnniidgmaaDoor
set_option linter.unusedVariables false
set_option linter.unusedSimpArgs false
open Go.RowKit Go.Maps

section
variable {ops : Array Oper} {rest : List Oper} {o : Oper} {a : Act} {Q : Exit → Act → World → Prop}
theorem push_vo {t e : TypeId} {z : Value} {bs : Nat} (ht : Tryd.prog.underlying t = some (.slice e)) (hinf : (Tryd.prog.info? e).map (fun i => (i.zero, i.size, i.bytes)) = some (some z, 1, bs)) (hzc : z.cells.size = 1) (hbs : bs ≤ 24)
    (hgd : o.guard = none) (sl x : Operand)
    (ho : o.op = .call { callee := .builtin .append, args := #[sl, x], argTypes := #[t, t] })
    (w0 : World) (vs : List Value) (B : Nat) (A : Option Addr) (n c : Nat) (hn : n = vs.length) (hAn : A = none → c = 0) (hs : a.eval sl = .slice (some ⟨w0.heap.size, 0, none⟩) 0 0) (hx : a.eval x = .slice A n c)
    (hr : Rds w0 B A vs) (hB : B ≤ w0.heap.size) (h1 : ∀ u ∈ vs, u.oneCell' = true) (hlen : n ≤ 1000000)
    (h : ∀ v' w', w'.ownsRow w0.heap.size e 1 v' n vs → Below w0.heap.size w0 w' → wpList Tryd.prog ops Q rest (a.put o.dst v') w') :
    wpList Tryd.prog ops Q (o :: rest) a (w0.alloc (.cells #[] e)) := by
  cases A with
  | some ad => exact push_vs ht hinf hzc hbs hgd sl x ho w0 vs B ad n c hn hs hx hr hB h1 hlen h
  | none =>
    have hl : vs = [] := by
      by_cases hl : vs = []
      · exact hl
      · obtain ⟨ad, hh, _⟩ := hr hl
        cases hh
    subst hl
    subst hn
    rw [hAn rfl] at hx
    obtain ⟨i0, hi, hz0, hz1, hz2⟩ := info_parts hinf
    refine wpList_plain hgd fun K hK => ?_
    have hrun := run_append_owned_none (P := Tryd.prog) (w0.alloc (.cells #[] e)) w0.heap.size t o.type e i0 1 ht hi (.slice (some ⟨w0.heap.size, 0, none⟩) 0 0) 0 [] (own_made12 w0 e)
    unfold Oper.wp execOp
    simp only [ho, resolve, invoke, builtin, Sem.run_bind, Sem.run_pure, Result.andThen_ok, List.map_toArray, List.map_cons, List.map_nil, hs, hx, List.length_nil, hrun]
    exact hK _ _ (h _ _ (own_made12 w0 e) ((Below.refl _ _).alloc (Nat.le_refl _) _))
end
theorem own_keep12 {w w' : World} {base n : Nat} {e : TypeId} {v : Value} {xs : List Value} (h : w.ownsRow base e 1 v n xs) (hb : Below w.heap.size w w') : w'.ownsRow base e 1 v n xs := by
  refine ⟨h.1, ?_⟩
  rcases h.2 with hn | ⟨g, cap, cur, hv, hg, hh, rest⟩
  · exact .inl hn
  · exact .inr ⟨g, cap, cur, hv, hg, by rw [hb.block g (Array.getElem?_eq_some_iff.1 hh).1]; exact hh, rest⟩
theorem own_only12 {w w' : World} {base n x : Nat} {e : TypeId} {v : Value} {xs : List Value} (h : w.ownsRow base e 1 v n xs) (ho : Only x w w') (hx : x < base) : w'.ownsRow base e 1 v n xs := by
  refine ⟨h.1, ?_⟩
  rcases h.2 with hn | ⟨g, cap, cur, hv, hg, hh, rest⟩
  · exact .inl hn
  · exact .inr ⟨g, cap, cur, hv, hg, by rw [ho.block g (by omega)]; exact hh, rest⟩
/-- What becomes of the chances in RiskIsMonotone. -/
def WorseC (p : Prl) (ch : List Int) : Prop := ch.length = p.ch.length ∧ (∀ c ∈ ch, 0 ≤ c ∧ c ≤ 16) ∧ (ch = p.ch ∨ ∃ d c c', p.ch[d]? = some c ∧ c ≤ c' ∧ c' ≤ 16 ∧ ch = p.ch.set d c')
theorem WorseC.same {p : Prl} (OK : PrlOk p) : WorseC p p.ch := ⟨rfl, OK.ch, .inl rfl⟩
theorem WorseC.put {p : Prl} (OK : PrlOk p) {d : Nat} {c c' : Int} (h : p.ch[d]? = some c) (h1 : c ≤ c') (h2 : c' ≤ 16) : WorseC p (p.ch.set d c') := by
  refine ⟨List.length_set .., fun x hx => ?_, .inr ⟨d, c, c', h, h1, h2, rfl⟩⟩
  rcases List.mem_or_eq_of_mem_set hx with hh | hh
  · exact OK.ch x hh
  · have := OK.ch c (List.mem_of_getElem? h)
    rw [hh]; omega
theorem WorseC.le {p q : Prl} (h : WorseC p q.ch) (OK : PrlOk p) (e1 : q.D = p.D) (e2 : q.G = p.G) (e3 : q.Gs = p.Gs) {k : Nat} (e4 : q.al = p.al.set k (-1)) : PrlOk q ∧ lsum p (2 ^ p.ch.length) ≤ lsum q (2 ^ q.ch.length) := by
  refine ⟨worse_ok OK e1 e2 e3 e4 h.1 h.2.1, ?_⟩
  rcases h.2.2 with hh | ⟨d, c, c', h1, h2, h3, h4⟩
  · exact worse_le0 OK e1 e2 e3 e4 hh
  · exact worse_le OK e1 e2 e3 e4 h1 h2 h3 h4
/-- A piece that is nowhere: the list of places, in a row of its own. -/
theorem take_setm12 {L : List Value} {al : List Int} {n k : Nat} (h : L.take n = al.map iv) : (L.set k (iv (-1))).take n = (al.set k (-1)).map iv := by
  rw [List.take_set, h, List.map_set]
/-- Numbers of RiskIsMonotone. -/
theorem mil_ints {l t m : Nat} (ht : 0 < t) (hl : l ≤ t) (ht9 : t ≤ 68719476736) (hm : m = milN l t) :
    ∃ U V : Nat, (l : Int) * 1000000 = (U : Int) ∧ (m : Int) * (t : Int) = (V : Int) ∧ IntKind.i64.wrap (U : Int) = (U : Int) ∧ IntKind.i64.wrap (V : Int) = (V : Int) ∧ ¬ (U : Int) > (V : Int) ∧ ¬ (m : Int) < 0 ∧ ¬ (m : Int) > 1000000 ∧
      (0 < m → ∃ m1 V1 : Nat, (m : Int) - 1 = (m1 : Int) ∧ IntKind.i64.wrap (m1 : Int) = (m1 : Int) ∧ (m1 : Int) * (t : Int) = (V1 : Int) ∧ IntKind.i64.wrap (V1 : Int) = (V1 : Int) ∧ ¬ (U : Int) ≤ (V1 : Int)) := by
  obtain ⟨h1, h2, h3⟩ := mil_facts ht hl
  rw [← hm] at h1 h2 h3
  have hV : m * t ≤ 1000000 * 68719476736 := Nat.mul_le_mul h3 ht9
  refine ⟨l * 1000000, m * t, by rw [Int.natCast_mul]; rfl, by rw [Int.natCast_mul], ?_, ?_, by omega, by omega, by omega, fun hp => ?_⟩
  · rw [IntKind.wrap_i64]; omega
  · generalize m * t = V at *
    rw [IntKind.wrap_i64]; omega
  · have h4 := h2 hp
    have hV1 : (m - 1) * t ≤ 1000000 * 68719476736 := Nat.mul_le_mul (by omega) ht9
    refine ⟨m - 1, (m - 1) * t, by omega, ?_, by rw [Int.natCast_mul], ?_, by omega⟩
    · rw [IntKind.wrap_i64]; omega
    · generalize (m - 1) * t = V at *
      rw [IntKind.wrap_i64]; omega
end Go.Proofs.YtgajlgnniidgmaaDoor
