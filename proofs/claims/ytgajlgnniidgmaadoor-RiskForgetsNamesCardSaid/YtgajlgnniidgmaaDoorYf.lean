/-
  Stage 12: the maths of what a domain decides; small facts for the laws' walks.
-/
import Derived.Test.YtgajlgnniidgmaaDoorYe
namespace Go.Proofs.YtgajlgnniidgmaaDoor
set_option linter.unusedVariables false
set_option linter.unusedSimpArgs false
open Go.RowKit Go.Maps

open Classical in
/-- Does a set lose the chunk, as a number. -/
noncomputable def indL (p : Prl) (f : Nat) : Int := if LosP p f then 1 else 0
theorem lsum_ex (p : Prl) : lsum p (2 ^ p.ch.length) = Ex p.ch (indL p) := by
  rw [lsum_fsum, ← ex_fsum]
  refine fsum_congr fun f _ => ?_
  unfold indL
  by_cases h : LosP p f
  · rw [if_pos h, if_pos h, Int.one_mul]
  · rw [if_neg h, if_neg h, Int.zero_mul]
theorem los_same {p q : Prl} (e1 : q.D = p.D) (e2 : q.G = p.G) (e3 : q.Gs = p.Gs) (e4 : q.al = p.al) (f : Nat) : LosP q f ↔ LosP p f := by
  unfold LosP
  rw [e1, e2, e3, e4]
theorem ind_same {p q : Prl} (e1 : q.D = p.D) (e2 : q.G = p.G) (e3 : q.Gs = p.Gs) (e4 : q.al = p.al) : indL q = indL p := by
  funext f
  unfold indL
  by_cases h : LosP p f
  · rw [if_pos h, if_pos ((los_same e1 e2 e3 e4 f).2 h)]
  · rw [if_neg h, if_neg (fun hh => h ((los_same e1 e2 e3 e4 f).1 hh))]
theorem cond_loss {p a b : Prl} {d : Nat} {c : Int} (hc : p.ch[d]? = some c) (a1 : a.D = p.D) (a2 : a.G = p.G) (a3 : a.Gs = p.Gs) (a4 : a.al = p.al) (a5 : a.ch = p.ch.set d 16)
    (b1 : b.D = p.D) (b2 : b.G = p.G) (b3 : b.Gs = p.Gs) (b4 : b.al = p.al) (b5 : b.ch = p.ch.set d 0) :
    16 * lsum p (2 ^ p.ch.length) = c * lsum a (2 ^ a.ch.length) + (16 - c) * lsum b (2 ^ b.ch.length) := by
  rw [lsum_ex, lsum_ex, lsum_ex, ind_same a1 a2 a3 a4, ind_same b1 b2 b3 b4, a5, b5]
  exact ex_cond p.ch _ d c hc
/-- What of Check stays when a chance is set. -/
theorem PrlOk.set {p a : Prl} (OK : PrlOk p) {d : Nat} {x : Int} (hx : 0 ≤ x ∧ x ≤ 16) (a1 : a.D = p.D) (a2 : a.G = p.G) (a3 : a.Gs = p.Gs) (a4 : a.al = p.al) (a5 : a.ch = p.ch.set d x) : PrlOk a := by
  refine ⟨by rw [a1, a2, a3]; exact OK.cod, by rw [a5, List.length_set]; exact OK.l12, by rw [a1, a2, a3, a4]; exact OK.pcs, by rw [a4, a5, List.length_set]; exact OK.al, fun c hc => ?_⟩
  rw [a5] at hc
  rcases List.mem_or_eq_of_mem_set hc with h | h
  · exact OK.ch c h
  · rw [h]; exact hx
theorem own_open12 {w : World} {base n : Nat} {e : TypeId} {v : Value} {xs : List Value} (h : w.ownsRow base e 1 v n xs) (hn : 0 < n) :
    ∃ (g cap : Nat) (L : List Value), v = .slice (some ⟨g, 0, none⟩) n cap ∧ base ≤ g ∧ Blk w g L e ∧ n ≤ L.length ∧ L.take n = xs := by
  rcases h.2 with ⟨_, h0⟩ | ⟨g, cap, cur, rfl, hg, hh, y1, y2, y3, y4⟩
  · omega
  · rw [Nat.mul_one] at y4
    exact ⟨g, cap, cur.toList, rfl, hg, by show _ = _; rw [hh], by simp only [Array.length_toList]; omega, y4⟩
/-- A peril whose chances are others. -/
theorem PerM.swap {w : World} {B B' : Nat} {p : Prl} (h : PerM w B p) (hB : B ≤ B') (hw : B' ≤ w.heap.size) {A2 : Option Addr} {n2 c2 : Nat} {ch : List Int} (hch : Rds w B' A2 (ch.map iv)) (hn : n2 = ch.length) (hs : n2 ≤ 140737488355328) :
    PerM w B' { p with A2 := A2, n2 := n2, c2 := c2, ch := ch } := by
  have h' := h.more hB hw
  exact ⟨h'.cod, h'.al, h'.n1, h'.s1, hch, hn, hs⟩
theorem PerM.look2 {w : World} {B d : Nat} {p : Prl} {c : Int} (h : PerM w B p) (hc : p.ch[d]? = some c) : ∃ ad, p.A2 = some ad ∧ ad.block < B ∧ w.cell? (ad.add d) = some (.int .i64 c) := by
  obtain ⟨ad, e, hb, hh⟩ := h.ch.look (k := d) (u := iv c) (by rw [List.getElem?_map, hc]; rfl)
  exact ⟨ad, e, hb, hh⟩
theorem PerM.look1 {w : World} {B d : Nat} {p : Prl} {c : Int} (h : PerM w B p) (hc : p.al[d]? = some c) : ∃ ad, p.A1 = some ad ∧ ad.block < B ∧ w.cell? (ad.add d) = some (.int .i64 c) := by
  obtain ⟨ad, e, hb, hh⟩ := h.al.look (k := d) (u := iv c) (by rw [List.getElem?_map, hc]; rfl)
  exact ⟨ad, e, hb, hh⟩
theorem PerM.at2 {w : World} {B d g : Nat} {p : Prl} {c : Int} (h : PerM w B p) (hA : p.A2 = some ⟨g, 0, none⟩) (hc : p.ch[d]? = some c) : w.cell? ⟨g, d, none⟩ = some (.int .i64 c) := by
  obtain ⟨ad, e, _, hh⟩ := h.look2 hc
  rw [hA] at e
  cases e
  rw [Addr.add_mid, Nat.zero_add] at hh
  exact hh
theorem set_self12 {l : List Int} {d : Nat} {c : Int} (h : l[d]? = some c) : l.set d c = l := by
  apply List.ext_getElem?
  intro i
  by_cases hi : d = i
  · subst hi
    rw [List.getElem?_set_self (List.getElem?_eq_some_iff.1 h).1, h]
  · rw [List.getElem?_set_ne hi]
theorem rem12 (a P : Nat) (h : 0 < P) : ∃ s : Nat, s = a % P ∧ s < P ∧ (a : Int) % (P : Int) = (s : Int) ∧ ¬ (P : Int) = 0 ∧ ((P : Int) == 0) = false :=
  ⟨a % P, rfl, Nat.mod_lt _ h, (Int.natCast_emod a P).symm, by omega, by simp only [beq_eq_false_iff_ne, ne_eq]; omega⟩
theorem wrap12r {x : Int} (h0 : 0 ≤ x) (h1 : x ≤ 281474976710656) : IntKind.i64.wrap x = x := by rw [IntKind.wrap_i64]; omega
theorem mul_rng12 {c y : Int} (h0 : 0 ≤ c) (h1 : c ≤ 16) (h2 : 0 ≤ y) (h3 : y ≤ 68719476736) : 0 ≤ c * y ∧ c * y ≤ 1099511627776 :=
  ⟨Int.mul_nonneg h0 h2, Int.le_trans (Int.mul_le_mul h1 h3 h2 (by omega)) (by decide)⟩
theorem lsum_rng9 {p : Prl} (OK : PrlOk p) (h9 : p.ch.length ≤ 9) : 0 ≤ lsum p (2 ^ p.ch.length) ∧ lsum p (2 ^ p.ch.length) ≤ 68719476736 := by
  obtain ⟨l, e, _, h⟩ := lsum_nat OK h9
  rw [e]; omega
end Go.Proofs.YtgajlgnniidgmaaDoor
