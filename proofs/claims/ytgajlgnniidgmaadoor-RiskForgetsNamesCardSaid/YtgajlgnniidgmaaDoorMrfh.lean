/-
  Contracts of stage 5: the reference's Few and Identity. Stage 5: 'append([][]uint8{}, m...)', and a row that is set. Stage 5: what the reference's cleared needs.
-/
import Derived.Test.YtgajlgnniidgmaaDoorMrcd
import Derived.Test.YtgajlgnniidgmaaDoorMyv
namespace Go.Proofs.YtgajlgnniidgmaaDoor
set_option linter.unusedVariables false
set_option linter.unusedSimpArgs false
open Go.RowKit

/-- At most so many rows of at most so many elements. -/
def fewB (M : List (List UInt8)) (x : Nat) : Bool := decide (M.length ≤ x) && !(M.any fun m => decide (x < m.length))

/-- The identity matrix. -/
def idM (n : Nat) : List (List UInt8) := (List.range n).map fun k => (List.replicate n 0).set k 1
theorem idM_len (n : Nat) : (idM n).length = n := by simp [idM]
theorem idM_get {n k : Nat} (h : k < n) : (idM n)[k]? = some ((List.replicate n 0).set k 1) := by simp [idM, h]
theorem NewRow.blk {base g n : Nat} {w : World} {m : List UInt8} (h : Blk w g (m.map bv) 5) (hn : n = m.length) (hb : base ≤ g) (hm : m.length ≤ maxLen) : NewRow base w (.slice (some ⟨g, 0, none⟩) n n) m := by
  subst hn
  refine ⟨some ⟨g, 0, none⟩, m.length, rfl, Nat.le_refl _, hm, (fun hh => by cases hh), ?_, fun ad ha => by cases ha; exact ⟨hb, h.lt⟩⟩
  have := h.rds 0 m.length
  rw [List.drop_zero, List.take_of_length_le (by rw [List.length_map]; exact Nat.le_refl _)] at this
  exact this

end Go.Proofs.YtgajlgnniidgmaaDoor

namespace Go.Proofs.YtgajlgnniidgmaaDoor
set_option linter.unusedVariables false
set_option linter.unusedSimpArgs false
open Go.RowKit

theorem copy_q {x B : Nat} {w0 : World} {ops : Array Oper} {rest : List Oper} {o : Oper} {a : Act} {Q : Exit → Act → World → Prop} (hgd : o.guard = none) (s y : Operand)
    (ho : o.op = .call { callee := .builtin .append, args := #[s, y], argTypes := #[84, 84] })
    (ad : Addr) (c cc : Nat) (M : List (List UInt8)) (hs : a.eval s = .slice (some ⟨w0.heap.size, 0, none⟩) 0 0) (hy : a.eval y = .slice (some ad) M.length c)
    (h0 : Mat w0 B (some ad) M) (hB : B ≤ w0.heap.size) (hx : B ≤ x) (hre : Rect M cc) (hcc : 0 < cc) (hl : M.length ≤ 1000000)
    (h : ∀ v' w', OwnQ x w' w0.heap.size v' M → Below w0.heap.size w0 w' → wpList Tryd.prog ops Q rest (a.put o.dst v') w') :
    wpList Tryd.prog ops Q (o :: rest) a (w0.alloc (.cells #[] 52)) := by
  obtain ⟨vs, h1, h2, h3⟩ := h0
  obtain ⟨i0, hi, hz0, hz1, hz2⟩ := info_parts infoRow
  have hown : (w0.alloc (.cells #[] 52)).ownsRow w0.heap.size 52 1 (.slice (some ⟨w0.heap.size, 0, none⟩) 0 0) 0 [] :=
    ⟨rfl, .inr ⟨w0.heap.size, 0, #[], rfl, Nat.le_refl _, Blk.new w0 [] 52, Nat.le_refl _, Nat.zero_le _, rfl, rfl⟩⟩
  have hB1 : Below w0.heap.size w0 (w0.alloc (.cells #[] 52)) := (Below.refl _ _).alloc (Nat.le_refl _) _
  refine wpList_append_own_at _ hgd s y 84 ho w0.heap.size 52 i0 (.slice none 0 0) 1 24 Tryd.underlying84 hi hz0 hz1 hz2 rfl (by decide) _ 0 [] hs hown ad M.length c vs hy (by rw [h1]; omega) (fun j u hu => ?_) (fun u hu => ?_) (by unfold maxLen; omega) (by omega) hB1.size ?_
  · obtain ⟨ad', e, hb, hc⟩ := h2.look hu
    cases e
    rw [hB1.cell (p := ad.add j) (by rw [add_block]; omega)]
    exact hc
  · obtain ⟨i, hi'⟩ := List.getElem?_of_mem hu
    obtain ⟨m, hm⟩ : ∃ m, M[i]? = some m := ⟨_, List.getElem?_eq_getElem (by rw [← h1]; exact (List.getElem?_eq_some_iff.1 hi').1)⟩
    obtain ⟨_, _, rfl, _⟩ := h3 i u m hi' hm
    rfl
  · intro v' w' g1 g2 g3 g4
    have hsz1 : (w0.alloc (.cells #[] 52)).heap.size = w0.heap.size + 1 := by simp
    have hB2 : Below w0.heap.size w0 w' := hB1.trans ((Below.refl _ _).grown g2 hB1.size fun k hk => by cases hk; exact Nat.le_refl _)
    refine h v' w' ⟨vs, h1, by rw [Nat.zero_add, List.nil_append] at g1; exact g1, fun i u m hu hm => ?_⟩ hB2
    obtain ⟨aa, ca, e1, e2, e3, e4, e5⟩ := h3 i u m hu hm
    have hml := hre.at hm
    have hbk : ∀ ad, aa = some ad → ad.block < B := fun ad2 ha => by
      obtain ⟨ad3, e6, hb, _⟩ := e5 (by intro hh; have := congrArg List.length hh; rw [List.length_map, hml] at this; simp at this; omega)
      rw [ha] at e6
      cases e6
      exact hb
    refine ⟨aa, ca, e1, e2, e3, e4, (e5.below (hB2.mono hB)).more (by have := hB2.size; omega), fun ad2 ha => ⟨fun hh => ?_, by have := hbk ad2 ha; have := hB2.size; omega, fun hh => by have := hbk ad2 ha; omega⟩⟩
    have hb := hbk ad2 ha
    rcases g4 with g4 | g4
    · rw [g4] at hh
      have : w0.heap.size = ad2.block := Option.some.inj hh
      omega
    · rw [g4, hsz1] at hh
      have : w0.heap.size + 1 = ad2.block := Option.some.inj hh
      omega

/-- Where the rows' slices lie, and what becomes of them when one is set. -/
theorem OwnQ.open {x : Nat} {w : World} {base : Nat} {v : Value} {K : List (List UInt8)} (h : OwnQ x w base v K) (hne : 0 < K.length) :
    ∃ g cap L, v = .slice (some ⟨g, 0, none⟩) K.length cap ∧ base ≤ g ∧ Blk w g L 52 ∧ K.length ≤ L.length ∧
      ∀ (w' : World) (k : Nat) (u : Value) (m : List UInt8), k < K.length → Blk w' g (L.set k u) 52 → Only g w w' → RowOff x w (some g) u m → OwnQ x w' base v (K.set k m) := by
  obtain ⟨vs, h1, h2, h3⟩ := h
  rcases h2.2 with ⟨_, hn⟩ | ⟨g, cap, cur, rfl, hg, hh, q1, q2, q3, q4⟩
  · omega
  have hlen : K.length ≤ cur.toList.length := by simp only [Array.length_toList]; omega
  refine ⟨g, cap, cur.toList, rfl, hg, by show _ = _; rw [hh], hlen, fun w' k u m hk hb ho hr => ?_⟩
  rw [Nat.mul_one] at q4
  have hgr : ∀ (uu : Value) (mm : List UInt8), RowOff x w (some g) uu mm → RowOff x w' (some g) uu mm := fun uu mm hh2 => by
    obtain ⟨a, c, e1, e2, e3, e4, e5, e6⟩ := hh2
    have hgb : w.grownBy w' (some g) := ⟨ho.os, ho.tape, ho.output, Nat.le_of_eq ho.size.symm, fun j _ hj => ho.block j (fun e => hj (by rw [e]))⟩
    exact ⟨a, c, e1, e2, e3, e4, e5.apart hgb (fun ad ha => (e6 ad ha).1), fun ad ha => ⟨(e6 ad ha).1, by rw [ho.size]; exact (e6 ad ha).2.1, (e6 ad ha).2.2⟩⟩
  refine ⟨vs.set k u, by simp [h1], ⟨by simp [h1], .inr ⟨g, cap, (cur.toList.set k u).toArray, by rw [List.length_set], hg, hb, by rw [List.length_set]; exact q1, q2, by simp [q3], ?_⟩⟩, fun i u' m' hu hm => ?_⟩
  · show ((cur.toList.set k u).take ((K.set k m).length * 1)) = vs.set k u
    rw [List.length_set, Nat.mul_one, List.take_set, q4]
  · show RowOff x w' (some g) u' m'
    by_cases hik : k = i
    · subst hik
      rw [List.getElem?_set_self (by omega)] at hu
      rw [List.getElem?_set_self hk] at hm
      cases hu
      cases hm
      exact hgr _ _ hr
    · rw [List.getElem?_set_ne hik] at hu hm
      exact hgr _ _ (h3 i u' m' hu hm)
end Go.Proofs.YtgajlgnniidgmaaDoor

namespace Go.Proofs.YtgajlgnniidgmaaDoor
set_option linter.unusedVariables false
set_option linter.unusedSimpArgs false
open Go.RowKit

theorem addR_zeros (c : UInt8) (p : List UInt8) : addR c p (List.replicate p.length 0) = mulR c p := by
  unfold addR mulR
  rw [List.length_replicate]
  apply List.ext_getElem?
  intro i
  rcases Nat.lt_or_ge i p.length with h | h
  · rw [rowF_get _ h, rowF_get _ h, List.getD_eq_getElem?_getD, List.getElem?_replicate, if_pos h]
    simp
  · rw [List.getElem?_eq_none (by rw [rowF_len]; exact h), List.getElem?_eq_none (by rw [rowF_len]; exact h)]
/-- The rows that cleared begins with. -/
def clr0 (M : List (List UInt8)) (top col i : Nat) : List (List UInt8) := (M.set i (M.getD top [])).set top (mulR (Gf.inv (el M i col)) (M.getD i []))
theorem pivStep_alt (M : List (List UInt8)) (top col i : Nat) : pivStep M top col i = elimK (clr0 M top col i) top col (mulR (Gf.inv (el M i col)) (M.getD i [])) M.length := by
  unfold pivStep clr0 swp
  congr 1
  by_cases h : top = i
  · subst h
    simp
  · rw [List.set_comm _ _ h, List.set_set, ]
/-- A matrix's row is in another block than what was made later. -/
theorem mat_off {x B : Nat} {w : World} {A : Option Addr} {M : List (List UInt8)} {cc i : Nat} {m : List UInt8} {u : Value} {row : Option Nat} (h : RowAt w B u m) (hm : 0 < m.length) (hB : B ≤ w.heap.size) (hx : B ≤ x) (hr : ∀ g, row = some g → B ≤ g) : RowOff x w row u m := by
  obtain ⟨a, c, e1, e2, e3, e4, e5⟩ := h
  refine ⟨a, c, e1, e2, e3, e4, e5.more hB, fun ad ha => ?_⟩
  obtain ⟨ad', e6, hb, _⟩ := e5 (by intro hh; have := congrArg List.length hh; rw [List.length_map] at this; simp at this; subst this; simp at hm)
  rw [ha] at e6
  cases e6
  refine ⟨fun hh => ?_, by omega, by omega⟩
  have := hr _ hh
  omega
end Go.Proofs.YtgajlgnniidgmaaDoor
