/-
  Contracts of stage 5: the reference's cleared. Contracts of stage 5: the reference's Reduce.
-/
import Derived.Test.YtfbdhcpclccikaaDoorMrfh
import Derived.Test.YtfbdhcpclccikaaDoorMpm
import Derived.Test.YtfbdhcpclccikaaDoorRk
import Derived.Test.YtfbdhcpclccikaaDoorMra
namespace Go.Proofs.YtfbdhcpclccikaaDoor
set_option linter.unusedVariables false
set_option linter.unusedSimpArgs false
open Go.RowKit

/-- 'l[k] = row', l the call's own. -/
theorem set_q {x base : Nat} {w : World} {ops : Array Oper} {rest : List Oper} {op : Oper} {a : Act} {Q : Exit → Act → World → Prop} (hgd : op.guard = none) (s y : Operand) (ho : op.op = .store 43 s y)
    (g n cap k : Nat) (K : List (List UInt8)) (u : Value) (m : List UInt8) (hx : a.eval s = .pointer (some ⟨g, k, none⟩)) (hy : a.eval y = u)
    (h : OwnQ x w base (.slice (some ⟨g, 0, none⟩) n cap) K) (hk : k < K.length) (hr : RowOff x w (some g) u m)
    (hK : ∀ w', Hid (OwnQ x w' base (.slice (some ⟨g, 0, none⟩) n cap) (K.set k m)) → Only g w w' → Hid (w'.cell? ⟨g, k, none⟩ = some u ∧ ∀ i, i < K.length → i ≠ k → w'.cell? ⟨g, i, none⟩ = w.cell? ⟨g, i, none⟩) → wpList Tryd.prog ops Q rest (a.put op.dst undef) w') : wpList Tryd.prog ops Q (op :: rest) a w := by
  obtain ⟨g', cap', L, e, hg, hb, hl, hf⟩ := h.open (by omega)
  cases e
  have hr' := hr
  obtain ⟨a', c', rfl, _⟩ := hr
  refine wpList_blk_store hgd 43 s y ho k _ hx hy hb size_row (by show k + 1 ≤ L.length; omega) (fun u hu => by
    have : u = .slice a' m.length c' := by simpa [Value.cells] using hu
    rw [this]; rfl) ?_
  intro w' hw' ho'
  have hw2 := hw'.out
  rw [show (Value.slice a' m.length c').cells.toList = [Value.slice a' m.length c'] from rfl, splice_set _ _ _ (by omega)] at hw2
  refine hK w' (hf w' k _ m hk hw2 ho' hr') ho' ⟨hw2.cell (List.getElem?_set_self (by omega)), fun i hi hne => ?_⟩
  obtain ⟨v, hv⟩ : ∃ v, L[i]? = some v := ⟨_, List.getElem?_eq_getElem (by omega)⟩
  rw [hb.cell hv, hw2.cell (by rw [List.getElem?_set_ne (Ne.symm hne)]; exact hv)]
/-- The block of such a row. -/
theorem open_q {x base : Nat} {w : World} {v : Value} {K : List (List UInt8)} (h : OwnQ x w base v K) (hne : 0 < K.length) : ∃ g cap, v = .slice (some ⟨g, 0, none⟩) K.length cap ∧ base ≤ g ∧ g < w.heap.size ∧ K.length ≤ cap ∧ cap ≤ maxLen := by
  obtain ⟨g, cap, L, e, hg, hb, hl, _⟩ := h.open hne
  obtain ⟨A, c, e2, h1, h2, _⟩ := h.mat
  rw [e] at e2
  cases e2
  exact ⟨g, cap, e, hg, hb.lt, h1, h2⟩
/-- What is read of it. -/
theorem look_q {x base : Nat} {w : World} {g n cap k : Nat} {K : List (List UInt8)} {m : List UInt8} (h : OwnQ x w base (.slice (some ⟨g, 0, none⟩) n cap) K) (hk : K[k]? = some m) (hm : 0 < m.length) :
    ∃ a c, w.cell? ⟨g, k, none⟩ = some (.slice (some a) m.length c) ∧ g < w.heap.size ∧ a.block < w.heap.size ∧ Rds w w.heap.size (some a) (m.map bv) ∧ ∀ j, j < m.length → w.cell? (a.add j) = some (bv (m.getD j 0)) := by
  obtain ⟨A, c, e, _, _, _, hM⟩ := h.mat
  cases e
  obtain ⟨ad, v, e2, hb, hc, a, c', rfl, _, _, _, hr⟩ := hM.at hk
  cases e2
  have hl : ∀ j, j < m.length → ∃ ad, a = some ad ∧ ad.block < w.heap.size ∧ w.cell? (ad.add j) = some (bv (m.getD j 0)) := fun j hj => hr.look (by
    rw [List.getElem?_map, List.getD_eq_getElem?_getD, List.getElem?_eq_getElem hj]
    rfl)
  obtain ⟨ad, rfl, hb2, _⟩ := hl 0 hm
  have e3 : (⟨g, 0, none⟩ : Addr).add k = ⟨g, k, none⟩ := by unfold Addr.add; simp <;> omega
  rw [e3] at hc
  refine ⟨ad, c', hc, hb, hb2, hr, fun j hj => ?_⟩
  obtain ⟨ad', e4, _, h5⟩ := hl j hj
  cases e4
  exact h5
theorem row_look {w : World} {B : Nat} {u : Value} {m : List UInt8} (h : RowAt w B u m) (hm : 0 < m.length) : ∃ a c, u = .slice (some a) m.length c ∧ a.block < B ∧ Rds w B (some a) (m.map bv) ∧ ∀ j, j < m.length → w.cell? (a.add j) = some (bv (m.getD j 0)) := by
  obtain ⟨a, c, rfl, _, _, _, hr⟩ := h
  have hl : ∀ j, j < m.length → ∃ ad, a = some ad ∧ ad.block < B ∧ w.cell? (ad.add j) = some (bv (m.getD j 0)) := fun j hj => hr.look (by
    rw [List.getElem?_map, List.getD_eq_getElem?_getD, List.getElem?_eq_getElem hj]
    rfl)
  obtain ⟨ad, rfl, hb2, _⟩ := hl 0 hm
  refine ⟨ad, c, rfl, hb2, hr, fun j hj => ?_⟩
  obtain ⟨ad', e4, _, h5⟩ := hl j hj
  cases e4
  exact h5
/-- A matrix whose rows, and their slices, lie in other blocks than x. -/
def MatX (x : Nat) (w : World) (A : Option Addr) (M : List (List UInt8)) : Prop :=
  ∃ vs : List Value, vs.length = M.length ∧ Rds w w.heap.size A vs ∧ (∀ ad, A = some ad → 0 < M.length → ad.block < w.heap.size ∧ ad.block ≠ x) ∧ ∀ (i : Nat) (v : Value) (m : List UInt8), vs[i]? = some v → M[i]? = some m → RowOff x w none v m
theorem RowOff.at {x : Nat} {w : World} {row : Option Nat} {u : Value} {m : List UInt8} (h : RowOff x w row u m) : RowAt w w.heap.size u m := by
  obtain ⟨a, c, e1, e2, e3, e4, e5, _⟩ := h
  exact ⟨a, c, e1, e2, e3, e4, e5⟩
theorem RowOff.other {x g : Nat} {w w1 : World} {u : Value} {m : List UInt8} (h : RowOff x w none u m) (hb : Below w.heap.size w w1) (hg : w.heap.size ≤ g) : RowOff x w1 (some g) u m := by
  obtain ⟨a, c, e1, e2, e3, e4, e5, e6⟩ := h.below hb
  obtain ⟨a', c', f1, _, _, _, _, f6⟩ := h
  rw [e1] at f1
  cases f1
  refine ⟨a, c, e1, e2, e3, e4, e5, fun ad ha => ⟨fun hh => ?_, (e6 ad ha).2.1, (e6 ad ha).2.2⟩⟩
  have := (f6 ad ha).2.1
  have := Option.some.inj hh
  omega
theorem MatX.mat {x : Nat} {w : World} {A : Option Addr} {M : List (List UInt8)} (h : MatX x w A M) : Mat w w.heap.size A M := by
  obtain ⟨vs, h1, h2, _, h3⟩ := h
  exact ⟨vs, h1, h2, fun i v m hv hm => (h3 i v m hv hm).at⟩
theorem MatX.keep {x : Nat} {w w' : World} {A : Option Addr} {M : List (List UInt8)} (h : MatX x w A M) (hb : Below w.heap.size w w') : MatX x w' A M := by
  obtain ⟨vs, h1, h2, h3, h4⟩ := h
  exact ⟨vs, h1, (h2.below hb).more hb.size, fun ad ha hl => ⟨Nat.lt_of_lt_of_le (h3 ad ha hl).1 hb.size, (h3 ad ha hl).2⟩, fun i v m hv hm => (h4 i v m hv hm).below hb⟩
theorem MatX.look {x : Nat} {w : World} {A : Option Addr} {M : List (List UInt8)} {i : Nat} {m : List UInt8} (h : MatX x w A M) (hi : M[i]? = some m) : ∃ ad v, A = some ad ∧ ad.block < w.heap.size ∧ w.cell? (ad.add i) = some v ∧ RowOff x w none v m := by
  obtain ⟨vs, h1, h2, _, h3⟩ := h
  have hl := (List.getElem?_eq_some_iff.1 hi).1
  obtain ⟨v, hv⟩ : ∃ v, vs[i]? = some v := ⟨_, List.getElem?_eq_getElem (by omega)⟩
  obtain ⟨ad, hA, hab, hc⟩ := h2.look hv
  exact ⟨ad, v, hA, hab, hc, h3 i v m hv hi⟩
/-- Where only block x may have changed, and blocks are new: it stays, apart from x or from a new block. -/
theorem MatX.move {x y : Nat} {w w' : World} {row : Option Nat} {A : Option Addr} {M : List (List UInt8)} (h : MatX x w A M) (hg : w.grownBy w' row) (hrow : row = none ∨ row = some x) (hy : y = x ∨ w.heap.size ≤ y) : MatX y w' A M := by
  obtain ⟨vs, h1, h2, h3, h4⟩ := h
  have hr : ∀ b, b ≠ x → row ≠ some b := fun b hb hh => by
    rcases hrow with hrow | hrow
    · rw [hrow] at hh; cases hh
    · rw [hrow] at hh
      exact hb (Option.some.inj hh).symm
  have hyb : ∀ b, b < w.heap.size → b ≠ x → b ≠ y := fun b hb hx hh => by
    rcases hy with hy | hy
    · exact hx (hh.trans hy)
    · omega
  have hpos : ∀ ad, A = some ad → vs ≠ [] → 0 < M.length := fun ad _ hne => by
    have := List.length_pos_iff.2 hne
    omega
  refine ⟨vs, h1, fun hne => ?_, fun ad ha hl => ⟨Nat.lt_of_lt_of_le (h3 ad ha hl).1 hg.size, hyb _ (h3 ad ha hl).1 (h3 ad ha hl).2⟩, fun i v m hv hm => ?_⟩
  · obtain ⟨ad, e, hb, hc⟩ := h2 hne
    have := h2.apart hg (fun ad' ha' => hr _ (h3 ad' ha' (hpos ad' ha' hne)).2)
    exact this hne
  · obtain ⟨a, c, e1, e2, e3, e4, e5, e6⟩ := h4 i v m hv hm
    exact ⟨a, c, e1, e2, e3, e4, e5.apart hg (fun ad ha => hr _ (e6 ad ha).2.2), fun ad ha => ⟨(fun hh => by cases hh), Nat.lt_of_lt_of_le (e6 ad ha).2.1 hg.size, hyb _ (e6 ad ha).2.1 (e6 ad ha).2.2⟩⟩
theorem OwnQ.matX {x : Nat} {w : World} {base : Nat} {A : Option Addr} {n c : Nat} {K : List (List UInt8)} (h : OwnQ x w base (.slice A n c) K) (hx : x < base) : MatX x w A K := by
  obtain ⟨vs, h1, h2, h3⟩ := h
  obtain ⟨A', c', hv, _, _, _, g4⟩ := own_form h2
  cases hv
  refine ⟨vs, h1, g4, fun ad ha hl => ?_, fun i u m hu hm => ?_⟩
  · subst ha
    have := h2.lt ad.block rfl
    exact ⟨this.2, by omega⟩
  · obtain ⟨a, c, e1, e2, e3, e4, e5, e6⟩ := h3 i u m hu hm
    exact ⟨a, c, e1, e2, e3, e4, e5, fun ad ha => ⟨(fun hh => by cases hh), (e6 ad ha).2⟩⟩
theorem Mat.off {x B cc : Nat} {w : World} {A : Option Addr} {M : List (List UInt8)} (h : Mat w B A M) (hre : Rect M cc) (hcc : 0 < cc) (hB : B ≤ w.heap.size) (hx : B ≤ x) : MatX x w A M := by
  obtain ⟨vs, h1, h2, h3⟩ := h
  refine ⟨vs, h1, h2.more hB, fun ad ha hl => ?_, fun i v m hv hm => mat_off (A := A) (M := M) (cc := 0) (i := 0) (h3 i v m hv hm) (by rw [hre.at hm]; exact hcc) hB hx (fun g hg => by cases hg)⟩
  obtain ⟨ad', e, hb, _⟩ := h2 (by rintro rfl; simp at h1; omega)
  rw [ha] at e
  cases e
  omega
/-- Where block p alone may have changed, and the matrix lies apart from p. -/
theorem MatX.both {x : Nat} {w w' : World} {row : Option Nat} {A : Option Addr} {M : List (List UInt8)} (h : MatX x w A M) (hp : ∀ b, row = some b → MatX b w A M) (hg : w.grownBy w' row) : MatX x w' A M := by
  obtain ⟨vs, h1, h2, h3, h4⟩ := h
  have hro : ∀ b, row = some b → (∀ ad, A = some ad → 0 < M.length → ad.block ≠ b) ∧ ∀ (i : Nat) (v : Value) (m : List UInt8), vs[i]? = some v → M[i]? = some m → ∀ a n c, v = .slice (some a) n c → a.block ≠ b := fun b hb => by
    obtain ⟨vs', k1, k2, k3, k4⟩ := hp b hb
    refine ⟨fun ad ha hl => (k3 ad ha hl).2, fun i v m hv hm a n c hva => ?_⟩
    have hl := (List.getElem?_eq_some_iff.1 hm).1
    obtain ⟨v', hv'⟩ : ∃ v, vs'[i]? = some v := ⟨_, List.getElem?_eq_getElem (by omega)⟩
    obtain ⟨ad, hA, _, hc⟩ := h2.look hv
    obtain ⟨ad', hA', _, hc'⟩ := k2.look hv'
    rw [hA] at hA'
    cases hA'
    rw [hc] at hc'
    cases hc'
    obtain ⟨a', c', e1, _, _, _, _, e6⟩ := k4 i v m hv' hm
    rw [hva] at e1
    cases e1
    exact (e6 a rfl).2.2
  have hpos : ∀ ad, A = some ad → vs ≠ [] → 0 < M.length := fun ad _ hne => by
    have := List.length_pos_iff.2 hne
    omega
  refine ⟨vs, h1, fun hne => ?_, fun ad ha hl => ⟨Nat.lt_of_lt_of_le (h3 ad ha hl).1 hg.size, (h3 ad ha hl).2⟩, fun i v m hv hm => ?_⟩
  · exact h2.apart hg (fun ad' ha' hh => (hro ad'.block hh).1 ad' ha' (hpos ad' ha' hne) rfl) hne
  · obtain ⟨a, c, e1, e2, e3, e4, e5, e6⟩ := h4 i v m hv hm
    exact ⟨a, c, e1, e2, e3, e4, e5.apart hg (fun ad ha hh => (hro ad.block hh).2 i v m hv hm ad _ _ (by rw [e1, ha]) rfl), fun ad ha => ⟨(fun hh => by cases hh), Nat.lt_of_lt_of_le (e6 ad ha).2.1 hg.size, (e6 ad ha).2.2⟩⟩
theorem MatX.nil {x : Nat} {w : World} {A : Option Addr} : MatX x w A [] := ⟨[], rfl, Rds.empty, fun ad _ hl => absurd hl (by simp), fun i v m hv => by simp at hv⟩
theorem MatX.take {x : Nat} {w : World} {A : Option Addr} {M : List (List UInt8)} (h : MatX x w A M) (k : Nat) : MatX x w A (M.take k) := by
  obtain ⟨vs, h1, h2, h3, h4⟩ := h
  refine ⟨vs.take k, by simp [h1], h2.take k, fun ad ha hl => h3 ad ha (by rw [List.length_take] at hl; omega), fun i v m hv hm => ?_⟩
  have hik : i < k := by
    rcases Nat.lt_or_ge i k with hh | hh
    · exact hh
    · rw [List.getElem?_eq_none (by rw [List.length_take]; omega)] at hv; cases hv
  rw [List.getElem?_take_of_lt hik] at hv hm
  exact h4 i v m hv hm
/-- All rows are new: the matrix lies apart from each old block. -/
theorem OwnQ.allnew {x base : Nat} {w : World} {g n c : Nat} {K : List (List UInt8)} (h : OwnQ x w base (.slice (some ⟨g, 0, none⟩) n c) K) (hx : x < base) (hnew : ∀ i, i < K.length → ∀ a m c', w.cell? ⟨g, i, none⟩ = some (.slice (some a) m c') → base ≤ a.block) {y : Nat} (hy : y < base) : MatX y w (some ⟨g, 0, none⟩) K := by
  obtain ⟨vs, h1, h2, h3⟩ := h
  obtain ⟨A', c', hv, _, _, _, g4⟩ := own_form h2
  cases hv
  refine ⟨vs, h1, g4, fun ad ha hl => ?_, fun i u m hu hm => ?_⟩
  · cases ha
    have := h2.lt g rfl
    exact ⟨this.2, by show g ≠ y; omega⟩
  · obtain ⟨a, c, e1, e2, e3, e4, e5, e6⟩ := h3 i u m hu hm
    refine ⟨a, c, e1, e2, e3, e4, e5, fun ad ha => ⟨(fun hh => by cases hh), (e6 ad ha).2.1, ?_⟩⟩
    obtain ⟨ad', hA, _, hc⟩ := g4.look hu
    cases hA
    have e9 : (⟨g, 0, none⟩ : Addr).add i = ⟨g, i, none⟩ := by unfold Addr.add; simp <;> omega
    rw [e9, e1, ha] at hc
    have := hnew i (List.getElem?_eq_some_iff.1 hm).1 ad _ _ hc
    omega
theorem copy_x {x : Nat} {w0 : World} {ops : Array Oper} {rest : List Oper} {o : Oper} {a : Act} {Q : Exit → Act → World → Prop} (hgd : o.guard = none) (s y : Operand)
    (ho : o.op = .call { callee := .builtin .append, args := #[s, y], argTypes := #[22, 22] })
    (ad : Addr) (c : Nat) (M : List (List UInt8)) (hs : a.eval s = .slice (some ⟨w0.heap.size, 0, none⟩) 0 0) (hy : a.eval y = .slice (some ad) M.length c)
    (h0 : MatX x w0 (some ad) M) (hl : M.length ≤ 1000000)
    (h : ∀ v' w', OwnQ x w' w0.heap.size v' M → Below w0.heap.size w0 w' → wpList Tryd.prog ops Q rest (a.put o.dst v') w') :
    wpList Tryd.prog ops Q (o :: rest) a (w0.alloc (.cells #[] 43)) := by
  obtain ⟨vs, h1, h2, _, h3⟩ := h0
  obtain ⟨i0, hi, hz0, hz1, hz2⟩ := info_parts infoRow
  have hown : (w0.alloc (.cells #[] 43)).ownsRow w0.heap.size 43 1 (.slice (some ⟨w0.heap.size, 0, none⟩) 0 0) 0 [] :=
    ⟨rfl, .inr ⟨w0.heap.size, 0, #[], rfl, Nat.le_refl _, Blk.new w0 [] 43, Nat.le_refl _, Nat.zero_le _, rfl, rfl⟩⟩
  have hB1 : Below w0.heap.size w0 (w0.alloc (.cells #[] 43)) := (Below.refl _ _).alloc (Nat.le_refl _) _
  refine wpList_append_own_at _ hgd s y 22 ho w0.heap.size 43 i0 (.slice none 0 0) 1 24 Tryd.underlying22 hi hz0 hz1 hz2 rfl (by decide) _ 0 [] hs hown ad M.length c vs hy (by rw [h1]; omega) (fun j u hu => ?_) (fun u hu => ?_) (by unfold maxLen; omega) (by omega) hB1.size ?_
  · obtain ⟨ad', e, hb, hc⟩ := h2.look hu
    cases e
    rw [hB1.cell (p := ad.add j) (by rw [add_block]; omega)]
    exact hc
  · obtain ⟨i, hi'⟩ := List.getElem?_of_mem hu
    obtain ⟨m, hm⟩ : ∃ m, M[i]? = some m := ⟨_, List.getElem?_eq_getElem (by rw [← h1]; exact (List.getElem?_eq_some_iff.1 hi').1)⟩
    obtain ⟨_, _, rfl, _⟩ := h3 i u m hi' hm
    rfl
  · intro v' w' g1 g2 g3 g4
    have hsz1 : (w0.alloc (.cells #[] 43)).heap.size = w0.heap.size + 1 := by simp
    have hB2 : Below w0.heap.size w0 w' := hB1.trans ((Below.refl _ _).grown g2 hB1.size fun k hk => by cases hk; exact Nat.le_refl _)
    refine h v' w' ⟨vs, h1, by rw [Nat.zero_add, List.nil_append] at g1; exact g1, fun i u m hu hm => ?_⟩ hB2
    obtain ⟨aa, ca, e1, e2, e3, e4, e5, e6⟩ := h3 i u m hu hm
    refine ⟨aa, ca, e1, e2, e3, e4, (e5.below hB2).more hB2.size, fun ad2 ha => ⟨fun hh => ?_, by have := (e6 ad2 ha).2.1; have := hB2.size; omega, (e6 ad2 ha).2.2⟩⟩
    have hb := (e6 ad2 ha).2.1
    rcases g4 with g4 | g4
    · rw [g4] at hh
      have : w0.heap.size = ad2.block := Option.some.inj hh
      omega
    · rw [g4, hsz1] at hh
      have : w0.heap.size + 1 = ad2.block := Option.some.inj hh
      omega
theorem clr0_len (M : List (List UInt8)) (top col i : Nat) : (clr0 M top col i).length = M.length := by simp [clr0]
theorem clr0_rect {M : List (List UInt8)} {c top i : Nat} (h : Rect M c) (col : Nat) (ht : top < M.length) (hi : i < M.length) : Rect (clr0 M top col i) c :=
  Rect.set (Rect.set h _ (h.getD ht)) _ (by rw [mulR_len]; exact h.getD hi)

set_option maxRecDepth 100000 in
set_option maxHeartbeats 8000000 in
theorem cleared_any (x : Nat) (M : List (List UInt8)) (A : Option Addr) (c n r at' col cc : Nat) (w : World) (h : MatX x w A M) (hxw : x < w.heap.size) (hn : M.length = n) (hrect : Rect M cc) (hcol : col < cc) (hr : r < n) (hat : at' < n) (hne : el M at' col ≠ 0) (hl : n ≤ 100000) (hcc : cc ≤ 100000) :
    Calls Tryd.prog 77 #[.slice A n c, .int .i64 r, .int .i64 at', .int .i64 col] w fun e w' => ∃ A' c', e = .returned (.slice A' n c') ∧ n ≤ c' ∧ c' ≤ maxLen ∧ (∀ y, y < w.heap.size → MatX y w' A' (pivStep M r col at')) ∧ Below w.heap.size w w' := by
  obtain ⟨mr, hmr⟩ : ∃ m, M[r]? = some m := ⟨_, List.getElem?_eq_getElem (by omega)⟩
  obtain ⟨ma, hma⟩ : ∃ m, M[at']? = some m := ⟨_, List.getElem?_eq_getElem (by omega)⟩
  have hmrl := hrect.at hmr
  have hmal := hrect.at hma
  obtain ⟨ad, vr, rfl, hab, hcr, hvr⟩ := h.look hmr
  obtain ⟨ad', va, e, hab2, hca, hva⟩ := h.look hma
  cases e
  obtain ⟨ar, cr, hvre, har, hrr, hrl⟩ := row_look hvr.at (by omega)
  obtain ⟨aa, ca, hvae, haa, hra, hal⟩ := row_look hva.at (by omega)
  rw [hmrl] at hvre
  rw [hmal] at hvae
  subst hvre
  subst hvae
  have hcb := hal col (by omega)
  have hel : ma.getD col 0 = el M at' col := (el_get hma col).symm
  rw [hel] at hcb
  obtain ⟨b, hb⟩ : ∃ b, el M at' col = b := ⟨_, rfl⟩
  rw [hb] at hcb hne
  -- the rows that the loop begins with
  obtain ⟨p, hp⟩ : ∃ p, p = mulR (Gf.inv b) ma := ⟨_, rfl⟩
  have hpl : p.length = cc := by rw [hp, mulR_len, hmal]
  obtain ⟨N, hN⟩ : ∃ N, N = clr0 M r col at' := ⟨_, rfl⟩
  have hNl : N.length = n := by rw [hN, clr0_len, hn]
  have hNr : Rect N cc := by rw [hN]; exact clr0_rect hrect col (by omega) (by omega)
  have hNe : N = (M.set at' mr).set r p := by
    rw [hN, hp]
    unfold clr0
    rw [hb, List.getD_eq_getElem?_getD (l := M) (i := r), hmr, List.getD_eq_getElem?_getD (l := M) (i := at'), hma]
    rfl
  have hNp : N[r]? = some p := by rw [hNe, List.getElem?_set_self (by simp; omega)]
  have hend : elimK N r col p n = pivStep M r col at' := by
    rw [pivStep_alt, ← hN, hb, hn]
    congr 1
    rw [hp, List.getD_eq_getElem?_getD, hma]
    rfl
  have hNl' := Lib.hid hNl
  have hNr' := Lib.hid hNr
  have hNe' := Lib.hid hNe
  have hNp' := Lib.hid hNp
  have hend' := Lib.hid hend
  have hpl' := Lib.hid hpl
  have hp' := Lib.hid hp
  have hne' := Lib.hid hne
  have hM := Lib.hid h
  have hn' := Lib.hid hn
  have hrect' := Lib.hid hrect
  have hvr' := Lib.hid hvr
  have hra' := Lib.hid hra
  have hmal' := Lib.hid hmal
  have hmrl' := Lib.hid hmrl
  have haa' := Lib.hid haa
  have hab' := Lib.hid hab
  have hcrH := Lib.hid hcr
  have hcaH := Lib.hid hca
  have hcbH := Lib.hid hcb
  have hxw' := Lib.hid hxw
  have hcc0 : 0 < cc := by omega
  have tr : (r : Int) < (n : Int) := by omega
  have tr0 : 0 ≤ (r : Int) := by omega
  have ta : (at' : Int) < (n : Int) := by omega
  have ta0 : 0 ≤ (at' : Int) := by omega
  have tc : (col : Int) < (cc : Int) := by omega
  have tc0 : 0 ≤ (col : Int) := by omega
  clear hxw hNl hNr hNe hNp hend hpl hp hne h hn hrect hvr hra hmal hmrl haa hab hcr hca hcb hab2 har hrr hrl hva hal hmr hma hel hb hN
  go_enter Tryd.func77, Tryd.ntmps77
  have CELLS : Hid (∀ W, Below w.heap.size w W → W.cell? (ad.add r) = some (.slice (some ar) cc cr) ∧ W.cell? (ad.add at') = some (.slice (some aa) cc ca) ∧ W.cell? (aa.add col) = some (bv b)) := fun W hW =>
    ⟨(hW.cell (p := ad.add r) (by rw [add_block]; exact hab'.out)).trans hcrH.out, (hW.cell (p := ad.add at') (by rw [add_block]; exact hab'.out)).trans hcaH.out, (hW.cell (p := aa.add col) (by rw [add_block]; exact haa'.out)).trans hcbH.out⟩
  have HMK : Hid (∀ W, (Instr.makeSlice 43 (.int .i64 cc) (.int .i64 cc)).run Tryd.prog W = .ok (.slice (some ⟨W.heap.size, 0, none⟩) cc cc) (W.alloc (.cells (madeCells #[.int .u8 0] cc) 5))) := fun W => run_make_row' (P := Tryd.prog) 43 5 (.int .u8 0) 1 Tryd.underlying43 infoByte rfl .i64 .i64 cc (by omega) (by omega) W
  have HZ : Hid (∀ W, Below W.heap.size W (W.alloc (.cells (madeCells #[.int .u8 0] cc) 5)) ∧ Rds (W.alloc (.cells (madeCells #[.int .u8 0] cc) 5)) (W.alloc (.cells (madeCells #[.int .u8 0] cc) 5)).heap.size (some ⟨W.heap.size, 0, none⟩) ((List.replicate cc (0 : UInt8)).map bv)) := fun W => by
    have hB : Below W.heap.size W (W.alloc (.cells (madeCells #[.int .u8 0] cc) 5)) := (Below.refl _ _).alloc (Nat.le_refl _) _
    refine ⟨hB, ?_⟩
    have hZ : Blk (W.alloc (.cells (madeCells #[.int .u8 0] cc) 5)) W.heap.size ((List.replicate cc (0 : UInt8)).map bv) 5 := by
      rw [made_zeros, zeros_row]
      exact Blk.new _ _ _
    have := hZ.rds 0 cc
    rw [List.drop_zero, List.take_of_length_le (by simp)] at this
    exact this
  go_wp2_with (first | (at_builtin; go_must (refine copy_x (x := x) rfl _ _ rfl ad c M rfl (by rw [hn'.out]; rfl) hM.out (by have := hn'.out; omega) ?_); intro v1 w1 hq1 hb1; obtain ⟨g, cap, hv, hgx, hgl, hcap1, hcap2⟩ := open_q hq1 (by have := hn'.out; omega); rw [hn'.out] at hv hcap1; subst hv; have Q1 := Lib.hid hq1; have B1 := Lib.hid hb1; obtain ⟨c1, -, -⟩ := CELLS.out w1 hb1; clear hq1 hb1) | (refine set_q (x := x) rfl _ _ rfl g n cap at' M (.slice (some ar) cc cr) mr rfl rfl Q1.out (by have := hn'.out; omega) (hvr'.out.other B1.out hgx) ?_; intro w2 hq2 ho2 hcc2; have B2 := Lib.hid (B1.out.trans (ho2.below hgx)); obtain ⟨w3, hw3⟩ : ∃ w3, w3 = w2.alloc (.cells (madeCells #[.int .u8 0] cc) 5) := ⟨_, rfl⟩; have hmk := HMK.out w2; rw [← hw3] at hmk; obtain ⟨hb3, hz3⟩ := HZ.out w2; rw [← hw3] at hb3 hz3; have B3 := Lib.hid (B2.out.trans (hb3.mono B2.out.size)); have Z3 := Lib.hid hz3; have Q3 := Lib.hid (hq2.out.keep hb3); obtain ⟨-, d2, -⟩ := CELLS.out w2 B2.out; obtain ⟨-, e2, e3⟩ := CELLS.out w3 B3.out; clear hq2 ho2 hb3 hz3 hw3 Q1 hcc2))
  refine (refInv_any b w3 hne'.out).mono ?_
  rintro e w4 ⟨rfl, rfl⟩
  have hx3 : x < w3.heap.size := by have := B3.out.size; have := hxw'.out; omega
  have SUM := Lib.hid (refSum5_any (List.replicate cc 0) ma (Gf.inv b) (some ⟨w2.heap.size, 0, none⟩) (some aa) cc ca cc cc w3 Z3.out (hra'.out.below B3.out) (Nat.le_refl _) B3.out.size (by simp) hmal'.out.symm (by simp; have := hmal'.out; omega) (by simp; omega))
  go_wp2_with fail
  refine SUM.out.mono ?_
  rintro e w5 ⟨v, rfl, hv, hb5⟩
  have hpe : addR (Gf.inv b) ma (List.replicate cc 0) = p := by
    have := addR_zeros (Gf.inv b) ma
    rw [hmal'.out] at this
    rw [this, hp'.out]
  rw [hpe] at hv
  have RO5 := Lib.hid (own_off (x := x) hv Q3.out hx3)
  have NR5 := Lib.hid (NewRow.of hv)
  have Q5 := Lib.hid (Q3.out.keep hb5)
  have B5 := Lib.hid (B3.out.trans (hb5.mono B3.out.size))
  obtain ⟨Av, cv, hve, _⟩ := own_form hv
  rw [hpl'.out] at hve
  subst hve
  clear hv hb5 hpe SUM e2 e3 d2 hmk c1
  go_wp2_with (refine set_q (x := x) rfl _ _ rfl g n cap r (M.set at' mr) (.slice Av cc cv) p rfl rfl Q5.out (by rw [List.length_set, hn'.out]; omega) RO5.out ?_; intro w6 hq6 ho6 hc6)
  have Q6 : Hid (OwnQ x w6 w.heap.size (.slice (some ⟨g, 0, none⟩) n cap) (elimK N r col p 0)) := by
    show OwnQ _ _ _ _ _
    rw [elimK_zero, hNe'.out]
    exact hq6.out
  have B6 := Lib.hid (B5.out.trans (ho6.below hgx))
  have N6 : Hid (∀ i, (i < 0 ∨ i = r) → i < n → ∀ a m c', w6.cell? ⟨g, i, none⟩ = some (.slice (some a) m c') → w.heap.size ≤ a.block) := fun i hi _ a m c' hca => by
    have hir : i = r := by omega
    subst hir
    rw [hc6.out.1] at hca
    obtain ⟨a2, c2, f1, _, _, _, _, f6⟩ := NR5.out
    cases f1
    have := Option.some.inj hca
    cases this
    have := (f6 a rfl).1
    have := B3.out.size
    omega
  clear hq6 ho6 hc6 Q5 RO5 NR5 B5 Q3 Z3 B3 B2 hx3
  go_wp2_with fail
  go_loopw [12] (fun i wr => ∃ k : Nat, k ≤ n ∧ i = .int .i64 k ∧ OwnQ x wr w.heap.size (.slice (some ⟨g, 0, none⟩) n cap) (elimK N r col p k) ∧ Below w.heap.size w wr ∧ Hid (∀ i, (i < k ∨ i = r) → i < n → ∀ a m c', wr.cell? ⟨g, i, none⟩ = some (.slice (some a) m c') → w.heap.size ≤ a.block)) (fun i _ => n - (intOf i).toNat)
  case atStart => exact ⟨0, Nat.zero_le _, rfl, Q6.out, B6.out, N6⟩
  case round =>
    obtain ⟨k, hk, rfl, ho0, hb0, hnw⟩ := hrel
    have ho := Lib.hid ho0
    have hb := Lib.hid hb0
    clear ho0 hb0 N6
    by_cases hlt : k < n
    · have tl : (k : Int) < (n : Int) := by omega
      have tk0 : 0 ≤ (k : Int) := by omega
      by_cases hkr : k = r
      · have t2 : ((k : Int) != (r : Int)) = false := by simp only [bne_eq_false_iff_eq]; omega
        have hnext : Hid (elimK N r col p (k + 1) = elimK N r col p k) := elimK_skip N r col p k (.inl hkr)
        have hnw2 : Hid (∀ i, (i < k + 1 ∨ i = r) → i < n → ∀ a m c', wr.cell? ⟨g, i, none⟩ = some (.slice (some a) m c') → w.heap.size ≤ a.block) := fun i hi hin => hnw.out i (by omega) hin
        clear hkr hnw
        go_wp2_with fail
        go_roundw
        case rel => exact ⟨k + 1, by omega, by go_num, by rw [hnext.out]; exact ho.out, hb.out, hnw2⟩
        case measure => simp [intOf]; omega
      · have t2 : ((k : Int) != (r : Int)) = true := by simp only [bne_iff_ne, ne_eq]; omega
        obtain ⟨mk, hmk⟩ : ∃ m, N[k]? = some m := ⟨_, List.getElem?_eq_getElem (by rw [hNl'.out]; exact hlt)⟩
        have hmkl := hNr'.out.at hmk
        have hnext := Lib.hid (elimK_next N r col p k mk hmk hkr)
        have hKk : (elimK N r col p k)[k]? = some mk := by rw [elimK_get, hmk]; simp
        have hKr : (elimK N r col p k)[r]? = some p := by rw [elimK_get, hNp'.out]; simp
        obtain ⟨ak, ck, z1, hgl2, hak, hrk, hrkl⟩ := look_q ho.out hKk (by omega)
        obtain ⟨ap, cp, z3, _, hap, hrp, _⟩ := look_q ho.out hKr (by have := hpl'.out; omega)
        have z2 := hrkl col (by omega)
        rw [hmkl] at z1
        rw [hpl'.out] at z3
        obtain ⟨bb, hbb⟩ : ∃ x, mk.getD col 0 = x := ⟨_, rfl⟩
        rw [hbb] at z2 hnext
        have y1 : ∀ z : ExtOf wr.drew, z.world.cell? ⟨g, k, none⟩ = some (.slice (some ak) cc ck) := fun z => by
          rw [z.ext.cell (p := ⟨g, k, none⟩) hgl2]; exact z1
        have y3 : ∀ z : ExtOf wr.drew, z.world.cell? ⟨g, r, none⟩ = some (.slice (some ap) cc cp) := fun z => by
          rw [z.ext.cell (p := ⟨g, r, none⟩) hgl2]; exact z3
        have y2 : ∀ z : ExtOf wr.drew, z.world.cell? (ak.add col) = some (bv bb) := fun z => by
          rw [z.ext.cell (p := ak.add col) (by rw [add_block]; exact hak)]; exact z2
        have hd : Hid (Below w.heap.size w wr.drew) := hb.out.drew
        have hxl : x < wr.drew.heap.size := by
          have h1 := hb.out.size
          have := hxw'.out
          show x < wr.heap.size
          omega
        have Qd : Hid (OwnQ x wr.drew w.heap.size (.slice (some ⟨g, 0, none⟩) n cap) (elimK N r col p k)) := ho.out.keep ((Below.refl _ _).drew)
        have SUM := Lib.hid (refSum5_any mk p bb (some ak) (some ap) ck cp cc cc wr.drew hrk hrp (Nat.le_refl _) (Nat.le_refl _) hmkl.symm hpl'.out.symm (by have := hpl'.out; omega) (by omega))
        have hlen : Hid ((elimK N r col p k).length = n) := by show _ = _; rw [elimK_len, hNl'.out]
        have hadd : Hid ((addR bb p mk).length = cc) := by show _ = _; rw [addR_len, hmkl]
        have hgl3 : Hid (g < wr.drew.heap.size) := hgl2
        clear hmk hmkl hKk hKr z1 z2 z3 hak hrk hrkl hap hrp hbb hgl2 ho hkr
        go_wp2_with fail
        refine wp_region_planM [19] [(true, 0), (true, 1), (true, 2), (true, 3), (true, 4), (true, 5), (true, 6), (true, 7), (true, 8), (true, 9), (true, 10), (true, 11), (true, 12), (true, 13), (true, 14), (true, 15), (true, 16), (false, 17), (true, 18), (false, 19)] (by decide) (by kernel_rfl) (by kernel_rfl) (by decide) (by intro c a d v w h; cases d <;> exact h) ?_
        change wpPlanM _ _ _ _ _ _ wr.drew
        iterate 17 (refine wpPlanM_plain rfl (fun K hK => ?_); go_simp; refine hK _ ?_; clear hK K)
        clear y1 y2 y3
        refine wpPlanM_call rfl (fun K hK => ?_)
        go_wp2_with fail
        refine SUM.out.mono ?_
        rintro e w7 ⟨v, rfl, hv, hb7⟩
        have RO7 := Lib.hid (own_off (x := x) hv Qd.out hxl)
        have NR7 := Lib.hid (NewRow.of hv)
        have CE7 : Hid (∀ i, w7.cell? ⟨g, i, none⟩ = wr.cell? ⟨g, i, none⟩) := fun i => (hb7.cell (p := ⟨g, i, none⟩) hgl3.out).trans rfl
        have hd7 := Lib.hid hd.out.size
        have Q7 := Lib.hid (Qd.out.keep hb7)
        have B7 := Lib.hid (hd.out.trans (hb7.mono hd.out.size))
        obtain ⟨Aw, cw, hve, _⟩ := own_form hv
        rw [hadd.out] at hve
        subst hve
        go_wp2_with fail
        refine planPostL_normal ⟨.inr hb7, hK _ _ ?_⟩
        clear hK K hv hb7 SUM Qd hd
        refine wpPlanM_plain rfl (fun K hK => ?_)
        go_simp
        refine hK _ ?_
        clear hK K
        refine wpPlanM_call rfl (fun K hK => ?_)
        refine set_q (x := x) rfl _ _ rfl g n cap k (elimK N r col p k) (.slice Aw cc cw) (addR bb p mk) rfl rfl Q7.out (by rw [hlen.out]; exact hlt) RO7.out ?_
        intro w8 hq8 ho8 hc8
        have Q8 : Hid (OwnQ x w8 w.heap.size (.slice (some ⟨g, 0, none⟩) n cap) (elimK N r col p (k + 1))) := by
          show OwnQ _ _ _ _ _
          rw [← hnext.out]
          exact hq8.out
        have B8 := Lib.hid (B7.out.trans (ho8.below hgx))
        have N8 : Hid (∀ i, (i < k + 1 ∨ i = r) → i < n → ∀ a m c', w8.cell? ⟨g, i, none⟩ = some (.slice (some a) m c') → w.heap.size ≤ a.block) := fun i hi hin a m c' hca => by
          by_cases hik : i = k
          · subst hik
            rw [hc8.out.1] at hca
            obtain ⟨a2, c2, f1, _, _, _, _, f6⟩ := NR7.out
            cases f1
            have := Option.some.inj hca
            cases this
            have := (f6 a rfl).1
            have := hd7.out
            omega
          · rw [hc8.out.2 i (by rw [hlen.out]; exact hin) hik, CE7.out] at hca
            exact hnw.out i (by omega) hin a m c' hca
        clear hq8 ho8 hc8
        go_wp2_with fail
        refine planPostL_normal ⟨.inl (by simp), hK _ _ ?_⟩
        clear hK K
        refine wpPlanM_nil ?_
        go_wp2_with fail
        go_roundw
        case rel => exact ⟨k + 1, by omega, by go_num, Q8.out, B8.out, N8⟩
        case measure => simp [intOf]; omega
    · have tl : ¬ (k : Int) < (n : Int) := by omega
      have ek : n = k := by omega
      subst ek
      have hme : ∀ y, y < w.heap.size → MatX y wr (some ⟨g, 0, none⟩) (pivStep M r col at') := fun y hy => by
        have := ho.out.allnew hxw'.out (fun i hi => hnw.out i (by rw [elimK_len, hNl'.out] at hi; omega) (by rw [elimK_len, hNl'.out] at hi; exact hi)) hy
        rw [hend'.out] at this
        exact this
      go_wp2_with fail
      go_ret
      exact ⟨_, _, rfl, hcap1, hcap2, hme, hb.out⟩
end Go.Proofs.YtfbdhcpclccikaaDoor

namespace Go.Proofs.YtfbdhcpclccikaaDoor
set_option linter.unusedVariables false
set_option linter.unusedSimpArgs false
open Go.RowKit

theorem size_red : (Tryd.prog.info? 38).map (·.size) = some 2 := by kernel_rfl
theorem row_red : ∃ d, Tryd.prog.underlying 38 = some d ∧ d.isRow = true := ⟨_, Tryd.underlying38, rfl⟩
theorem red_one (A : Option Addr) (n c : Nat) (A' : Option Addr) (n' c' : Nat) : ∀ u ∈ [Value.slice A n c, Value.slice A' n' c'], u.oneCell' = true := by
  intro u hu
  simp only [List.mem_cons, List.not_mem_nil, or_false] at hu
  rcases hu with rfl | rfl <;> rfl
/-- What Reduce's loop knows of the rows and of the pivots. -/
def RRel (Y : Nat → Prop) (g cc n : Nat) (w : World) (v4 v3 : Value) (M : List (List UInt8)) (piv : List Nat) : Prop :=
  ∃ A c A2 c2, v3 = .slice A n c ∧ v4 = .slice A2 piv.length c2 ∧ n ≤ c ∧ M.length = n ∧ Rect M cc ∧ Mat w w.heap.size A M ∧ (0 < cc → MatX g w A M) ∧ OwnP w (g + 1) v4 piv ∧ (∀ y, Y y → MatX y w A M)
/-- What Reduce ends with. -/
def RefRed (Y : Nat → Prop) (w : World) (M : List (List UInt8)) (e : Ending) (w' : World) : Prop :=
  ∃ A c A2 c2, e = .returned (.agg #[.slice A (redP M).length c, .slice A2 (redP M).length c2]) ∧ Mat w' w'.heap.size A (redR M) ∧ Rds w' w'.heap.size A2 ((redP M).map pv) ∧ Below w.heap.size w w' ∧ ∀ y, Y y → MatX y w' A (redR M)

set_option maxRecDepth 100000 in
set_option maxHeartbeats 8000000 in
theorem refReduce_any (Y : Nat → Prop) (M : List (List UInt8)) (A : Option Addr) (c n cc : Nat) (w : World) (hY : ∀ y, Y y → y < w.heap.size ∧ MatX y w A M) (h : Mat w w.heap.size A M) (hn : M.length = n) (hnc : n ≤ c) (hrect : Rect M cc) (hl : n ≤ 100000) (hcc : cc ≤ 100000) :
    Calls Tryd.prog 25 #[.slice A n c] w (RefRed Y w M) := by
  obtain ⟨dd, hdu, hdr⟩ := row_red
  have hdu' := Lib.hid hdu
  obtain ⟨W1, hW1⟩ : ∃ W1, W1 = w.alloc (.cells #[.slice none 0 0, .slice none 0 0] 38) := ⟨_, rfl⟩
  have hB1 : Hid (Below w.heap.size w W1) := by show Below _ _ _; rw [hW1]; exact (Below.refl _ _).alloc (Nat.le_refl _) _
  have hR1 : Hid (Blk W1 w.heap.size [.slice none 0 0, .slice none 0 0] 38) := by show Blk _ _ _ _; rw [hW1]; exact Blk.new _ [_, _] _
  have hs1 : Hid (W1.heap.size = w.heap.size + 1) := by show _ = _; rw [hW1]; simp
  have hW1' := Lib.hid hW1
  have hM0 := Lib.hid h
  have hM1 : Hid (Mat W1 w.heap.size A M) := h.below hB1.out
  obtain ⟨q, hq⟩ : ∃ q, cols M = q := ⟨_, rfl⟩
  have hqc : M = [] ∧ q = 0 ∨ q = cc := by
    cases M with
    | nil => left; exact ⟨rfl, by rw [← hq]; rfl⟩
    | cons m M => right; rw [← hq]; exact hrect m (List.mem_cons_self ..)
  have hq100 : q ≤ 100000 := by rcases hqc with ⟨_, h⟩ | h <;> omega
  have hqlt : ∀ k, k < q → k < cc := fun k hk => by rcases hqc with ⟨_, h⟩ | h <;> omega
  have hqlt' := Lib.hid hqlt
  have CC : Hid (∀ W, Below W1.heap.size W1 W → Calls Tryd.prog 37 #[.slice A n c] W fun e w' => e = .returned (.int .i64 q) ∧ w' = W) := fun W hW => by
    rw [← hn, ← hq]
    exact refColumns_any M A c W (hM1.out.below (hW.mono (by rw [hs1.out]; omega)))
  have hYl : Hid (∀ y, Y y → y < w.heap.size) := fun y hy => (hY y hy).1
  have hrel0 : Hid (RRel Y w.heap.size cc n W1 (.slice none 0 0) (.slice A n c) (red M 0).1 (red M 0).2) := by
    refine ⟨A, c, none, 0, rfl, rfl, hnc, hn, hrect, hM1.out.more hB1.out.size, fun h0 => hM1.out.off hrect h0 (by rw [hs1.out]; omega) (Nat.le_refl _), ?_⟩
    exact ⟨ownP_nil W1 _, fun y hy => (hY y hy).2.keep hB1.out⟩
  have hend : Hid (q = cols M) := hq.symm
  have hlen : Hid (∀ k, (red M k).2.length ≤ n ∧ (red M k).2.length ≤ k ∧ (red M k).1.length = n) := fun k => ⟨by rw [← hn]; exact red_piv_le hrect k, red_piv_le_n hrect k, by rw [red_len hrect, hn]⟩
  have hrr : Hid (∀ k, Rect (red M k).1 cc) := fun k => red_rect hrect k
  clear hdu hW1 h hn hq hqc hqlt hrect hM0 hnc hY
  go_enter Tryd.func25, Tryd.ntmps25
  go_wp2_with fail
  generalize hg : w.alloc _ = Wg
  have hgW : W1 = Wg := by rw [← hg, hW1'.out]
  clear hg hW1'
  subst hgW
  go_loopw [3, 4, 5] (fun v3 v4 i wr => ∃ k : Nat, k ≤ q ∧ i = .int .i64 k ∧ RRel Y w.heap.size cc n wr v4 v3 (red M k).1 (red M k).2 ∧ Below W1.heap.size W1 wr) (fun _ _ i _ => q - (intOf i).toNat)
  case atStart => exact ⟨0, Nat.zero_le _, rfl, hrel0.out, Below.refl _ _⟩
  case round =>
    obtain ⟨k, hk, rfl, hR0, hb0⟩ := hrel
    have hb := Lib.hid hb0
    have C1 := Lib.hid (CC.out _ hb0)
    obtain ⟨A3, c3, A4, c4, rfl, rfl, hc3, hl3, hr3, hm3, hx3, hp3, hy3⟩ := hR0
    have hy3' := Lib.hid hy3
    have hm3' := Lib.hid hm3
    have hx3' := Lib.hid hx3
    have hp3' := Lib.hid hp3
    have hr3' := Lib.hid hr3
    have hl3' := Lib.hid hl3
    have hlk := Lib.hid (hlen.out k)
    obtain ⟨p, hp⟩ : ∃ p, (red M k).2.length = p := ⟨_, rfl⟩
    have hpp := Lib.hid hp
    have hpn : p ≤ n := by rw [← hp]; exact hlk.out.1
    rw [hp]
    clear hb0 hm3 hx3 hp3 hr3 hl3 hp hy3
    go_wp2_with fail
    refine C1.out.mono ?_
    rintro e w3 ⟨rfl, rfl⟩
    by_cases hlt : k < q
    · have t : (k : Int) < (q : Int) := by omega
      have tk0 : 0 ≤ (k : Int) := by omega
      have hkcc := hqlt'.out k hlt
      have LD := Lib.hid (lead_any (red M k).1 A3 c3 p k cc w3 hm3'.out hr3'.out hkcc (by rw [hl3'.out]; omega))
      rw [hl3'.out] at LD
      obtain ⟨f, hf⟩ : ∃ f, findP (red M k).1 k p = f := ⟨_, rfl⟩
      unfold leadI at LD
      rw [hf] at LD
      have hf' := Lib.hid hf
      clear hf C1
      cases f with
      | none =>
        have hnext : Hid (red M (k + 1) = red M k) := by
          show _ = _
          rw [red_succ, redGo_none (by rw [hpp.out]; exact hf'.out)]
          rfl
        have hR : Hid (RRel Y w.heap.size cc n w3 (.slice A4 p c4) (.slice A3 n c3) (red M (k + 1)).1 (red M (k + 1)).2) := by
          show RRel _ _ _ _ _ _ _ _ _
          rw [hnext.out]
          refine ⟨A3, c3, A4, c4, rfl, by rw [hpp.out], hc3, hl3'.out, hr3'.out, hm3'.out, hx3'.out, ?_⟩
          have := hp3'.out
          rw [hpp.out] at this
          exact ⟨this, hy3'.out⟩
        go_wp2_with fail
        refine LD.out.mono ?_
        rintro e w4 ⟨rfl, rfl⟩
        go_wp2_with fail
        go_roundw
        case rel => exact ⟨k + 1, by omega, by go_num, hR.out, hb.out⟩
        case measure => simp [intOf]; omega
      | some i =>
        obtain ⟨hti, hi, hne⟩ := findP_lt hf'.out
        rw [hl3'.out] at hi
        have hnext : Hid (red M (k + 1) = (pivStep (red M k).1 p k i, (red M k).2 ++ [k])) := by
          show _ = _
          have h1 := redGo_some (cs := []) (show findP (red M k).1 k (red M k).2.length = some i by rw [hpp.out]; exact hf'.out)
          rw [red_succ, h1, hpp.out]
          rfl
        have hpp1 := hlen.out (k + 1)
        rw [hnext.out] at hpp1
        have hpn1 : p + 1 ≤ n := by have := hpp1.1; simp only [List.length_append, List.length_singleton, hpp.out] at this; exact this
        have hrn : Hid (Rect (red M (k + 1)).1 cc) := hrr.out (k + 1)
        have hgx : w.heap.size < w3.heap.size := by have := hb.out.size; rw [hs1.out] at this; omega
        have CL := Lib.hid (cleared_any w.heap.size (red M k).1 A3 c3 n p i k cc w3 (hx3'.out (by omega)) hgx hl3'.out hr3'.out hkcc (by omega) hi hne hl hcc)
        have hti0 : 0 ≤ (i : Int) := by omega
        clear hpp1 hne
        go_wp2_with fail
        refine LD.out.mono ?_
        rintro e w4 ⟨rfl, rfl⟩
        go_wp2_with fail
        refine CL.out.mono ?_
        rintro e w5 ⟨A5, c5, rfl, hc5, hm5c, hm5, hb5⟩
        have hm5' := Lib.hid hm5
        have hb5' := Lib.hid hb5
        have hp5 : Hid (OwnP w5 (w.heap.size + 1) (.slice A4 p c4) (red M k).2) := by
          have := hp3'.out
          rw [hpp.out] at this
          exact this.kept fun b _ hbl => hb5.block b hbl
        have hpb : Hid (∀ b, (Value.slice A4 p c4).ownBlock = some b → b < w4.heap.size) := fun b hb => by
          have := hp3'.out
          rw [hpp.out] at this
          exact (World.ownsRow.lt this b hb).2
        have hbb : Hid (Below W1.heap.size W1 w5) := hb.out.trans (hb5.mono hb.out.size)
        have hg5 : Hid (w.heap.size < w4.heap.size) := hgx
        clear hm5 hb5 CL LD
        go_wp2_with (at_builtin; go_must (refine push_piv rfl (.tmp 27) (.tmp 29) rfl (w.heap.size + 1) (.slice A4 p c4) (red M k).2 k (.int .i64 k) rfl rfl rfl hp5.out (by rw [hpp.out]; omega) (by have := hb5'.out.size; have := hg5.out; omega) ?_); intro v6 w6 hp6 hg6)
        have hR : Hid (RRel Y w.heap.size cc n w6 v6 (.slice A5 n c5) (red M (k + 1)).1 (red M (k + 1)).2) := by
          have hmx : MatX w.heap.size w6 A5 (pivStep (red M k).1 p k i) := (hm5'.out w.heap.size hg5.out).both (fun b hb => hm5'.out b (hpb.out b hb)) hg6
          obtain ⟨A6, c6, hv6, _⟩ := own_form hp6
          refine ⟨A5, c5, A6, c6, rfl, ?_, hc5, ?_, hrn.out, ?_, fun _ => ?_, ?_, fun y hy => ?_⟩
          · rw [hnext.out]; exact hv6
          · rw [hnext.out, pivStep_len]; exact hl3'.out
          · rw [hnext.out]; exact hmx.mat
          · rw [hnext.out]; exact hmx
          · rw [hnext.out]; exact hp6
          · rw [hnext.out]
            exact (hm5'.out y (by have := hYl.out y hy; have := hg5.out; omega)).both (fun b hb => hm5'.out b (hpb.out b hb)) hg6
        have hB6 : Hid (Below W1.heap.size W1 w6) := hbb.out.grown hg6 hbb.out.size (fun b hb => by
          have := (World.ownsRow.lt hp5.out b hb).1
          rw [hs1.out]
          exact this)
        clear hp6 hg6 hm5' hp5
        go_roundw
        case rel => exact ⟨k + 1, by omega, by go_num, hR.out, hB6.out⟩
        case measure => simp [intOf]; omega
    · have t : ¬ (k : Int) < (q : Int) := by omega
      have ek : q = k := by omega
      subst ek
      have hR3 : Hid (Blk w3 w.heap.size [.slice none 0 0, .slice none 0 0] 38) := hR1.out.below hb.out hR1.out.lt
      have tp : (p : Int) ≤ (c3 : Int) := by omega
      have tp0 : 0 ≤ (p : Int) := by omega
      have hP : Hid ((redP M).length = p ∧ redP M = (red M q).2 ∧ redR M = (red M q).1.take p) := by
        have e1 : redP M = (red M q).2 := by unfold redP; rw [← hend.out]
        refine ⟨by rw [e1]; exact hpp.out, e1, ?_⟩
        unfold redR
        rw [← hend.out, hpp.out]
      have hfin : Hid (∀ w4, Only w.heap.size w3 w4 → Mat w4 w4.heap.size A3 (redR M) ∧ Rds w4 w4.heap.size A4 ((redP M).map pv) ∧ Below w.heap.size w w4 ∧ ∀ y, Y y → MatX y w4 A3 (redR M)) := fun w4 ho4 => by
        have hgb : w3.grownBy w4 (some w.heap.size) := ⟨ho4.os, ho4.tape, ho4.output, Nat.le_of_eq ho4.size.symm, fun j _ hj => ho4.block j (fun e => hj (by rw [e]))⟩
        have hp0 : cc = 0 → p = 0 := fun h0 => by
          have h1 := hlk.out.2.1
          rw [hpp.out] at h1
          rcases Nat.eq_zero_or_pos q with h2 | h2
          · omega
          · have := hqlt'.out 0 h2; omega
        refine ⟨?_, ?_, (hB1.out.trans (hb.out.mono hB1.out.size)).trans (ho4.below (Nat.le_refl _)), fun y hy => ?_⟩
        rotate_right
        · rw [hP.out.2.2]
          rcases Nat.eq_zero_or_pos cc with h0 | h0
          · rw [hp0 h0, List.take_zero]
            exact MatX.nil
          · have hx := hx3'.out h0
            exact ((hy3'.out y hy).both (fun b hb => by cases hb; exact hx) hgb).take p
        · rw [hP.out.2.2]
          rcases Nat.eq_zero_or_pos cc with h0 | h0
          · have : p = 0 := by
              have h1 := hlk.out.2.1
              rw [hpp.out] at h1
              rcases Nat.eq_zero_or_pos q with h2 | h2
              · omega
              · have := hqlt'.out 0 h2; omega
            rw [this, List.take_zero]
            exact Mat.nil
          · have hx := hx3'.out h0
            exact (hx.both (fun b hb => by cases hb; exact hx) hgb).mat.take p
        · have hp4 := hp3'.out
          rw [hpp.out] at hp4
          have hk4 : OwnP w4 (w.heap.size + 1) (.slice A4 p c4) (red M q).2 := hp4.kept fun b hb _ => by
            have := (World.ownsRow.lt hp4 b hb).1
            exact ho4.block b (by omega)
          obtain ⟨A6, c6, hv6, _, _, _, h6⟩ := own_form hk4
          cases hv6
          rw [hP.out.2.1]
          exact h6
      go_wp2_with (refine wpList_row_store rfl 38 _ _ rfl [.slice A3 p c3, .slice A4 p c4] rfl rfl hR3.out size_red rfl (red_one _ _ _ _ _ _) ?_; intro w4 hw4 ho4)
      refine bodyPost_ret (ret_blk rfl _ w4 (g := w.heap.size) rfl hw4.out dd hdu'.out hdr size_red) rfl ⟨A3, c3, A4, c4, ?_, hfin.out w4 ho4⟩
      rw [hP.out.1]
end Go.Proofs.YtfbdhcpclccikaaDoor
