/-
  Contracts of stage 5: the reference's cleared. Contracts of stage 5: the reference's Reduce.
-/
import Derived.Test.YtcnljemnkhmfcaaDoorMrfh
import Derived.Test.YtcnljemnkhmfcaaDoorMpm
import Derived.Test.YtcnljemnkhmfcaaDoorRk
import Derived.Test.YtcnljemnkhmfcaaDoorMra
namespace Go.Proofs.YtcnljemnkhmfcaaDoor
set_option linter.unusedVariables false
set_option linter.unusedSimpArgs false
open Go.RowKit

/-- 'l[k] = row', l the call's own. -/
theorem set_q {x base : Nat} {w : World} {ops : Array Oper} {rest : List Oper} {op : Oper} {a : Act} {Q : Exit → Act → World → Prop} (hgd : op.guard = none) (s y : Operand) (ho : op.op = .store 57 s y)
    (g n cap k : Nat) (K : List (List UInt8)) (u : Value) (m : List UInt8) (hx : a.eval s = .pointer (some ⟨g, k, none⟩)) (hy : a.eval y = u)
    (h : OwnQ x w base (.slice (some ⟨g, 0, none⟩) n cap) K) (hk : k < K.length) (hr : RowOff x w (some g) u m)
    (hK : ∀ w', Hid (OwnQ x w' base (.slice (some ⟨g, 0, none⟩) n cap) (K.set k m)) → Only g w w' → Hid (w'.cell? ⟨g, k, none⟩ = some u ∧ ∀ i, i < K.length → i ≠ k → w'.cell? ⟨g, i, none⟩ = w.cell? ⟨g, i, none⟩) → wpList Tryd.prog ops Q rest (a.put op.dst undef) w') : wpList Tryd.prog ops Q (op :: rest) a w := by
  obtain ⟨g', cap', L, e, hg, hb, hl, hf⟩ := h.open (by omega)
  cases e
  have hr' := hr
  obtain ⟨a', c', rfl, _⟩ := hr
  refine wpList_blk_store hgd 57 s y ho k _ hx hy hb size_row (by show k + 1 ≤ L.length; omega) (fun u hu => by
    have : u = .slice a' m.length c' := by simpa [Value.cells] using hu
    rw [this]; rfl) ?_
  intro w' hw' ho'
  have hw2 := hw'.out
  rw [show (Value.slice a' m.length c').cells.toList = [Value.slice a' m.length c'] from rfl, splice_set _ _ _ (by omega)] at hw2
  refine hK w' (hf w' k _ m hk hw2 ho' hr') ho' ⟨hw2.cell (List.getElem?_set_self (by omega)), fun i hi hne => ?_⟩
  obtain ⟨v, hv⟩ : ∃ v, L[i]? = some v := ⟨_, List.getElem?_eq_getElem (by omega)⟩
  rw [hb.cell hv, hw2.cell (by rw [List.getElem?_set_ne (Ne.symm hne)]; exact hv)]
/-- The block of such a row. -/
theorem open_q {x base : Nat} {w : World} {v : Value} {K : List (List UInt8)} (h : OwnQ x w base v K) (hne : 0 < K.length) : ∃ g cap, v = .slice (some ⟨g, 0, none⟩) K.length cap ∧ base ≤ g ∧ g < w.heap.size ∧ K.length ≤ cap ∧ cap ≤ maxLen := by
  obtain ⟨g, cap, L, e, hg, hb, hl, _⟩ := h.open hne
  obtain ⟨A, c, e2, h1, h2, _⟩ := h.mat
  rw [e] at e2
  cases e2
  exact ⟨g, cap, e, hg, hb.lt, h1, h2⟩
/-- What is read of it. -/
theorem look_q {x base : Nat} {w : World} {g n cap k : Nat} {K : List (List UInt8)} {m : List UInt8} (h : OwnQ x w base (.slice (some ⟨g, 0, none⟩) n cap) K) (hk : K[k]? = some m) (hm : 0 < m.length) :
    ∃ a c, w.cell? ⟨g, k, none⟩ = some (.slice (some a) m.length c) ∧ g < w.heap.size ∧ a.block < w.heap.size ∧ Rds w w.heap.size (some a) (m.map bv) ∧ ∀ j, j < m.length → w.cell? (a.add j) = some (bv (m.getD j 0)) := by
  obtain ⟨A, c, e, _, _, _, hM⟩ := h.mat
  cases e
  obtain ⟨ad, v, e2, hb, hc, a, c', rfl, _, _, _, hr⟩ := hM.at hk
  cases e2
  have hl : ∀ j, j < m.length → ∃ ad, a = some ad ∧ ad.block < w.heap.size ∧ w.cell? (ad.add j) = some (bv (m.getD j 0)) := fun j hj => hr.look (by
    rw [List.getElem?_map, List.getD_eq_getElem?_getD, List.getElem?_eq_getElem hj]
    rfl)
  obtain ⟨ad, rfl, hb2, _⟩ := hl 0 hm
  have e3 : (⟨g, 0, none⟩ : Addr).add k = ⟨g, k, none⟩ := by unfold Addr.add; simp <;> omega
  rw [e3] at hc
  refine ⟨ad, c', hc, hb, hb2, hr, fun j hj => ?_⟩
  obtain ⟨ad', e4, _, h5⟩ := hl j hj
  cases e4
  exact h5
theorem row_look {w : World} {B : Nat} {u : Value} {m : List UInt8} (h : RowAt w B u m) (hm : 0 < m.length) : ∃ a c, u = .slice (some a) m.length c ∧ a.block < B ∧ Rds w B (some a) (m.map bv) ∧ ∀ j, j < m.length → w.cell? (a.add j) = some (bv (m.getD j 0)) := by
  obtain ⟨a, c, rfl, _, _, _, hr⟩ := h
  have hl : ∀ j, j < m.length → ∃ ad, a = some ad ∧ ad.block < B ∧ w.cell? (ad.add j) = some (bv (m.getD j 0)) := fun j hj => hr.look (by
    rw [List.getElem?_map, List.getD_eq_getElem?_getD, List.getElem?_eq_getElem hj]
    rfl)
  obtain ⟨ad, rfl, hb2, _⟩ := hl 0 hm
  refine ⟨ad, c, rfl, hb2, hr, fun j hj => ?_⟩
  obtain ⟨ad', e4, _, h5⟩ := hl j hj
  cases e4
  exact h5
/-- A matrix whose rows, and their slices, lie in other blocks than x. -/
def MatX (x : Nat) (w : World) (A : Option Addr) (M : List (List UInt8)) : Prop :=
  ∃ vs : List Value, vs.length = M.length ∧ Rds w w.heap.size A vs ∧ (∀ ad, A = some ad → 0 < M.length → ad.block < w.heap.size ∧ ad.block ≠ x) ∧ ∀ (i : Nat) (v : Value) (m : List UInt8), vs[i]? = some v → M[i]? = some m → RowOff x w none v m
theorem RowOff.at {x : Nat} {w : World} {row : Option Nat} {u : Value} {m : List UInt8} (h : RowOff x w row u m) : RowAt w w.heap.size u m := by
  obtain ⟨a, c, e1, e2, e3, e4, e5, _⟩ := h
  exact ⟨a, c, e1, e2, e3, e4, e5⟩
theorem RowOff.other {x g : Nat} {w w1 : World} {u : Value} {m : List UInt8} (h : RowOff x w none u m) (hb : Below w.heap.size w w1) (hg : w.heap.size ≤ g) : RowOff x w1 (some g) u m := by
  obtain ⟨a, c, e1, e2, e3, e4, e5, e6⟩ := h.below hb
  obtain ⟨a', c', f1, _, _, _, _, f6⟩ := h
  rw [e1] at f1
  cases f1
  refine ⟨a, c, e1, e2, e3, e4, e5, fun ad ha => ⟨fun hh => ?_, (e6 ad ha).2.1, (e6 ad ha).2.2⟩⟩
  have := (f6 ad ha).2.1
  have := Option.some.inj hh
  omega
theorem MatX.mat {x : Nat} {w : World} {A : Option Addr} {M : List (List UInt8)} (h : MatX x w A M) : Mat w w.heap.size A M := by
  obtain ⟨vs, h1, h2, _, h3⟩ := h
  exact ⟨vs, h1, h2, fun i v m hv hm => (h3 i v m hv hm).at⟩
theorem MatX.keep {x : Nat} {w w' : World} {A : Option Addr} {M : List (List UInt8)} (h : MatX x w A M) (hb : Below w.heap.size w w') : MatX x w' A M := by
  obtain ⟨vs, h1, h2, h3, h4⟩ := h
  exact ⟨vs, h1, (h2.below hb).more hb.size, fun ad ha hl => ⟨Nat.lt_of_lt_of_le (h3 ad ha hl).1 hb.size, (h3 ad ha hl).2⟩, fun i v m hv hm => (h4 i v m hv hm).below hb⟩
theorem MatX.look {x : Nat} {w : World} {A : Option Addr} {M : List (List UInt8)} {i : Nat} {m : List UInt8} (h : MatX x w A M) (hi : M[i]? = some m) : ∃ ad v, A = some ad ∧ ad.block < w.heap.size ∧ w.cell? (ad.add i) = some v ∧ RowOff x w none v m := by
  obtain ⟨vs, h1, h2, _, h3⟩ := h
  have hl := (List.getElem?_eq_some_iff.1 hi).1
  obtain ⟨v, hv⟩ : ∃ v, vs[i]? = some v := ⟨_, List.getElem?_eq_getElem (by omega)⟩
  obtain ⟨ad, hA, hab, hc⟩ := h2.look hv
  exact ⟨ad, v, hA, hab, hc, h3 i v m hv hi⟩
/-- Where only block x may have changed, and blocks are new: it stays, apart from x or from a new block. -/
theorem MatX.move {x y : Nat} {w w' : World} {row : Option Nat} {A : Option Addr} {M : List (List UInt8)} (h : MatX x w A M) (hg : w.grownBy w' row) (hrow : row = none ∨ row = some x) (hy : y = x ∨ w.heap.size ≤ y) : MatX y w' A M := by
  obtain ⟨vs, h1, h2, h3, h4⟩ := h
  have hr : ∀ b, b ≠ x → row ≠ some b := fun b hb hh => by
    rcases hrow with hrow | hrow
    · rw [hrow] at hh; cases hh
    · rw [hrow] at hh
      exact hb (Option.some.inj hh).symm
  have hyb : ∀ b, b < w.heap.size → b ≠ x → b ≠ y := fun b hb hx hh => by
    rcases hy with hy | hy
    · exact hx (hh.trans hy)
    · omega
  have hpos : ∀ ad, A = some ad → vs ≠ [] → 0 < M.length := fun ad _ hne => by
    have := List.length_pos_iff.2 hne
    omega
  refine ⟨vs, h1, fun hne => ?_, fun ad ha hl => ⟨Nat.lt_of_lt_of_le (h3 ad ha hl).1 hg.size, hyb _ (h3 ad ha hl).1 (h3 ad ha hl).2⟩, fun i v m hv hm => ?_⟩
  · obtain ⟨ad, e, hb, hc⟩ := h2 hne
    have := h2.apart hg (fun ad' ha' => hr _ (h3 ad' ha' (hpos ad' ha' hne)).2)
    exact this hne
  · obtain ⟨a, c, e1, e2, e3, e4, e5, e6⟩ := h4 i v m hv hm
    exact ⟨a, c, e1, e2, e3, e4, e5.apart hg (fun ad ha => hr _ (e6 ad ha).2.2), fun ad ha => ⟨(fun hh => by cases hh), Nat.lt_of_lt_of_le (e6 ad ha).2.1 hg.size, hyb _ (e6 ad ha).2.1 (e6 ad ha).2.2⟩⟩
theorem OwnQ.matX {x : Nat} {w : World} {base : Nat} {A : Option Addr} {n c : Nat} {K : List (List UInt8)} (h : OwnQ x w base (.slice A n c) K) (hx : x < base) : MatX x w A K := by
  obtain ⟨vs, h1, h2, h3⟩ := h
  obtain ⟨A', c', hv, _, _, _, g4⟩ := own_form h2
  cases hv
  refine ⟨vs, h1, g4, fun ad ha hl => ?_, fun i u m hu hm => ?_⟩
  · subst ha
    have := h2.lt ad.block rfl
    exact ⟨this.2, by omega⟩
  · obtain ⟨a, c, e1, e2, e3, e4, e5, e6⟩ := h3 i u m hu hm
    exact ⟨a, c, e1, e2, e3, e4, e5, fun ad ha => ⟨(fun hh => by cases hh), (e6 ad ha).2⟩⟩
theorem Mat.off {x B cc : Nat} {w : World} {A : Option Addr} {M : List (List UInt8)} (h : Mat w B A M) (hre : Rect M cc) (hcc : 0 < cc) (hB : B ≤ w.heap.size) (hx : B ≤ x) : MatX x w A M := by
  obtain ⟨vs, h1, h2, h3⟩ := h
  refine ⟨vs, h1, h2.more hB, fun ad ha hl => ?_, fun i v m hv hm => mat_off (A := A) (M := M) (cc := 0) (i := 0) (h3 i v m hv hm) (by rw [hre.at hm]; exact hcc) hB hx (fun g hg => by cases hg)⟩
  obtain ⟨ad', e, hb, _⟩ := h2 (by rintro rfl; simp at h1; omega)
  rw [ha] at e
  cases e
  omega
/-- Where block p alone may have changed, and the matrix lies apart from p. -/
theorem MatX.both {x : Nat} {w w' : World} {row : Option Nat} {A : Option Addr} {M : List (List UInt8)} (h : MatX x w A M) (hp : ∀ b, row = some b → MatX b w A M) (hg : w.grownBy w' row) : MatX x w' A M := by
  obtain ⟨vs, h1, h2, h3, h4⟩ := h
  have hro : ∀ b, row = some b → (∀ ad, A = some ad → 0 < M.length → ad.block ≠ b) ∧ ∀ (i : Nat) (v : Value) (m : List UInt8), vs[i]? = some v → M[i]? = some m → ∀ a n c, v = .slice (some a) n c → a.block ≠ b := fun b hb => by
    obtain ⟨vs', k1, k2, k3, k4⟩ := hp b hb
    refine ⟨fun ad ha hl => (k3 ad ha hl).2, fun i v m hv hm a n c hva => ?_⟩
    have hl := (List.getElem?_eq_some_iff.1 hm).1
    obtain ⟨v', hv'⟩ : ∃ v, vs'[i]? = some v := ⟨_, List.getElem?_eq_getElem (by omega)⟩
    obtain ⟨ad, hA, _, hc⟩ := h2.look hv
    obtain ⟨ad', hA', _, hc'⟩ := k2.look hv'
    rw [hA] at hA'
    cases hA'
    rw [hc] at hc'
    cases hc'
    obtain ⟨a', c', e1, _, _, _, _, e6⟩ := k4 i v m hv' hm
    rw [hva] at e1
    cases e1
    exact (e6 a rfl).2.2
  have hpos : ∀ ad, A = some ad → vs ≠ [] → 0 < M.length := fun ad _ hne => by
    have := List.length_pos_iff.2 hne
    omega
  refine ⟨vs, h1, fun hne => ?_, fun ad ha hl => ⟨Nat.lt_of_lt_of_le (h3 ad ha hl).1 hg.size, (h3 ad ha hl).2⟩, fun i v m hv hm => ?_⟩
  · exact h2.apart hg (fun ad' ha' hh => (hro ad'.block hh).1 ad' ha' (hpos ad' ha' hne) rfl) hne
  · obtain ⟨a, c, e1, e2, e3, e4, e5, e6⟩ := h4 i v m hv hm
    exact ⟨a, c, e1, e2, e3, e4, e5.apart hg (fun ad ha hh => (hro ad.block hh).2 i v m hv hm ad _ _ (by rw [e1, ha]) rfl), fun ad ha => ⟨(fun hh => by cases hh), Nat.lt_of_lt_of_le (e6 ad ha).2.1 hg.size, (e6 ad ha).2.2⟩⟩
theorem MatX.nil {x : Nat} {w : World} {A : Option Addr} : MatX x w A [] := ⟨[], rfl, Rds.empty, fun ad _ hl => absurd hl (by simp), fun i v m hv => by simp at hv⟩
theorem MatX.take {x : Nat} {w : World} {A : Option Addr} {M : List (List UInt8)} (h : MatX x w A M) (k : Nat) : MatX x w A (M.take k) := by
  obtain ⟨vs, h1, h2, h3, h4⟩ := h
  refine ⟨vs.take k, by simp [h1], h2.take k, fun ad ha hl => h3 ad ha (by rw [List.length_take] at hl; omega), fun i v m hv hm => ?_⟩
  have hik : i < k := by
    rcases Nat.lt_or_ge i k with hh | hh
    · exact hh
    · rw [List.getElem?_eq_none (by rw [List.length_take]; omega)] at hv; cases hv
  rw [List.getElem?_take_of_lt hik] at hv hm
  exact h4 i v m hv hm
/-- All rows are new: the matrix lies apart from each old block. -/
theorem OwnQ.allnew {x base : Nat} {w : World} {g n c : Nat} {K : List (List UInt8)} (h : OwnQ x w base (.slice (some ⟨g, 0, none⟩) n c) K) (hx : x < base) (hnew : ∀ i, i < K.length → ∀ a m c', w.cell? ⟨g, i, none⟩ = some (.slice (some a) m c') → base ≤ a.block) {y : Nat} (hy : y < base) : MatX y w (some ⟨g, 0, none⟩) K := by
  obtain ⟨vs, h1, h2, h3⟩ := h
  obtain ⟨A', c', hv, _, _, _, g4⟩ := own_form h2
  cases hv
  refine ⟨vs, h1, g4, fun ad ha hl => ?_, fun i u m hu hm => ?_⟩
  · cases ha
    have := h2.lt g rfl
    exact ⟨this.2, by show g ≠ y; omega⟩
  · obtain ⟨a, c, e1, e2, e3, e4, e5, e6⟩ := h3 i u m hu hm
    refine ⟨a, c, e1, e2, e3, e4, e5, fun ad ha => ⟨(fun hh => by cases hh), (e6 ad ha).2.1, ?_⟩⟩
    obtain ⟨ad', hA, _, hc⟩ := g4.look hu
    cases hA
    have e9 : (⟨g, 0, none⟩ : Addr).add i = ⟨g, i, none⟩ := by unfold Addr.add; simp <;> omega
    rw [e9, e1, ha] at hc
    have := hnew i (List.getElem?_eq_some_iff.1 hm).1 ad _ _ hc
    omega
theorem copy_x {x : Nat} {w0 : World} {ops : Array Oper} {rest : List Oper} {o : Oper} {a : Act} {Q : Exit → Act → World → Prop} (hgd : o.guard = none) (s y : Operand)
    (ho : o.op = .call { callee := .builtin .append, args := #[s, y], argTypes := #[29, 29] })
    (ad : Addr) (c : Nat) (M : List (List UInt8)) (hs : a.eval s = .slice (some ⟨w0.heap.size, 0, none⟩) 0 0) (hy : a.eval y = .slice (some ad) M.length c)
    (h0 : MatX x w0 (some ad) M) (hl : M.length ≤ 1000000)
    (h : ∀ v' w', OwnQ x w' w0.heap.size v' M → Below w0.heap.size w0 w' → wpList Tryd.prog ops Q rest (a.put o.dst v') w') :
    wpList Tryd.prog ops Q (o :: rest) a (w0.alloc (.cells #[] 57)) := by
  obtain ⟨vs, h1, h2, _, h3⟩ := h0
  obtain ⟨i0, hi, hz0, hz1, hz2⟩ := info_parts infoRow
  have hown : (w0.alloc (.cells #[] 57)).ownsRow w0.heap.size 57 1 (.slice (some ⟨w0.heap.size, 0, none⟩) 0 0) 0 [] :=
    ⟨rfl, .inr ⟨w0.heap.size, 0, #[], rfl, Nat.le_refl _, Blk.new w0 [] 57, Nat.le_refl _, Nat.zero_le _, rfl, rfl⟩⟩
  have hB1 : Below w0.heap.size w0 (w0.alloc (.cells #[] 57)) := (Below.refl _ _).alloc (Nat.le_refl _) _
  refine wpList_append_own_at _ hgd s y 29 ho w0.heap.size 57 i0 (.slice none 0 0) 1 24 Tryd.underlying29 hi hz0 hz1 hz2 rfl (by decide) _ 0 [] hs hown ad M.length c vs hy (by rw [h1]; omega) (fun j u hu => ?_) (fun u hu => ?_) (by unfold maxLen; omega) (by omega) hB1.size ?_
  · obtain ⟨ad', e, hb, hc⟩ := h2.look hu
    cases e
    rw [hB1.cell (p := ad.add j) (by rw [add_block]; omega)]
    exact hc
  · obtain ⟨i, hi'⟩ := List.getElem?_of_mem hu
    obtain ⟨m, hm⟩ : ∃ m, M[i]? = some m := ⟨_, List.getElem?_eq_getElem (by rw [← h1]; exact (List.getElem?_eq_some_iff.1 hi').1)⟩
    obtain ⟨_, _, rfl, _⟩ := h3 i u m hi' hm
    rfl
  · intro v' w' g1 g2 g3 g4
    have hsz1 : (w0.alloc (.cells #[] 57)).heap.size = w0.heap.size + 1 := by simp
    have hB2 : Below w0.heap.size w0 w' := hB1.trans ((Below.refl _ _).grown g2 hB1.size fun k hk => by cases hk; exact Nat.le_refl _)
    refine h v' w' ⟨vs, h1, by rw [Nat.zero_add, List.nil_append] at g1; exact g1, fun i u m hu hm => ?_⟩ hB2
    obtain ⟨aa, ca, e1, e2, e3, e4, e5, e6⟩ := h3 i u m hu hm
    refine ⟨aa, ca, e1, e2, e3, e4, (e5.below hB2).more hB2.size, fun ad2 ha => ⟨fun hh => ?_, by have := (e6 ad2 ha).2.1; have := hB2.size; omega, (e6 ad2 ha).2.2⟩⟩
    have hb := (e6 ad2 ha).2.1
    rcases g4 with g4 | g4
    · rw [g4] at hh
      have : w0.heap.size = ad2.block := Option.some.inj hh
      omega
    · rw [g4, hsz1] at hh
      have : w0.heap.size + 1 = ad2.block := Option.some.inj hh
      omega
theorem clr0_len (M : List (List UInt8)) (top col i : Nat) : (clr0 M top col i).length = M.length := by simp [clr0]
theorem clr0_rect {M : List (List UInt8)} {c top i : Nat} (h : Rect M c) (col : Nat) (ht : top < M.length) (hi : i < M.length) : Rect (clr0 M top col i) c :=
  Rect.set (Rect.set h _ (h.getD ht)) _ (by rw [mulR_len]; exact h.getD hi)

end Go.Proofs.YtcnljemnkhmfcaaDoor

namespace Go.Proofs.YtcnljemnkhmfcaaDoor
set_option linter.unusedVariables false
set_option linter.unusedSimpArgs false
open Go.RowKit
theorem red_one (A : Option Addr) (n c : Nat) (A' : Option Addr) (n' c' : Nat) : ∀ u ∈ [Value.slice A n c, Value.slice A' n' c'], u.oneCell' = true := by
  intro u hu
  simp only [List.mem_cons, List.not_mem_nil, or_false] at hu
  rcases hu with rfl | rfl <;> rfl
/-- What Reduce's loop knows of the rows and of the pivots. -/
def RRel (Y : Nat → Prop) (g cc n : Nat) (w : World) (v4 v3 : Value) (M : List (List UInt8)) (piv : List Nat) : Prop :=
  ∃ A c A2 c2, v3 = .slice A n c ∧ v4 = .slice A2 piv.length c2 ∧ n ≤ c ∧ M.length = n ∧ Rect M cc ∧ Mat w w.heap.size A M ∧ (0 < cc → MatX g w A M) ∧ OwnP w (g + 1) v4 piv ∧ (∀ y, Y y → MatX y w A M)
/-- What Reduce ends with. -/
def RefRed (Y : Nat → Prop) (w : World) (M : List (List UInt8)) (e : Ending) (w' : World) : Prop :=
  ∃ A c A2 c2, e = .returned (.agg #[.slice A (redP M).length c, .slice A2 (redP M).length c2]) ∧ Mat w' w'.heap.size A (redR M) ∧ Rds w' w'.heap.size A2 ((redP M).map pv) ∧ Below w.heap.size w w' ∧ ∀ y, Y y → MatX y w' A (redR M)

end Go.Proofs.YtcnljemnkhmfcaaDoor
