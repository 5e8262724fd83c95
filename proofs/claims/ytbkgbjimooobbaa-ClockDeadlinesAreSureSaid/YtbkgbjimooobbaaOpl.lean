/-
  Arguments of stage 14, opened: a run and its steps, numbers around.
-/
import Derived.Test.YtbkgbjimooobbaaOpk
namespace Go.Proofs.Ytbkgbjimooobbaa
set_option linter.unusedVariables false
open Go.ChangeShapes Go.WideShapes Go.ChangeAt Go.RowKit

/-- Steps that are read: each is five numbers in their bounds. -/
def StpM (w : World) (B : Nat) (A : Option Addr) (n : Nat) : Prop :=
  ∀ i, i < n → ∃ ad, A = some ad ∧ ad.block < B ∧ ∃ f d kd ea la : Int, (0 ≤ f ∧ f ≤ 65535) ∧ (-2147483648 ≤ d ∧ d ≤ 2147483647) ∧ (0 ≤ kd ∧ kd ≤ 255) ∧ (0 ≤ ea ∧ ea ≤ 255) ∧ (0 ≤ la ∧ la ≤ 255) ∧
    ∀ j u, ([.int .u16 f, .int .i32 d, .int .u8 kd, .int .u8 ea, .int .u8 la] : List Value)[j]? = some u → w.cell? ((ad.add (i * 5)).add j) = some u
theorem StpM.keep {w w' : World} {B : Nat} {A : Option Addr} {n : Nat} (m : StpM w B A n) (hb : Below B w w') : StpM w' B A n := by
  intro i hi
  obtain ⟨ad, e, h, f, d, kd, ea, la, h1, h2, h3, h4, h5, hc⟩ := m i hi
  exact ⟨ad, e, h, f, d, kd, ea, la, h1, h2, h3, h4, h5, fun j u hu => (hb.cell (by rw [add_block, add_block]; exact h)).trans (hc j u hu)⟩
theorem b_i32 {x : Int} (h : (Lit.int .i32 x).wf = true) : -2147483648 ≤ x ∧ x ≤ 2147483647 := by simpa [Lit.wf, IntKind.min, IntKind.max, IntKind.signed, IntKind.bits] using h
theorem b_u8 {x : Int} (h : (Lit.int .u8 x).wf = true) : 0 ≤ x ∧ x ≤ 255 := by simpa [Lit.wf, IntKind.min, IntKind.max, IntKind.signed, IntKind.bits] using h
section
variable {H : Type} {enc : TypeId × Value → H} {P : Program} {w : World} {base : Nat} {spare : Nat → Bool} {held : Bool}
structure StpTy (P : Program) (e : TypeId) : Prop where
  ty : ∃ g0 g1 g2 g3 g4 : Field, P.underlying e = some (.struct #[g0, g1, g2, g3, g4]) ∧ (g0.offset = 0 ∧ g1.offset = 1 ∧ g2.offset = 2 ∧ g3.offset = 3 ∧ g4.offset = 4) ∧
    (P.underlying g0.type = some (.int .u16) ∧ P.underlying g1.type = some (.int .i32) ∧ P.underlying g2.type = some (.int .u8) ∧ P.underlying g3.type = some (.int .u8) ∧ P.underlying g4.type = some (.int .u8)) ∧
    (P.cellsOf g0.type = 1 ∧ P.cellsOf g1.type = 1 ∧ P.cellsOf g2.type = 1 ∧ P.cellsOf g3.type = 1 ∧ P.cellsOf g4.type = 1) ∧ P.cellsOf e = 5
theorem stp_of {e : TypeId} (T : StpTy P e) {fuel : Nat} {cs : List Value} {x : DataW H × List MemPlace} (hl : cs.length = 5) (h : DataW.trod enc P w base spare held fuel e cs = some x) :
    ∃ f d kd ea la : Int, cs = [.int .u16 f, .int .i32 d, .int .u8 kd, .int .u8 ea, .int .u8 la] ∧ (0 ≤ f ∧ f ≤ 65535) ∧ (-2147483648 ≤ d ∧ d ≤ 2147483647) ∧ (0 ≤ kd ∧ kd ≤ 255) ∧ (0 ≤ ea ∧ ea ≤ 255) ∧ (0 ≤ la ∧ la ≤ 255) := by
  obtain ⟨g0, g1, g2, g3, g4, he, ⟨o0, o1, o2, o3, o4⟩, ⟨i0, i1, i2, i3, i4⟩, ⟨c0, c1, c2, c3, c4⟩, ce⟩ := T.ty
  obtain ⟨ys, m, _, _, _, hys, hat⟩ := DataW.trod_struct he h
  match cs, hl with
  | [u0, u1, u2, u3, u4], _ =>
    have a0 := hat 0 g0 rfl
    have a1 := hat 1 g1 rfl
    have a2 := hat 2 g2 rfl
    have a3 := hat 3 g3 rfl
    have a4 := hat 4 g4 rfl
    rw [o0, c0] at a0
    rw [o1, c1] at a1
    rw [o2, c2] at a2
    rw [o3, c3] at a3
    rw [o4, c4] at a4
    match ys, hys with
    | [y0, y1, y2, y3, y4], _ =>
      obtain ⟨f, k0, _, w0⟩ := DataW.trod_int i0 (show DataW.trod enc P w base spare held m g0.type [u0] = some y0 from a0)
      obtain ⟨d, k1, _, w1⟩ := DataW.trod_int i1 (show DataW.trod enc P w base spare held m g1.type [u1] = some y1 from a1)
      obtain ⟨kd, k2, _, w2⟩ := DataW.trod_int i2 (show DataW.trod enc P w base spare held m g2.type [u2] = some y2 from a2)
      obtain ⟨ea, k3, _, w3⟩ := DataW.trod_int i3 (show DataW.trod enc P w base spare held m g3.type [u3] = some y3 from a3)
      obtain ⟨la, k4, _, w4⟩ := DataW.trod_int i4 (show DataW.trod enc P w base spare held m g4.type [u4] = some y4 from a4)
      have e0 : u0 = .int .u16 f := by simpa using k0
      have e1 : u1 = .int .i32 d := by simpa using k1
      have e2 : u2 = .int .u8 kd := by simpa using k2
      have e3 : u3 = .int .u8 ea := by simpa using k3
      have e4 : u4 = .int .u8 la := by simpa using k4
      subst e0 e1 e2 e3 e4
      exact ⟨f, d, kd, ea, la, rfl, b_u16 w0, b_i32 w1, b_u8 w2, b_u8 w3, b_u8 w4⟩
theorem open_slSt {t e : TypeId} {fuel : Nat} {A : Option Addr} {n c : Nat} {x : DataW H × List MemPlace} (ht : P.underlying t = some (.slice e)) (T : StpTy P e) (h : DataW.trod enc P w base spare held fuel t (Value.slice A n c).cells.toList = some x) :
    n ≤ c ∧ StpM w w.heap.size A n := by
  have hce : P.cellsOf e = 5 := by
    obtain ⟨g0, g1, g2, g3, g4, he, _, _, _, ce⟩ := T.ty
    exact ce
  rcases Go.Deep.open_slice ht h with ⟨hcs, _⟩ | ⟨ad, len, cap, m, k, D, Pl, hcs, _, hl, hm, hmm, _, hel⟩
  · simp [Value.cells] at hcs
    obtain ⟨rfl, rfl, rfl⟩ := hcs
    exact ⟨Nat.le_refl _, fun i hi => absurd hi (Nat.not_lt_zero _)⟩
  · simp [Value.cells] at hcs
    obtain ⟨rfl, rfl, rfl⟩ := hcs
    have hlen : n ≤ m := by rw [hmm]; split <;> omega
    refine ⟨hl, fun i hi' => ?_⟩
    obtain ⟨cs', hcell, htrod⟩ := hel i (by omega)
    rw [hce] at hcell
    obtain ⟨hcl5, hcl, hcat⟩ := World.cells?_some hcell
    have hl5 : cs'.length = 5 := by
      obtain ⟨g0, g1, g2, g3, g4, he, _⟩ := T.ty
      obtain ⟨ys, m', _, _, hlenN, _, _⟩ := DataW.trod_struct he htrod
      rw [hce] at hlenN
      exact hlenN
    obtain ⟨f, d, kd, ea, la, rfl, h1, h2, h3, h4, h5⟩ := stp_of T hl5 htrod
    refine ⟨ad, rfl, ?_, f, d, kd, ea, la, h1, h2, h3, h4, h5, fun j u hu => ?_⟩
    · have z0 := hcat 0 (by decide)
      have := World.block_lt_of_cell? w _ z0
      rw [add_block, add_block] at this
      exact this
    · have hj : j < 5 := by
        rcases Nat.lt_or_ge j 5 with h | h
        · exact h
        · rw [List.getElem?_eq_none (by simpa using h)] at hu; cases hu
      have z := hcat j (by simpa using hj)
      rw [z]
      exact hu
theorem open_run {r : Reach} {b0 : Nat} {t s e : TypeId} {f0 f1 f2 : Field} {v : Value} {d : DataW H} {ps : List MemPlace}
    (ht : P.underlying t = some (.struct #[f0, f1, f2])) (o0 : f0.offset = 0) (o1 : f1.offset = 1) (o2 : f2.offset = 2) (i0 : P.underlying f0.type = some (.int .u32)) (i1 : P.underlying f1.type = some (.int .u32)) (t2 : f2.type = s) (hs : P.underlying s = some (.slice e)) (T : StpTy P e)
    (c0 : P.cellsOf f0.type = 1) (c1 : P.cellsOf f1.type = 1) (c2 : P.cellsOf s = 1) (ct : P.cellsOf t = 3)
    (hval : Value.okWide P w r b0 t v) (hd : DataW.Trod enc P w base spare held t v d ps) :
    ∃ (a b : Int) (A : Option Addr) (n c : Nat), v = .agg #[.int .u32 a, .int .u32 b, .slice A n c] ∧ (0 ≤ a ∧ a ≤ 4294967295) ∧ (0 ≤ b ∧ b ≤ 4294967295) ∧ n ≤ c ∧ StpM w w.heap.size A n := by
  unfold Value.okWide at hval
  rw [ht] at hval
  obtain ⟨cs, rfl, hsz, _⟩ := hval
  obtain ⟨fuel, hf⟩ := hd
  obtain ⟨xs, m, rfl, hx, hl, hn, hat⟩ := DataW.trod_struct ht hf
  rw [ct] at hsz
  obtain ⟨l, hcl⟩ : ∃ l, l = cs.toList := ⟨_, rfl⟩
  have hll : l.length = 3 := by rw [hcl, Array.length_toList, hsz]
  match l, hll with
  | [u0, u1, u2], _ =>
    have hcs2 : cs = #[u0, u1, u2] := by apply Array.ext'; rw [← hcl]
    subst hcs2
    have a0 := hat 0 f0 rfl
    have a1 := hat 1 f1 rfl
    have a2 := hat 2 f2 rfl
    rw [o0, c0] at a0
    rw [o1, c1] at a1
    rw [o2, t2, c2] at a2
    match xs, hn with
    | [x0, x1, x2], _ =>
      obtain ⟨a, k0, _, w0⟩ := DataW.trod_int i0 (show DataW.trod enc P w base spare held m f0.type [u0] = some x0 from a0)
      obtain ⟨b, k1, _, w1⟩ := DataW.trod_int i1 (show DataW.trod enc P w base spare held m f1.type [u1] = some x1 from a1)
      have e0 : u0 = .int .u32 a := by simpa using k0
      have e1 : u1 = .int .u32 b := by simpa using k1
      subst e0 e1
      have b2 : DataW.trod enc P w base spare held m s [u2] = some x2 := a2
      obtain ⟨A1, n1, q1, rfl⟩ := slice_shapeK hs b2
      obtain ⟨g1, g2⟩ := open_slSt hs T (show DataW.trod enc P w base spare held m s (Value.slice A1 n1 q1).cells.toList = some x2 from b2)
      exact ⟨a, b, A1, n1, q1, rfl, b_u32 w0, b_u32 w1, g1, g2⟩
end
theorem stpTy : StpTy Try.prog 36 := ⟨⟨_, _, _, _, _, Try.underlying36, ⟨rfl, rfl, rfl, rfl, rfl⟩, ⟨Try.underlying34, Try.underlying21, Try.underlying5, Try.underlying5, Try.underlying5⟩, ⟨by kernel_rfl, by kernel_rfl, by kernel_rfl, by kernel_rfl, by kernel_rfl⟩, by kernel_rfl⟩⟩
end Go.Proofs.Ytbkgbjimooobbaa
