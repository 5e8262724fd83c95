/-
  Arguments of stage 14, opened: readings, ranges, clocks.
-/
import Derived.Test.YtbkgbjimooobbaaOpn
import Derived.Test.YtbkgbjimooobbaaUq
namespace Go.Proofs.Ytbkgbjimooobbaa
set_option linter.unusedVariables false
open Go.ChangeShapes Go.WideShapes Go.ChangeAt Go.RowKit

section
variable {H : Type} {enc : TypeId × Value → H} {P : Program} {w : World} {base : Nat} {spare : Nat → Bool} {held : Bool}
theorem sized_structK {ts : List TypeId} {ds xs : List (DataW H)} {j : Nat} {t : TypeId} {fs : Array Field} (h : (DataW.weightsEach P ts ds).all (· ≤ reachBytes) = true) (ht : ts[j]? = some t) (hd : ds[j]? = some (.agg xs)) (hu : P.underlying t = some (.struct fs)) :
    (DataW.weightsEach P (fs.toList.map (·.type)) xs).all (· ≤ reachBytes) = true := by
  rw [List.all_eq_true]
  intro n hn
  exact List.all_eq_true.1 h n (DataW.weights_mem_each ht hd n (by simpa [DataW.weights, hu] using hn))
theorem slice_shapeK {t e : TypeId} {fuel : Nat} {q : Value} {x : DataW H × List MemPlace} (ht : P.underlying t = some (.slice e)) (h : DataW.trod enc P w base spare held fuel t [q] = some x) : ∃ A n c, q = .slice A n c := by
  rcases Go.Deep.open_slice ht h with ⟨hcs, _⟩ | ⟨ad, len, cap, m2, k, D, Pl, hcs, _, hl2, hm, hmm, _, hel⟩
  · exact ⟨none, 0, 0, by simpa using hcs⟩
  · exact ⟨some ad, len, cap, by simpa using hcs⟩
/-- What is needed of the program's types of readings. -/
structure RdgTy (P : Program) (e : TypeId) : Prop where
  ty : ∃ g0 g1 h0 h1 : Field, P.underlying e = some (.struct #[g0, g1]) ∧ g0.offset = 0 ∧ g1.offset = 1 ∧ P.underlying g0.type = some (.int .i64) ∧ P.underlying g1.type = some (.struct #[h0, h1]) ∧ h0.offset = 0 ∧ h1.offset = 1 ∧ P.underlying h0.type = some (.int .i64) ∧ P.underlying h1.type = some (.int .i64) ∧
    P.cellsOf g0.type = 1 ∧ P.cellsOf g1.type = 2 ∧ P.cellsOf h0.type = 1 ∧ P.cellsOf h1.type = 1 ∧ P.cellsOf e = 3
structure WhnTy (P : Program) (e : TypeId) : Prop where
  ty : ∃ h0 h1 : Field, P.underlying e = some (.struct #[h0, h1]) ∧ h0.offset = 0 ∧ h1.offset = 1 ∧ P.underlying h0.type = some (.int .i64) ∧ P.underlying h1.type = some (.int .i64) ∧ P.cellsOf h0.type = 1 ∧ P.cellsOf h1.type = 1 ∧ P.cellsOf e = 2
theorem whn_of {e : TypeId} (T : WhnTy P e) {fuel : Nat} {cs : List Value} {x : DataW H × List MemPlace} (hl : cs.length = 2) (h : DataW.trod enc P w base spare held fuel e cs = some x) : ∃ a b : Int, cs = [iv a, iv b] ∧ Wm.Fits a ∧ Wm.Fits b := by
  obtain ⟨h0, h1, he, o0, o1, i0, i1, c0, c1, ce⟩ := T.ty
  obtain ⟨ys, m, _, _, _, hys, hat⟩ := DataW.trod_struct he h
  match cs, hl with
  | [u, q], _ =>
    have a0 := hat 0 h0 rfl
    have a1 := hat 1 h1 rfl
    rw [o0, c0] at a0
    rw [o1, c1] at a1
    match ys, hys with
    | [y, z], _ =>
      obtain ⟨p, k0, _, w0⟩ := DataW.trod_int i0 (show DataW.trod enc P w base spare held m h0.type [u] = some y from a0)
      obtain ⟨r, k1, _, w1⟩ := DataW.trod_int i1 (show DataW.trod enc P w base spare held m h1.type [q] = some z from a1)
      have e0 : u = .int .i64 p := by simpa using k0
      have e1 : q = .int .i64 r := by simpa using k1
      subst e0 e1
      exact ⟨p, r, rfl, bounds_i64 w0, bounds_i64 w1⟩
theorem rdg_of {e : TypeId} (T : RdgTy P e) {fuel : Nat} {cs : List Value} {x : DataW H × List MemPlace} (hl : cs.length = 3) (h : DataW.trod enc P w base spare held fuel e cs = some x) : ∃ r : Rdg, cs = rdc r ∧ Wm.Fits r.L ∧ Wm.Fits r.lo ∧ Wm.Fits r.hi := by
  obtain ⟨g0, g1, h0, h1, he, o0, o1, i0, i1, p0, p1, j0, j1, c0, c1, d0, d1, ce⟩ := T.ty
  obtain ⟨ys, m, _, _, _, hys, hat⟩ := DataW.trod_struct he h
  match cs, hl with
  | [u, q, s], _ =>
    have a0 := hat 0 g0 rfl
    have a1 := hat 1 g1 rfl
    rw [o0, c0] at a0
    rw [o1, c1] at a1
    match ys, hys with
    | [y, z], _ =>
      obtain ⟨p, k0, _, w0⟩ := DataW.trod_int i0 (show DataW.trod enc P w base spare held m g0.type [u] = some y from a0)
      have e0 : u = .int .i64 p := by simpa using k0
      obtain ⟨a, b, e1, f1, f2⟩ := whn_of (P := P) (e := g1.type) ⟨⟨h0, h1, i1, p0, p1, j0, j1, d0, d1, c1⟩⟩ rfl (show DataW.trod enc P w base spare held m g1.type [q, s] = some z from a1)
      injection e1 with e1 e2
      injection e2 with e2
      subst e0 e1 e2
      exact ⟨⟨p, a, b⟩, rfl, bounds_i64 w0, f1, f2⟩
theorem open_slG14 {t e : TypeId} {fuel : Nat} {A : Option Addr} {n c : Nat} {x : DataW H × List MemPlace} (ht : P.underlying t = some (.slice e)) (T : RdgTy P e) (h : DataW.trod enc P w base spare held fuel t (Value.slice A n c).cells.toList = some x) :
    ∃ l : List Rdg, n = l.length ∧ n ≤ c ∧ c ≤ maxLen ∧ (A = none → c = 0) ∧ Rds w w.heap.size A (rdf l) ∧ ∀ r ∈ l, Wm.Fits r.L ∧ Wm.Fits r.lo ∧ Wm.Fits r.hi := by
  have hce : P.cellsOf e = 3 := by
    obtain ⟨g0, g1, h0, h1, he, o0, o1, i0, i1, p0, p1, j0, j1, c0, c1, d0, d1, ce⟩ := T.ty
    exact ce
  rcases Go.Deep.open_slice ht h with ⟨hcs, _⟩ | ⟨ad, len, cap, m, k, D, Pl, hcs, _, hl, hm, hmm, _, hel⟩
  · simp [Value.cells] at hcs
    obtain ⟨rfl, rfl, rfl⟩ := hcs
    exact ⟨[], rfl, Nat.le_refl _, Nat.zero_le _, fun _ => rfl, Rds.empty, by simp⟩
  · simp [Value.cells] at hcs
    obtain ⟨rfl, rfl, rfl⟩ := hcs
    have hlen : n ≤ m := by rw [hmm]; split <;> omega
    have each : ∀ i, i < n → ∃ r : Rdg, (Wm.Fits r.L ∧ Wm.Fits r.lo ∧ Wm.Fits r.hi) ∧ w.cell? (ad.add (i * 3)) = some (iv r.L) ∧ w.cell? (ad.add (i * 3 + 1)) = some (iv r.lo) ∧ w.cell? (ad.add (i * 3 + 2)) = some (iv r.hi) := by
      intro i hi'
      obtain ⟨cs', hcell, htrod⟩ := hel i (by omega)
      rw [hce] at hcell
      obtain ⟨hcl3, hcl, hcat⟩ := World.cells?_some hcell
      have hl3 : cs'.length = 3 := by first | exact hcl3 | (obtain ⟨ys, m', _, _, hlenN, _, _⟩ := DataW.trod_struct T.ty.choose_spec.choose_spec.choose_spec.choose_spec.1 htrod; rw [hce] at hlenN; exact hlenN)
      obtain ⟨r, rfl, f1, f2, f3⟩ := rdg_of T hl3 htrod
      have z0 := hcat 0 (by decide)
      have z1 := hcat 1 (by decide)
      have z2 := hcat 2 (by decide)
      rw [add_twice] at z0 z1 z2
      exact ⟨r, ⟨f1, f2, f3⟩, z0, z1, z2⟩
    have build : ∀ k, k ≤ n → ∃ l : List Rdg, l.length = k ∧ (∀ r ∈ l, Wm.Fits r.L ∧ Wm.Fits r.lo ∧ Wm.Fits r.hi) ∧ ∀ j u, (rdf l)[j]? = some u → w.cell? (ad.add j) = some u := by
      intro k
      induction k with
      | zero => intro _; exact ⟨[], rfl, by simp, by simp [rdf]⟩
      | succ k ih =>
        intro hk
        obtain ⟨l, g1, g2, g3⟩ := ih (by omega)
        obtain ⟨r, f1, f2, f3, f4⟩ := each k (by omega)
        refine ⟨l ++ [r], by simp [g1], ?_, ?_⟩
        · intro y hy
          rcases List.mem_append.1 hy with hy | hy
          · exact g2 y hy
          · rw [List.mem_singleton.1 hy]; exact f1
        · intro j u hu
          have hfl : (rdf l).length = k * 3 := by rw [rdf_len, g1]
          rw [rdf_append, show rdf [r] = [iv r.L, iv r.lo, iv r.hi] from rfl] at hu
          by_cases hj : j < k * 3
          · rw [List.getElem?_append_left (by rw [hfl]; exact hj)] at hu
            exact g3 j u hu
          · rw [List.getElem?_append_right (by rw [hfl]; omega), hfl] at hu
            rcases Nat.lt_or_ge (j - k * 3) 3 with hq | hq
            · have : j - k * 3 = 0 ∨ j - k * 3 = 1 ∨ j - k * 3 = 2 := by omega
              rcases this with hq | hq | hq
              · rw [hq] at hu; rw [show j = k * 3 by omega, f2, ← hu]; rfl
              · rw [hq] at hu; rw [show j = k * 3 + 1 by omega, f3, ← hu]; rfl
              · rw [hq] at hu; rw [show j = k * 3 + 2 by omega, f4, ← hu]; rfl
            · rw [List.getElem?_eq_none (by simp; omega)] at hu; cases hu
    obtain ⟨l, g1, g2, g3⟩ := build n (Nat.le_refl _)
    exact ⟨l, g1.symm, hl, hm, (fun h => by cases h), rds_cells (len := n * 3) _ (by rw [rdf_len, g1]) g3, g2⟩
theorem open_clk {r : Reach} {b0 : Nat} {t s e : TypeId} {f0 f1 : Field} {v : Value} {d : DataW H} {ps : List MemPlace} {ts : List TypeId} {ds : List (DataW H)} {j : Nat}
    (ht : P.underlying t = some (.struct #[f0, f1])) (o0 : f0.offset = 0) (o1 : f1.offset = 1) (i0 : P.underlying f0.type = some (.int .i64)) (t1 : f1.type = s) (hs : P.underlying s = some (.slice e)) (T : RdgTy P e)
    (c0 : P.cellsOf f0.type = 1) (c1 : P.cellsOf s = 1) (ct : P.cellsOf t = 2) (be : P.bytesOf e = 23 + 1)
    (hval : Value.okWide P w r b0 t v) (hd : DataW.Trod enc P w base spare held t v d ps) (hz : (DataW.weightsEach P ts ds).all (· ≤ reachBytes) = true) (htj : ts[j]? = some t) (hdj : ds[j]? = some d) :
    ∃ k : Clk, v = .agg #[.int .i64 k.rate, .slice k.A k.n k.c] ∧ ClkM w w.heap.size k := by
  unfold Value.okWide at hval
  rw [ht] at hval
  obtain ⟨cs, rfl, hsz, _⟩ := hval
  obtain ⟨fuel, hf⟩ := hd
  obtain ⟨xs, m, rfl, hx, hl, hn, hat⟩ := DataW.trod_struct ht hf
  rw [ct] at hsz
  obtain ⟨l, hcl⟩ : ∃ l, l = cs.toList := ⟨_, rfl⟩
  have hll : l.length = 2 := by rw [hcl, Array.length_toList, hsz]
  match l, hll with
  | [u0, u1], _ =>
    have hcs2 : cs = #[u0, u1] := by apply Array.ext'; rw [← hcl]
    subst hcs2
    have a0 := hat 0 f0 rfl
    have a1 := hat 1 f1 rfl
    rw [o0, c0] at a0
    rw [o1, t1, c1] at a1
    match xs, hn with
    | [x0, x1], _ =>
      have hd' : ds[j]? = some (.agg [x0.1, x1.1]) := by rw [hdj]; injection hx with h1 h2; rw [h1]; rfl
      have hz' := sized_structK hz htj hd' ht
      have hts : (#[f0, f1] : Array Field).toList.map (·.type) = [f0.type, s] := by simp [t1]
      rw [hts] at hz'
      obtain ⟨z, k0, _, w0⟩ := DataW.trod_int i0 (show DataW.trod enc P w base spare held m f0.type [u0] = some x0 from a0)
      have e0 : u0 = .int .i64 z := by simpa using k0
      subst e0
      have b1 : DataW.trod enc P w base spare held m s [u1] = some x1 := a1
      obtain ⟨A1, n1, q1, rfl⟩ := slice_shapeK hs b1
      have z1 := reach_slice hz' (j := 1) (t := s) (k := 23) rfl rfl hs be (slice_datum hs (show DataW.trod enc P w base spare held m s (Value.slice A1 n1 q1).cells.toList = some (x1.1, x1.2) from b1))
      obtain ⟨l, g1, g2, g3, g4, g5, g6⟩ := open_slG14 hs T (show DataW.trod enc P w base spare held m s (Value.slice A1 n1 q1).cells.toList = some x1 from b1)
      exact ⟨⟨z, A1, n1, q1, l⟩, rfl, ⟨g5, g1, ⟨g2, g3, g4⟩, (show n1 ≤ 140737488355328 by omega), Nat.le_refl _, bounds_i64 w0, g6⟩⟩
theorem open_rdg {r : Reach} {b0 : Nat} {e : TypeId} {v : Value} {d : DataW H} {ps : List MemPlace} (T : RdgTy P e) (hval : Value.okWide P w r b0 e v) (hd : DataW.Trod enc P w base spare held e v d ps) :
    ∃ g : Rdg, v = .agg #[.int .i64 g.L, .int .i64 g.lo, .int .i64 g.hi] ∧ Wm.Fits g.L ∧ Wm.Fits g.lo ∧ Wm.Fits g.hi := by
  obtain ⟨g0, g1, h0, h1, he, o0, o1, i0, i1, p0, p1, j0, j1, c0, c1, d0, d1, ce⟩ := T.ty
  unfold Value.okWide at hval
  rw [he] at hval
  obtain ⟨cs, rfl, hsz, _⟩ := hval
  rw [ce] at hsz
  obtain ⟨fuel, hf⟩ := hd
  obtain ⟨x, h1, h2, h3, h4⟩ := rdg_of ⟨⟨g0, g1, h0, _, he, o0, o1, i0, i1, p0, p1, j0, j1, c0, c1, d0, d1, ce⟩⟩ (by rw [show (Value.agg cs).cells.toList = cs.toList from rfl, Array.length_toList, hsz]) hf
  refine ⟨x, ?_, h2, h3, h4⟩
  have : cs = (rdc x).toArray := by apply Array.ext'; exact h1
  rw [this]; rfl
theorem open_arr2K {r : Reach} {b0 : Nat} {t e : TypeId} {v : Value} {d : DataW H} {ps : List MemPlace}
    (ht : P.underlying t = some (.array 2 e)) (he : P.underlying e = some (.int .i64)) (hce : P.cellsOf e = 1) (hct : P.cellsOf t = 2) (hval : Value.okWide P w r b0 t v) (hd : DataW.Trod enc P w base spare held t v d ps) :
    ∃ x y : Int, Wm.Fits x ∧ Wm.Fits y ∧ v = .agg #[.int .i64 x, .int .i64 y] := by
  unfold Value.okWide at hval
  rw [ht] at hval
  obtain ⟨cs, rfl, hs, _⟩ := hval
  obtain ⟨fuel, hf⟩ := hd
  obtain ⟨xs, m, rfl, hx, hl, hn, hat⟩ := DataW.trod_array ht hf
  rw [hct] at hs
  obtain ⟨l, hcl⟩ : ∃ l, l = cs.toList := ⟨_, rfl⟩
  have hll : l.length = 2 := by rw [hcl, Array.length_toList, hs]
  match l, hll with
  | [u0, u1], _ =>
    have hcs : cs = #[u0, u1] := by apply Array.ext'; rw [← hcl]
    subst hcs
    rw [hce] at hat
    have h0 := hat 0 (by decide)
    have h1 := hat 1 (by decide)
    match xs, hn with
    | [x, y], _ =>
      obtain ⟨n0, k0, _, w0⟩ := DataW.trod_int he h0
      obtain ⟨n1, k1, _, w1⟩ := DataW.trod_int he h1
      have e0 : u0 = .int .i64 n0 := by simpa [Value.cells] using k0
      have e1 : u1 = .int .i64 n1 := by simpa [Value.cells] using k1
      exact ⟨n0, n1, bounds_i64 w0, bounds_i64 w1, by rw [e0, e1]⟩
theorem open_arr3K {r : Reach} {b0 : Nat} {t e : TypeId} {v : Value} {d : DataW H} {ps : List MemPlace}
    (ht : P.underlying t = some (.array 3 e)) (he : P.underlying e = some (.int .i64)) (hce : P.cellsOf e = 1) (hct : P.cellsOf t = 3) (hval : Value.okWide P w r b0 t v) (hd : DataW.Trod enc P w base spare held t v d ps) :
    ∃ x y z : Int, Wm.Fits x ∧ Wm.Fits y ∧ Wm.Fits z ∧ v = .agg #[.int .i64 x, .int .i64 y, .int .i64 z] := by
  unfold Value.okWide at hval
  rw [ht] at hval
  obtain ⟨cs, rfl, hs, _⟩ := hval
  obtain ⟨fuel, hf⟩ := hd
  obtain ⟨xs, m, rfl, hx, hl, hn, hat⟩ := DataW.trod_array ht hf
  rw [hct] at hs
  obtain ⟨l, hcl⟩ : ∃ l, l = cs.toList := ⟨_, rfl⟩
  have hll : l.length = 3 := by rw [hcl, Array.length_toList, hs]
  match l, hll with
  | [u0, u1, u2], _ =>
    have hcs : cs = #[u0, u1, u2] := by apply Array.ext'; rw [← hcl]
    subst hcs
    rw [hce] at hat
    have h0 := hat 0 (by decide)
    have h1 := hat 1 (by decide)
    have h2 := hat 2 (by decide)
    match xs, hn with
    | [x, y, z], _ =>
      obtain ⟨n0, k0, _, w0⟩ := DataW.trod_int he h0
      obtain ⟨n1, k1, _, w1⟩ := DataW.trod_int he h1
      obtain ⟨n2, k2, _, w2⟩ := DataW.trod_int he h2
      have e0 : u0 = .int .i64 n0 := by simpa [Value.cells] using k0
      have e1 : u1 = .int .i64 n1 := by simpa [Value.cells] using k1
      have e2 : u2 = .int .i64 n2 := by simpa [Value.cells] using k2
      exact ⟨n0, n1, n2, bounds_i64 w0, bounds_i64 w1, bounds_i64 w2, by rw [e0, e1, e2]⟩
theorem open_whn2 {r : Reach} {b0 : Nat} {t e : TypeId} {v : Value} {d : DataW H} {ps : List MemPlace}
    (ht : P.underlying t = some (.array 2 e)) (T : WhnTy P e) (hce : P.cellsOf e = 2) (hct : P.cellsOf t = 4) (hval : Value.okWide P w r b0 t v) (hd : DataW.Trod enc P w base spare held t v d ps) :
    ∃ a b c f : Int, Wm.Fits a ∧ Wm.Fits b ∧ Wm.Fits c ∧ Wm.Fits f ∧ v = .agg #[.int .i64 a, .int .i64 b, .int .i64 c, .int .i64 f] := by
  unfold Value.okWide at hval
  rw [ht] at hval
  obtain ⟨cs, rfl, hs, _⟩ := hval
  obtain ⟨fuel, hf⟩ := hd
  obtain ⟨xs, m, rfl, hx, hl, hn, hat⟩ := DataW.trod_array ht hf
  rw [hct] at hs
  obtain ⟨l, hcl⟩ : ∃ l, l = cs.toList := ⟨_, rfl⟩
  have hll : l.length = 4 := by rw [hcl, Array.length_toList, hs]
  match l, hll with
  | [u0, u1, u2, u3], _ =>
    have hcs : cs = #[u0, u1, u2, u3] := by apply Array.ext'; rw [← hcl]
    subst hcs
    rw [hce] at hat
    have h0 := hat 0 (by decide)
    have h1 := hat 1 (by decide)
    match xs, hn with
    | [x, y], _ =>
      obtain ⟨a, b, e0, f0, f1⟩ := whn_of T rfl (show DataW.trod enc P w base spare held m e [u0, u1] = some x from h0)
      obtain ⟨c, f, e1, f2, f3⟩ := whn_of T rfl (show DataW.trod enc P w base spare held m e [u2, u3] = some y from h1)
      injection e0 with e0 e0'
      injection e0' with e0'
      injection e1 with e1 e1'
      injection e1' with e1'
      exact ⟨a, b, c, f, f0, f1, f2, f3, by rw [e0, e0', e1, e1']; rfl⟩
end
theorem b_u32 {x : Int} (h : (Lit.int .u32 x).wf = true) : 0 ≤ x ∧ x ≤ 4294967295 := by simpa [Lit.wf, IntKind.min, IntKind.max, IntKind.signed, IntKind.bits] using h
theorem b_u16 {x : Int} (h : (Lit.int .u16 x).wf = true) : 0 ≤ x ∧ x ≤ 65535 := by simpa [Lit.wf, IntKind.min, IntKind.max, IntKind.signed, IntKind.bits] using h
theorem rdgTy : RdgTy Try.prog 48 := ⟨⟨_, _, _, _, Try.underlying48, rfl, rfl, Try.underlying3, Try.underlying45, rfl, rfl, Try.underlying3, Try.underlying3, by kernel_rfl, by kernel_rfl, by kernel_rfl, by kernel_rfl, by kernel_rfl⟩⟩
theorem whnTy : WhnTy Try.prog 45 := ⟨⟨_, _, Try.underlying45, rfl, rfl, Try.underlying3, Try.underlying3, by kernel_rfl, by kernel_rfl, by kernel_rfl⟩⟩
end Go.Proofs.Ytbkgbjimooobbaa
