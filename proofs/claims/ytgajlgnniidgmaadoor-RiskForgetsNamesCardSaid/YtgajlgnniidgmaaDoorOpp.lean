/-
  Arguments, opened: perils (a struct of a code and two slices of integers).
-/
import Derived.Test.YtgajlgnniidgmaaDoorOpgw
import Derived.Test.YtgajlgnniidgmaaDoorVuy
namespace Go.Proofs.YtgajlgnniidgmaaDoor
set_option linter.unusedVariables false
open Go.ChangeShapes Go.WideShapes Go.ChangeAt Go.RowKit

section
variable {H : Type} {enc : TypeId × Value → H} {P : Program} {w : World} {base : Nat} {spare : Nat → Bool} {held : Bool}
theorem slice_nil12 {t e : TypeId} {fuel : Nat} {A : Option Addr} {n c : Nat} {x : DataW H × List MemPlace} (ht : P.underlying t = some (.slice e)) (h : DataW.trod enc P w base spare held fuel t (Value.slice A n c).cells.toList = some x) : A = none → c = 0 := by
  rcases Go.Deep.open_slice ht h with ⟨hcs, _⟩ | ⟨ad, len, cap, m2, k, D, Pl, hcs, _, hl2, hm, hmm, _, hel⟩
  · simp [Value.cells] at hcs
    exact fun _ => hcs.2.2
  · simp [Value.cells] at hcs
    intro h
    rw [hcs.1] at h
    cases h
theorem open_prl {r : Reach} {b0 : Nat} {t tc s si b : TypeId} {f0 f1 f2 g0 g1 g2 : Field} {v : Value} {d : DataW H} {ps : List MemPlace} {ts : List TypeId} {ds : List (DataW H)} {j : Nat}
    (ht : P.underlying t = some (.struct #[f0, f1, f2])) (o0 : f0.offset = 0) (o1 : f1.offset = 3) (o2 : f2.offset = 4) (t0 : f0.type = tc) (t1 : f1.type = si) (t2 : f2.type = si)
    (hc : P.underlying tc = some (.struct #[g0, g1, g2])) (p0 : g0.offset = 0) (p1 : g1.offset = 1) (p2 : g2.offset = 2) (u1 : g1.type = s)
    (hs : P.underlying s = some (.slice si)) (hsi : P.underlying si = some (.slice b)) (hb : P.underlying b = some (.int .i64)) (hi0 : P.underlying g0.type = some (.int .i64)) (hi2 : P.underlying g2.type = some (.int .i64))
    (cs1 : P.cellsOf s = 1) (csi : P.cellsOf si = 1) (cb : P.cellsOf b = 1) (cg0 : P.cellsOf g0.type = 1) (cg2 : P.cellsOf g2.type = 1) (ctc : P.cellsOf tc = 3) (ct : P.cellsOf t = 5) (be : P.bytesOf si = 23 + 1) (bb : P.bytesOf b = 7 + 1)
    (hval : Value.okWide P w r b0 t v) (hd : DataW.Trod enc P w base spare held t v d ps) (hz : (DataW.weightsEach P ts ds).all (· ≤ reachBytes) = true) (htj : ts[j]? = some t) (hdj : ds[j]? = some d) :
    ∃ p : Prl, v = prv p ∧ PerM w w.heap.size p ∧ CapP p := by
  unfold Value.okWide at hval
  rw [ht] at hval
  obtain ⟨cs, rfl, hsz, _⟩ := hval
  obtain ⟨fuel, hf⟩ := hd
  obtain ⟨xs, m, rfl, hx, hl, hn, hat⟩ := DataW.trod_struct ht hf
  rw [ct] at hsz
  obtain ⟨l, hcl⟩ : ∃ l, l = cs.toList := ⟨_, rfl⟩
  have hll : l.length = 5 := by rw [hcl, Array.length_toList, hsz]
  match l, hll with
  | [c0, c1, c2, c3, c4], _ =>
    have hcs2 : cs = #[c0, c1, c2, c3, c4] := by apply Array.ext'; rw [← hcl]
    subst hcs2
    have a0 := hat 0 f0 rfl
    have a1 := hat 1 f1 rfl
    have a2 := hat 2 f2 rfl
    rw [o0, t0, ctc] at a0
    rw [o1, t1, csi] at a1
    rw [o2, t2, csi] at a2
    match xs, hn with
    | [x0, x1, x2], _ =>
      have hd' : ds[j]? = some (.agg [x0.1, x1.1, x2.1]) := by rw [hdj]; injection hx with h1 h2; rw [h1]; rfl
      have hz' := sized_struct7 hz htj hd' ht
      have hts : (#[f0, f1, f2] : Array Field).toList.map (·.type) = [tc, si, si] := by simp [t0, t1, t2]
      rw [hts] at hz'
      have b0 : DataW.trod enc P w base spare held m tc [c0, c1, c2] = some x0 := a0
      have b1 : DataW.trod enc P w base spare held m si [c3] = some x1 := a1
      have b2 : DataW.trod enc P w base spare held m si [c4] = some x2 := a2
      obtain ⟨ys, m2, _, hy, hyl, hyn, hyat⟩ := DataW.trod_struct hc b0
      have e0 := hyat 0 g0 rfl
      have e1 := hyat 1 g1 rfl
      have e2 := hyat 2 g2 rfl
      rw [p0, cg0] at e0
      rw [p1, u1, cs1] at e1
      rw [p2, cg2] at e2
      match ys, hyn with
      | [y0, y1, y2], _ =>
        have hx0 : [x0.1, x1.1, x2.1][0]? = some (.agg [y0.1, y1.1, y2.1]) := by rw [hy]; rfl
        have hz2 := sized_struct7 hz' (j := 0) (t := tc) rfl hx0 hc
        have hts2 : (#[g0, g1, g2] : Array Field).toList.map (·.type) = [g0.type, s, g2.type] := by simp [u1]
        rw [hts2] at hz2
        have k0 : DataW.trod enc P w base spare held m2 g0.type [c0] = some y0 := e0
        have k1 : DataW.trod enc P w base spare held m2 s [c1] = some y1 := e1
        have k2 : DataW.trod enc P w base spare held m2 g2.type [c2] = some y2 := e2
        obtain ⟨A0, n0, c0', rfl⟩ := slice_shape7 hs k1
        obtain ⟨z, q0, _, w0⟩ := DataW.trod_int hi0 k0
        obtain ⟨y, q2, _, w2⟩ := DataW.trod_int hi2 k2
        have r0 : c0 = .int .i64 z := by simpa using q0
        have r2 : c2 = .int .i64 y := by simpa using q2
        subst r0 r2
        have z1 := reach_slice hz2 (j := 1) (t := s) (k := 23) rfl rfl hs be (slice_datum hs (show DataW.trod enc P w base spare held m2 s (Value.slice A0 n0 c0').cells.toList = some (y1.1, y1.2) from k1))
        obtain ⟨M, r1, r2, r3⟩ := open_slG hs hsi hb csi cb (show DataW.trod enc P w base spare held m2 s (Value.slice A0 n0 c0').cells.toList = some y1 from k1)
        have nl0 := slice_nil12 hs (show DataW.trod enc P w base spare held m2 s (Value.slice A0 n0 c0').cells.toList = some y1 from k1)
        obtain ⟨A1, n1, c1', rfl⟩ := slice_shape7 hsi b1
        obtain ⟨A2, n2, c2', rfl⟩ := slice_shape7 hsi b2
        have z2 := reach_slice hz' (j := 1) (t := si) (k := 7) rfl rfl hsi bb (slice_datum hsi (show DataW.trod enc P w base spare held m si (Value.slice A1 n1 c1').cells.toList = some (x1.1, x1.2) from b1))
        have z3 := reach_slice hz' (j := 2) (t := si) (k := 7) rfl rfl hsi bb (slice_datum hsi (show DataW.trod enc P w base spare held m si (Value.slice A2 n2 c2').cells.toList = some (x2.1, x2.2) from b2))
        obtain ⟨al, ⟨a1, ca1, v1, v2, v3, v4, v5⟩, _⟩ := open_rowI hsi hb cb b1
        obtain ⟨ch, ⟨a2, ca2, v6, v7, v8, v9, v10⟩, _⟩ := open_rowI hsi hb cb b2
        injection v1 with i1 i2 i3
        injection v6 with i4 i5 i6
        subst i1 i3 i4 i6
        exact ⟨⟨z, A0, n0, c0', y, M, A1, n1, c1', al, A2, n2, c2', ch⟩, rfl, ⟨⟨r2, Nat.le_refl _, r1, (show n0 ≤ 140737488355328 by omega), r3⟩, v5, i2, (show n1 ≤ 140737488355328 by omega), v10, i5, (show n2 ≤ 140737488355328 by omega)⟩, nl0, v4, v9⟩
end
theorem open_u8x3 {H : Type} {enc : TypeId × Value → H} {P : Program} {w : World} {base : Nat} {spare : Nat → Bool} {held : Bool} {r : Reach} {b0 : Nat} {t e : TypeId} {v : Value} {d : DataW H} {ps : List MemPlace}
    (ht : P.underlying t = some (.array 3 e)) (he : P.underlying e = some (.int .u8)) (hce : P.cellsOf e = 1) (hct : P.cellsOf t = 3) (hval : Value.okWide P w r b0 t v) (hd : DataW.Trod enc P w base spare held t v d ps) :
    ∃ x y z : Nat, x < 256 ∧ y < 256 ∧ z < 256 ∧ v = .agg #[.int .u8 x, .int .u8 y, .int .u8 z] := by
  unfold Value.okWide at hval
  rw [ht] at hval
  obtain ⟨cs, rfl, hs, _⟩ := hval
  obtain ⟨fuel, hf⟩ := hd
  obtain ⟨xs, m, rfl, hx, hl, hn, hat⟩ := DataW.trod_array ht hf
  rw [hct] at hs
  obtain ⟨l, hcl⟩ : ∃ l, l = cs.toList := ⟨_, rfl⟩
  have hll : l.length = 3 := by rw [hcl, Array.length_toList, hs]
  match l, hll with
  | [u0, u1, u2], _ =>
    have hcs : cs = #[u0, u1, u2] := by apply Array.ext'; rw [← hcl]
    subst hcs
    rw [hce] at hat
    have h0 := hat 0 (by decide)
    have h1 := hat 1 (by decide)
    have h2 := hat 2 (by decide)
    match xs, hn with
    | [x, y, z], _ =>
      obtain ⟨n0, k0, _, w0⟩ := DataW.trod_int he h0
      have e0 : u0 = .int .u8 n0 := by simpa [Value.cells] using k0
      obtain ⟨b0, rfl, f0⟩ := u8_nat w0
      obtain ⟨n1, k1, _, w1⟩ := DataW.trod_int he h1
      have e1 : u1 = .int .u8 n1 := by simpa [Value.cells] using k1
      obtain ⟨b1, rfl, f1⟩ := u8_nat w1
      obtain ⟨n2, k2, _, w2⟩ := DataW.trod_int he h2
      have e2 : u2 = .int .u8 n2 := by simpa [Value.cells] using k2
      obtain ⟨b2, rfl, f2⟩ := u8_nat w2
      exact ⟨b0, b1, b2, f0, f1, f2, by rw [e0, e1, e2]⟩
theorem open_u16x2 {H : Type} {enc : TypeId × Value → H} {P : Program} {w : World} {base : Nat} {spare : Nat → Bool} {held : Bool} {r : Reach} {b0 : Nat} {t e : TypeId} {v : Value} {d : DataW H} {ps : List MemPlace}
    (ht : P.underlying t = some (.array 2 e)) (he : P.underlying e = some (.int .u16)) (hce : P.cellsOf e = 1) (hct : P.cellsOf t = 2) (hval : Value.okWide P w r b0 t v) (hd : DataW.Trod enc P w base spare held t v d ps) :
    ∃ x y : Nat, x < 65536 ∧ y < 65536 ∧ v = .agg #[.int .u16 x, .int .u16 y] := by
  unfold Value.okWide at hval
  rw [ht] at hval
  obtain ⟨cs, rfl, hs, _⟩ := hval
  obtain ⟨fuel, hf⟩ := hd
  obtain ⟨xs, m, rfl, hx, hl, hn, hat⟩ := DataW.trod_array ht hf
  rw [hct] at hs
  obtain ⟨l, hcl⟩ : ∃ l, l = cs.toList := ⟨_, rfl⟩
  have hll : l.length = 2 := by rw [hcl, Array.length_toList, hs]
  match l, hll with
  | [u0, u1], _ =>
    have hcs : cs = #[u0, u1] := by apply Array.ext'; rw [← hcl]
    subst hcs
    rw [hce] at hat
    have h0 := hat 0 (by decide)
    have h1 := hat 1 (by decide)
    match xs, hn with
    | [x, y], _ =>
      obtain ⟨n0, k0, _, w0⟩ := DataW.trod_int he h0
      have e0 : u0 = .int .u16 n0 := by simpa [Value.cells] using k0
      obtain ⟨b0, rfl, f0⟩ := u16_nat w0
      obtain ⟨n1, k1, _, w1⟩ := DataW.trod_int he h1
      have e1 : u1 = .int .u16 n1 := by simpa [Value.cells] using k1
      obtain ⟨b1, rfl, f1⟩ := u16_nat w1
      exact ⟨b0, b1, f0, f1, by rw [e0, e1]⟩
end Go.Proofs.YtgajlgnniidgmaaDoor
