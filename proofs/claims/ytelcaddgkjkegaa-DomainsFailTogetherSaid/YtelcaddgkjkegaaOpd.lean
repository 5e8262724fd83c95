/-
  Arguments, opened: domains (a struct of three slices and a number); arrays of integers; pairs of slices of integers.
-/
import Derived.Test.YtelcaddgkjkegaaOpn
import Derived.Test.YtelcaddgkjkegaaDmb
namespace Go.Proofs.Ytelcaddgkjkegaa
set_option linter.unusedVariables false
open Go.ChangeShapes Go.WideShapes Go.ChangeAt Go.RowKit

section
variable {H : Type} {enc : TypeId × Value → H} {P : Program} {w : World} {base : Nat} {spare : Nat → Bool} {held : Bool}
theorem sized_struct {ts : List TypeId} {ds xs : List (DataW H)} {j : Nat} {t : TypeId} {fs : Array Field} (h : (DataW.weightsEach P ts ds).all (· ≤ reachBytes) = true) (ht : ts[j]? = some t) (hd : ds[j]? = some (.agg xs)) (hu : P.underlying t = some (.struct fs)) :
    (DataW.weightsEach P (fs.toList.map (·.type)) xs).all (· ≤ reachBytes) = true := by
  rw [List.all_eq_true]
  intro n hn
  exact List.all_eq_true.1 h n (DataW.weights_mem_each ht hd n (by simpa [DataW.weights, hu] using hn))
theorem open_slR {t e : TypeId} {g0 g1 : Field} {fuel : Nat} {A : Option Addr} {n c : Nat} {x : DataW H × List MemPlace} (ht : P.underlying t = some (.slice e)) (he : P.underlying e = some (.struct #[g0, g1])) (h0 : g0.offset = 0) (h1 : g1.offset = 1) (hi : P.underlying g0.type = some (.int .i64)) (hb : P.underlying g1.type = some .bool)
    (c0 : P.cellsOf g0.type = 1) (c1 : P.cellsOf g1.type = 1) (hce : P.cellsOf e = 2) (h : DataW.trod enc P w base spare held fuel t (Value.slice A n c).cells.toList = some x) :
    ∃ R : List (Int × Bool), n = R.length ∧ n ≤ c ∧ c ≤ maxLen ∧ (A = none → c = 0) ∧ Rds w w.heap.size A (rflat R) ∧ ∀ r ∈ R, Wm.Fits r.1 := by
  rcases Go.Deep.open_slice ht h with ⟨hcs, _⟩ | ⟨ad, len, cap, m, k, D, Pl, hcs, _, hl, hm, hmm, _, hel⟩
  · simp [Value.cells] at hcs
    obtain ⟨rfl, rfl, rfl⟩ := hcs
    exact ⟨[], rfl, Nat.le_refl _, Nat.zero_le _, fun _ => rfl, Rds.empty, by simp⟩
  · simp [Value.cells] at hcs
    obtain ⟨rfl, rfl, rfl⟩ := hcs
    have hlen : n ≤ m := by rw [hmm]; split <;> omega
    have each : ∀ i, i < n → ∃ r : Int × Bool, Wm.Fits r.1 ∧ w.cell? (ad.add (i * 2)) = some (iv r.1) ∧ w.cell? (ad.add (i * 2 + 1)) = some (.bool r.2) := by
      intro i hi'
      obtain ⟨cs', hcell, htrod⟩ := hel i (by omega)
      obtain ⟨ys, m', _, _, hlenN, hys, hat⟩ := DataW.trod_struct he htrod
      rw [hce] at hcell hlenN
      obtain ⟨_, hcl, hcat⟩ := World.cells?_some hcell
      match cs', hlenN with
      | [u, q], _ =>
        have a0 := hat 0 g0 rfl
        have a1 := hat 1 g1 rfl
        rw [h0, c0] at a0
        rw [h1, c1] at a1
        match ys, hys with
        | [x, y], _ =>
          obtain ⟨z, k0, _, w0⟩ := DataW.trod_int hi (show DataW.trod enc P w base spare held m' g0.type [u] = some x from a0)
          obtain ⟨b, k1, _⟩ := DataW.trod_bool hb (show DataW.trod enc P w base spare held m' g1.type [q] = some y from a1)
          have e0 : u = .int .i64 z := by simpa using k0
          have e1 : q = .bool b := by simpa using k1
          subst e0 e1
          have z0 := hcat 0 (by decide)
          have z1 := hcat 1 (by decide)
          rw [add_twice] at z0 z1
          exact ⟨(z, b), bounds_i64 w0, z0, z1⟩
    have build : ∀ k, k ≤ n → ∃ R : List (Int × Bool), R.length = k ∧ (∀ r ∈ R, Wm.Fits r.1) ∧ ∀ j u, (rflat R)[j]? = some u → w.cell? (ad.add j) = some u := by
      intro k
      induction k with
      | zero => intro _; exact ⟨[], rfl, by simp, by simp [rflat]⟩
      | succ k ih =>
        intro hk
        obtain ⟨R, g1, g2, g3⟩ := ih (by omega)
        obtain ⟨r, f1, f2, f3⟩ := each k (by omega)
        refine ⟨R ++ [r], by simp [g1], ?_, ?_⟩
        · intro y hy
          rcases List.mem_append.1 hy with hy | hy
          · exact g2 y hy
          · rw [List.mem_singleton.1 hy]; exact f1
        · intro j u hu
          have hfl : (rflat R).length = k * 2 := by rw [rflat_len, g1]
          have hap : rflat (R ++ [r]) = rflat R ++ [iv r.1, .bool r.2] := by unfold rflat; rw [List.flatMap_append]; rfl
          rw [hap] at hu
          by_cases hj : j < k * 2
          · rw [List.getElem?_append_left (by rw [hfl]; exact hj)] at hu
            exact g3 j u hu
          · rw [List.getElem?_append_right (by rw [hfl]; omega), hfl] at hu
            rcases Nat.lt_trichotomy (j - k * 2) 1 with hq | hq | hq
            · rw [show j - k * 2 = 0 by omega] at hu
              rw [show j = k * 2 by omega, f2, ← hu]; rfl
            · rw [hq] at hu
              rw [show j = k * 2 + 1 by omega, f3, ← hu]; rfl
            · rw [List.getElem?_eq_none (by simp; omega)] at hu; cases hu
    obtain ⟨R, g1, g2, g3⟩ := build n (Nat.le_refl _)
    exact ⟨R, g1.symm, hl, hm, (fun h => by cases h), rds_cells (len := n * 2) _ (by rw [rflat_len, g1]) g3, g2⟩
theorem slice_shape {t e : TypeId} {fuel : Nat} {q : Value} {x : DataW H × List MemPlace} (ht : P.underlying t = some (.slice e)) (h : DataW.trod enc P w base spare held fuel t [q] = some x) : ∃ A n c, q = .slice A n c := by
  rcases Go.Deep.open_slice ht h with ⟨hcs, _⟩ | ⟨ad, len, cap, m2, k, D, Pl, hcs, _, hl2, hm, hmm, _, hel⟩
  · exact ⟨none, 0, 0, by simpa using hcs⟩
  · exact ⟨some ad, len, cap, by simpa using hcs⟩
theorem open_dom {r : Reach} {b0 : Nat} {t s1 s2 e1 e2 : TypeId} {f0 f1 f2 f3 g0 g1 : Field} {v : Value} {d : DataW H} {ps : List MemPlace} {ts : List TypeId} {ds : List (DataW H)} {j : Nat}
    (ht : P.underlying t = some (.struct #[f0, f1, f2, f3])) (o0 : f0.offset = 0) (o1 : f1.offset = 1) (o2 : f2.offset = 2) (o3 : f3.offset = 3) (t0 : f0.type = s1) (t1 : f1.type = s2) (t2 : f2.type = s1)
    (hs1 : P.underlying s1 = some (.slice e1)) (he1 : P.underlying e1 = some (.int .i64)) (hs2 : P.underlying s2 = some (.slice e2)) (he2 : P.underlying e2 = some (.struct #[g0, g1])) (q0 : g0.offset = 0) (q1 : g1.offset = 1) (hi : P.underlying g0.type = some (.int .i64)) (hb : P.underlying g1.type = some .bool) (hi3 : P.underlying f3.type = some (.int .i64))
    (cs1 : P.cellsOf s1 = 1) (cs2 : P.cellsOf s2 = 1) (ce1 : P.cellsOf e1 = 1) (ce2 : P.cellsOf e2 = 2) (cg0 : P.cellsOf g0.type = 1) (cg1 : P.cellsOf g1.type = 1) (cf3 : P.cellsOf f3.type = 1) (ct : P.cellsOf t = 4) (be1 : P.bytesOf e1 = 7 + 1) (be2 : P.bytesOf e2 = 15 + 1)
    (hval : Value.okWide P w r b0 t v) (hd : DataW.Trod enc P w base spare held t v d ps) (hz : (DataW.weightsEach P ts ds).all (· ≤ reachBytes) = true) (htj : ts[j]? = some t) (hdj : ds[j]? = some d) :
    ∃ (h : Hd) (D : Dm), v = h.val ∧ DomM w w.heap.size h D := by
  unfold Value.okWide at hval
  rw [ht] at hval
  obtain ⟨cs, rfl, hsz, _⟩ := hval
  obtain ⟨fuel, hf⟩ := hd
  obtain ⟨xs, m, rfl, hx, hl, hn, hat⟩ := DataW.trod_struct ht hf
  rw [ct] at hsz
  obtain ⟨l, hcl⟩ : ∃ l, l = cs.toList := ⟨_, rfl⟩
  have hll : l.length = 4 := by rw [hcl, Array.length_toList, hsz]
  match l, hll with
  | [u0, u1, u2, u3], _ =>
    have hcs2 : cs = #[u0, u1, u2, u3] := by apply Array.ext'; rw [← hcl]
    subst hcs2
    have a0 := hat 0 f0 rfl
    have a1 := hat 1 f1 rfl
    have a2 := hat 2 f2 rfl
    have a3 := hat 3 f3 rfl
    rw [o0, t0, cs1] at a0
    rw [o1, t1, cs2] at a1
    rw [o2, t2, cs1] at a2
    rw [o3, cf3] at a3
    match xs, hn with
    | [x0, x1, x2, x3], _ =>
      have hd' : ds[j]? = some (.agg [x0.1, x1.1, x2.1, x3.1]) := by rw [hdj]; injection hx with h1 h2; rw [h1]; rfl
      have hz' := sized_struct hz htj hd' ht
      have hts : (#[f0, f1, f2, f3] : Array Field).toList.map (·.type) = [s1, s2, s1, f3.type] := by simp [t0, t1, t2]
      rw [hts] at hz'
      have b0 : DataW.trod enc P w base spare held m s1 [u0] = some x0 := a0
      have b1 : DataW.trod enc P w base spare held m s2 [u1] = some x1 := a1
      have b2 : DataW.trod enc P w base spare held m s1 [u2] = some x2 := a2
      have b3 : DataW.trod enc P w base spare held m f3.type [u3] = some x3 := a3
      obtain ⟨A1, n1, c1, rfl⟩ := slice_shape hs1 b0
      obtain ⟨A2, n2, c2, rfl⟩ := slice_shape hs2 b1
      obtain ⟨A3, n3, c3, rfl⟩ := slice_shape hs1 b2
      obtain ⟨z, k3, _, w3⟩ := DataW.trod_int hi3 b3
      have e3 : u3 = .int .i64 z := by simpa using k3
      subst e3
      have z0 := reach_slice hz' (j := 0) (t := s1) (k := 7) rfl rfl hs1 be1 (slice_datum hs1 (show DataW.trod enc P w base spare held m s1 (Value.slice A1 n1 c1).cells.toList = some (x0.1, x0.2) from b0))
      have z1 := reach_slice hz' (j := 1) (t := s2) (k := 15) rfl rfl hs2 be2 (slice_datum hs2 (show DataW.trod enc P w base spare held m s2 (Value.slice A2 n2 c2).cells.toList = some (x1.1, x1.2) from b1))
      have z2 := reach_slice hz' (j := 2) (t := s1) (k := 7) rfl rfl hs1 be1 (slice_datum hs1 (show DataW.trod enc P w base spare held m s1 (Value.slice A3 n3 c3).cells.toList = some (x2.1, x2.2) from b2))
      obtain ⟨D, h1⟩ := open_slI hs1 he1 ce1 (show DataW.trod enc P w base spare held m s1 (Value.slice A1 n1 c1).cells.toList = some x0 from b0) z0
      obtain ⟨R, r1, r2, r3, r4, r5, r6⟩ := open_slR hs2 he2 q0 q1 hi hb cg0 cg1 ce2 (show DataW.trod enc P w base spare held m s2 (Value.slice A2 n2 c2).cells.toList = some x1 from b1)
      obtain ⟨E, h3⟩ := open_slI hs1 he1 ce1 (show DataW.trod enc P w base spare held m s1 (Value.slice A3 n3 c3).cells.toList = some x2 from b2) z2
      exact ⟨⟨A1, n1, c1, A2, n2, c2, A3, n3, c3, z⟩, ⟨D, R, E, z⟩, rfl, ⟨h1.rds, r5, h3.rds, h1.len, r1, h3.len, ⟨h1.cap, h1.max, h1.nil⟩, ⟨r2, r3, r4⟩, ⟨h3.cap, h3.max, h3.nil⟩, (show n1 ≤ 140737488355328 by omega), (show n2 ≤ 140737488355328 by omega), (show n3 ≤ 140737488355328 by omega), rfl, Nat.le_refl _, h1.fits, r6, h3.fits, bounds_i64 w3⟩⟩
theorem open_int3 {r : Reach} {b0 : Nat} {t e : TypeId} {v : Value} {d : DataW H} {ps : List MemPlace}
    (ht : P.underlying t = some (.array 3 e)) (he : P.underlying e = some (.int .i64)) (hce : P.cellsOf e = 1) (hct : P.cellsOf t = 3) (hval : Value.okWide P w r b0 t v) (hd : DataW.Trod enc P w base spare held t v d ps) :
    ∃ x y z : Int, Wm.Fits x ∧ Wm.Fits y ∧ Wm.Fits z ∧ v = .agg #[.int .i64 x, .int .i64 y, .int .i64 z] := by
  unfold Value.okWide at hval
  rw [ht] at hval
  obtain ⟨cs, rfl, hs, _⟩ := hval
  obtain ⟨fuel, hf⟩ := hd
  obtain ⟨xs, m, rfl, hx, hl, hn, hat⟩ := DataW.trod_array ht hf
  rw [hct] at hs
  obtain ⟨l, hcl⟩ : ∃ l, l = cs.toList := ⟨_, rfl⟩
  have hll : l.length = 3 := by rw [hcl, Array.length_toList, hs]
  match l, hll with
  | [u0, u1, u2], _ =>
    have hcs : cs = #[u0, u1, u2] := by apply Array.ext'; rw [← hcl]
    subst hcs
    rw [hce] at hat
    have h0 := hat 0 (by decide)
    have h1 := hat 1 (by decide)
    have h2 := hat 2 (by decide)
    match xs, hn with
    | [x, y, z], _ =>
      obtain ⟨n0, k0, _, w0⟩ := DataW.trod_int he h0
      obtain ⟨n1, k1, _, w1⟩ := DataW.trod_int he h1
      obtain ⟨n2, k2, _, w2⟩ := DataW.trod_int he h2
      have e0 : u0 = .int .i64 n0 := by simpa [Value.cells] using k0
      have e1 : u1 = .int .i64 n1 := by simpa [Value.cells] using k1
      have e2 : u2 = .int .i64 n2 := by simpa [Value.cells] using k2
      exact ⟨n0, n1, n2, bounds_i64 w0, bounds_i64 w1, bounds_i64 w2, by rw [e0, e1, e2]⟩
theorem open_int2 {r : Reach} {b0 : Nat} {t e : TypeId} {v : Value} {d : DataW H} {ps : List MemPlace}
    (ht : P.underlying t = some (.array 2 e)) (he : P.underlying e = some (.int .i64)) (hce : P.cellsOf e = 1) (hct : P.cellsOf t = 2) (hval : Value.okWide P w r b0 t v) (hd : DataW.Trod enc P w base spare held t v d ps) :
    ∃ x y : Int, Wm.Fits x ∧ Wm.Fits y ∧ v = .agg #[.int .i64 x, .int .i64 y] := by
  unfold Value.okWide at hval
  rw [ht] at hval
  obtain ⟨cs, rfl, hs, _⟩ := hval
  obtain ⟨fuel, hf⟩ := hd
  obtain ⟨xs, m, rfl, hx, hl, hn, hat⟩ := DataW.trod_array ht hf
  rw [hct] at hs
  obtain ⟨l, hcl⟩ : ∃ l, l = cs.toList := ⟨_, rfl⟩
  have hll : l.length = 2 := by rw [hcl, Array.length_toList, hs]
  match l, hll with
  | [u0, u1], _ =>
    have hcs : cs = #[u0, u1] := by apply Array.ext'; rw [← hcl]
    subst hcs
    rw [hce] at hat
    have h0 := hat 0 (by decide)
    have h1 := hat 1 (by decide)
    match xs, hn with
    | [x, y], _ =>
      obtain ⟨n0, k0, _, w0⟩ := DataW.trod_int he h0
      obtain ⟨n1, k1, _, w1⟩ := DataW.trod_int he h1
      have e0 : u0 = .int .i64 n0 := by simpa [Value.cells] using k0
      have e1 : u1 = .int .i64 n1 := by simpa [Value.cells] using k1
      exact ⟨n0, n1, bounds_i64 w0, bounds_i64 w1, by rw [e0, e1]⟩
theorem open_bytes3 {r : Reach} {b0 : Nat} {t e : TypeId} {v : Value} {d : DataW H} {ps : List MemPlace}
    (ht : P.underlying t = some (.array 3 e)) (he : P.underlying e = some (.int .u8)) (hce : P.cellsOf e = 1) (hct : P.cellsOf t = 3) (hval : Value.okWide P w r b0 t v) (hd : DataW.Trod enc P w base spare held t v d ps) :
    ∃ x y z : Nat, x < 256 ∧ y < 256 ∧ z < 256 ∧ v = .agg #[.int .u8 x, .int .u8 y, .int .u8 z] := by
  unfold Value.okWide at hval
  rw [ht] at hval
  obtain ⟨cs, rfl, hs, _⟩ := hval
  obtain ⟨fuel, hf⟩ := hd
  obtain ⟨xs, m, rfl, hx, hl, hn, hat⟩ := DataW.trod_array ht hf
  rw [hct] at hs
  obtain ⟨l, hcl⟩ : ∃ l, l = cs.toList := ⟨_, rfl⟩
  have hll : l.length = 3 := by rw [hcl, Array.length_toList, hs]
  match l, hll with
  | [u0, u1, u2], _ =>
    have hcs : cs = #[u0, u1, u2] := by apply Array.ext'; rw [← hcl]
    subst hcs
    rw [hce] at hat
    have h0 := hat 0 (by decide)
    have h1 := hat 1 (by decide)
    have h2 := hat 2 (by decide)
    match xs, hn with
    | [x, y, z], _ =>
      obtain ⟨n0, k0, _, w0⟩ := DataW.trod_int he h0
      obtain ⟨n1, k1, _, w1⟩ := DataW.trod_int he h1
      obtain ⟨n2, k2, _, w2⟩ := DataW.trod_int he h2
      have e0 : u0 = .int .u8 n0 := by simpa [Value.cells] using k0
      have e1 : u1 = .int .u8 n1 := by simpa [Value.cells] using k1
      have e2 : u2 = .int .u8 n2 := by simpa [Value.cells] using k2
      have b0 := bounds_u8 w0
      have b1 := bounds_u8 w1
      have b2 := bounds_u8 w2
      exact ⟨n0.toNat, n1.toNat, n2.toNat, by omega, by omega, by omega, by rw [e0, e1, e2, Int.toNat_of_nonneg b0.1, Int.toNat_of_nonneg b1.1, Int.toNat_of_nonneg b2.1]⟩
theorem open_bytes2 {r : Reach} {b0 : Nat} {t e : TypeId} {v : Value} {d : DataW H} {ps : List MemPlace}
    (ht : P.underlying t = some (.array 2 e)) (he : P.underlying e = some (.int .u8)) (hce : P.cellsOf e = 1) (hct : P.cellsOf t = 2) (hval : Value.okWide P w r b0 t v) (hd : DataW.Trod enc P w base spare held t v d ps) :
    ∃ x y : Nat, x < 256 ∧ y < 256 ∧ v = .agg #[.int .u8 x, .int .u8 y] := by
  unfold Value.okWide at hval
  rw [ht] at hval
  obtain ⟨cs, rfl, hs, _⟩ := hval
  obtain ⟨fuel, hf⟩ := hd
  obtain ⟨xs, m, rfl, hx, hl, hn, hat⟩ := DataW.trod_array ht hf
  rw [hct] at hs
  obtain ⟨l, hcl⟩ : ∃ l, l = cs.toList := ⟨_, rfl⟩
  have hll : l.length = 2 := by rw [hcl, Array.length_toList, hs]
  match l, hll with
  | [u0, u1], _ =>
    have hcs : cs = #[u0, u1] := by apply Array.ext'; rw [← hcl]
    subst hcs
    rw [hce] at hat
    have h0 := hat 0 (by decide)
    have h1 := hat 1 (by decide)
    match xs, hn with
    | [x, y], _ =>
      obtain ⟨n0, k0, _, w0⟩ := DataW.trod_int he h0
      obtain ⟨n1, k1, _, w1⟩ := DataW.trod_int he h1
      have e0 : u0 = .int .u8 n0 := by simpa [Value.cells] using k0
      have e1 : u1 = .int .u8 n1 := by simpa [Value.cells] using k1
      have b0 := bounds_u8 w0
      have b1 := bounds_u8 w1
      exact ⟨n0.toNat, n1.toNat, by omega, by omega, by rw [e0, e1, Int.toNat_of_nonneg b0.1, Int.toNat_of_nonneg b1.1]⟩
end
end Go.Proofs.Ytelcaddgkjkegaa
