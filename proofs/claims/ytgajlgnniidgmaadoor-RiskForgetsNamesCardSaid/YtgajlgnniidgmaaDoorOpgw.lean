/-
  Arguments, opened: codes (a struct of a number, a slice of slices of integers and a number). Arguments, opened: four uint32.
-/
import Derived.Test.YtgajlgnniidgmaaDoorOpn
import Derived.Test.YtgajlgnniidgmaaDoorCd1
import Derived.OpenShut
namespace Go.Proofs.YtgajlgnniidgmaaDoor
set_option linter.unusedVariables false
open Go.ChangeShapes Go.WideShapes Go.ChangeAt Go.RowKit

section
variable {H : Type} {enc : TypeId × Value → H} {P : Program} {w : World} {base : Nat} {spare : Nat → Bool} {held : Bool}
theorem sized_struct7 {ts : List TypeId} {ds xs : List (DataW H)} {j : Nat} {t : TypeId} {fs : Array Field} (h : (DataW.weightsEach P ts ds).all (· ≤ reachBytes) = true) (ht : ts[j]? = some t) (hd : ds[j]? = some (.agg xs)) (hu : P.underlying t = some (.struct fs)) :
    (DataW.weightsEach P (fs.toList.map (·.type)) xs).all (· ≤ reachBytes) = true := by
  rw [List.all_eq_true]
  intro n hn
  exact List.all_eq_true.1 h n (DataW.weights_mem_each ht hd n (by simpa [DataW.weights, hu] using hn))
theorem slice_shape7 {t e : TypeId} {fuel : Nat} {q : Value} {x : DataW H × List MemPlace} (ht : P.underlying t = some (.slice e)) (h : DataW.trod enc P w base spare held fuel t [q] = some x) : ∃ A n c, q = .slice A n c := by
  rcases Go.Deep.open_slice ht h with ⟨hcs, _⟩ | ⟨ad, len, cap, m2, k, D, Pl, hcs, _, hl2, hm, hmm, _, hel⟩
  · exact ⟨none, 0, 0, by simpa using hcs⟩
  · exact ⟨some ad, len, cap, by simpa using hcs⟩
theorem open_rowI {t e : TypeId} {fuel : Nat} {u : Value} {x : DataW H × List MemPlace} (ht : P.underlying t = some (.slice e)) (he : P.underlying e = some (.int .i64)) (hce : P.cellsOf e = 1)
    (h : DataW.trod enc P w base spare held fuel t [u] = some x) : ∃ g : List Int, RowI w w.heap.size u g ∧ ∀ v ∈ g, -9223372036854775808 ≤ v ∧ v ≤ 9223372036854775807 := by
  rcases open_ints ht he hce h with ⟨hcs, _⟩ | ⟨ad, len, cap, zs, hcs, _, hl, hm, hzl, _, hcell, hwz⟩
  · have : u = .slice none 0 0 := by simpa using hcs
    exact ⟨[], ⟨none, 0, this, Nat.le_refl _, Nat.zero_le _, fun _ => rfl, Rds.empty⟩, fun v hv => by cases hv⟩
  · have hu0 : u = .slice (some ad) len cap := by simpa using hcs
    have hlen : len ≤ zs.length := by rw [hzl]; split <;> omega
    have hll : (zs.take len).length = len := by simp; omega
    refine ⟨zs.take len, ⟨some ad, cap, by rw [hll]; exact hu0, by rw [hll]; exact hl, hm, (fun h => by cases h), rds_cells (len := len) _ (by simp; omega) ?_⟩, fun y hy => by
      have := bounds_i64 (hwz y (List.mem_of_mem_take hy))
      exact ⟨this.1, this.2⟩⟩
    intro i v hv
    have hi : i < len := by
      rcases Nat.lt_or_ge i len with hi | hi
      · exact hi
      · rw [List.getElem?_eq_none (by simp; omega)] at hv; cases hv
    rw [hcell i (by omega), ← hv]
    simp [hi, List.getD_eq_getElem?_getD, show i < zs.length from by omega, iv]
theorem open_slG {t e b : TypeId} {fuel : Nat} {A : Option Addr} {n c : Nat} {x : DataW H × List MemPlace} (ht : P.underlying t = some (.slice e)) (he : P.underlying e = some (.slice b)) (hb : P.underlying b = some (.int .i64)) (hce : P.cellsOf e = 1) (hcb : P.cellsOf b = 1)
    (h : DataW.trod enc P w base spare held fuel t (Value.slice A n c).cells.toList = some x) : ∃ M : List (List Int), n = M.length ∧ GrpM w w.heap.size A M ∧ ∀ g ∈ M, ∀ v ∈ g, -9223372036854775808 ≤ v ∧ v ≤ 9223372036854775807 := by
  rcases Go.Deep.open_slice ht h with ⟨hcs, _⟩ | ⟨ad, len, cap, m, k, D, Pl, hcs, _, hl, hm, hmm, _, hel⟩
  · simp [Value.cells] at hcs
    obtain ⟨rfl, rfl, rfl⟩ := hcs
    exact ⟨[], rfl, ⟨[], rfl, Rds.empty, fun i v g hv => by simp at hv⟩, fun g hg => by cases hg⟩
  · simp [Value.cells] at hcs
    obtain ⟨rfl, rfl, rfl⟩ := hcs
    have hlen : n ≤ m := by rw [hmm]; split <;> omega
    have each : ∀ i, i < n → ∃ u r, w.cell? (ad.add i) = some u ∧ RowI w w.heap.size u r ∧ ∀ v ∈ r, -9223372036854775808 ≤ v ∧ v ≤ 9223372036854775807 := by
      intro i hi
      obtain ⟨cs', hcell, htrod⟩ := hel i (by omega)
      rw [hce] at hcell
      obtain ⟨hcl0, hcl, hcat⟩ := World.cells?_some hcell
      have h1 := hcat 0 (by omega)
      rw [Nat.mul_one] at h1
      have hz : (ad.add i).add 0 = ad.add i := rfl
      rw [hz] at h1
      obtain ⟨u, hu⟩ : ∃ u, cs' = [u] := by
        match cs', hcl with
        | [u], _ => exact ⟨u, rfl⟩
      subst hu
      obtain ⟨r, hr, hr2⟩ := open_rowI he hb hcb htrod
      exact ⟨u, r, by simpa using h1, hr, hr2⟩
    have build : ∀ k, k ≤ n → ∃ (vs : List Value) (M : List (List Int)), vs.length = k ∧ M.length = k ∧ (∀ j u, vs[j]? = some u → w.cell? (ad.add j) = some u) ∧ (∀ (i : Nat) (v : Value) (r : List Int), vs[i]? = some v → M[i]? = some r → RowI w w.heap.size v r) ∧ ∀ g ∈ M, ∀ v ∈ g, -9223372036854775808 ≤ v ∧ v ≤ 9223372036854775807 := by
      intro k
      induction k with
      | zero => intro _; exact ⟨[], [], rfl, rfl, by simp, by simp, by simp⟩
      | succ k ih =>
        intro hk
        obtain ⟨vs, M, h1, h2, h3, h4, h5⟩ := ih (by omega)
        obtain ⟨u, r, g1, g2, g3⟩ := each k (by omega)
        refine ⟨vs ++ [u], M ++ [r], by simp [h1], by simp [h2], fun j v hv => ?_, fun i v q hv hq => ?_, fun g hg => ?_⟩
        · rcases Nat.lt_trichotomy j k with hj | hj | hj
          · rw [List.getElem?_append_left (by omega)] at hv; exact h3 j v hv
          · subst hj
            rw [List.getElem?_append_right (by omega), h1, Nat.sub_self] at hv
            obtain rfl := Option.some.inj hv
            exact g1
          · rw [List.getElem?_eq_none (by simp; omega)] at hv; cases hv
        · rcases Nat.lt_trichotomy i k with hj | hj | hj
          · rw [List.getElem?_append_left (by omega)] at hv hq; exact h4 i v q hv hq
          · subst hj
            rw [List.getElem?_append_right (by omega), h1, Nat.sub_self] at hv
            rw [List.getElem?_append_right (by omega), h2, Nat.sub_self] at hq
            obtain rfl := Option.some.inj hv
            obtain rfl := Option.some.inj hq
            exact g2
          · rw [List.getElem?_eq_none (by simp; omega)] at hv; cases hv
        · rcases List.mem_append.1 hg with hg | hg
          · exact h5 g hg
          · rw [List.mem_singleton.1 hg]; exact g3
    obtain ⟨vs, M, h1, h2, h3, h4, h5⟩ := build n (Nat.le_refl _)
    exact ⟨M, h2.symm, ⟨vs, by rw [h1, h2], rds_cells (len := n) _ (by omega) h3, h4⟩, h5⟩
theorem open_cod {r : Reach} {b0 : Nat} {t s e b : TypeId} {f0 f1 f2 : Field} {v : Value} {d : DataW H} {ps : List MemPlace} {ts : List TypeId} {ds : List (DataW H)} {j : Nat}
    (ht : P.underlying t = some (.struct #[f0, f1, f2])) (o0 : f0.offset = 0) (o1 : f1.offset = 1) (o2 : f2.offset = 2) (t1 : f1.type = s)
    (hs : P.underlying s = some (.slice e)) (he : P.underlying e = some (.slice b)) (hb : P.underlying b = some (.int .i64)) (hi0 : P.underlying f0.type = some (.int .i64)) (hi2 : P.underlying f2.type = some (.int .i64))
    (cs1 : P.cellsOf s = 1) (ce : P.cellsOf e = 1) (cb : P.cellsOf b = 1) (cf0 : P.cellsOf f0.type = 1) (cf2 : P.cellsOf f2.type = 1) (ct : P.cellsOf t = 3) (be : P.bytesOf e = 23 + 1)
    (hval : Value.okWide P w r b0 t v) (hd : DataW.Trod enc P w base spare held t v d ps) (hz : (DataW.weightsEach P ts ds).all (· ≤ reachBytes) = true) (htj : ts[j]? = some t) (hdj : ds[j]? = some d) :
    ∃ (D : Int) (A : Option Addr) (n c : Nat) (G : Int) (Gs : List (List Int)), v = cdv D A n c G ∧ CodM w w.heap.size D A n c G Gs ∧ (-9223372036854775808 ≤ D ∧ D ≤ 9223372036854775807) ∧ (-9223372036854775808 ≤ G ∧ G ≤ 9223372036854775807) := by
  unfold Value.okWide at hval
  rw [ht] at hval
  obtain ⟨cs, rfl, hsz, _⟩ := hval
  obtain ⟨fuel, hf⟩ := hd
  obtain ⟨xs, m, rfl, hx, hl, hn, hat⟩ := DataW.trod_struct ht hf
  rw [ct] at hsz
  obtain ⟨l, hcl⟩ : ∃ l, l = cs.toList := ⟨_, rfl⟩
  have hll : l.length = 3 := by rw [hcl, Array.length_toList, hsz]
  match l, hll with
  | [u0, u1, u2], _ =>
    have hcs2 : cs = #[u0, u1, u2] := by apply Array.ext'; rw [← hcl]
    subst hcs2
    have a0 := hat 0 f0 rfl
    have a1 := hat 1 f1 rfl
    have a2 := hat 2 f2 rfl
    rw [o0, cf0] at a0
    rw [o1, t1, cs1] at a1
    rw [o2, cf2] at a2
    match xs, hn with
    | [x0, x1, x2], _ =>
      have hd' : ds[j]? = some (.agg [x0.1, x1.1, x2.1]) := by rw [hdj]; injection hx with h1 h2; rw [h1]; rfl
      have hz' := sized_struct7 hz htj hd' ht
      have hts : (#[f0, f1, f2] : Array Field).toList.map (·.type) = [f0.type, s, f2.type] := by simp [t1]
      rw [hts] at hz'
      have b0 : DataW.trod enc P w base spare held m f0.type [u0] = some x0 := a0
      have b1 : DataW.trod enc P w base spare held m s [u1] = some x1 := a1
      have b2 : DataW.trod enc P w base spare held m f2.type [u2] = some x2 := a2
      obtain ⟨A1, n1, c1, rfl⟩ := slice_shape7 hs b1
      obtain ⟨z, k0, _, w0⟩ := DataW.trod_int hi0 b0
      obtain ⟨y, k2, _, w2⟩ := DataW.trod_int hi2 b2
      have e0 : u0 = .int .i64 z := by simpa using k0
      have e2 : u2 = .int .i64 y := by simpa using k2
      subst e0 e2
      have z1 := reach_slice hz' (j := 1) (t := s) (k := 23) rfl rfl hs be (slice_datum hs (show DataW.trod enc P w base spare held m s (Value.slice A1 n1 c1).cells.toList = some (x1.1, x1.2) from b1))
      obtain ⟨M, r1, r2, r3⟩ := open_slG hs he hb ce cb (show DataW.trod enc P w base spare held m s (Value.slice A1 n1 c1).cells.toList = some x1 from b1)
      exact ⟨z, A1, n1, c1, y, M, rfl, ⟨r2, Nat.le_refl _, r1, (show n1 ≤ 140737488355328 by omega), r3⟩, bounds_i64 w0, bounds_i64 w2⟩
end
end Go.Proofs.YtgajlgnniidgmaaDoor

namespace Go.Proofs.YtgajlgnniidgmaaDoor
set_option linter.unusedVariables false
open Go.ChangeShapes Go.WideShapes Go.ChangeAt Go.RowKit

theorem u32_nat {x : Int} (h : (Lit.int .u32 x).wf = true) : ∃ n : Nat, x = (n : Int) ∧ n < 4294967296 := by
  have := bounds_u32 h
  exact ⟨x.toNat, by omega, by omega⟩
theorem open_u32x4 {H : Type} {enc : TypeId × Value → H} {P : Program} {w : World} {base : Nat} {spare : Nat → Bool} {held : Bool} {r : Reach} {b0 : Nat} {t e : TypeId} {v : Value} {d : DataW H} {ps : List MemPlace}
    (ht : P.underlying t = some (.array 4 e)) (he : P.underlying e = some (.int .u32)) (hce : P.cellsOf e = 1) (hct : P.cellsOf t = 4) (hval : Value.okWide P w r b0 t v) (hd : DataW.Trod enc P w base spare held t v d ps) :
    ∃ x y z u : Nat, x < 4294967296 ∧ y < 4294967296 ∧ z < 4294967296 ∧ u < 4294967296 ∧ v = .agg #[.int .u32 x, .int .u32 y, .int .u32 z, .int .u32 u] := by
  unfold Value.okWide at hval
  rw [ht] at hval
  obtain ⟨cs, rfl, hs, _⟩ := hval
  obtain ⟨fuel, hf⟩ := hd
  obtain ⟨xs, m, rfl, hx, hl, hn, hat⟩ := DataW.trod_array ht hf
  rw [hct] at hs
  obtain ⟨l, hcl⟩ : ∃ l, l = cs.toList := ⟨_, rfl⟩
  have hll : l.length = 4 := by rw [hcl, Array.length_toList, hs]
  match l, hll with
  | [u0, u1, u2, u3], _ =>
    have hcs : cs = #[u0, u1, u2, u3] := by apply Array.ext'; rw [← hcl]
    subst hcs
    rw [hce] at hat
    have h0 := hat 0 (by decide)
    have h1 := hat 1 (by decide)
    have h2 := hat 2 (by decide)
    have h3 := hat 3 (by decide)
    match xs, hn with
    | [x, y, z, u], _ =>
      obtain ⟨n0, k0, _, w0⟩ := DataW.trod_int he h0
      obtain ⟨n1, k1, _, w1⟩ := DataW.trod_int he h1
      obtain ⟨n2, k2, _, w2⟩ := DataW.trod_int he h2
      obtain ⟨n3, k3, _, w3⟩ := DataW.trod_int he h3
      have e0 : u0 = .int .u32 n0 := by simpa [Value.cells] using k0
      have e1 : u1 = .int .u32 n1 := by simpa [Value.cells] using k1
      have e2 : u2 = .int .u32 n2 := by simpa [Value.cells] using k2
      have e3 : u3 = .int .u32 n3 := by simpa [Value.cells] using k3
      obtain ⟨b0, rfl, f0⟩ := u32_nat w0
      obtain ⟨b1, rfl, f1⟩ := u32_nat w1
      obtain ⟨b2, rfl, f2⟩ := u32_nat w2
      obtain ⟨b3, rfl, f3⟩ := u32_nat w3
      exact ⟨b0, b1, b2, b3, f0, f1, f2, f3, by rw [e0, e1, e2, e3]⟩
theorem u16_nat {x : Int} (h : (Lit.int .u16 x).wf = true) : ∃ n : Nat, x = (n : Int) ∧ n < 65536 := by
  have hx : 0 ≤ x ∧ x ≤ 65535 := by simpa [Lit.wf, IntKind.min, IntKind.max, IntKind.signed, IntKind.bits] using h
  exact ⟨x.toNat, by omega, by omega⟩
theorem open_i64x2 {H : Type} {enc : TypeId × Value → H} {P : Program} {w : World} {base : Nat} {spare : Nat → Bool} {held : Bool} {r : Reach} {b0 : Nat} {t e : TypeId} {v : Value} {d : DataW H} {ps : List MemPlace}
    (ht : P.underlying t = some (.array 2 e)) (he : P.underlying e = some (.int .i64)) (hce : P.cellsOf e = 1) (hct : P.cellsOf t = 2) (hval : Value.okWide P w r b0 t v) (hd : DataW.Trod enc P w base spare held t v d ps) :
    ∃ x y : Int, v = .agg #[.int .i64 x, .int .i64 y] := by
  unfold Value.okWide at hval
  rw [ht] at hval
  obtain ⟨cs, rfl, hs, _⟩ := hval
  obtain ⟨fuel, hf⟩ := hd
  obtain ⟨xs, m, rfl, hx, hl, hn, hat⟩ := DataW.trod_array ht hf
  rw [hct] at hs
  obtain ⟨l, hcl⟩ : ∃ l, l = cs.toList := ⟨_, rfl⟩
  have hll : l.length = 2 := by rw [hcl, Array.length_toList, hs]
  match l, hll with
  | [u0, u1], _ =>
    have hcs : cs = #[u0, u1] := by apply Array.ext'; rw [← hcl]
    subst hcs
    rw [hce] at hat
    have h0 := hat 0 (by decide)
    have h1 := hat 1 (by decide)
    match xs, hn with
    | [x, y], _ =>
      obtain ⟨n0, k0, _, w0⟩ := DataW.trod_int he h0
      obtain ⟨n1, k1, _, w1⟩ := DataW.trod_int he h1
      have e0 : u0 = .int .i64 n0 := by simpa [Value.cells] using k0
      have e1 : u1 = .int .i64 n1 := by simpa [Value.cells] using k1
      exact ⟨n0, n1, by rw [e0, e1]⟩
end Go.Proofs.YtgajlgnniidgmaaDoor
