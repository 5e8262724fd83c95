/-
  Arguments, opened: slices of arrays of bytes; a pair of slices of strings.
-/
import Derived.Test.YtlgokfgiemaklaaDoorOpn
namespace Go.Proofs.YtlgokfgiemaklaaDoor
open Go.ChangeShapes Go.WideShapes Go.ChangeAt Go.RowKit

/-- A slice of arrays of N bytes that came in. -/
structure SlA (N : Nat) (w : World) (A : Option Addr) (n c : Nat) (l : List (List UInt8)) : Prop where
  len : n = l.length
  cap : n ≤ c
  max : c ≤ maxLen
  nil : A = none → c = 0
  reach : n ≤ 140737488351232
  rds : Rds w w.heap.size A ((l.flatMap id).map bv)
  size : ∀ x ∈ l, x.length = N
/-- A slice of strings that came in inside an array. -/
structure SlT (w : World) (A : Option Addr) (n c : Nat) (l : List (List UInt8)) : Prop where
  len : n = l.length
  cap : n ≤ c
  max : c ≤ maxLen
  nil : A = none → c = 0
  rds : Rds w w.heap.size A (l.map sv)
  size : ∀ x ∈ l, x.length ≤ maxLen
theorem flat_arr {N : Nat} {xs : List (List UInt8)} (h : ∀ d ∈ xs, d.length = N) : (xs.flatMap id).length = xs.length * N := by
  induction xs with
  | nil => simp
  | cons x xs ih =>
    rw [List.flatMap_cons, List.length_append, ih fun d hd => h d (List.mem_cons_of_mem _ hd), List.length_cons, Nat.succ_mul]
    have : (id x).length = N := h x (List.mem_cons_self ..)
    omega

section
variable {H : Type} {enc : TypeId × Value → H} {P : Program} {w : World} {base : Nat} {spare : Nat → Bool} {held : Bool}
theorem open_slA0 (N : Nat) {t e b : TypeId} {fuel : Nat} {A : Option Addr} {n c : Nat} {x : DataW H × List MemPlace} (ht : P.underlying t = some (.slice e)) (he : P.underlying e = some (.array N b)) (hb : P.underlying b = some (.int .u8)) (hce : P.cellsOf e = N) (hcb : P.cellsOf b = 1)
    (h : DataW.trod enc P w base spare held fuel t (Value.slice A n c).cells.toList = some x) : ∃ l : List (List UInt8), n = l.length ∧ n ≤ c ∧ c ≤ maxLen ∧ (A = none → c = 0) ∧ Rds w w.heap.size A ((l.flatMap id).map bv) ∧ ∀ x ∈ l, x.length = N := by
  rcases Go.Deep.open_slice ht h with ⟨hcs, _⟩ | ⟨ad, len, cap, m, k, D, Pl, hcs, _, hl, hm, hmm, _, hel⟩
  · simp [Value.cells] at hcs
    obtain ⟨rfl, rfl, rfl⟩ := hcs
    exact ⟨[], rfl, Nat.le_refl _, Nat.zero_le _, fun _ => rfl, Rds.empty, by simp⟩
  · simp [Value.cells] at hcs
    obtain ⟨rfl, rfl, rfl⟩ := hcs
    have hlen : n ≤ m := by rw [hmm]; split <;> omega
    -- each element: N bytes
    have each : ∀ i, i < n → ∃ d : List UInt8, d.length = N ∧ ∀ j u, (d.map bv)[j]? = some u → w.cell? (ad.add (i * N + j)) = some u := by
      intro i hi
      obtain ⟨cs', hcell, htrod⟩ := hel i (by omega)
      obtain ⟨ys, m', _, _, hlenN, hys, hat⟩ := DataW.trod_array he htrod
      rw [hce] at hcell hlenN
      obtain ⟨_, hcl, hcat⟩ := World.cells?_some hcell
      have hbyte : ∀ j, j < N → ∃ q : Int, cs'[j]? = some (.int .u8 q) ∧ 0 ≤ q ∧ q ≤ 255 := by
        intro j hj
        have h1 := hat j hj
        rw [hcb] at h1
        have hys' : ys[j]? = some (ys[j]'(by omega)) := List.getElem?_eq_getElem (by omega)
        rw [hys', Nat.mul_one, List.drop_eq_getElem_cons (by omega)] at h1
        have h2 : DataW.trod enc P w base spare held m' b [cs'[j]'(by omega)] = some (ys[j]'(by omega)) := h1
        obtain ⟨q, hq, _, hwf⟩ := DataW.trod_int hb h2
        have hq' : cs'[j]'(by omega) = .int .u8 q := by injection hq
        exact ⟨q, by rw [List.getElem?_eq_getElem (by omega), hq'], bounds_u8 hwf⟩
      refine ⟨cs'.map fun v => match v with | .int _ q => UInt8.ofNat q.toNat | _ => 0, by rw [List.length_map]; exact hlenN, fun j u hu => ?_⟩
      have hj : j < N := by
        rcases Nat.lt_or_ge j N with hj | hj
        · exact hj
        · rw [List.getElem?_eq_none (by simp; omega)] at hu; cases hu
      obtain ⟨q, hq, h0, h1⟩ := hbyte j hj
      rw [← add_twice, hcat j (by omega), hq, ← hu, List.getElem?_map, List.getElem?_map, hq]
      simp only [Option.map_some]
      rw [bv_ofNat (by omega)]
      congr 2
      omega
    have build : ∀ k, k ≤ n → ∃ l : List (List UInt8), l.length = k ∧ (∀ d ∈ l, d.length = N) ∧ ∀ j u, ((l.flatMap id).map bv)[j]? = some u → w.cell? (ad.add j) = some u := by
      intro k
      induction k with
      | zero => intro _; exact ⟨[], rfl, by simp, by simp⟩
      | succ k ih =>
        intro hk
        obtain ⟨l, h1, h2, h3⟩ := ih (by omega)
        obtain ⟨d, g1, g2⟩ := each k (by omega)
        refine ⟨l ++ [d], by simp [h1], ?_, ?_⟩
        · intro y hy
          rcases List.mem_append.1 hy with hy | hy
          · exact h2 y hy
          · rw [List.mem_singleton.1 hy]; exact g1
        · intro j u hu
          have hfl : (l.flatMap id).length = k * N := by rw [flat_arr h2, h1]
          rw [List.flatMap_append, List.map_append, List.flatMap_cons, List.flatMap_nil, List.append_nil] at hu
          by_cases hj : j < k * N
          · rw [List.getElem?_append_left (by rw [List.length_map, hfl]; exact hj)] at hu
            exact h3 j u hu
          · rw [List.getElem?_append_right (by rw [List.length_map, hfl]; omega), List.length_map, hfl] at hu
            have := g2 _ u hu
            rwa [show k * N + (j - k * N) = j from by omega] at this
    obtain ⟨l, h1, h2, h3⟩ := build n (Nat.le_refl _)
    exact ⟨l, h1.symm, hl, hm, (fun h => by cases h), rds_cells (len := n * N) _ (by rw [List.length_map, flat_arr h2, h1]) h3, h2⟩
theorem open_slA (N : Nat) {t e b : TypeId} {fuel : Nat} {A : Option Addr} {n c : Nat} {x : DataW H × List MemPlace} (ht : P.underlying t = some (.slice e)) (he : P.underlying e = some (.array N b)) (hb : P.underlying b = some (.int .u8)) (hce : P.cellsOf e = N) (hcb : P.cellsOf b = 1)
    (h : DataW.trod enc P w base spare held fuel t (Value.slice A n c).cells.toList = some x) (hz : n ≤ 140737488351232) : ∃ l, SlA N w A n c l := by
  obtain ⟨l, h1, h2, h3, h4, h5, h6⟩ := open_slA0 N ht he hb hce hcb h
  exact ⟨l, h1, h2, h3, h4, hz, h5, h6⟩

theorem open_slT {t e : TypeId} {fuel : Nat} {u : Value} {x : DataW H × List MemPlace} (ht : P.underlying t = some (.slice e)) (he : P.underlying e = some .string) (hce : P.cellsOf e = 1)
    (h : DataW.trod enc P w base spare held fuel t [u] = some x) : ∃ A n c l, u = .slice A n c ∧ SlT w A n c l := by
  rcases open_strings ht he hce h with ⟨hcs, _⟩ | ⟨ad, len, cap, ss, hcs, _, hl, hm, hzl, _, hcell, hws⟩
  · have : u = .slice none 0 0 := by simpa using hcs
    exact ⟨none, 0, 0, [], this, rfl, Nat.le_refl _, Nat.zero_le _, fun _ => rfl, Rds.empty, by simp⟩
  · have : u = .slice (some ad) len cap := by simpa using hcs
    have hlen : len ≤ ss.length := by rw [hzl]; split <;> omega
    have hll : ((ss.take len).map fun s => s.data.toList).length = len := by simp; omega
    refine ⟨some ad, len, cap, (ss.take len).map fun s => s.data.toList, this, hll.symm, hl, hm, (fun h => by cases h), rds_cells (len := len) _ (by simp; omega) ?_, fun y hy => ?_⟩
    · intro i u hu
      have hi : i < len := by
        rcases Nat.lt_or_ge i len with hi | hi
        · exact hi
        · rw [List.getElem?_eq_none (by simp; omega)] at hu; cases hu
      rw [hcell i (by omega), ← hu]
      simp [hi, List.getD_eq_getElem?_getD, show i < ss.length from by omega]
      exact sv_of _
    · obtain ⟨s, hs, rfl⟩ := List.mem_map.1 hy
      rw [size_of]
      exact hws s (List.mem_of_mem_take hs)
theorem open_two {r : Reach} {b0 : Nat} {t s e : TypeId} {v : Value} {d : DataW H} {ps : List MemPlace}
    (ht : P.underlying t = some (.array 2 s)) (hs : P.underlying s = some (.slice e)) (he : P.underlying e = some .string) (hcs : P.cellsOf s = 1) (hct : P.cellsOf t = 2) (hce : P.cellsOf e = 1) (hval : Value.okWide P w r b0 t v) (hd : DataW.Trod enc P w base spare held t v d ps) :
    ∃ A1 n1 c1 l1 A2 n2 c2 l2, v = .agg #[.slice A1 n1 c1, .slice A2 n2 c2] ∧ SlT w A1 n1 c1 l1 ∧ SlT w A2 n2 c2 l2 := by
  unfold Value.okWide at hval
  rw [ht] at hval
  obtain ⟨cs, rfl, hsz, _⟩ := hval
  obtain ⟨fuel, hf⟩ := hd
  obtain ⟨xs, m, rfl, hx, hl, hn, hat⟩ := DataW.trod_array ht hf
  rw [hct] at hsz
  obtain ⟨l, hcl⟩ : ∃ l, l = cs.toList := ⟨_, rfl⟩
  have hll : l.length = 2 := by rw [hcl, Array.length_toList, hsz]
  match l, hll with
  | [u, z], _ =>
    have hcs2 : cs = #[u, z] := by apply Array.ext'; rw [← hcl]
    subst hcs2
    rw [hcs] at hat
    have h0 := hat 0 (by decide)
    have h1 := hat 1 (by decide)
    match xs, hn with
    | [x, y], _ =>
      obtain ⟨A1, n1, c1, l1, k1, w1⟩ := open_slT hs he hce h0
      obtain ⟨A2, n2, c2, l2, k2, w2⟩ := open_slT hs he hce h1
      exact ⟨A1, n1, c1, l1, A2, n2, c2, l2, by rw [k1, k2], w1, w2⟩
end
end Go.Proofs.YtlgokfgiemaklaaDoor
